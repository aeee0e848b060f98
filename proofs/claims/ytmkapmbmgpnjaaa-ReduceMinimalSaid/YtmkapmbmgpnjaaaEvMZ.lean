import Derived.Test.YtmkapmbmgpnjaaaEvM
namespace Go.Ev
open Go.RowKit

section
variable {P : Program} {N : Nat} {w0 : Base} {ρ : Ren} {H : AHeap} {w : World}

theorem wrap64 {n : Nat} (h : n ≤ 4611686018427387904) : IntKind.i64.wrap (n : Int) = (n : Int) := by
  unfold IntKind.wrap
  have h64 : (2 : Int) ^ 64 = 18446744073709551616 := by decide
  have g64 : (2 : Int) ^ (64 - 1) = 9223372036854775808 := by decide
  simp only [IntKind.bits, IntKind.signed, Bool.true_and, h64, g64, decide_eq_true_eq]
  rw [if_neg (by omega)]
  omega

def aappendZ (P : Program) (H : AHeap) (ts : Array TypeId) (s x : Value) : Option (Value × AHeap) :=
  match ts[0]?, ts[1]? with
  | some st, some xt => match P.underlying st, P.underlying xt with
    | some (.slice e), some (.int _) => match P.info? e with
      | some i => match s, x, i.zero with
        | .slice none 0 cap, .int _ (.ofNat n), some z =>
          if n ≤ cap ∨ i.size = 0 ∨ 140737488355328 < n * i.bytes ∨ 4611686018427387904 < n ∨ z.cells.size ≠ i.size ∨ z.cells.toList.all (plainV 20) = false then none
          else some (.slice (some ⟨H.next, 0, none⟩) n n, H.growNew (Builtin.zeroCells z.cells n) e i.size)
        | _, _, _ => none
      | none => none
    | _, _ => none
  | _, _ => none

set_option maxHeartbeats 2000000 in
theorem run_app_growZ {ts : Array TypeId} (ty : TypeId) {st e xt : TypeId} {i : TypeInfo} {z : Value} {k k2 : IntKind} (h0 : ts[0]? = some st) (hx0 : ts[1]? = some xt) (hu : P.underlying st = some (.slice e)) (hux : P.underlying xt = some (.int k)) (hi : P.info? e = some i) (hz : i.zero = some z)
    {cap n : Nat} (hg : cap < n) (hs : i.size ≠ 0) (h62 : n ≤ 4611686018427387904) (hb : n * i.bytes ≤ 281474976710656) (hfit : Builtin.nextslicecap n cap * i.bytes ≤ 281474976710656) :
    (Builtin.append_ ts ty #[.slice none 0 cap, .int k2 (Int.ofNat n)]).run P w = .ok (.slice (some ⟨w.heap.size, 0, none⟩) n (grownCap w n cap e))
      (w.drew.alloc (.cells (Builtin.zeroCells z.cells n ++ Builtin.zeroCells z.cells (grownCap w n cap e - n)) e)) := by
  have h1 : ¬ (n ≤ cap) := by omega
  have h2 : n * i.size ≠ 0 := by
    have := Nat.mul_pos (show 0 < n by omega) (Nat.pos_of_ne_zero hs)
    omega
  have h63' : ¬ (9223372036854775807 < (n : Int)) := by omega
  have h48' : ¬ (281474976710656 < Builtin.nextslicecap n cap * i.bytes) := by omega
  have hb' : ¬ ((281474976710656 : Int) < (n : Int) * (i.bytes : Int)) := by
    have : ((n * i.bytes : Nat) : Int) = (n : Int) * (i.bytes : Int) := by simp
    omega
  have hw : IntKind.i64.wrap (n : Int) = (n : Int) := wrap64 h62
  simp [Builtin.append_, h0, hx0, run_underlying hu, run_underlying hux, Go.sizeOf, Go.typeInfo, Go.zeroValue, asInt, asIntOf, hw, hi, hz, h1, h2, h63', h48', hb', Question.forced, Builtin.firstCells, Go.newRow, grownCap]
  intro q
  omega

theorem AsR.plain {c : Array Value} (h : ∀ v ∈ c.toList, plainV 20 v = true) : AsR ρ c c := by
  refine ⟨rfl, fun i a b ha hb => ?_⟩
  rw [ha] at hb
  cases hb
  exact plainV.sound ρ 20 a (h a (Array.mem_toList_iff.2 (Array.mem_of_getElem? ha)))

theorem zeroCells_plain {z : Array Value} (h : z.toList.all (plainV 20) = true) (n : Nat) : ∀ v ∈ (Builtin.zeroCells z n).toList, plainV 20 v = true := by
  intro v hv
  rw [Array.mem_toList_iff] at hv
  unfold Builtin.zeroCells at hv
  obtain ⟨j, hj, rfl⟩ := Array.mem_map.1 hv
  have hpos : 0 < z.size := by
    rcases Nat.eq_zero_or_pos z.size with q | q
    · rw [q] at hj; simp at hj
    · exact q
  rw [List.all_eq_true] at h
  have hlt : j % z.size < z.size := Nat.mod_lt _ hpos
  refine h _ (Array.mem_toList_iff.2 ?_)
  rw [getElem!_pos z _ hlt]
  exact Array.getElem_mem hlt

theorem aappendZ_spec (h : HR N w0 ρ H w) {ts : Array TypeId} (ty : TypeId) {s s' x x' : Value} (hs : VR ρ s s') (hx : VR ρ x x') {v : Value} {H' : AHeap} (hr : aappendZ P H ts s x = some (v, H')) :
    ∃ σ v' w', ρ.le σ ∧ (Builtin.append_ ts ty #[s', x']).run P w = .ok v' w' ∧ VR σ v v' ∧ HR N w0 σ H' w' := by
  unfold aappendZ at hr
  split at hr
  case h_2 => cases hr
  rename_i st xt h0 hx0
  split at hr
  case h_2 => cases hr
  rename_i e k hu hux
  split at hr
  case h_2 => cases hr
  rename_i i hi
  split at hr
  case h_2 => cases hr
  rename_i cap k2 n z hz
  split at hr
  case isTrue => cases hr
  rename_i hcond
  simp only [not_or, ne_eq, Decidable.not_not, Nat.not_le, Nat.not_lt, Bool.not_eq_false] at hcond
  obtain ⟨hg, hsz, hby, h62, hzs, hpl⟩ := hcond
  simp only [Option.some.injEq, Prod.mk.injEq] at hr
  obtain ⟨rfl, rfl⟩ := hr
  have hpos : 0 < i.size := Nat.pos_of_ne_zero hsz
  cases hs
  cases hx
  have hrun := run_app_growZ (w := w) (P := P) ty (k2 := k2) h0 hx0 hu hux hi hz hg hsz h62 (by omega) (growslice_fits hg (by omega))
  obtain ⟨σ, h1, h2, h3⟩ := grown_spec (e := e) (need := n) (newCap := grownCap w n cap e) h (AsR.plain (ρ := ρ) (zeroCells_plain hpl n)) hpos (grownCap_ge w n cap e) (zs := Builtin.zeroCells z.cells (grownCap w n cap e - n)) (by
    have hge : n ≤ grownCap w n cap e := grownCap_ge w n cap e
    rw [Array.size_append, size_zeroCells', size_zeroCells', hzs, ← Nat.add_mul]
    congr 1
    omega) (w.drawn + 1)
  exact ⟨σ, _, _, h1, hrun, h3, h2⟩

end
end Go.Ev
