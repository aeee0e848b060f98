import Derived.Test.YtgfiociglimoaaaGreatDoorMsJ
set_option maxRecDepth 100000
namespace Go.Proofs.YtgfiociglimoaaaGreatDoor.Ms
open Go Go.Ms Go.Pg Go.ChangeShapes Go.WideShapes Go.ChangeAt Go.RowKit Go.Deep

def ReadsB (w : World) (v : Value) (l : List Int) : Prop := ∃ oa cap, v = .slice oa l.length cap ∧ l.length ≤ 1000000 ∧ (∀ x ∈ l, 0 ≤ x ∧ x < 256) ∧ ∀ i (h : i < l.length), ∃ g, oa = some ⟨g, 0, none⟩ ∧ w.cell? ⟨g, i, none⟩ = some (.int .u8 l[i])
theorem ReadsB.of {w : World} {B : Nat} {te : TypeId} {v : Value} {l : List Int} (h : w.ownsRow B te 1 v l.length (l.map (.int .u8))) (hl : l.length ≤ 1000000) (hb : ∀ x ∈ l, 0 ≤ x ∧ x < 256) : ReadsB w v l := by
  have hh := h
  rcases h.2 with ⟨rfl, h0⟩ | ⟨g, cap, cur, rfl, _, hg, _, _, _, ht⟩
  · have : l = [] := List.eq_nil_of_length_eq_zero h0
    subst this
    exact ⟨none, 0, rfl, by simp, hb, fun i hi => absurd hi (Nat.not_lt_zero i)⟩
  · refine ⟨some ⟨g, 0, none⟩, cap, rfl, hl, hb, fun i hi => ⟨g, rfl, ?_⟩⟩
    have := hh.cells (g := g) rfl i (.int .u8 l[i]) (by simp [hi])
    have e : (⟨g, 0, none⟩ : Addr).add i = ⟨g, i, none⟩ := by rw [Go.WideShapes.add_plain]; simp
    rw [e] at this
    exact this
theorem ReadsB.below {w w' : World} {v : Value} {l : List Int} (h : ReadsB w v l) (hB : Below w.heap.size w w') : ReadsB w' v l := by
  obtain ⟨oa, cap, e, h1, h2, h3⟩ := h
  refine ⟨oa, cap, e, h1, h2, fun i hi => ?_⟩
  obtain ⟨g, e, c⟩ := h3 i hi
  exact ⟨g, e, cell_below hB c⟩

theorem one (w : World) (x : Obj) : Below w.heap.size w (w.alloc x) := (Below.refl _ w).alloc (Nat.le_refl _) x
theorem bytes_len {s : St} (h : (ser s).length ≤ 90000) : (stBytes s).length ≤ 1000000 := by unfold stBytes; rw [encs_len]; omega
theorem stBytes_byte (s : St) : ∀ x ∈ stBytes s, 0 ≤ x ∧ x < 256 := by
  intro x hx
  obtain ⟨n, _, h⟩ := List.mem_flatMap.1 hx
  exact enc_byte n x h
theorem _root_.Go.Ms.StAt.form {w : World} {cells : List Value} {s : St} (h : StAt w cells s) : ∃ ta tc oa oc ua uc, cells = [.slice ta s.threads.length tc, .slice oa s.objects.length oc, .int .i64 s.inputs, .int .i64 s.clocks, .int .i64 s.frames, .int .u8 s.outcome.fin, .int .u8 s.outcome.fault, .int .i64 s.outcome.line, .int .u8 s.outcome.vk, .int .i64 s.outcome.vn, .slice ua s.outcome.out.length uc, .int .i64 s.outcome.steps] := by
  obtain ⟨vt, vo, l', rfl, ht, ho, _, _, _, vu, rfl, hu, _⟩ := h
  obtain ⟨ta, tc, rfl⟩ := ht.slice
  obtain ⟨oa, oc, rfl⟩ := ho.slice
  obtain ⟨ua, uc, rfl⟩ := hu.slice
  exact ⟨ta, tc, oa, oc, ua, uc, rfl⟩
def fnvStep (h x : Int) : Int := IntKind.u64.wrap (bits BinOp.xor IntKind.u64 h x * 1099511628211)
def fnv (l : List Int) : Int := l.foldl fnvStep 14695981039346656037

theorem fnv_take (l : List Int) (k : Nat) (h : k < l.length) : fnv (l.take (k + 1)) = fnvStep (fnv (l.take k)) l[k] := by
  unfold fnv
  rw [List.take_succ_eq_append_getElem h, List.foldl_append]
  rfl

set_option maxHeartbeats 4000000 in
theorem fnvRef {l : List Int} {v : Value} {w : World} (h : ReadsB w v l) : Calls Tryz.prog 20 #[v] w fun e w' => e = .returned (.int .u64 (fnv l)) ∧ w' = w := by
  obtain ⟨oa, cap, rfl, hl, hb, hc⟩ := h
  have HC := hide hc
  have HB := hide hb
  clear hc hb
  go_enter Tryz.func20, Tryz.ntmps20
  go_wp2
  go_loopw [3, 4] (fun u i wr => ∃ k : Nat, k ≤ l.length ∧ i = .int .i64 (k : Int) ∧ u = .int .u64 (fnv (l.take k)) ∧ wr = w) (fun _ i _ => l.length - (intOf i).toNat)
  case atStart => exact ⟨0, by omega, rfl, rfl, rfl⟩
  case round =>
    obtain ⟨k, hk, rfl, rfl, rfl⟩ := hrel
    by_cases hlt : k < l.length
    · have h64 : (k : Int) < (l.length : Int) := by omega
      obtain ⟨g, rfl, c⟩ := HC.out k hlt
      obtain ⟨b0, b1⟩ := HB.out l[k] (List.getElem_mem hlt)
      go_wp2
      exact ⟨⟨k + 1, by omega, by go_num, by rw [fnv_take l k hlt]; rfl, trivial⟩, by simp [intOf]; omega⟩
    · obtain rfl : k = l.length := by omega
      go_wp2
      go_ret
      exact ⟨by rw [List.take_length]; rfl, rfl⟩

set_option maxHeartbeats 4000000 in
theorem codeSum {s : St} {cells : List Value} {w : World} (h : StAt w cells s) (hp : (ser s).length ≤ 90000) : Calls Tryz.prog 9 #[.agg cells.toArray] w fun e w' => e = .returned (.int .u64 (fnv (stBytes s))) ∧ Below w.heap.size w w' := by
  have HP := hide hp
  obtain ⟨ta, tc, oa, oc, ua, uc, rfl⟩ := h.form
  have H := hide h
  have hb := bytes_len hp
  clear h hp
  go_enter Tryz.func9, Tryz.ntmps9
  go_wp2_with (first
    | (go_at_call 7
       (
         (with_reducible refine (codeBytes (H.out.below (one w _)) HP.out).mono ?_)
         rintro e w1 ⟨v, rfl, hv, hb1⟩
         obtain ⟨xa, xc, rfl, hxl, hxb, hxc⟩ := ReadsB.of hv hb (stBytes_byte s)
         have HC := hide hxc
         have HB := hide hxb
         have HB1 := hide ((one w _).trans (hb1.mono (one w _).size))
         clear hv hxc hxb hb1))
    | fail)
  go_loopw [3, 9] (fun u i wr => ∃ k : Nat, k ≤ (stBytes s).length ∧ i = .int .i64 (k : Int) ∧ u = .int .u64 (fnv ((stBytes s).take k)) ∧ wr = w1) (fun _ i _ => (stBytes s).length - (intOf i).toNat)
  case atStart => exact ⟨0, by omega, rfl, rfl, rfl⟩
  case round =>
    obtain ⟨k, hk, rfl, rfl, rfl⟩ := hrel
    by_cases hlt : k < (stBytes s).length
    · have h64 : (k : Int) < ((stBytes s).length : Int) := by omega
      obtain ⟨g, rfl, c⟩ := HC.out k hlt
      obtain ⟨b0, b1⟩ := HB.out (stBytes s)[k] (List.getElem_mem hlt)
      go_wp2
      exact ⟨⟨k + 1, by omega, by go_num, by rw [fnv_take _ k hlt]; rfl, trivial⟩, by simp [intOf]; omega⟩
    · obtain rfl : k = (stBytes s).length := by omega
      go_wp2
      go_ret
      exact ⟨by rw [List.take_length]; rfl, HB1.out⟩
end Go.Proofs.YtgfiociglimoaaaGreatDoor.Ms
