import Derived.Test.YtmkapmbmgpnjaaaDmE
import Derived.Test.YtmkapmbmgpnjaaaDlF
set_option maxRecDepth 100000
set_option linter.unusedSimpArgs false
set_option linter.unusedVariables false
namespace Go.Proofs.Ytmkapmbmgpnjaaa.Se
open Go Go.Ms Go.Pg Go.Rc Go.Bi Go.Se Go.ChangeShapes Go.WideShapes Go.ChangeAt Go.RowKit Go.Deep Go.Shelf Go.Proofs.Ytmkapmbmgpnjaaa.Bi

/-! The sets without a change each, one by one. -/
set_option maxHeartbeats 4000000 in
theorem eachMaker {w : World} {gr n k cap : Nat} {oa : Option Addr} :
    Calls Try.prog 91 #[.slice (some ⟨gr, 0, none⟩) n n, .slice oa k cap] w fun e w' => e = .returned (.func (.func 142) #[] #[.pointer (some ⟨w.heap.size + 1, 0, none⟩), .pointer (some ⟨w.heap.size, 0, none⟩)]) ∧
      Below w.heap.size w w' ∧ w'.heap[w.heap.size]? = some (box1 (.slice (some ⟨gr, 0, none⟩) n n) 95) ∧ w'.heap[w.heap.size + 1]? = some (box1 (.slice oa k cap) 30) := by
  have HA := hide (two w (box1 (.slice (some ⟨gr, 0, none⟩) n n) 95) (box1 (.slice oa k cap) 30))
  have H1 := hide (old_block (new_block w (box1 (.slice (some ⟨gr, 0, none⟩) n n) 95)) (box1 (.slice oa k cap) 30))
  have H2 : Hid (((w.alloc (box1 (.slice (some ⟨gr, 0, none⟩) n n) 95)).alloc (box1 (.slice oa k cap) 30)).heap[w.heap.size + 1]? = some (box1 (.slice oa k cap) 30)) := hide (alloc_at (by simp))
  have hmf : ∀ (fn : Fn) (first cap : Array Value) (w : World), (Instr.makeFunc fn first cap).run Try.prog w = .ok (.func fn first cap) w := fun _ _ _ _ => rfl
  go_enter Try.func91, Try.ntmps91
  go_wp2_with fail
  go_ret
  exact ⟨rfl, HA.out, H1.out, H2.out⟩
def TdL (qs : List (List Nat)) (pre : List (List Nat)) (x : List Nat) (_ : World) : Prop := ∃ h : pre.length < qs.length, x = qs[pre.length]
abbrev encL (xs : List Nat) : Array Value := #[setQ (ofP (among xs))]

set_option maxHeartbeats 8000000 in
theorem withoutT {m g B1 B2 gr : Nat} {A : List Q4} {d : List Nat} {v : Value} {w0 : World} (h1 : w0.heap[B1]? = some (box1 v 30)) (h2 : w0.heap[B2]? = some (box1 (.slice (some ⟨gr, 0, none⟩) A.length A.length) 95)) (hR : w0.heap[gr]? = some (rowQ A))
    (n1 : B1 ≠ m ∧ B1 ≠ g) (n2 : B2 ≠ m ∧ B2 ≠ g) (n3 : gr ≠ m ∧ gr ≠ g) (hL : LaidK w0 m g v d) (hx : ∀ n ∈ d, n < A.length) (hA : ∀ i, i < A.length → (A.getD i zeroQ).Ok) (hl : A.length ≤ 256) :
    Rp.StopsT Try.prog 142 #[.pointer (some ⟨B1, 0, none⟩), .pointer (some ⟨B2, 0, none⟩)] encL (KpS m g w0.heap.size) (TdL (smallerA A d)) (fun ys => ys.length = (smallerA A d).length) (fun _ => True) (smallerA A d).length w0 := by
  intro l J Jx Jp W hW hH hJ hJx hJp hY h0
  have HSL : Hid ((smallerA A d).length = d.length) := hide (by simp [smallerA])
  have stay : ∀ (wr : World), KpS m g w0.heap.size W wr → ∀ (i : Nat) (o : Obj), w0.heap[i]? = some o → i ≠ m → i ≠ g → wr.heap[i]? = some o := fun wr hk i o hi h1 h2 => by
    have hlt := block_lt hi
    refine ((hk.2 i (by have := hW.size; omega) fun q => ?_).trans (hW.block i hlt)).trans hi
    rcases q with q | q | q | q <;> omega
  have HS := hide stay
  have HY := hide hY
  have HJ := hide hJ
  have HX := hide hx
  have HA := hide hA
  have HAL := hide hl
  have H1 := hide h1
  have H2 := hide h2
  have HR := hide hR
  have N1 := hide n1
  have N2 := hide n2
  have N3 := hide n3
  obtain ⟨oa, cap, rfl, hcap, hdl, hcells⟩ := hL
  have HDL := hide hdl
  have HC : Hid (∀ (wr : World), KpS m g w0.heap.size W wr → ∀ i (h : i < d.length), ∃ b o, oa = some ⟨b, o, none⟩ ∧ wr.cell? ⟨b, o + i, none⟩ = some (.int .i64 (d[i] : Int))) := hide fun wr hk i hi => by
    obtain ⟨b, o, e, hb, hc⟩ := hcells i hi
    obtain ⟨ob, q1, q2⟩ := cell_cells hc
    exact ⟨b, o, e, (World.cell?_of_block (a := ⟨b, o + i, none⟩) ((stay wr hk b ob q1 hb.1 hb.2).trans q1.symm)).trans hc⟩
  clear stay hY hJ hJx hJp hx hA hl h1 h2 hR n1 n2 n3 hcap hdl hcells
  refine callsIn_of_wp Try.func142 rfl trivial ?_ rfl
  simp only [Try.ntmps142, List.size_toArray, List.length_cons, List.length_nil, Nat.reduceAdd, Nat.reduceSub, Array.replicate_succ, Array.replicate_zero, List.push_toArray, List.append_toArray, List.nil_append, List.cons_append]
  have c1 := cell_of (HS.out W (KpP.refl _ _) _ _ H1.out N1.out.1 N1.out.2) 0
  gi_wp2
  clear c1
  gi_loopw [8] (fun i wr => ∃ (k : Nat) (pre : List (List Nat)), k ≤ d.length ∧ i = .int .i64 (k : Int) ∧ pre.length = k ∧ J pre wr ∧ KpS m g w0.heap.size W wr) (fun i _ => d.length - (intOf i).toNat)
  case atStart => exact ⟨0, [], Nat.zero_le _, rfl, rfl, h0, KpP.refl _ _⟩
  case round =>
    obtain ⟨k, pre, hk, rfl, hpre, hJp, hKp⟩ := hrel
    have HPRE := hide hpre
    have HJP := hide hJp
    have HKP := hide hKp
    clear hpre hJp hKp
    by_cases hlt : k < d.length
    · have hk64 : (k : Int) < (d.length : Int) := by omega
      have c1 := cell_of (HS.out wr HKP.out _ _ H1.out N1.out.1 N1.out.2) 0
      have c2 := cell_of (HS.out wr HKP.out _ _ H2.out N2.out.1 N2.out.2) 0
      have HRW := hide (HS.out wr HKP.out _ _ HR.out N3.out.1 N3.out.2)
      have HND : Hid (Nats wr (.slice oa d.length cap) d) := hide ⟨oa, cap, rfl, by have := HDL.out; omega, HC.out wr HKP.out⟩
      obtain ⟨b, o, rfl, f⟩ := HC.out wr HKP.out k hlt
      have hw := wrap_k (k := k) (by have := HDL.out; omega)
      have HDK : Hid (d[k] < A.length) := hide (HX.out _ (List.getElem_mem hlt))
      have HNN := hide (notNeedingA (c := d[k]) HRW.out HA.out HND.out HX.out HAL.out HDL.out (by have := HDK.out; have := HAL.out; omega))
      have HTD : Hid (∃ h : pre.length < (smallerA A d).length, stayA A d[k] d = (smallerA A d)[pre.length]) := hide ⟨by rw [HSL.out, HPRE.out]; exact hlt, by simp [smallerA, HPRE.out]⟩
      gi_wp2
      clear c1 c2
      refine ⟨trivial, (callsIn_wide.2 HNN.out).mono ?_⟩
      rintro e w1 ⟨rfl, hB1⟩
      have HJ1 : Hid (J pre w1) := hide (HJ.out pre wr w1 none HJP.out (grown_below hB1) (fun r e => by cases e))
      have HK1 : Hid (KpS m g w0.heap.size wr w1) := hide (KpP.below hB1)
      obtain ⟨fn, tmps, assign, body, hy, hRR⟩ := HY.out pre (stayA A d[k] d) w1 HJ1.out HTD.out.1 HTD.out
      have HRR := hide hRR
      clear hRR hB1 f
      gi_wp2
      refine HRR.out.mono ?_
      rintro e W3 (⟨rfl, hJ3, hk3⟩ | ⟨rfl, hJx3, -⟩ | ⟨ch, rfl, hJp3, -⟩)
      · gi_wp2
        go_roundw
        case rel => exact ⟨k + 1, _, by omega, by go_num, by simp [HPRE.out], hJ3, HKP.out.trans (HK1.out.trans hk3)⟩
        case measure => simp [intOf]; omega
      · gi_wp2
        refine bodyPost_ret (results_none rfl _ _ _) rfl ?_
        exact .inl ⟨⟨_, rfl⟩, .inr ⟨_, trivial, hJx3⟩⟩
      · gi_wp2
        exact ⟨rfl, .inr ⟨_, rfl, hJp3⟩⟩
    · obtain rfl : k = d.length := by omega
      gi_wp2
      go_end0
      exact .inl ⟨⟨_, rfl⟩, .inl ⟨pre, by rw [HSL.out, HPRE.out], HJP.out⟩⟩
end Go.Proofs.Ytmkapmbmgpnjaaa.Se
