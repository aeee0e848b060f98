import Derived.Test.YtdpgcoicbagflaaBiK
set_option maxRecDepth 100000
set_option linter.unusedSimpArgs false
set_option linter.unusedVariables false
namespace Go.Proofs.Ytdpgcoicbagflaa.Bi
open Go Go.Ms Go.Pg Go.Bi Go.ChangeShapes Go.WideShapes Go.ChangeAt Go.RowKit Go.Deep

def OutB (B : Nat) (w' : World) (n z : Int) (l : List Int) (e : Ending) : Prop :=
  if n < 2 then e = .returned (.tuple #[questV false nilV nilV nilV, .int .i64 1])
  else if 256 < n then e = .returned (.tuple #[questV false nilV nilV nilV, .int .i64 3])
  else ∃ res, Bis (tries z) n.toNat l res ∧ Out B w' l res e

theorem three (w : World) (o0 o1 o2 : Obj) :
    let W := ((w.alloc o0).alloc o1).alloc o2
    W.heap[w.heap.size]? = some o0 ∧ W.heap[w.heap.size + 1]? = some o1 ∧ W.heap[w.heap.size + 1 + 1]? = some o2 ∧ Below w.heap.size w W ∧ W.heap.size = w.heap.size + 3 := by
  refine ⟨?_, ?_, ?_, ?_, ?_⟩
  · exact old_block (old_block (new_block w _) _) _
  · exact old_block (alloc_at (by simp)) _
  · exact alloc_at (by simp)
  · exact (((Below.refl w.heap.size w).alloc (Nat.le_refl _) _).alloc (by simp) _).alloc (by simp; omega) _
  · simp

set_option maxHeartbeats 8000000 in
theorem bisectProg {w : World} {an : Value} {n z : Int} {l : List Int} (h : Vs w w.heap.size an l) (hl : l.length ≤ 4096) :
    Calls Try.prog 7 #[.int .i64 n, .int .i64 z, an] w fun e w' => OutB w.heap.size w' n z l e ∧ Below w.heap.size w w' := by
  have HV := hide h
  have HL := hide hl
  have hmf : ∀ (fn : Fn) (first cap : Array Value) (w : World), (Instr.makeFunc fn first cap).run Try.prog w = .ok (.func fn first cap) w := fun _ _ _ _ => rfl
  obtain ⟨oa, cap, rfl, -, -, -⟩ := h
  clear hl
  obtain ⟨k0, k1, k2, kB, kS⟩ := three w (.cells #[.int .i64 n] 3) (.cells #[.int .i64 z] 3) (boxQ false nilV nilV nilV)
  have K0 := hide k0
  have K1 := hide k1
  have K2 := hide k2
  have KB := hide kB
  have KS := hide kS
  clear k0 k1 k2 kB kS
  by_cases c1 : n < 2
  · have C1 := hide c1
    have t1 : decide (n < 2) = true := decide_eq_true c1
    go_enter Try.func7, Try.ntmps7
    go_wp2_with fail
    refine bodyPost_ret (v := .tuple #[questV false nilV nilV nilV, .int .i64 1]) (by simp [results, Try.results7, go_sem]) rfl ?_
    exact ⟨by rw [OutB, if_pos C1.out], KB.out⟩
  · have C1 := hide c1
    have t1 : decide (n < 2) = false := decide_eq_false c1
    by_cases c2 : 256 < n
    · have C2 := hide c2
      have t2 : decide (256 < n) = true := decide_eq_true c2
      clear c1
      go_enter Try.func7, Try.ntmps7
      go_wp2_with fail
      refine bodyPost_ret (v := .tuple #[questV false nilV nilV nilV, .int .i64 3]) (by simp [results, Try.results7, go_sem]) rfl ?_
      exact ⟨by rw [OutB, if_neg (by have := C1.out; omega : ¬ n < 2), if_pos (by have := C2.out; omega : 256 < n)], KB.out⟩
    · have C2 := hide c2
      have t2 : decide (256 < n) = false := decide_eq_false c2
      have hm : ((n.toNat : Nat) : Int) = n := by omega
      have hm2 : 2 ≤ n.toNat := by omega
      have hm3 : n.toNat ≤ 256 := by omega
      have HM := hide hm
      have HM2 := hide hm2
      have HM3 := hide hm3
      clear c1 c2 hm hm2 hm3
      go_enter Try.func7, Try.ntmps7
      go_wp2_with fail
      generalize ((w.alloc (.cells #[.int .i64 n] 3)).alloc (.cells #[.int .i64 z] 3)).alloc (boxQ false nilV nilV nilV) = W at *
      have hvW := vs_self HV.out KB.out
      have hnW : W.cell? ⟨w.heap.size, 0, none⟩ = some (.int .i64 ((n.toNat : Nat) : Int)) := by rw [HM.out]; exact cell_of K0.out 0
      have hzW : W.cell? ⟨w.heap.size + 1, 0, none⟩ = some (.int .i64 z) := cell_of K1.out 0
      (with_reducible refine (searchProg hvW HL.out hnW hzW HM2.out HM3.out).mono ?_)
      rintro e w1 ⟨res, hbis, ho, hB⟩
      have HBIS := hide hbis
      obtain ⟨d, oa1, na, ca, ok, nk, ck, x, rfl, hkeep⟩ := out_form ho
      have HKP := hide hkeep
      have HB1 := hide (KB.out.trans (hB.mono (by rw [KS.out]; omega)))
      have HR := hide ((hB.block _ (block_lt K2.out)).trans K2.out)
      have hws : w.heap.size ≤ W.heap.size := by rw [KS.out]; omega
      clear hbis ho hkeep hB hvW hnW hzW
      obtain ⟨q0, q1, q2, q3⟩ := q_cells HR.out
      have s0 := frozen_of HR.out 0
      have s1 := frozen_of HR.out 1
      have s2 := frozen_of HR.out 2
      have s3 := frozen_of HR.out 3
      go_wp2_with fail
      refine final8 (X := putQ w1 (w.heap.size + 1 + 1) d (.slice oa1 na ca) (.slice ok nk ck) nilV) rfl ?_
      have HP := hide (putQ_block (e := d) (b := .slice oa1 na ca) (l := .slice ok nk ck) (q := nilV) HR.out)
      have HQ := hide (putQ_below (d := d) (a := .slice oa1 na ca) (l := .slice ok nk ck) (p := nilV) HB1.out (B := w.heap.size + 1 + 1) (by omega))
      have HO := hide (out_low hws (HKP.out (putQ w1 (w.heap.size + 1 + 1) d (.slice oa1 na ca) (.slice ok nk ck) nilV) fun b cs hh => putQ_other (fun e => by subst e; rw [HR.out] at hh; injection hh with hh; injection hh with _ ht; cases ht)))
      clear HKP
      generalize putQ w1 (w.heap.size + 1 + 1) d (.slice oa1 na ca) (.slice ok nk ck) nilV = X at *
      obtain ⟨x0, x1, x2, x3⟩ := q_cells HP.out
      refine bodyPost_ret (v := .tuple #[questV d (.slice oa1 na ca) (.slice ok nk ck) nilV, .int .i64 x]) (by simp [results, Try.results7, go_sem, x0, x1, x2, x3]) rfl ?_
      refine ⟨?_, HQ.out⟩
      rw [OutB, if_neg (by have := C1.out; omega : ¬ n < 2), if_neg (by have := C2.out; omega : ¬ 256 < n)]
      exact ⟨res, HBIS.out, HO.out⟩
end Go.Proofs.Ytdpgcoicbagflaa.Bi
