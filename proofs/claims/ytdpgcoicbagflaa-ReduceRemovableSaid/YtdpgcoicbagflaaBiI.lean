import Derived.Test.YtdpgcoicbagflaaBiH
set_option maxRecDepth 100000
set_option linter.unusedSimpArgs false
set_option linter.unusedVariables false
namespace Go.Proofs.Ytdpgcoicbagflaa.Bi
open Go Go.Ms Go.Pg Go.Bi Go.ChangeShapes Go.WideShapes Go.ChangeAt Go.RowKit Go.Deep

theorem assertNo (w : World) : (Instr.typeAssert .nilIface 20 113 true).run Try.prog w = .ok (.tuple #[.agg #[.int .u64 0, .int .u64 0, .int .u64 0, .int .u64 0], .bool false]) w := by
  simp [Instr.typeAssert, run_underlying Try.underlying113, go_sem, Result.andThen]
theorem assertIs (v : Value) (w : World) : (Instr.typeAssert (.iface 113 v) 20 113 true).run Try.prog w = .ok (.tuple #[v, .bool true]) w := by
  simp [Instr.typeAssert, run_underlying Try.underlying113, go_sem, Result.andThen]

section
variable {P : Program} {ops : Array Oper} {Q : Exit → Act → List Frame → World → Prop} {i : Nat} {rest : List Nat} {o : Oper} {a : Act} {cs : List Frame} {w w' : World} {v : Value}
theorem stepS_value (ho : ops[i]? = some o) (hw : Region.wanted o (yielded ops a.tmps) = true) (hr : (execOp a.eval o).run P w = .ok (.value v) w') (k : wpOpsS P ops Q rest (a.put o.dst v) cs w') : wpOpsS P ops Q (i :: rest) a cs w := by
  simp only [wpOpsS, ho, hw, hr, if_true]
  exact k
theorem stepS_skip (ho : ops[i]? = some o) (hw : Region.wanted o (yielded ops a.tmps) = true) (hr : (execOp a.eval o).run P w = .ok .skip w') (k : wpOpsS P ops Q rest (a.put o.dst undef) cs w') : wpOpsS P ops Q (i :: rest) a cs w := by
  simp only [wpOpsS, ho, hw, hr, if_true]
  exact k
theorem stepS_none (ho : ops[i]? = some o) (hw : Region.wanted o (yielded ops a.tmps) = true) (hr : (execOp a.eval o).run P w = .ok .recover w') (hn : recoverD cs = none) (k : wpOpsS P ops Q rest (a.put o.dst .nilIface) cs w') : wpOpsS P ops Q (i :: rest) a cs w := by
  simp only [wpOpsS, ho, hw, hr, if_true, hn]
  exact k
theorem stepS_some {cs' : List Frame} (ho : ops[i]? = some o) (hw : Region.wanted o (yielded ops a.tmps) = true) (hr : (execOp a.eval o).run P w = .ok .recover w') (hn : recoverD cs = some (v, cs')) (k : wpOpsS P ops Q rest (a.put o.dst v) cs' w') : wpOpsS P ops Q (i :: rest) a cs w := by
  simp only [wpOpsS, ho, hw, hr, if_true, hn]
  exact k
end
theorem cell_lt {w : World} {b o : Nat} {v : Value} (hc : w.cell? ⟨b, o, none⟩ = some v) : b < w.heap.size := by
  by_cases q : b < w.heap.size
  · exact q
  · simp [World.cell?, Array.getElem?_eq_none (Nat.le_of_not_lt q)] at hc
set_option maxHeartbeats 400000 in
theorem catchIdle {w : World} {pa pq pe : Nat} :
    CallsD Try.prog 69 #[.pointer (some ⟨pa, 0, none⟩), .pointer (some ⟨pq, 0, none⟩), .pointer (some ⟨pe, 0, none⟩)] .returning w fun e u' w' => e = .returned (.tuple #[]) ∧ u' = .returning ∧ Below w.heap.size w w' := by
  refine callsD_of_wpS Try.func69 rfl fun c₀ cs hu => ?_
  apply wpS_seq
  apply wpS_region
  generalize hQ : (Exit.thenS _ _ : Exit → Act → List Frame → World → Prop) = Q
  simp [wpOpsS, go_sem, recoverD, hu, Try.ntmps69, assertNo]
  rw [← hQ]
  clear hQ
  show Code.wpS _ _ _ _ _ _
  apply wpS_seq
  apply wpS_region
  generalize hQ : (Exit.thenS _ _ : Exit → Act → List Frame → World → Prop) = Q
  simp [wpOpsS, go_sem, Array.replicate]
  rw [← hQ]
  clear hQ
  show Code.wpS _ _ _ _ _ _
  refine wpS_cond (t := false) (by simp [Act.eval, Array.replicate]) ?_
  simp only [Bool.false_eq_true, if_false]
  refine wpS_of_wp (wp_skip ?_)
  cases c₀
  simp_all [bodyPostS, results, Try.results69, go_sem]
  exact (Below.refl w.heap.size w).alloc (Nat.le_refl _) _

set_option maxHeartbeats 4000000 in
theorem catchAsk {w : World} {pa pq pe a b c d : Nat} {p : Nat → Bool} {older : List PanicEntry} {e0 : Value} (hs : Sp p a b c d)
    (ha : w.cell? ⟨pa, 0, none⟩ = some (.func (.func 54) #[] #[])) (hq : w.heap[pq]? = some (boxQ false nilV nilV nilV)) (he : w.heap[pe]? = some (.cells #[e0] 27 (0, 0))) (hpp : pq ≤ pe) :
    CallsD Try.prog 69 #[.pointer (some ⟨pa, 0, none⟩), .pointer (some ⟨pq, 0, none⟩), .pointer (some ⟨pe, 0, none⟩)] (.panicking ({ v := .iface 113 (setV a b c d), recovered := false } :: older)) w fun e u' w' =>
      e = .returned (.tuple #[]) ∧ u' = .panicking ({ v := .iface 113 (setV a b c d), recovered := true } :: older) ∧ Below pq w w' ∧
      ∃ v', w'.heap[pq]? = some (boxQ false v' nilV nilV) ∧ w'.heap[pe]? = some (.cells #[.int .i64 0] 27 (0, 0)) ∧ Go.Il.Own 3 .i64 w.heap.size w' v' (upTo p 256) := by
  refine callsD_of_wpS Try.func69 rfl fun c₀ cs hu => ?_
  apply wpS_seq
  apply wpS_region
  generalize hQ : (Exit.thenS _ _ : Exit → Act → List Frame → World → Prop) = Q
  simp [wpOpsS, go_sem, recoverD, hu, Try.ntmps69, assertIs]
  rw [← hQ]
  clear hQ
  show Code.wpS _ _ _ _ _ _
  apply wpS_seq
  apply wpS_region
  generalize hQ : (Exit.thenS _ _ : Exit → Act → List Frame → World → Prop) = Q
  simp [wpOpsS, go_sem, Array.replicate]
  rw [← hQ]
  clear hQ
  show Code.wpS _ _ _ _ _ _
  refine wpS_cond (t := true) (by simp [Act.eval, Array.replicate]) ?_
  simp only [if_true]
  refine wpS_of_wp ?_
  clear Q
  have hpa := cell_lt ha
  have hpq := block_lt hq
  have hpe := block_lt he
  have HS := hide hs
  have HQ0 := hide hq
  have HE0 := hide he
  have HU := hide hu
  clear hs hq he hu
  go_wp2_with fail
  (with_reducible refine (askProg HS.out).mono ?_)
  rintro e w1 ⟨v', rfl, hB1, hO⟩
  have HB := hide (((Below.refl w.heap.size w).alloc (Nat.le_refl _) (.cells #[.int .u64 (a : Int), .int .u64 (b : Int), .int .u64 (c : Int), .int .u64 (d : Int)] 113)).trans (hB1.mono (by simp)))
  have HO := hide (own_mono (B' := w.heap.size) (by simp) hO)
  clear hB1 hO
  have HQ1 := hide ((HB.out.block _ hpq).trans HQ0.out)
  have HE1 := hide ((HB.out.block _ hpe).trans HE0.out)
  clear ha
  obtain ⟨q0, q1, q2, q3⟩ := q_cells HQ1.out
  have s0 := frozen_of HQ1.out 0
  have s1 := frozen_of HQ1.out 1
  have s2 := frozen_of HQ1.out 2
  have s3 := frozen_of HQ1.out 3
  have z0 : w1.cell? ⟨pe, 0, none⟩ = some e0 := cell_of HE1.out 0
  have z1 := frozen_of HE1.out 0
  have hne : ¬ pe = pq := by
    rintro rfl
    have := HE0.out.symm.trans HQ0.out
    injection this with this
    injection this with _ ht
    cases ht
  have hne' : ¬ pq = pe := fun e => hne e.symm
  obtain ⟨oa, cap, hv⟩ := Go.Il.Own.form HO.out
  obtain ⟨L, hL⟩ : ∃ L, L = (upTo p 256).length := ⟨_, rfl⟩
  rw [← hL] at hv
  subst hv
  clear hL
  go_wp2_with fail
  have HX := hide (putQ_block (e := false) (b := .slice oa L cap) (l := nilV) (q := nilV) HQ1.out)
  have HP := hide (((putQ_other (d := false) (a := .slice oa L cap) (l := nilV) (p := nilV) hne).trans HE1.out))
  have HOX := hide (own_putQ (d := false) (a := .slice oa L cap) (k := nilV) (p := nilV) HO.out HQ1.out)
  have HBX := hide (putQ_below (d := false) (a := .slice oa L cap) (l := nilV) (p := nilV) (HB.out.mono (Nat.le_of_lt hpq)) (Nat.le_refl pq))
  refine ⟨rfl, _, rfl, .tuple #[], by simp [results, Try.results69, go_sem], rfl, rfl, ?_, .slice oa L cap, ?_, ?_, ?_⟩
  · exact HBX.out.setCell (p := ⟨pe, 0, none⟩) hpp _
  · exact (Below.heap_setCell _ ⟨pe, 0, none⟩ _ pq hne').trans HX.out
  · exact (heap_setCell_same _ pe 0 _ 27 (.int .i64 0) HP.out).trans (by simp)
  · exact own_same HOX.out fun g cs _ hh => Below.heap_setCell _ ⟨pe, 0, none⟩ _ g (fun e => by subst e; rw [HP.out] at hh; injection hh with hh; injection hh with _ ht; cases ht)
end Go.Proofs.Ytdpgcoicbagflaa.Bi
