import Derived.Test.YtinllamocplgjaaNoK
set_option maxRecDepth 100000
namespace Go.Proofs.Ytinllamocplgjaa.No
open Go Go.Ms Go.Pg Go.Rc Go.No Go.ChangeShapes Go.WideShapes Go.ChangeAt Go.RowKit Go.Deep Go.Shelf Go.Proofs.Ytinllamocplgjaa.Rc

def stepsV (l : List Pick) : Array Value := #[.int .i64 (No.steps l 0), .int .i64 (No.steps l 1), .int .i64 (No.steps l 2), .int .i64 (No.steps l 3), .int .i64 (No.steps l 4), .int .i64 (No.steps l 5), .int .i64 (No.steps l 6), .int .i64 (No.steps l 7)]
theorem steps_bound : ∀ {l : List Pick} {t : Int}, (∀ p ∈ l, 1 ≤ p.2) → 0 ≤ No.steps l t ∧ No.steps l t ≤ No.sum l
  | [], t, _ => by simp [No.steps, No.sum]
  | p :: l, t, h => by
    have := steps_bound (l := l) (t := t) fun q hq => h q (List.mem_cons_of_mem _ hq)
    have h1 := h p (List.mem_cons_self ..)
    have e1 : No.steps (p :: l) t = No.steps [p] t + No.steps l t := steps_append [p] l t
    have e2 : No.sum (p :: l) = p.2 + No.sum l := by simp [No.sum]
    rw [e1, e2, steps_one]
    split <;> omega
theorem steps_snoc (l : List Pick) (p : Pick) (t : Int) : No.steps (l ++ [p]) t = No.steps l t + if p.1 = t then p.2 else 0 := by rw [steps_append, steps_one]

theorem new_block1 (w : World) (o o' : Obj) : ((w.alloc o).alloc o').heap[w.heap.size + 1]? = some o' := by
  have h := new_block (w.alloc o) o'
  have e : (w.alloc o).heap.size = w.heap.size + 1 := by simp
  rw [e] at h
  exact h
theorem set_steps (l : List Pick) (p : Pick) (i : Nat) (hi : i < 8) (h : p.1 = (i : Int)) : (stepsV l).setIfInBounds i (.int .i64 (No.steps l i + p.2)) = stepsV (l ++ [p]) := by
  have hc : i = 0 ∨ i = 1 ∨ i = 2 ∨ i = 3 ∨ i = 4 ∨ i = 5 ∨ i = 6 ∨ i = 7 := by omega
  rcases hc with rfl | rfl | rfl | rfl | rfl | rfl | rfl | rfl <;> simp [stepsV, steps_snoc, h]
theorem step_steps {w : World} {B : Nat} {l : List Pick} {p : Pick} {cs : Array Value} (h : w.heap[B + 1]? = some (.cells (stepsV l) 33 (0, 0))) (h0 : w.heap[B]? = some (.cells cs 33 (0, 0))) (i : Nat) (hi : i < 8) (_ : True) (e : p.1 = (i : Int)) :
    (w.setCell ⟨B + 1, i, none⟩ (.int .i64 (No.steps l i + p.2))).drew.heap[B]? = some (.cells cs 33 (0, 0)) ∧ (w.setCell ⟨B + 1, i, none⟩ (.int .i64 (No.steps l i + p.2))).drew.heap[B + 1]? = some (.cells (stepsV (l ++ [p])) 33 (0, 0)) := by
  refine ⟨(Below.heap_setCell w _ _ B (by simp)).trans h0, ?_⟩
  refine (heap_setCell_same w (B + 1) i _ 33 _ h).trans ?_
  rw [set_steps l p i hi e]

theorem final8 {P : Exit → Act → World → Prop} {x : Exit} {a : Act} {w X : World} (e : w = X) (h : P x a X) : P x a w := by subst e; exact h
def put8 (w : World) (B : Nat) (l : List Pick) : World := ((((((((w.setCell ⟨B, 0, none⟩ (.int .i64 (No.steps l 0))).setCell ⟨B, 1, none⟩ (.int .i64 (No.steps l 1))).setCell ⟨B, 2, none⟩ (.int .i64 (No.steps l 2))).setCell ⟨B, 3, none⟩ (.int .i64 (No.steps l 3))).setCell ⟨B, 4, none⟩ (.int .i64 (No.steps l 4))).setCell ⟨B, 5, none⟩ (.int .i64 (No.steps l 5))).setCell ⟨B, 6, none⟩ (.int .i64 (No.steps l 6))).setCell ⟨B, 7, none⟩ (.int .i64 (No.steps l 7)))
theorem put8_block {w : World} {B : Nat} {l : List Pick} (h : w.heap[B]? = some (.cells #[.int .i64 0, .int .i64 0, .int .i64 0, .int .i64 0, .int .i64 0, .int .i64 0, .int .i64 0, .int .i64 0] 33 (0, 0))) : (put8 w B l).heap[B]? = some (.cells (stepsV l) 33 (0, 0)) := by
  have h0 := heap_setCell_same _ B 0 _ 33 (.int .i64 (No.steps l 0)) h
  have h1 := heap_setCell_same _ B 1 _ 33 (.int .i64 (No.steps l 1)) h0
  have h2 := heap_setCell_same _ B 2 _ 33 (.int .i64 (No.steps l 2)) h1
  have h3 := heap_setCell_same _ B 3 _ 33 (.int .i64 (No.steps l 3)) h2
  have h4 := heap_setCell_same _ B 4 _ 33 (.int .i64 (No.steps l 4)) h3
  have h5 := heap_setCell_same _ B 5 _ 33 (.int .i64 (No.steps l 5)) h4
  have h6 := heap_setCell_same _ B 6 _ 33 (.int .i64 (No.steps l 6)) h5
  have h7 := heap_setCell_same _ B 7 _ 33 (.int .i64 (No.steps l 7)) h6
  refine h7.trans ?_
  simp [stepsV]
theorem put8_below {w0 w : World} {B : Nat} {l : List Pick} (h : Below B w0 w) : Below B w0 (put8 w B l) :=
  ((((((((h.setCell (p := ⟨B, 0, none⟩) (Nat.le_refl _) _).setCell (p := ⟨B, 1, none⟩) (Nat.le_refl _) _).setCell (p := ⟨B, 2, none⟩) (Nat.le_refl _) _).setCell (p := ⟨B, 3, none⟩) (Nat.le_refl _) _).setCell (p := ⟨B, 4, none⟩) (Nat.le_refl _) _).setCell (p := ⟨B, 5, none⟩) (Nat.le_refl _) _).setCell (p := ⟨B, 6, none⟩) (Nat.le_refl _) _).setCell (p := ⟨B, 7, none⟩) (Nat.le_refl _) _)

set_option maxHeartbeats 8000000 in
theorem stepsProg {w : World} {v : Value} {l : List Pick} (h : Picks w v l) (hl : l.length ≤ 100000) (h0 : err 65536 l = 0) :
    Calls Try.prog 14 #[v] w fun e w' => e = .returned (.agg (stepsV l)) ∧ Below w.heap.size w w' := by
  have HW := hide h
  have HZ := hide h0
  obtain ⟨oa, ca, rfl, hla, hc⟩ := h
  have HC := hide hc
  clear hc h0
  go_enter Try.func14, Try.ntmps14
  go_wp2_with fail
  go_loopw [4] (fun i wr => ∃ k : Nat, k ≤ l.length ∧ i = .int .i64 (k : Int) ∧ Below w.heap.size w wr ∧ wr.heap[w.heap.size]? = some (.cells #[.int .i64 0, .int .i64 0, .int .i64 0, .int .i64 0, .int .i64 0, .int .i64 0, .int .i64 0, .int .i64 0] 33 (0, 0)) ∧ wr.heap[w.heap.size + 1]? = some (.cells (stepsV (l.take k)) 33 (0, 0))) (fun i _ => l.length - (intOf i).toNat)
  case atStart => exact ⟨0, Nat.zero_le _, rfl, ((Below.refl _ w).alloc (Nat.le_refl _) _).alloc (by simp) _, old_block (new_block _ _) _, by rw [List.take_zero]; exact new_block1 _ _ _⟩
  case round =>
    obtain ⟨k, hk, rfl, hB, hb0, hb⟩ := hrel
    have HB := hide hB
    have HB0 := hide hb0
    have HB1 := hide hb
    clear hB hb0 hb
    by_cases hlt : k < l.length
    · have hi1 : (k : Int) < (l.length : Int) := by omega
      obtain ⟨b1, o1, rfl, f0, f0'⟩ := pick_cell HC.out hlt
      have f1 := cell_below HB.out f0
      have f2 := cell_below HB.out f0'
      clear f0 f0'
      have HP := hide (err_elem HZ.out l[k] (List.getElem_mem hlt))
      have HE := hide (err_take_zero (k + 1) HZ.out)
      have HS := hide (sum_bound _ _ (by omega) HE.out)
      have HQ : Hid (No.sum (l.take (k + 1)) = No.sum (l.take k) + l[k].2) := hide (by rw [take_snoc hlt, sum_snoc])
      have HT : Hid (l.take (k + 1) = l.take k ++ [l[k]]) := hide (take_snoc hlt)
      have HU : Hid (∀ t, 0 ≤ No.steps (l.take k) t ∧ No.steps (l.take k) t ≤ No.sum (l.take k)) := hide fun t => steps_bound (err_pos (err_take_zero k HZ.out))
      have hw : Hid (∀ t, IntKind.i64.wrap (No.steps (l.take k) t + l[k].2) = No.steps (l.take k) t + l[k].2) := hide fun t => by
        have a1 := HU.out t
        have a2 := HS.out
        have a3 := HP.out
        have a4 := HQ.out
        simp only [Bad] at a3
        exact wrap_in (by omega) (by omega)
      have hr : l[k].1 = 0 ∨ l[k].1 = 1 ∨ l[k].1 = 2 ∨ l[k].1 = 3 ∨ l[k].1 = 4 ∨ l[k].1 = 5 ∨ l[k].1 = 6 ∨ l[k].1 = 7 := by
        have a3 := HP.out
        simp only [Bad] at a3
        omega
      rcases hr with e | e | e | e | e | e | e | e
      · rw [e] at f1
        have q1 : wr.cell? ⟨w.heap.size + 1, 0, none⟩ = some (.int .i64 (No.steps (l.take k) 0)) := cell_of HB1.out 0
        have q2 : wr.frozen? ⟨w.heap.size + 1, 0, none⟩ = false := frozen_of HB1.out 0
        have q3 := hw.out 0
        have HX := hide (step_steps HB1.out HB0.out 0 (by omega) trivial e)
        clear e
        go_wp2_with fail
        go_region
        all_goals
          go_wp2
          refine ⟨⟨k + 1, by omega, by go_num, Below.drew (HB.out.setCell (p := ⟨w.heap.size + 1, 0, none⟩) (by simp) _), HX.out.1, ?_⟩, by simp [intOf]; omega⟩
          rw [HT.out]
          exact HX.out.2
      · rw [e] at f1
        have q1 : wr.cell? ⟨w.heap.size + 1, 1, none⟩ = some (.int .i64 (No.steps (l.take k) 1)) := cell_of HB1.out 1
        have q2 : wr.frozen? ⟨w.heap.size + 1, 1, none⟩ = false := frozen_of HB1.out 1
        have q3 := hw.out 1
        have HX := hide (step_steps HB1.out HB0.out 1 (by omega) trivial e)
        clear e
        go_wp2_with fail
        go_region
        all_goals
          go_wp2
          refine ⟨⟨k + 1, by omega, by go_num, Below.drew (HB.out.setCell (p := ⟨w.heap.size + 1, 1, none⟩) (by simp) _), HX.out.1, ?_⟩, by simp [intOf]; omega⟩
          rw [HT.out]
          exact HX.out.2
      · rw [e] at f1
        have q1 : wr.cell? ⟨w.heap.size + 1, 2, none⟩ = some (.int .i64 (No.steps (l.take k) 2)) := cell_of HB1.out 2
        have q2 : wr.frozen? ⟨w.heap.size + 1, 2, none⟩ = false := frozen_of HB1.out 2
        have q3 := hw.out 2
        have HX := hide (step_steps HB1.out HB0.out 2 (by omega) trivial e)
        clear e
        go_wp2_with fail
        go_region
        all_goals
          go_wp2
          refine ⟨⟨k + 1, by omega, by go_num, Below.drew (HB.out.setCell (p := ⟨w.heap.size + 1, 2, none⟩) (by simp) _), HX.out.1, ?_⟩, by simp [intOf]; omega⟩
          rw [HT.out]
          exact HX.out.2
      · rw [e] at f1
        have q1 : wr.cell? ⟨w.heap.size + 1, 3, none⟩ = some (.int .i64 (No.steps (l.take k) 3)) := cell_of HB1.out 3
        have q2 : wr.frozen? ⟨w.heap.size + 1, 3, none⟩ = false := frozen_of HB1.out 3
        have q3 := hw.out 3
        have HX := hide (step_steps HB1.out HB0.out 3 (by omega) trivial e)
        clear e
        go_wp2_with fail
        go_region
        all_goals
          go_wp2
          refine ⟨⟨k + 1, by omega, by go_num, Below.drew (HB.out.setCell (p := ⟨w.heap.size + 1, 3, none⟩) (by simp) _), HX.out.1, ?_⟩, by simp [intOf]; omega⟩
          rw [HT.out]
          exact HX.out.2
      · rw [e] at f1
        have q1 : wr.cell? ⟨w.heap.size + 1, 4, none⟩ = some (.int .i64 (No.steps (l.take k) 4)) := cell_of HB1.out 4
        have q2 : wr.frozen? ⟨w.heap.size + 1, 4, none⟩ = false := frozen_of HB1.out 4
        have q3 := hw.out 4
        have HX := hide (step_steps HB1.out HB0.out 4 (by omega) trivial e)
        clear e
        go_wp2_with fail
        go_region
        all_goals
          go_wp2
          refine ⟨⟨k + 1, by omega, by go_num, Below.drew (HB.out.setCell (p := ⟨w.heap.size + 1, 4, none⟩) (by simp) _), HX.out.1, ?_⟩, by simp [intOf]; omega⟩
          rw [HT.out]
          exact HX.out.2
      · rw [e] at f1
        have q1 : wr.cell? ⟨w.heap.size + 1, 5, none⟩ = some (.int .i64 (No.steps (l.take k) 5)) := cell_of HB1.out 5
        have q2 : wr.frozen? ⟨w.heap.size + 1, 5, none⟩ = false := frozen_of HB1.out 5
        have q3 := hw.out 5
        have HX := hide (step_steps HB1.out HB0.out 5 (by omega) trivial e)
        clear e
        go_wp2_with fail
        go_region
        all_goals
          go_wp2
          refine ⟨⟨k + 1, by omega, by go_num, Below.drew (HB.out.setCell (p := ⟨w.heap.size + 1, 5, none⟩) (by simp) _), HX.out.1, ?_⟩, by simp [intOf]; omega⟩
          rw [HT.out]
          exact HX.out.2
      · rw [e] at f1
        have q1 : wr.cell? ⟨w.heap.size + 1, 6, none⟩ = some (.int .i64 (No.steps (l.take k) 6)) := cell_of HB1.out 6
        have q2 : wr.frozen? ⟨w.heap.size + 1, 6, none⟩ = false := frozen_of HB1.out 6
        have q3 := hw.out 6
        have HX := hide (step_steps HB1.out HB0.out 6 (by omega) trivial e)
        clear e
        go_wp2_with fail
        go_region
        all_goals
          go_wp2
          refine ⟨⟨k + 1, by omega, by go_num, Below.drew (HB.out.setCell (p := ⟨w.heap.size + 1, 6, none⟩) (by simp) _), HX.out.1, ?_⟩, by simp [intOf]; omega⟩
          rw [HT.out]
          exact HX.out.2
      · rw [e] at f1
        have q1 : wr.cell? ⟨w.heap.size + 1, 7, none⟩ = some (.int .i64 (No.steps (l.take k) 7)) := cell_of HB1.out 7
        have q2 : wr.frozen? ⟨w.heap.size + 1, 7, none⟩ = false := frozen_of HB1.out 7
        have q3 := hw.out 7
        have HX := hide (step_steps HB1.out HB0.out 7 (by omega) trivial e)
        clear e
        go_wp2_with fail
        go_region
        all_goals
          go_wp2
          refine ⟨⟨k + 1, by omega, by go_num, Below.drew (HB.out.setCell (p := ⟨w.heap.size + 1, 7, none⟩) (by simp) _), HX.out.1, ?_⟩, by simp [intOf]; omega⟩
          rw [HT.out]
          exact HX.out.2
    · obtain rfl : k = l.length := by omega
      rw [List.take_length] at HB1
      have g0 : wr.cell? ⟨w.heap.size + 1, 0, none⟩ = some (.int .i64 (No.steps l 0)) := cell_of HB1.out 0
      have z0 : wr.frozen? ⟨w.heap.size, 0, none⟩ = false := frozen_of HB0.out 0
      have y0 : wr.cell? ⟨w.heap.size, 0, none⟩ = some (.int .i64 0) := cell_of HB0.out 0
      have g1 : wr.cell? ⟨w.heap.size + 1, 1, none⟩ = some (.int .i64 (No.steps l 1)) := cell_of HB1.out 1
      have z1 : wr.frozen? ⟨w.heap.size, 1, none⟩ = false := frozen_of HB0.out 1
      have y1 : wr.cell? ⟨w.heap.size, 1, none⟩ = some (.int .i64 0) := cell_of HB0.out 1
      have g2 : wr.cell? ⟨w.heap.size + 1, 2, none⟩ = some (.int .i64 (No.steps l 2)) := cell_of HB1.out 2
      have z2 : wr.frozen? ⟨w.heap.size, 2, none⟩ = false := frozen_of HB0.out 2
      have y2 : wr.cell? ⟨w.heap.size, 2, none⟩ = some (.int .i64 0) := cell_of HB0.out 2
      have g3 : wr.cell? ⟨w.heap.size + 1, 3, none⟩ = some (.int .i64 (No.steps l 3)) := cell_of HB1.out 3
      have z3 : wr.frozen? ⟨w.heap.size, 3, none⟩ = false := frozen_of HB0.out 3
      have y3 : wr.cell? ⟨w.heap.size, 3, none⟩ = some (.int .i64 0) := cell_of HB0.out 3
      have g4 : wr.cell? ⟨w.heap.size + 1, 4, none⟩ = some (.int .i64 (No.steps l 4)) := cell_of HB1.out 4
      have z4 : wr.frozen? ⟨w.heap.size, 4, none⟩ = false := frozen_of HB0.out 4
      have y4 : wr.cell? ⟨w.heap.size, 4, none⟩ = some (.int .i64 0) := cell_of HB0.out 4
      have g5 : wr.cell? ⟨w.heap.size + 1, 5, none⟩ = some (.int .i64 (No.steps l 5)) := cell_of HB1.out 5
      have z5 : wr.frozen? ⟨w.heap.size, 5, none⟩ = false := frozen_of HB0.out 5
      have y5 : wr.cell? ⟨w.heap.size, 5, none⟩ = some (.int .i64 0) := cell_of HB0.out 5
      have g6 : wr.cell? ⟨w.heap.size + 1, 6, none⟩ = some (.int .i64 (No.steps l 6)) := cell_of HB1.out 6
      have z6 : wr.frozen? ⟨w.heap.size, 6, none⟩ = false := frozen_of HB0.out 6
      have y6 : wr.cell? ⟨w.heap.size, 6, none⟩ = some (.int .i64 0) := cell_of HB0.out 6
      have g7 : wr.cell? ⟨w.heap.size + 1, 7, none⟩ = some (.int .i64 (No.steps l 7)) := cell_of HB1.out 7
      have z7 : wr.frozen? ⟨w.heap.size, 7, none⟩ = false := frozen_of HB0.out 7
      have y7 : wr.cell? ⟨w.heap.size, 7, none⟩ = some (.int .i64 0) := cell_of HB0.out 7
      go_wp2_with fail
      refine final8 (X := put8 wr w.heap.size l) rfl ?_
      have HX := hide (put8_block (l := l) HB0.out)
      have HY := hide (put8_below (l := l) HB.out)
      generalize put8 wr w.heap.size l = X at *
      clear g0 z0 y0 g1 z1 y1 g2 z2 y2 g3 z3 y3 g4 z4 y4 g5 z5 y5 g6 z6 y6 g7 z7 y7
      have x0 : X.cell? ⟨w.heap.size, 0, none⟩ = some (.int .i64 (No.steps l 0)) := cell_of HX.out 0
      have x1 : X.cell? ⟨w.heap.size, 1, none⟩ = some (.int .i64 (No.steps l 1)) := cell_of HX.out 1
      have x2 : X.cell? ⟨w.heap.size, 2, none⟩ = some (.int .i64 (No.steps l 2)) := cell_of HX.out 2
      have x3 : X.cell? ⟨w.heap.size, 3, none⟩ = some (.int .i64 (No.steps l 3)) := cell_of HX.out 3
      have x4 : X.cell? ⟨w.heap.size, 4, none⟩ = some (.int .i64 (No.steps l 4)) := cell_of HX.out 4
      have x5 : X.cell? ⟨w.heap.size, 5, none⟩ = some (.int .i64 (No.steps l 5)) := cell_of HX.out 5
      have x6 : X.cell? ⟨w.heap.size, 6, none⟩ = some (.int .i64 (No.steps l 6)) := cell_of HX.out 6
      have x7 : X.cell? ⟨w.heap.size, 7, none⟩ = some (.int .i64 (No.steps l 7)) := cell_of HX.out 7
      refine bodyPost_ret (v := .agg (stepsV l)) (by simp [results, Try.results14, go_sem, x0, x1, x2, x3, x4, x5, x6, x7, stepsV]) rfl ?_
      exact ⟨rfl, HY.out⟩
end Go.Proofs.Ytinllamocplgjaa.No
