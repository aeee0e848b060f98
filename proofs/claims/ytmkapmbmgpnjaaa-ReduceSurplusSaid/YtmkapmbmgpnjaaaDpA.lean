import Derived.Test.YtmkapmbmgpnjaaaDoA
set_option maxRecDepth 100000
set_option linter.unusedSimpArgs false
set_option linter.unusedVariables false
namespace Go.Proofs.Ytmkapmbmgpnjaaa.Se
open Go Go.Ms Go.Pg Go.Bi Go.Se Go.ChangeShapes Go.WideShapes Go.ChangeAt Go.RowKit Go.Deep Go.Shelf Go.Proofs.Ytmkapmbmgpnjaaa.Bi

/-! More answers than are allowed. -/
def Long (an : Value) : Prop := ∃ oa n cap, an = .slice oa n cap ∧ 4096 < n
set_option maxHeartbeats 8000000 in
theorem replayLong {w : World} {oa : Option Addr} {n cap : Nat} {f : Value} (hn : 4096 < n) :
    Calls Try.prog 136 #[.slice oa n cap, .func (.func 137) #[] #[], .func (.func 138) #[] #[], f] w fun e w' => ∃ res, res = .err 3 ∧ Gives w.heap.size w' res e ∧ Below w.heap.size w w' := by
  have tl : decide ((4096 : Int) < (n : Int)) = true := decide_eq_true (by omega)
  have tl2 : decide (4096 < n) = true := decide_eq_true hn
  have hB := ((((Below.refl w.heap.size w).alloc (Nat.le_refl _) (.cells #[.func (.func 138) #[] #[]] 171)).alloc (by simp) (boxQ false nilV nilV nilV)).alloc (by simp; omega) (.cells #[.int .i64 3] 27)).alloc (by simp; omega) (boxQ false nilV nilV nilV)
  have HB := hide hB
  have H1 : Hid (((((w.alloc (.cells #[.func (.func 138) #[] #[]] 171)).alloc (boxQ false nilV nilV nilV)).alloc (.cells #[.int .i64 3] 27)).alloc (boxQ false nilV nilV nilV)).heap[w.heap.size + 1]? = some (boxQ false nilV nilV nilV)) := hide (old_block (old_block (alloc_at (by simp)) _) _)
  have H2 : Hid (((((w.alloc (.cells #[.func (.func 138) #[] #[]] 171)).alloc (boxQ false nilV nilV nilV)).alloc (.cells #[.int .i64 3] 27)).alloc (boxQ false nilV nilV nilV)).heap[w.heap.size + 1 + 1]? = some (.cells #[.int .i64 3] 27)) := hide (old_block (alloc_at (by simp)) _)
  clear hB
  clear hn
  go_enter_defers Try.func136, Try.ntmps136
  go_wp2_with fail
  change bodyPostD _ _ _ _ _ ((((w.alloc (.cells #[.func (.func 138) #[] #[]] 171)).alloc (boxQ false nilV nilV nilV)).alloc (.cells #[.int .i64 3] 27)).alloc (boxQ false nilV nilV nilV))
  generalize (((w.alloc (.cells #[.func (.func 138) #[] #[]] 171)).alloc (boxQ false nilV nilV nilV)).alloc (.cells #[.int .i64 3] 27)).alloc (boxQ false nilV nilV nilV) = W at *
  obtain ⟨x0, x1, x2, x3⟩ := q_cells H1.out
  have y0 := cell_of H2.out 0
  simp [bodyPostD, Leaves, settle, results, Try.results136, go_sem, x0, x1, x2, x3, y0]
  exact ⟨rfl, HB.out⟩
set_option maxHeartbeats 8000000 in
theorem searchLong {w : World} {oa : Option Addr} {n cap : Nat} {f : Value} (hn : 4096 < n) : Calls Try.prog 74 #[.slice oa n cap, f] w fun e w' => ∃ res, res = .err 3 ∧ Gives w.heap.size w' res e ∧ Below w.heap.size w w' := by
  have hB0 : Below w.heap.size w (w.alloc (boxQ false nilV nilV nilV)) := (Below.refl _ _).alloc (Nat.le_refl _) _
  have HB0 := hide hB0
  have H1 := hide (new_block w (boxQ false nilV nilV nilV))
  have HR := hide (replayLong (w := w.alloc (boxQ false nilV nilV nilV)) (oa := oa) (cap := cap) (f := f) hn)
  clear hB0 hn
  go_enter Try.func74, Try.ntmps74
  go_wp2_with fail
  (with_reducible refine HR.out.mono ?_)
  rintro e w1 ⟨res, hbis, ho, hB⟩
  have HBIS := hide hbis
  obtain ⟨d, oa1, na, ca, ok, nk, ck, op, np, cp, x, rfl, hkeep⟩ := gives_form ho
  have HKP := hide hkeep
  have HB1 := hide (HB0.out.trans (hB.mono (by simp)))
  have HR := hide ((hB.block _ (block_lt H1.out)).trans H1.out)
  clear hbis ho hkeep hB
  obtain ⟨q0, q1, q2, q3⟩ := q_cells HR.out
  have s0 := Bi.frozen_of HR.out 0
  have s1 := Bi.frozen_of HR.out 1
  have s2 := Bi.frozen_of HR.out 2
  have s3 := Bi.frozen_of HR.out 3
  go_wp2_with fail
  refine final8 (X := putQ w1 w.heap.size d (.slice oa1 na ca) (.slice ok nk ck) (.slice op np cp)) rfl ?_
  have HP := hide (putQ_block (e := d) (b := .slice oa1 na ca) (l := .slice ok nk ck) (q := .slice op np cp) HR.out)
  have HQ := hide (putQ_below (d := d) (a := .slice oa1 na ca) (l := .slice ok nk ck) (p := .slice op np cp) HB1.out (B := w.heap.size) (Nat.le_refl _))
  have HO := hide (gives_low (B' := w.heap.size) (by simp) (HKP.out (putQ w1 w.heap.size d (.slice oa1 na ca) (.slice ok nk ck) (.slice op np cp)) fun b cs hh => putQ_other (fun e => by subst e; rw [HR.out] at hh; injection hh with hh; injection hh with _ ht; cases ht)))
  clear HKP
  generalize putQ w1 w.heap.size d (.slice oa1 na ca) (.slice ok nk ck) (.slice op np cp) = X at *
  obtain ⟨x0, x1, x2, x3⟩ := q_cells HP.out
  refine bodyPost_ret (v := .tuple #[questV d (.slice oa1 na ca) (.slice ok nk ck) (.slice op np cp), .int .i64 x]) (by simp [results, Try.results74, go_sem, x0, x1, x2, x3]) rfl ?_
  exact ⟨res, HBIS.out, HO.out, HQ.out⟩
set_option maxHeartbeats 8000000 in
theorem listLong {w : World} {an : Value} {z : Int} {n : Nat} (hz : z ≤ 256) (hn : max z 0 = (n : Int)) (ha : Long an) :
    Calls Try.prog 48 #[.int .i64 z, an] w fun e w' => ∃ res, res = .err 3 ∧ Gives w.heap.size w' res e ∧ Below w.heap.size w w' := by
  have hB0 := ((Below.refl w.heap.size w).alloc (Nat.le_refl _) (box1 (.int .i64 n) 3)).alloc (by simp) (boxQ false nilV nilV nilV)
  have HB0 := hide hB0
  have HBX : Hid (((w.alloc (box1 (.int .i64 n) 3)).alloc (boxQ false nilV nilV nilV)).heap[w.heap.size]? = some (box1 (.int .i64 n) 3)) := hide (old_block (new_block w _) _)
  have HR0 : Hid (((w.alloc (box1 (.int .i64 n) 3)).alloc (boxQ false nilV nilV nilV)).heap[w.heap.size + 1]? = some (boxQ false nilV nilV nilV)) := hide (alloc_at (by simp))
  have hsz : ((w.alloc (box1 (.int .i64 n) 3)).alloc (boxQ false nilV nilV nilV)).heap.size = w.heap.size + 2 := by simp
  have HSZ := hide hsz
  have HVA := hide ha
  have x0 := cell_of HBX.out 0
  have HIT := hide (fun W => itemsProg (w := W) hz hn)
  have HNN : Hid (n ≤ 256) := hide (by omega)
  have hmf : ∀ (fn : Fn) (first cap : Array Value) (w : World), (Instr.makeFunc fn first cap).run Try.prog w = .ok (.func fn first cap) w := fun _ _ _ _ => rfl
  obtain ⟨oan, nan, capn, rfl, hln⟩ := ha
  clear hB0 hz hn hsz
  go_enter Try.func48, Try.ntmps48
  go_wp2_with fail
  (with_reducible refine (HIT.out _).mono ?_)
  rintro e w1 ⟨rfl, rfl⟩
  clear HIT
  go_wp2_with fail
  change Calls Try.prog 74 _ ((w.alloc (box1 (.int .i64 n) 3)).alloc (boxQ false nilV nilV nilV)) _
  generalize (w.alloc (box1 (.int .i64 n) 3)).alloc (boxQ false nilV nilV nilV) = W at *
  have HSR := hide (searchLong (w := W) (oa := oan) (cap := capn) (f := .func (.func 103) #[] #[.pointer (some ⟨w.heap.size, 0, none⟩)]) hln)
  (with_reducible refine HSR.out.mono ?_)
  rintro e w1 ⟨res, hres, ho, hB⟩
  have HRES := hide hres
  obtain ⟨dd, oa1, na, ca, ok, nk, ck, op, np, cp, x, rfl, hkeep⟩ := gives_form ho
  have HKP := hide hkeep
  have HB1 := hide (HB0.out.trans (hB.mono HB0.out.size))
  have HR := hide ((hB.block _ (block_lt HR0.out)).trans HR0.out)
  have hws : w.heap.size ≤ W.heap.size := HB0.out.size
  clear hres ho hkeep hB x0
  obtain ⟨q0, q1, q2, q3⟩ := q_cells HR.out
  have s0 := Bi.frozen_of HR.out 0
  have s1 := Bi.frozen_of HR.out 1
  have s2 := Bi.frozen_of HR.out 2
  have s3 := Bi.frozen_of HR.out 3
  go_wp2_with fail
  refine final8 (X := putQ w1 (w.heap.size + 1) dd (.slice oa1 na ca) (.slice ok nk ck) (.slice op np cp)) rfl ?_
  have HP := hide (putQ_block (e := dd) (b := .slice oa1 na ca) (l := .slice ok nk ck) (q := .slice op np cp) HR.out)
  have HQ := hide (putQ_below (d := dd) (a := .slice oa1 na ca) (l := .slice ok nk ck) (p := .slice op np cp) HB1.out (B := w.heap.size + 1) (by omega))
  have HO := hide (gives_low hws (HKP.out (putQ w1 (w.heap.size + 1) dd (.slice oa1 na ca) (.slice ok nk ck) (.slice op np cp)) fun b cs hh => putQ_other (fun e => by subst e; rw [HR.out] at hh; injection hh with hh; injection hh with _ ht; cases ht)))
  clear HKP
  generalize putQ w1 (w.heap.size + 1) dd (.slice oa1 na ca) (.slice ok nk ck) (.slice op np cp) = X at *
  obtain ⟨x0, x1, x2, x3⟩ := q_cells HP.out
  refine bodyPost_ret (v := .tuple #[questV dd (.slice oa1 na ca) (.slice ok nk ck) (.slice op np cp), .int .i64 x]) (by simp [results, Try.results48, go_sem, x0, x1, x2, x3]) rfl ?_
  exact ⟨res, HRES.out, HO.out, HQ.out⟩

set_option maxHeartbeats 8000000 in
theorem askListLong {w : World} {an : Value} {z st : Int} {n : Nat} (hz : z ≤ 256) (hn : max z 0 = (n : Int)) (ha : Long an) :
    Calls Try.prog 46 #[.int .u8 0, .int .i64 z, .int .i64 st, an] w fun e w' => ∃ res, res = .err 3 ∧ Gives w.heap.size w' res e ∧ Below w.heap.size w w' := by
  have hB0 := (Below.refl w.heap.size w).alloc (Nat.le_refl _) (boxQ false nilV nilV nilV)
  have HB0 := hide hB0
  have HR0 := hide (new_block w (boxQ false nilV nilV nilV))
  have hsz : (w.alloc (boxQ false nilV nilV nilV)).heap.size = w.heap.size + 1 := by simp
  have HSZ := hide hsz
  have HD := hide (listLong (w := w.alloc (boxQ false nilV nilV nilV)) hz hn ha)
  obtain ⟨oan, nan, capn, rfl, hln⟩ := ha
  clear hB0 hz hn hsz
  go_enter Try.func46, Try.ntmps46
  go_wp2_with fail
  (with_reducible refine HD.out.mono ?_)
  rintro e w1 ⟨res, hres, ho, hB⟩
  have HRES := hide hres
  obtain ⟨dd, oa1, na, ca, ok, nk, ck, op, np, cp, x, rfl, hkeep⟩ := gives_form ho
  have HKP := hide hkeep
  have HB1 := hide (HB0.out.trans (hB.mono HB0.out.size))
  have HR := hide ((hB.block _ (block_lt HR0.out)).trans HR0.out)
  have hws : w.heap.size ≤ (w.alloc (boxQ false nilV nilV nilV)).heap.size := HB0.out.size
  clear hres ho hkeep hB HD
  obtain ⟨q0, q1, q2, q3⟩ := q_cells HR.out
  have s0 := Bi.frozen_of HR.out 0
  have s1 := Bi.frozen_of HR.out 1
  have s2 := Bi.frozen_of HR.out 2
  have s3 := Bi.frozen_of HR.out 3
  go_wp2_with fail
  refine final8 (X := putQ w1 w.heap.size dd (.slice oa1 na ca) (.slice ok nk ck) (.slice op np cp)) rfl ?_
  have HP := hide (putQ_block (e := dd) (b := .slice oa1 na ca) (l := .slice ok nk ck) (q := .slice op np cp) HR.out)
  have HQ := hide (putQ_below (d := dd) (a := .slice oa1 na ca) (l := .slice ok nk ck) (p := .slice op np cp) HB1.out (B := w.heap.size) (Nat.le_refl _))
  have HO := hide (gives_low hws (HKP.out (putQ w1 w.heap.size dd (.slice oa1 na ca) (.slice ok nk ck) (.slice op np cp)) fun b cs hh => putQ_other (fun e => by subst e; rw [HR.out] at hh; injection hh with hh; injection hh with _ ht; cases ht)))
  clear HKP
  generalize putQ w1 w.heap.size dd (.slice oa1 na ca) (.slice ok nk ck) (.slice op np cp) = X at *
  obtain ⟨x0, x1, x2, x3⟩ := q_cells HP.out
  refine bodyPost_ret (v := .tuple #[questV dd (.slice oa1 na ca) (.slice ok nk ck) (.slice op np cp), .int .i64 x]) (by simp [results, Try.results46, go_sem, x0, x1, x2, x3]) rfl ?_
  exact ⟨res, HRES.out, HO.out, HQ.out⟩
set_option maxHeartbeats 8000000 in
theorem countLong {w : World} {an : Value} {z st : Int} {n s : Nat} (hz : z ≤ 256) (hn : max z 0 = (n : Int)) (hs : min (max st 1) 256 = (s : Int)) (ha : Long an) :
    Calls Try.prog 50 #[.int .i64 z, .int .i64 st, an] w fun e w' => ∃ res, res = .err 3 ∧ Gives w.heap.size w' res e ∧ Below w.heap.size w w' := by
  have hB0 := (((Below.refl w.heap.size w).alloc (Nat.le_refl _) (box1 (.int .i64 n) 3)).alloc (by simp) (box1 (.int .i64 st) 3)).alloc (by simp; omega) (boxQ false nilV nilV nilV)
  have HB0 := hide hB0
  have HBX : Hid ((((w.alloc (box1 (.int .i64 n) 3)).alloc (box1 (.int .i64 st) 3)).alloc (boxQ false nilV nilV nilV)).heap[w.heap.size]? = some (box1 (.int .i64 n) 3)) := hide (old_block (old_block (new_block w _) _) _)
  have HBY : Hid ((((w.alloc (box1 (.int .i64 n) 3)).alloc (box1 (.int .i64 st) 3)).alloc (boxQ false nilV nilV nilV)).heap[w.heap.size + 1]? = some (box1 (.int .i64 st) 3)) := hide (old_block (alloc_at (by simp)) _)
  have HR0 : Hid ((((w.alloc (box1 (.int .i64 n) 3)).alloc (box1 (.int .i64 st) 3)).alloc (boxQ false nilV nilV nilV)).heap[w.heap.size + 2]? = some (boxQ false nilV nilV nilV)) := hide (alloc_at (by simp))
  have hsz : (((w.alloc (box1 (.int .i64 n) 3)).alloc (box1 (.int .i64 st) 3)).alloc (boxQ false nilV nilV nilV)).heap.size = w.heap.size + 3 := by simp
  have HSZ := hide hsz
  have HVA := hide ha
  have x0 := cell_of HBX.out 0
  have y0 := cell_of HBY.out 0
  have HIT := hide (fun W => itemsProg (w := W) hz hn)
  have HSS := hide hs
  have HNN : Hid (n ≤ 256) := hide (by omega)
  have hmf : ∀ (fn : Fn) (first cap : Array Value) (w : World), (Instr.makeFunc fn first cap).run Try.prog w = .ok (.func fn first cap) w := fun _ _ _ _ => rfl
  obtain ⟨oan, nan, capn, rfl, hln⟩ := ha
  clear hB0 hz hn hsz hs
  go_enter Try.func50, Try.ntmps50
  go_wp2_with fail
  (with_reducible refine (HIT.out _).mono ?_)
  rintro e w1 ⟨rfl, rfl⟩
  clear HIT
  go_wp2_with fail
  change Calls Try.prog 74 _ (((w.alloc (box1 (.int .i64 n) 3)).alloc (box1 (.int .i64 st) 3)).alloc (boxQ false nilV nilV nilV)) _
  generalize ((w.alloc (box1 (.int .i64 n) 3)).alloc (box1 (.int .i64 st) 3)).alloc (boxQ false nilV nilV nilV) = W at *
  have HSR := hide (searchLong (w := W) (oa := oan) (cap := capn) (f := .func (.func 108) #[] #[.pointer (some ⟨w.heap.size, 0, none⟩), .pointer (some ⟨w.heap.size + 1, 0, none⟩)]) hln)
  (with_reducible refine HSR.out.mono ?_)
  rintro e w1 ⟨res, hres, ho, hB⟩
  have HRES := hide hres
  obtain ⟨dd, oa1, na, ca, ok, nk, ck, op, np, cp, x, rfl, hkeep⟩ := gives_form ho
  have HKP := hide hkeep
  have HB1 := hide (HB0.out.trans (hB.mono HB0.out.size))
  have HR := hide ((hB.block _ (block_lt HR0.out)).trans HR0.out)
  have hws : w.heap.size ≤ W.heap.size := HB0.out.size
  clear hres ho hkeep hB x0 y0
  obtain ⟨q0, q1, q2, q3⟩ := q_cells HR.out
  have s0 := Bi.frozen_of HR.out 0
  have s1 := Bi.frozen_of HR.out 1
  have s2 := Bi.frozen_of HR.out 2
  have s3 := Bi.frozen_of HR.out 3
  go_wp2_with fail
  refine final8 (X := putQ w1 (w.heap.size + 2) dd (.slice oa1 na ca) (.slice ok nk ck) (.slice op np cp)) rfl ?_
  have HP := hide (putQ_block (e := dd) (b := .slice oa1 na ca) (l := .slice ok nk ck) (q := .slice op np cp) HR.out)
  have HQ := hide (putQ_below (d := dd) (a := .slice oa1 na ca) (l := .slice ok nk ck) (p := .slice op np cp) HB1.out (B := w.heap.size + 2) (by omega))
  have HO := hide (gives_low hws (HKP.out (putQ w1 (w.heap.size + 2) dd (.slice oa1 na ca) (.slice ok nk ck) (.slice op np cp)) fun b cs hh => putQ_other (fun e => by subst e; rw [HR.out] at hh; injection hh with hh; injection hh with _ ht; cases ht)))
  clear HKP
  generalize putQ w1 (w.heap.size + 2) dd (.slice oa1 na ca) (.slice ok nk ck) (.slice op np cp) = X at *
  obtain ⟨x0, x1, x2, x3⟩ := q_cells HP.out
  refine bodyPost_ret (v := .tuple #[questV dd (.slice oa1 na ca) (.slice ok nk ck) (.slice op np cp), .int .i64 x]) (by simp [results, Try.results50, go_sem, x0, x1, x2, x3]) rfl ?_
  exact ⟨res, HRES.out, HO.out, HQ.out⟩

set_option maxHeartbeats 8000000 in
theorem askCountLong {w : World} {an : Value} {z st : Int} {n s : Nat} (hz : z ≤ 256) (hn : max z 0 = (n : Int)) (hs : min (max st 1) 256 = (s : Int)) (ha : Long an) :
    Calls Try.prog 46 #[.int .u8 1, .int .i64 z, .int .i64 st, an] w fun e w' => ∃ res, res = .err 3 ∧ Gives w.heap.size w' res e ∧ Below w.heap.size w w' := by
  have hB0 := (Below.refl w.heap.size w).alloc (Nat.le_refl _) (boxQ false nilV nilV nilV)
  have HB0 := hide hB0
  have HR0 := hide (new_block w (boxQ false nilV nilV nilV))
  have hsz : (w.alloc (boxQ false nilV nilV nilV)).heap.size = w.heap.size + 1 := by simp
  have HSZ := hide hsz
  have HD := hide (countLong (w := w.alloc (boxQ false nilV nilV nilV)) hz hn hs ha)
  obtain ⟨oan, nan, capn, rfl, hln⟩ := ha
  clear hB0 hz hn hsz hs
  go_enter Try.func46, Try.ntmps46
  go_wp2_with fail
  (with_reducible refine HD.out.mono ?_)
  rintro e w1 ⟨res, hres, ho, hB⟩
  have HRES := hide hres
  obtain ⟨dd, oa1, na, ca, ok, nk, ck, op, np, cp, x, rfl, hkeep⟩ := gives_form ho
  have HKP := hide hkeep
  have HB1 := hide (HB0.out.trans (hB.mono HB0.out.size))
  have HR := hide ((hB.block _ (block_lt HR0.out)).trans HR0.out)
  have hws : w.heap.size ≤ (w.alloc (boxQ false nilV nilV nilV)).heap.size := HB0.out.size
  clear hres ho hkeep hB HD
  obtain ⟨q0, q1, q2, q3⟩ := q_cells HR.out
  have s0 := Bi.frozen_of HR.out 0
  have s1 := Bi.frozen_of HR.out 1
  have s2 := Bi.frozen_of HR.out 2
  have s3 := Bi.frozen_of HR.out 3
  go_wp2_with fail
  refine final8 (X := putQ w1 w.heap.size dd (.slice oa1 na ca) (.slice ok nk ck) (.slice op np cp)) rfl ?_
  have HP := hide (putQ_block (e := dd) (b := .slice oa1 na ca) (l := .slice ok nk ck) (q := .slice op np cp) HR.out)
  have HQ := hide (putQ_below (d := dd) (a := .slice oa1 na ca) (l := .slice ok nk ck) (p := .slice op np cp) HB1.out (B := w.heap.size) (Nat.le_refl _))
  have HO := hide (gives_low hws (HKP.out (putQ w1 w.heap.size dd (.slice oa1 na ca) (.slice ok nk ck) (.slice op np cp)) fun b cs hh => putQ_other (fun e => by subst e; rw [HR.out] at hh; injection hh with hh; injection hh with _ ht; cases ht)))
  clear HKP
  generalize putQ w1 w.heap.size dd (.slice oa1 na ca) (.slice ok nk ck) (.slice op np cp) = X at *
  obtain ⟨x0, x1, x2, x3⟩ := q_cells HP.out
  refine bodyPost_ret (v := .tuple #[questV dd (.slice oa1 na ca) (.slice ok nk ck) (.slice op np cp), .int .i64 x]) (by simp [results, Try.results46, go_sem, x0, x1, x2, x3]) rfl ?_
  exact ⟨res, HRES.out, HO.out, HQ.out⟩
set_option maxHeartbeats 8000000 in
theorem diffLong {w : World} {an : Value} {z : Int} {n : Nat} (hz : z ≤ 256) (hn : max z 0 = (n : Int)) (ha : Long an) :
    Calls Try.prog 54 #[.int .i64 z, an] w fun e w' => ∃ res, res = .err 3 ∧ Gives w.heap.size w' res e ∧ Below w.heap.size w w' := by
  have hB0 := ((Below.refl w.heap.size w).alloc (Nat.le_refl _) (box1 (.int .i64 n) 3)).alloc (by simp) (boxQ false nilV nilV nilV)
  have HB0 := hide hB0
  have HBX : Hid (((w.alloc (box1 (.int .i64 n) 3)).alloc (boxQ false nilV nilV nilV)).heap[w.heap.size]? = some (box1 (.int .i64 n) 3)) := hide (old_block (new_block w _) _)
  have HR0 : Hid (((w.alloc (box1 (.int .i64 n) 3)).alloc (boxQ false nilV nilV nilV)).heap[w.heap.size + 1]? = some (boxQ false nilV nilV nilV)) := hide (alloc_at (by simp))
  have hsz : ((w.alloc (box1 (.int .i64 n) 3)).alloc (boxQ false nilV nilV nilV)).heap.size = w.heap.size + 2 := by simp
  have HSZ := hide hsz
  have HVA := hide ha
  have x0 := cell_of HBX.out 0
  have HIT := hide (fun W => itemsProg (w := W) hz hn)
  have HNN : Hid (n ≤ 256) := hide (by omega)
  have hmf : ∀ (fn : Fn) (first cap : Array Value) (w : World), (Instr.makeFunc fn first cap).run Try.prog w = .ok (.func fn first cap) w := fun _ _ _ _ => rfl
  obtain ⟨oan, nan, capn, rfl, hln⟩ := ha
  clear hB0 hz hn hsz
  go_enter Try.func54, Try.ntmps54
  go_wp2_with fail
  (with_reducible refine (HIT.out _).mono ?_)
  rintro e w1 ⟨rfl, rfl⟩
  clear HIT
  go_wp2_with fail
  change Calls Try.prog 74 _ ((w.alloc (box1 (.int .i64 n) 3)).alloc (boxQ false nilV nilV nilV)) _
  generalize (w.alloc (box1 (.int .i64 n) 3)).alloc (boxQ false nilV nilV nilV) = W at *
  have HSR := hide (searchLong (w := W) (oa := oan) (cap := capn) (f := .func (.func 115) #[] #[.pointer (some ⟨w.heap.size, 0, none⟩)]) hln)
  (with_reducible refine HSR.out.mono ?_)
  rintro e w1 ⟨res, hres, ho, hB⟩
  have HRES := hide hres
  obtain ⟨dd, oa1, na, ca, ok, nk, ck, op, np, cp, x, rfl, hkeep⟩ := gives_form ho
  have HKP := hide hkeep
  have HB1 := hide (HB0.out.trans (hB.mono HB0.out.size))
  have HR := hide ((hB.block _ (block_lt HR0.out)).trans HR0.out)
  have hws : w.heap.size ≤ W.heap.size := HB0.out.size
  clear hres ho hkeep hB x0
  obtain ⟨q0, q1, q2, q3⟩ := q_cells HR.out
  have s0 := Bi.frozen_of HR.out 0
  have s1 := Bi.frozen_of HR.out 1
  have s2 := Bi.frozen_of HR.out 2
  have s3 := Bi.frozen_of HR.out 3
  go_wp2_with fail
  refine final8 (X := putQ w1 (w.heap.size + 1) dd (.slice oa1 na ca) (.slice ok nk ck) (.slice op np cp)) rfl ?_
  have HP := hide (putQ_block (e := dd) (b := .slice oa1 na ca) (l := .slice ok nk ck) (q := .slice op np cp) HR.out)
  have HQ := hide (putQ_below (d := dd) (a := .slice oa1 na ca) (l := .slice ok nk ck) (p := .slice op np cp) HB1.out (B := w.heap.size + 1) (by omega))
  have HO := hide (gives_low hws (HKP.out (putQ w1 (w.heap.size + 1) dd (.slice oa1 na ca) (.slice ok nk ck) (.slice op np cp)) fun b cs hh => putQ_other (fun e => by subst e; rw [HR.out] at hh; injection hh with hh; injection hh with _ ht; cases ht)))
  clear HKP
  generalize putQ w1 (w.heap.size + 1) dd (.slice oa1 na ca) (.slice ok nk ck) (.slice op np cp) = X at *
  obtain ⟨x0, x1, x2, x3⟩ := q_cells HP.out
  refine bodyPost_ret (v := .tuple #[questV dd (.slice oa1 na ca) (.slice ok nk ck) (.slice op np cp), .int .i64 x]) (by simp [results, Try.results54, go_sem, x0, x1, x2, x3]) rfl ?_
  exact ⟨res, HRES.out, HO.out, HQ.out⟩
set_option maxHeartbeats 8000000 in
theorem askDiffLong {w : World} {an : Value} {z st : Int} {n : Nat} (hz : z ≤ 256) (hn : max z 0 = (n : Int)) (ha : Long an) :
    Calls Try.prog 46 #[.int .u8 2, .int .i64 z, .int .i64 st, an] w fun e w' => ∃ res, res = .err 3 ∧ Gives w.heap.size w' res e ∧ Below w.heap.size w w' := by
  have hB0 := (Below.refl w.heap.size w).alloc (Nat.le_refl _) (boxQ false nilV nilV nilV)
  have HB0 := hide hB0
  have HR0 := hide (new_block w (boxQ false nilV nilV nilV))
  have hsz : (w.alloc (boxQ false nilV nilV nilV)).heap.size = w.heap.size + 1 := by simp
  have HSZ := hide hsz
  have HD := hide (diffLong (w := w.alloc (boxQ false nilV nilV nilV)) hz hn ha)
  obtain ⟨oan, nan, capn, rfl, hln⟩ := ha
  clear hB0 hz hn hsz
  go_enter Try.func46, Try.ntmps46
  go_wp2_with fail
  (with_reducible refine HD.out.mono ?_)
  rintro e w1 ⟨res, hres, ho, hB⟩
  have HRES := hide hres
  obtain ⟨dd, oa1, na, ca, ok, nk, ck, op, np, cp, x, rfl, hkeep⟩ := gives_form ho
  have HKP := hide hkeep
  have HB1 := hide (HB0.out.trans (hB.mono HB0.out.size))
  have HR := hide ((hB.block _ (block_lt HR0.out)).trans HR0.out)
  have hws : w.heap.size ≤ (w.alloc (boxQ false nilV nilV nilV)).heap.size := HB0.out.size
  clear hres ho hkeep hB HD
  obtain ⟨q0, q1, q2, q3⟩ := q_cells HR.out
  have s0 := Bi.frozen_of HR.out 0
  have s1 := Bi.frozen_of HR.out 1
  have s2 := Bi.frozen_of HR.out 2
  have s3 := Bi.frozen_of HR.out 3
  go_wp2_with fail
  refine final8 (X := putQ w1 w.heap.size dd (.slice oa1 na ca) (.slice ok nk ck) (.slice op np cp)) rfl ?_
  have HP := hide (putQ_block (e := dd) (b := .slice oa1 na ca) (l := .slice ok nk ck) (q := .slice op np cp) HR.out)
  have HQ := hide (putQ_below (d := dd) (a := .slice oa1 na ca) (l := .slice ok nk ck) (p := .slice op np cp) HB1.out (B := w.heap.size) (Nat.le_refl _))
  have HO := hide (gives_low hws (HKP.out (putQ w1 w.heap.size dd (.slice oa1 na ca) (.slice ok nk ck) (.slice op np cp)) fun b cs hh => putQ_other (fun e => by subst e; rw [HR.out] at hh; injection hh with hh; injection hh with _ ht; cases ht)))
  clear HKP
  generalize putQ w1 w.heap.size dd (.slice oa1 na ca) (.slice ok nk ck) (.slice op np cp) = X at *
  obtain ⟨x0, x1, x2, x3⟩ := q_cells HP.out
  refine bodyPost_ret (v := .tuple #[questV dd (.slice oa1 na ca) (.slice ok nk ck) (.slice op np cp), .int .i64 x]) (by simp [results, Try.results46, go_sem, x0, x1, x2, x3]) rfl ?_
  exact ⟨res, HRES.out, HO.out, HQ.out⟩
set_option maxHeartbeats 16000000 in
theorem changesLong {w : World} {v an : Value} {n : Nat} (hv : NilRow w v n) (hn : n ≤ 256) (ha : Long an) :
    Calls Try.prog 30 #[v, an] w fun e w' => ∃ res, res = .err 3 ∧ Gives w.heap.size w' res e ∧ Below w.heap.size w w' := by
  have hB0 := (Below.refl w.heap.size w).alloc (Nat.le_refl _) (boxQ false nilV nilV nilV)
  have HB0 := hide hB0
  have HR0 : Hid ((w.alloc (boxQ false nilV nilV nilV)).heap[w.heap.size]? = some (boxQ false nilV nilV nilV)) := hide (new_block w _)
  have hsz : (w.alloc (boxQ false nilV nilV nilV)).heap.size = w.heap.size + 1 := by simp
  have HSZ := hide hsz
  have HV0 := hide (hv.old hB0)
  have HVA := hide ha
  have HNN := hide hn
  have hmin : min (n : Int) 256 = (n : Int) := by omega
  have hmin2 : (if (256 : Int) < (n : Int) then (256 : Int) else (n : Int)) = (n : Int) := by split <;> omega
  have hmf : ∀ (fn : Fn) (first cap : Array Value) (w : World), (Instr.makeFunc fn first cap).run Try.prog w = .ok (.func fn first cap) w := fun _ _ _ _ => rfl
  obtain ⟨oan, nan, capn, rfl, hln⟩ := ha
  obtain ⟨ov, cv, rfl, -⟩ := hv
  clear hB0 hsz hn
  go_enter Try.func30, Try.ntmps30
  go_wp2_with fail
  change Calls Try.prog 88 _ (w.alloc (boxQ false nilV nilV nilV)) _
  generalize w.alloc (boxQ false nilV nilV nilV) = W0 at *
  (with_reducible refine (untilProg (n := n) (by have := HNN.out; omega)).mono ?_)
  rintro e w1 ⟨v1, rfl, hB1, hO1⟩
  obtain ⟨o1, k1, rfl⟩ := own_formE hO1
  simp only [List.length_range]
  rw [List.length_range] at hO1
  have hA1 := (Below.refl w1.heap.size w1).alloc (Nat.le_refl _) (box1 (.slice o1 n k1) 30)
  have HB1 : Hid (Below W0.heap.size W0 (w1.alloc (box1 (.slice o1 n k1) 30))) := hide (hB1.trans (hA1.mono hB1.size))
  have HO1 := hide (own_up hO1 hA1)
  have HA1 := hide (new_block w1 (box1 (.slice o1 n k1) 30))
  have HW1 : Hid (W0.heap.size ≤ w1.heap.size) := hide hB1.size
  have HV1 := hide (HV0.out.old HB1.out)
  have HR1 := hide ((HB1.out.block _ (block_lt HR0.out)).trans HR0.out)
  have c1 := cell_of HA1.out 0
  clear hB1 hO1 hA1 HV0
  go_wp2_with fail
  change Calls Try.prog 89 _ (w1.alloc (box1 (.slice o1 n k1) 30)) _
  obtain ⟨W1, hW1⟩ : ∃ W1, W1 = w1.alloc (box1 (.slice o1 n k1) 30) := ⟨_, rfl⟩
  have HSW1 : Hid (W1.heap.size = w1.heap.size + 1) := hide (by rw [hW1]; simp)
  rw [← hW1] at HB1 HO1 HA1 HV1 HR1 c1 ⊢
  clear hW1
  have HI1 := hide (ints_own HO1.out (by rw [List.length_map, List.length_range]; have := HNN.out; omega))
  have HNE := hide (neededN HV1.out HNN.out HI1.out)
  (with_reducible refine HNE.out.mono ?_)
  rintro e w2 ⟨gr, rfl, hgr, hB2, hR2⟩
  have hA2 := ((Below.refl w2.heap.size w2).alloc (Nat.le_refl _) (box1 (.slice (some ⟨gr, 0, none⟩) n n) 95)).alloc (by simp) (box1 (.func (.func 90) #[] #[.pointer (some ⟨w2.heap.size, 0, none⟩)]) 122)
  have HB2 := hide (hB2.trans (hA2.mono hB2.size))
  have HN2 : Hid (((w2.alloc (box1 (.slice (some ⟨gr, 0, none⟩) n n) 95)).alloc (box1 (.func (.func 90) #[] #[.pointer (some ⟨w2.heap.size, 0, none⟩)]) 122)).heap[w2.heap.size]? = some (box1 (.slice (some ⟨gr, 0, none⟩) n n) 95)) := hide (old_block (new_block w2 _) _)
  have HF2 : Hid (((w2.alloc (box1 (.slice (some ⟨gr, 0, none⟩) n n) 95)).alloc (box1 (.func (.func 90) #[] #[.pointer (some ⟨w2.heap.size, 0, none⟩)]) 122)).heap[w2.heap.size + 1]? = some (box1 (.func (.func 90) #[] #[.pointer (some ⟨w2.heap.size, 0, none⟩)]) 122)) := hide (alloc_at (by simp))
  have HRR2 := hide ((hA2.block _ (block_lt hR2)).trans hR2)
  have HZ2 : Hid (w2.heap.size + 2 = ((w2.alloc (box1 (.slice (some ⟨gr, 0, none⟩) n n) 95)).alloc (box1 (.func (.func 90) #[] #[.pointer (some ⟨w2.heap.size, 0, none⟩)]) 122)).heap.size ∧ gr < w2.heap.size) := hide ⟨by simp, block_lt hR2⟩
  clear hB2 hA2 hgr hR2 HNE HI1
  go_wp2_with fail
  change Calls Try.prog 74 _ ((w2.alloc (box1 (.slice (some ⟨gr, 0, none⟩) n n) 95)).alloc (box1 (.func (.func 90) #[] #[.pointer (some ⟨w2.heap.size, 0, none⟩)]) 122)) _
  generalize (w2.alloc (box1 (.slice (some ⟨gr, 0, none⟩) n n) 95)).alloc (box1 (.func (.func 90) #[] #[.pointer (some ⟨w2.heap.size, 0, none⟩)]) 122) = W2 at *
  have HL2 : Hid (Laid W2 (.slice o1 n k1) (List.range n)) := hide ((own_laidK (m := 0) (g := 0) HO1.out (by rw [List.length_range]; exact HNN.out) (by have := HSZ.out; omega) (by have := HSZ.out; omega)).laid.old HB2.out)
  have HA2 := hide ((HB2.out.block _ (block_lt HA1.out)).trans HA1.out)
  have HR2 := hide ((HB2.out.block _ (block_lt HR1.out)).trans HR1.out)
  have HB3 := hide (HB0.out.trans ((HB1.out.trans (HB2.out.mono HB1.out.size)).mono HB0.out.size))
  have HB4 := hide (HB1.out.trans (HB2.out.mono HB1.out.size))
  have HWS : Hid (w.heap.size ≤ W2.heap.size) := hide HB3.out.size
  have HSR := hide (searchLong (w := W2) (oa := oan) (cap := capn) (f := .func (.func 92) #[] #[.pointer (some ⟨w1.heap.size, 0, none⟩), .pointer (some ⟨w2.heap.size + 1, 0, none⟩)]) hln)
  (with_reducible refine HSR.out.mono ?_)
  rintro e w3 ⟨res, hres, ho, hB⟩
  have HRES := hide hres
  obtain ⟨dd, oa1, na, ca, ok, nk, ck, op, np, cp, x, rfl, hkeep⟩ := gives_form ho
  have HKP := hide hkeep
  have HB5 := hide (HB3.out.trans (hB.mono HB3.out.size))
  have HR := hide ((hB.block _ (block_lt HR2.out)).trans HR2.out)
  have hws := HWS.out
  clear hres ho hkeep hB HSR c1
  obtain ⟨q0, q1, q2, q3⟩ := q_cells HR.out
  have s0 := Bi.frozen_of HR.out 0
  have s1 := Bi.frozen_of HR.out 1
  have s2 := Bi.frozen_of HR.out 2
  have s3 := Bi.frozen_of HR.out 3
  go_wp2_with fail
  refine final8 (X := putQ w3 w.heap.size dd (.slice oa1 na ca) (.slice ok nk ck) (.slice op np cp)) rfl ?_
  have HP := hide (putQ_block (e := dd) (b := .slice oa1 na ca) (l := .slice ok nk ck) (q := .slice op np cp) HR.out)
  have HQ := hide (putQ_below (d := dd) (a := .slice oa1 na ca) (l := .slice ok nk ck) (p := .slice op np cp) HB5.out (B := w.heap.size) (Nat.le_refl _))
  have HO := hide (gives_low hws (HKP.out (putQ w3 w.heap.size dd (.slice oa1 na ca) (.slice ok nk ck) (.slice op np cp)) fun b cs hh => putQ_other (fun e => by subst e; rw [HR.out] at hh; injection hh with hh; injection hh with _ ht; cases ht)))
  clear HKP
  generalize putQ w3 w.heap.size dd (.slice oa1 na ca) (.slice ok nk ck) (.slice op np cp) = X at *
  obtain ⟨x0, x1, x2, x3⟩ := q_cells HP.out
  refine bodyPost_ret (v := .tuple #[questV dd (.slice oa1 na ca) (.slice ok nk ck) (.slice op np cp), .int .i64 x]) (by simp [results, Try.results30, go_sem, x0, x1, x2, x3]) rfl ?_
  exact ⟨res, HRES.out, HO.out, HQ.out⟩
--H>
set_option maxHeartbeats 8000000 in
theorem askChangesLong {w : World} {an : Value} {z st : Int} {n : Nat} (hz : z ≤ 256) (hn : max z 0 = (n : Int)) (ha : Long an) :
    Calls Try.prog 46 #[.int .u8 3, .int .i64 z, .int .i64 st, an] w fun e w' => ∃ res, res = .err 3 ∧ Gives w.heap.size w' res e ∧ Below w.heap.size w w' := by
  have hB0 := ((Below.refl w.heap.size w).alloc (Nat.le_refl _) (boxQ false nilV nilV nilV)).alloc (by simp) (nilRow n)
  have HB0 := hide hB0
  have HR0 : Hid (((w.alloc (boxQ false nilV nilV nilV)).alloc (nilRow n)).heap[w.heap.size]? = some (boxQ false nilV nilV nilV)) := hide (old_block (new_block w _) _)
  have hsz : ((w.alloc (boxQ false nilV nilV nilV)).alloc (nilRow n)).heap.size = w.heap.size + 2 := by simp
  have hm : (if z < 0 then (0 : Int) else z) = (n : Int) := by split <;> omega
  have hmk := make22 n (by omega) (w.alloc (boxQ false nilV nilV nilV))
  have HV : Hid (NilRow ((w.alloc (boxQ false nilV nilV nilV)).alloc (nilRow n)) (.slice (some ⟨w.heap.size + 1, 0, none⟩) n n) n) := hide (by have := nilRow_new (w.alloc (boxQ false nilV nilV nilV)) n; rwa [World.size_alloc] at this)
  have HD := hide (changesLong (w := (w.alloc (boxQ false nilV nilV nilV)).alloc (nilRow n)) HV.out (by omega) ha)
  rw [World.size_alloc] at hmk
  obtain ⟨oan, nan, capn, rfl, hln⟩ := ha
  clear hB0 hz hn hsz
  go_enter Try.func46, Try.ntmps46
  go_wp2_with fail
  change Calls Try.prog 30 _ ((w.alloc (boxQ false nilV nilV nilV)).alloc (nilRow n)) _
  generalize (w.alloc (boxQ false nilV nilV nilV)).alloc (nilRow n) = W0 at *
  (with_reducible refine HD.out.mono ?_)
  rintro e w1 ⟨res, hres, ho, hB⟩
  have HRES := hide hres
  obtain ⟨dd, oa1, na, ca, ok, nk, ck, op, np, cp, x, rfl, hkeep⟩ := gives_form ho
  have HKP := hide hkeep
  have HB1 := hide (HB0.out.trans (hB.mono HB0.out.size))
  have HR := hide ((hB.block _ (block_lt HR0.out)).trans HR0.out)
  have hws : w.heap.size ≤ W0.heap.size := HB0.out.size
  clear hres ho hkeep hB HD
  obtain ⟨q0, q1, q2, q3⟩ := q_cells HR.out
  have s0 := Bi.frozen_of HR.out 0
  have s1 := Bi.frozen_of HR.out 1
  have s2 := Bi.frozen_of HR.out 2
  have s3 := Bi.frozen_of HR.out 3
  go_wp2_with fail
  refine final8 (X := putQ w1 w.heap.size dd (.slice oa1 na ca) (.slice ok nk ck) (.slice op np cp)) rfl ?_
  have HP := hide (putQ_block (e := dd) (b := .slice oa1 na ca) (l := .slice ok nk ck) (q := .slice op np cp) HR.out)
  have HQ := hide (putQ_below (d := dd) (a := .slice oa1 na ca) (l := .slice ok nk ck) (p := .slice op np cp) HB1.out (B := w.heap.size) (Nat.le_refl _))
  have HO := hide (gives_low hws (HKP.out (putQ w1 w.heap.size dd (.slice oa1 na ca) (.slice ok nk ck) (.slice op np cp)) fun b cs hh => putQ_other (fun e => by subst e; rw [HR.out] at hh; injection hh with hh; injection hh with _ ht; cases ht)))
  clear HKP
  generalize putQ w1 w.heap.size dd (.slice oa1 na ca) (.slice ok nk ck) (.slice op np cp) = X at *
  obtain ⟨x0, x1, x2, x3⟩ := q_cells HP.out
  refine bodyPost_ret (v := .tuple #[questV dd (.slice oa1 na ca) (.slice ok nk ck) (.slice op np cp), .int .i64 x]) (by simp [results, Try.results46, go_sem, x0, x1, x2, x3]) rfl ?_
  exact ⟨res, HRES.out, HO.out, HQ.out⟩
--H>
end Go.Proofs.Ytmkapmbmgpnjaaa.Se
