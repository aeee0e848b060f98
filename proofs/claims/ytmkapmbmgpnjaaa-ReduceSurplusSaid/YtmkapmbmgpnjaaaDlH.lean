import Derived.Test.YtmkapmbmgpnjaaaDlF
import Derived.Test.YtmkapmbmgpnjaaaDsG
import Derived.Test.YtmkapmbmgpnjaaaGeF
set_option maxRecDepth 100000
set_option linter.unusedSimpArgs false
set_option linter.unusedVariables false
namespace Go.Proofs.Ytmkapmbmgpnjaaa.Se
open Go Go.Ms Go.Pg Go.Bi Go.Se Go.ChangeShapes Go.WideShapes Go.ChangeAt Go.RowKit Go.Deep Go.Proofs.Ytmkapmbmgpnjaaa.Bi

/-! List. -/
theorem EC30 : Go.Il.IntElem Try.prog 30 3 .i64 8 := Go.Il.IntElem.mk Try.underlying30 (by kernel_rfl)
theorem own_emptyL (w : World) {B : Nat} (hB : B ≤ w.heap.size) (c : Array Value) (hc : c.size = 0) : Il.Own 3 .i64 B (w.alloc (.cells c 3)) (.slice (some ⟨w.heap.size, 0, none⟩) 0 0) [] := by
  refine ⟨rfl, .inr ⟨w.heap.size, 0, c, rfl, hB, new_block w _, Nat.le_refl _, by simp [maxLen], by simp [hc], ?_⟩⟩
  simp
theorem laid_row {w : World} {v : Value} {xs : List Nat} (h : Laid w v xs) (hx : ∀ i ∈ xs, i < 256) : RowAt 1 (NumAt .i64) w v (xs.map Int.ofNat) := by
  obtain ⟨oa, cap, rfl, hc, hl, hq⟩ := h
  refine ⟨oa, cap, by rw [List.length_map], by rw [List.length_map]; omega, fun i hi => ?_⟩
  have hi2 : i < xs.length := by simpa using hi
  obtain ⟨b, o, e, hcell⟩ := hq i hi2
  refine ⟨b, o, e, ?_, ?_⟩
  · rw [Nat.mul_one, hcell]; simp
  · have := hx _ (List.getElem_mem hi2)
    simp [Lit.wf, IntKind.min, IntKind.max, IntKind.signed, IntKind.bits]
    omega
set_option maxHeartbeats 4000000 in
theorem cloneProg {w : World} {v : Value} {l : List Int} (h : RowAt 1 (NumAt .i64) w v l) (hl : l.length ≤ 1000000) :
    Calls Try.prog 105 #[v] w fun e w' => ∃ v', e = .returned v' ∧ Below w.heap.size w w' ∧ Il.Own 3 .i64 w.heap.size w' v' l := by
  have HR := hide h
  obtain ⟨oa, cap, rfl, hla, ha⟩ := h
  have H0 : Hid (oa = none → l = []) := fun e => by
    subst e
    cases l with
    | nil => rfl
    | cons x l =>
      obtain ⟨b, o, e, _⟩ := ha 0 (by simp)
      cases e
  clear ha
  go_enter Try.func105, Try.ntmps105
  rcases oa with _ | ad
  · have he : ∀ w : World, (binOp .eql 30 (.slice none l.length cap) (.slice none 0 0)).run Try.prog w = .ok (.bool true) w := fun _ => rfl
    go_wp2_with fail
    go_ret
    have e := H0.out (by first | rfl | trivial)
    subst e
    exact ⟨_, rfl, Below.refl _ _, Go.Il.Own.nil _ _ _ _⟩
  · have he : ∀ w : World, (binOp .eql 30 (.slice (some ad) l.length cap) (.slice none 0 0)).run Try.prog w = .ok (.bool false) w := fun _ => rfl
    go_wp2_with (first
      | (at_builtin
         (refine Go.Il.wpl_pushRow EC30 (by decide) rfl (.tmp 5) (.tmp 6) rfl (own_emptyL w (Nat.le_refl _) _ rfl) HR.out ((Below.refl _ w).alloc (Nat.le_refl _) _) (by simp) rfl rfl (by simp; omega) ?_
          intro v1 w1 ho1 hs1
          have HO1 : Hid (Il.Own 3 .i64 w.heap.size w1 v1 l) := ho1
          have HS1 : Hid (Below w.heap.size w w1) := ((Below.refl _ w).alloc (Nat.le_refl _) _).trans hs1.below
          clear ho1 hs1))
      | fail)
    go_ret
    exact ⟨_, rfl, HS1.out, HO1.out⟩

theorem allQ_amongL (n : Nat) : ofP (among (List.range n)) = allQ n := by
  unfold allQ
  congr 1
  funext i
  simp [among]
set_option maxHeartbeats 16000000 in
theorem list1 {B g m c1 : Nat} {W : World} {n : Nat} {l : List Int} (hS : SBox W g m l []) (hc : W.cell? ⟨c1, 0, none⟩ = some (.int .i64 (n : Int))) (hn : n ≤ 256) (hB : B ≤ W.heap.size) :
    Calls Try.prog 103 #[.pointer (some ⟨g, 0, none⟩), .pointer (some ⟨c1, 0, none⟩)] W fun e w' => ∃ res, res = play (listN n) l [] ∧ Comes B g m W res e w' := by
  have HN := hide hn
  have HBB := hide hB
  have HMG := hide hS.lt
  have HGW := hide hS.gt
  have hB0 := ((Below.refl W.heap.size W).alloc (Nat.le_refl _) (box1 (.pointer (some ⟨g, 0, none⟩)) 101)).alloc (by simp) (boxQ false nilV nilV nilV)
  have HB0 := hide hB0
  have HS0 := hide (hS.old hB0)
  have c0 := cell_old hB0 hc
  have HX0 := hide (old_block (new_block W (box1 (.pointer (some ⟨g, 0, none⟩)) 101)) (boxQ false nilV nilV nilV))
  have HR0 : Hid (((W.alloc (box1 (.pointer (some ⟨g, 0, none⟩)) 101)).alloc (boxQ false nilV nilV nilV)).heap[W.heap.size + 1]? = some (boxQ false nilV nilV nilV)) := hide (alloc_at (by simp))
  have HSZ : Hid (((W.alloc (box1 (.pointer (some ⟨g, 0, none⟩)) 101)).alloc (boxQ false nilV nilV nilV)).heap.size = W.heap.size + 2) := hide (by simp)
  have hmf : ∀ (fn : Fn) (first cap : Array Value) (w : World), (Instr.makeFunc fn first cap).run Try.prog w = .ok (.func fn first cap) w := fun _ _ _ _ => rfl
  have hcf := enters104
  clear hB0 hc hn hB hS
  go_enter Try.func103, Try.ntmps103
  go_wp2_with fail
  change Calls Try.prog 88 _ ((W.alloc (box1 (.pointer (some ⟨g, 0, none⟩)) 101)).alloc (boxQ false nilV nilV nilV)) _
  generalize (W.alloc (box1 (.pointer (some ⟨g, 0, none⟩)) 101)).alloc (boxQ false nilV nilV nilV) = W0 at *
  (with_reducible refine (untilProg (n := n) (by have := HN.out; omega)).mono ?_)
  rintro e w1 ⟨v1, rfl, hB1, hO1⟩
  obtain ⟨o1, k1, rfl⟩ := own_formE hO1
  simp only [List.length_range]
  rw [List.length_range] at hO1
  have HB1 := hide hB1
  have HL1 : Hid (LaidK w1 m g (.slice o1 n k1) (List.range n)) := hide (by
    have h1 := HMG.out; have h2 := HGW.out; have h3 := HSZ.out
    exact own_laidK hO1 (by simp; exact HN.out) (by omega) (by omega))
  have HS1 := hide (HS0.out.old hB1)
  have HX1 := hide ((hB1.block _ (block_lt HX0.out)).trans HX0.out)
  have HR1 := hide ((hB1.block _ (block_lt HR0.out)).trans HR0.out)
  have HK1 : Hid (KeepsM m g W w1) := hide (KeepsM.of_below (by have := HMG.out; have := HGW.out; omega) (HB0.out.trans (hB1.mono HB0.out.size)))
  have HFS := hide (failsProg (w := w1) (v := .slice o1 n k1) (xs := List.range n) HX1.out HS1.out HGW.out HL1.out.laid (fun i hi => by have := List.mem_range.1 hi; have := HN.out; omega))
  rw [allQ_amongL] at HFS
  clear hB1 hO1 c0 HS0 HX0 HR0
  go_wp2_with fail
  (with_reducible refine HFS.out.mono ?_)
  rintro e w2 (⟨rfl, hk, hp⟩ | ⟨x, l1, T1, rfl, hk, hs, hp⟩)
  · have HK := hide (HK1.out.trans hk)
    have HP : Hid (play (listN n) l [] = .ask (memQ (allQ n))) := hide (hp _)
    clear hk hp HFS
    unfold asks4
    go_wp2_with fail
    exact ⟨rfl, _, HP.out.symm, _, _, _, _, rfl, sp_mem (small_all (n := n)).ok, HK.out⟩
  have HK2 := hide (HK1.out.trans hk)
  have HP2 : Hid (play (listN n) l [] = _) := hide (hp fun v => if v = 2 then minT 70000 (List.range n) 2 else .err 7)
  have HS2 := hide hs
  have HL2 := hide (HL1.out.keep hk.kept)
  have HX2 := hide (keepsM_block hk (by have := HMG.out; have := HGW.out; omega) (by have := HGW.out; omega) HX1.out)
  have HR2 := hide (keepsM_block hk (by have := HMG.out; have := HGW.out; omega) (by have := HGW.out; omega) HR1.out)
  clear hk hp hs HFS HL1 HS1 HX1 HR1 HK1
  rcases (Decidable.em (x = 2)).symm with hx | hx
  · have d1 : (x == (2 : Int)) = false := beq_false_of_ne hx
    have HP3 : Hid (play (listN n) l [] = .err 7) := hide (by rw [HP2.out]; simp only [if_neg hx]; rfl)
    clear hx HP2
    obtain ⟨q0, q1, q2, q3⟩ := q_cells HR2.out
    have s0 := Bi.frozen_of HR2.out 0
    have s1 := Bi.frozen_of HR2.out 1
    have s2 := Bi.frozen_of HR2.out 2
    have s3 := Bi.frozen_of HR2.out 3
    go_wp2_with fail
    refine final8 (X := putQ w2 (W.heap.size + 1) false nilV nilV nilV) rfl ?_
    have HP9 := hide (putQ_block (e := false) (b := nilV) (l := nilV) (q := nilV) HR2.out)
    have HK9 := hide (keepsM_put (d := false) (a := nilV) (k := nilV) (p := nilV) (R := W.heap.size + 1) (by have := HMG.out; have := HGW.out; omega) HK2.out (by omega))
    generalize putQ w2 (W.heap.size + 1) false nilV nilV nilV = X at *
    obtain ⟨y0, y1, y2, y3⟩ := q_cells HP9.out
    refine bodyPost_ret (v := .tuple #[questV false nilV nilV nilV, .int .i64 7]) (by simp [results, Try.results103, go_sem, y0, y1, y2, y3]) rfl ?_
    exact ⟨_, HP3.out.symm, rfl, by decide, HK9.out⟩
  have d1 : (x == (2 : Int)) = true := by simp [hx]
  have HP3 : Hid (play (listN n) l [] = play (minT 70000 (List.range n) 2) l1 T1) := hide (by rw [HP2.out]; simp only [if_pos hx])
  have HMN := hide (minProg (W := w2) (f0 := 70000) HX2.out HGW.out HS2.out HL2.out (fit_all n) HN.out (left_all HN.out))
  clear hx HP2
  go_wp2_with fail
  (with_reducible refine HMN.out.mono ?_)
  rintro e w3 (⟨q, rfl, hq, hk, hp⟩ | ⟨v3, k, l3, T3, rfl, hl, hlow, hk, hs, hp⟩)
  · have HK := hide (HK2.out.trans hk)
    have HP := hide (HP3.out.trans hp)
    have HQ := hide hq
    clear hk hp hq HMN
    unfold asks4
    go_wp2_with fail
    exact ⟨rfl, _, HP.out.symm, _, _, _, _, rfl, sp_mem HQ.out, HK.out⟩
  have HK3 := hide (HK2.out.trans hk)
  have HP4 := hide (HP3.out.trans hp)
  have HS3 := hide hs
  have HR3 := hide (keepsM_block hk (by have := HMG.out; have := HGW.out; omega) (by have := HGW.out; omega) HR2.out)
  have HCL := hide (cloneProg (w := w3) (laid_row hl.laid hlow) (by obtain ⟨oa, cap, e, q1, q2, -⟩ := hl; rw [List.length_map]; omega))
  have HW3 : Hid (B ≤ w3.heap.size) := hide (by have := HBB.out; have := HK3.out.below.size; omega)
  obtain ⟨ov, cv, rfl, -, -, -⟩ := hl
  clear hk hp hs hlow HMN HS2 HR2 HX2 HL2
  go_wp2_with fail
  (with_reducible refine HCL.out.mono ?_)
  rintro e w4 ⟨v4, rfl, hB4, hO4⟩
  obtain ⟨o4, k4, rfl⟩ := own_formE hO4
  have HO4 := hide (own_mono HW3.out hO4)
  have HS4 := hide (HS3.out.old hB4)
  have HR4 := hide ((hB4.block _ (block_lt HR3.out)).trans HR3.out)
  have HK4 : Hid (KeepsM m g W w4) := hide (HK3.out.trans (KeepsM.of_below (by have := HMG.out; have := HGW.out; have := HK3.out.below.size; omega) hB4))
  clear hB4 hO4 HCL HS3 HR3
  obtain ⟨q0, q1, q2, q3⟩ := q_cells HR4.out
  have s0 := Bi.frozen_of HR4.out 0
  have s1 := Bi.frozen_of HR4.out 1
  have s2 := Bi.frozen_of HR4.out 2
  have s3 := Bi.frozen_of HR4.out 3
  go_wp2_with fail
  refine final8 (X := putQ w4 (W.heap.size + 1) true nilV (.slice o4 k.length k4) nilV) rfl ?_
  have HP9 := hide (putQ_block (e := true) (b := nilV) (l := .slice o4 k.length k4) (q := nilV) HR4.out)
  have HK9 := hide (keepsM_put (d := true) (a := nilV) (k := .slice o4 k.length k4) (p := nilV) (R := W.heap.size + 1) (by have := HMG.out; have := HGW.out; omega) HK4.out (by omega))
  have HS9 := hide (sbox_put (d := true) (a := nilV) (k := .slice o4 k.length k4) (p := nilV) (R := W.heap.size + 1) HS4.out (by have := HGW.out; omega))
  have HO9 := hide (own_putQ (d := true) (a := nilV) (k := .slice o4 k.length k4) (p := nilV) HO4.out HR4.out)
  generalize putQ w4 (W.heap.size + 1) true nilV (.slice o4 k.length k4) nilV = X at *
  obtain ⟨y0, y1, y2, y3⟩ := q_cells HP9.out
  refine bodyPost_ret (v := .tuple #[questV true nilV (.slice o4 k.length k4) nilV, .int .i64 0]) (by simp [results, Try.results103, go_sem, y0, y1, y2, y3]) rfl ?_
  exact ⟨_, HP4.out.symm, _, _, _, rfl, HO9.out, Go.Il.Own.nil _ _ _ _, HK9.out, HS9.out⟩
end Go.Proofs.Ytmkapmbmgpnjaaa.Se

set_option maxRecDepth 100000
set_option linter.unusedSimpArgs false
set_option linter.unusedVariables false
namespace Go.Proofs.Ytmkapmbmgpnjaaa.Se
open Go Go.Ms Go.Pg Go.Bi Go.Se Go.ChangeShapes Go.WideShapes Go.ChangeAt Go.RowKit Go.Deep Go.Proofs.Ytmkapmbmgpnjaaa.Bi

theorem enters103 (args : Array Value) (W : World) : (callFunc 103 args).run Try.prog W = .ok (.enter 103 args) W := by
  simp [callFunc, go_sem, Try.func103]
  rfl
set_option maxHeartbeats 8000000 in
theorem listProgN {w : World} {an : Value} {z : Int} {n : Nat} {l : List Int} (hz : z ≤ 256) (hn : max z 0 = (n : Int)) (ha : Vs w w.heap.size an l) (hl : l.length ≤ 4096) (hwf : ∀ x ∈ l, 0 ≤ x ∧ x < 256) :
    Calls Try.prog 48 #[.int .i64 z, an] w fun e w' => ∃ res, res = play (listN n) l [] ∧ Gives w.heap.size w' res e ∧ Below w.heap.size w w' := by
  have hB0 := ((Below.refl w.heap.size w).alloc (Nat.le_refl _) (box1 (.int .i64 n) 3)).alloc (by simp) (boxQ false nilV nilV nilV)
  have HB0 := hide hB0
  have HBX : Hid (((w.alloc (box1 (.int .i64 n) 3)).alloc (boxQ false nilV nilV nilV)).heap[w.heap.size]? = some (box1 (.int .i64 n) 3)) := hide (old_block (new_block w _) _)
  have HR0 : Hid (((w.alloc (box1 (.int .i64 n) 3)).alloc (boxQ false nilV nilV nilV)).heap[w.heap.size + 1]? = some (boxQ false nilV nilV nilV)) := hide (alloc_at (by simp))
  have hsz : ((w.alloc (box1 (.int .i64 n) 3)).alloc (boxQ false nilV nilV nilV)).heap.size = w.heap.size + 2 := by simp
  have HSZ := hide hsz
  have HVA := hide ha
  have x0 := cell_of HBX.out 0
  have HIT := hide (fun W => itemsProg (w := W) hz hn)
  have HL := hide hl
  have HWF := hide hwf
  have HNN : Hid (n ≤ 256) := hide (by omega)
  have hmf : ∀ (fn : Fn) (first cap : Array Value) (w : World), (Instr.makeFunc fn first cap).run Try.prog w = .ok (.func fn first cap) w := fun _ _ _ _ => rfl
  obtain ⟨oan, capn, rfl, -, -, -⟩ := ha
  clear hB0 hl hwf hz hn hsz
  go_enter Try.func48, Try.ntmps48
  go_wp2_with fail
  (with_reducible refine (HIT.out _).mono ?_)
  rintro e w1 ⟨rfl, rfl⟩
  clear HIT
  go_wp2_with fail
  change Calls Try.prog 74 _ ((w.alloc (box1 (.int .i64 n) 3)).alloc (boxQ false nilV nilV nilV)) _
  generalize (w.alloc (box1 (.int .i64 n) 3)).alloc (boxQ false nilV nilV nilV) = W at *
  have HSR := hide (searchS (w := W) (fn := 103) (caps := #[.pointer (some ⟨w.heap.size, 0, none⟩)]) (R := fun res => res = play (listN n) l []) (vs_self HVA.out HB0.out) HL.out HWF.out enters103 fun g m W2 hW2 hm hs => by
    have hxW : W2.cell? ⟨w.heap.size, 0, none⟩ = some (.int .i64 (n : Int)) := cell_old hW2 x0
    exact list1 hs hxW HNN.out (by have := hs.gt; have := hs.lt; omega))
  (with_reducible refine HSR.out.mono ?_)
  rintro e w1 ⟨res, hres, ho, hB⟩
  have HRES := hide hres
  obtain ⟨dd, oa1, na, ca, ok, nk, ck, op, np, cp, x, rfl, hkeep⟩ := gives_form ho
  have HKP := hide hkeep
  have HB1 := hide (HB0.out.trans (hB.mono HB0.out.size))
  have HR := hide ((hB.block _ (block_lt HR0.out)).trans HR0.out)
  have hws : w.heap.size ≤ W.heap.size := HB0.out.size
  clear hres ho hkeep hB x0
  obtain ⟨q0, q1, q2, q3⟩ := q_cells HR.out
  have s0 := Bi.frozen_of HR.out 0
  have s1 := Bi.frozen_of HR.out 1
  have s2 := Bi.frozen_of HR.out 2
  have s3 := Bi.frozen_of HR.out 3
  go_wp2_with fail
  refine final8 (X := putQ w1 (w.heap.size + 1) dd (.slice oa1 na ca) (.slice ok nk ck) (.slice op np cp)) rfl ?_
  have HP := hide (putQ_block (e := dd) (b := .slice oa1 na ca) (l := .slice ok nk ck) (q := .slice op np cp) HR.out)
  have HQ := hide (putQ_below (d := dd) (a := .slice oa1 na ca) (l := .slice ok nk ck) (p := .slice op np cp) HB1.out (B := w.heap.size + 1) (by omega))
  have HO := hide (gives_low hws (HKP.out (putQ w1 (w.heap.size + 1) dd (.slice oa1 na ca) (.slice ok nk ck) (.slice op np cp)) fun b cs hh => putQ_other (fun e => by subst e; rw [HR.out] at hh; injection hh with hh; injection hh with _ ht; cases ht)))
  clear HKP
  generalize putQ w1 (w.heap.size + 1) dd (.slice oa1 na ca) (.slice ok nk ck) (.slice op np cp) = X at *
  obtain ⟨x0, x1, x2, x3⟩ := q_cells HP.out
  refine bodyPost_ret (v := .tuple #[questV dd (.slice oa1 na ca) (.slice ok nk ck) (.slice op np cp), .int .i64 x]) (by simp [results, Try.results48, go_sem, x0, x1, x2, x3]) rfl ?_
  exact ⟨res, HRES.out, HO.out, HQ.out⟩

set_option maxHeartbeats 8000000 in
theorem askList {w : World} {an : Value} {z st : Int} {n : Nat} {l : List Int} (hz : z ≤ 256) (hn : max z 0 = (n : Int)) (ha : Vs w w.heap.size an l) (hl : l.length ≤ 4096) (hwf : ∀ x ∈ l, 0 ≤ x ∧ x < 256) :
    Calls Try.prog 46 #[.int .u8 0, .int .i64 z, .int .i64 st, an] w fun e w' => ∃ res, res = play (listN n) l [] ∧ Gives w.heap.size w' res e ∧ Below w.heap.size w w' := by
  have hB0 := (Below.refl w.heap.size w).alloc (Nat.le_refl _) (boxQ false nilV nilV nilV)
  have HB0 := hide hB0
  have HR0 := hide (new_block w (boxQ false nilV nilV nilV))
  have hsz : (w.alloc (boxQ false nilV nilV nilV)).heap.size = w.heap.size + 1 := by simp
  have HSZ := hide hsz
  have HD := hide (listProgN (w := w.alloc (boxQ false nilV nilV nilV)) hz hn (vs_self ha hB0) hl hwf)
  obtain ⟨oan, capn, rfl, -, -, -⟩ := ha
  clear hB0 hl hwf hz hn hsz
  go_enter Try.func46, Try.ntmps46
  go_wp2_with fail
  (with_reducible refine HD.out.mono ?_)
  rintro e w1 ⟨res, hres, ho, hB⟩
  have HRES := hide hres
  obtain ⟨dd, oa1, na, ca, ok, nk, ck, op, np, cp, x, rfl, hkeep⟩ := gives_form ho
  have HKP := hide hkeep
  have HB1 := hide (HB0.out.trans (hB.mono HB0.out.size))
  have HR := hide ((hB.block _ (block_lt HR0.out)).trans HR0.out)
  have hws : w.heap.size ≤ (w.alloc (boxQ false nilV nilV nilV)).heap.size := HB0.out.size
  clear hres ho hkeep hB HD
  obtain ⟨q0, q1, q2, q3⟩ := q_cells HR.out
  have s0 := Bi.frozen_of HR.out 0
  have s1 := Bi.frozen_of HR.out 1
  have s2 := Bi.frozen_of HR.out 2
  have s3 := Bi.frozen_of HR.out 3
  go_wp2_with fail
  refine final8 (X := putQ w1 w.heap.size dd (.slice oa1 na ca) (.slice ok nk ck) (.slice op np cp)) rfl ?_
  have HP := hide (putQ_block (e := dd) (b := .slice oa1 na ca) (l := .slice ok nk ck) (q := .slice op np cp) HR.out)
  have HQ := hide (putQ_below (d := dd) (a := .slice oa1 na ca) (l := .slice ok nk ck) (p := .slice op np cp) HB1.out (B := w.heap.size) (Nat.le_refl _))
  have HO := hide (gives_low hws (HKP.out (putQ w1 w.heap.size dd (.slice oa1 na ca) (.slice ok nk ck) (.slice op np cp)) fun b cs hh => putQ_other (fun e => by subst e; rw [HR.out] at hh; injection hh with hh; injection hh with _ ht; cases ht)))
  clear HKP
  generalize putQ w1 w.heap.size dd (.slice oa1 na ca) (.slice ok nk ck) (.slice op np cp) = X at *
  obtain ⟨x0, x1, x2, x3⟩ := q_cells HP.out
  refine bodyPost_ret (v := .tuple #[questV dd (.slice oa1 na ca) (.slice ok nk ck) (.slice op np cp), .int .i64 x]) (by simp [results, Try.results46, go_sem, x0, x1, x2, x3]) rfl ?_
  exact ⟨res, HRES.out, HO.out, HQ.out⟩
end Go.Proofs.Ytmkapmbmgpnjaaa.Se

