import Derived.Test.YtmkapmbmgpnjaaaDsJ
import Derived.Test.YtmkapmbmgpnjaaaDsG
import Derived.Test.YtmkapmbmgpnjaaaGeF
set_option maxRecDepth 100000
set_option linter.unusedSimpArgs false
set_option linter.unusedVariables false
namespace Go.Proofs.Ytmkapmbmgpnjaaa.Se
open Go Go.Ms Go.Pg Go.Bi Go.Se Go.ChangeShapes Go.WideShapes Go.ChangeAt Go.RowKit Go.Deep Go.Proofs.Ytmkapmbmgpnjaaa.Bi

/-! The search for a difference. -/

noncomputable def sizeAt (w : World) (B : Nat) : Nat := by
  classical
  exact if h : ∃ b : Bs, w.heap[B]? = some (boxB b.pass b.fail b.g) then size (Classical.choose h) else 0
theorem boxB_inj {b c : Bs} (h : boxB b.pass b.fail b.g = boxB c.pass c.fail c.g) : b = c := by
  obtain ⟨⟨a0, a1, a2, a3⟩, ⟨a4, a5, a6, a7⟩, a8⟩ := b
  obtain ⟨⟨c0, c1, c2, c3⟩, ⟨c4, c5, c6, c7⟩, c8⟩ := c
  simp only [boxB, Obj.cells.injEq, Array.mk.injEq, List.cons.injEq, Value.int.injEq, Int.natCast_inj, true_and, and_true] at h
  obtain ⟨rfl, rfl, rfl, rfl, rfl, rfl, rfl, rfl, rfl⟩ := h
  rfl
theorem sizeAt_eq {w : World} {B : Nat} {b : Bs} (h : w.heap[B]? = some (boxB b.pass b.fail b.g)) : sizeAt w B = size b := by
  unfold sizeAt
  have hx : ∃ b : Bs, w.heap[B]? = some (boxB b.pass b.fail b.g) := ⟨b, h⟩
  rw [dif_pos hx]
  have h2 := Classical.choose_spec hx
  have h3 := h.symm.trans h2
  injection h3 with h3
  rw [← boxB_inj h3]
theorem nats_range {w : World} {B n : Nat} {v : Value} (h : Go.Il.Own 3 .i64 B w v ((List.range n).map Int.ofNat)) (hn : n ≤ 256) : Nats w v (List.range n) := by
  obtain ⟨oa, cap, rfl, hc⟩ := h.at
  refine ⟨oa, cap, by simp, by simp; omega, fun i hi => ?_⟩
  obtain ⟨g, e, hx⟩ := hc i (by simpa using hi)
  exact ⟨g, 0, e, by rw [Nat.zero_add, hx]; simp⟩
theorem keepsM_of {m g u : Nat} {W w w' : World} (h : KeepsM m g W w) (k : KeepsB m g u w w') (hu : W.heap.size ≤ u) : KeepsM m g W w' :=
  ⟨h.below.trans k.below, fun i hi h1 h2 => (k.kept i (Nat.lt_of_lt_of_le hi h.below.size) h1 h2 (by omega)).trans (h.kept i hi h1 h2)⟩

set_option maxHeartbeats 16000000 in
theorem diff1 {B g m c : Nat} {W : World} {n : Nat} {l : List Int} (hS : SBox W g m l []) (hc : W.cell? ⟨c, 0, none⟩ = some (.int .i64 (n : Int))) (hn : n ≤ 256) (hB : B ≤ W.heap.size) :
    Calls Try.prog 115 #[.pointer (some ⟨g, 0, none⟩), .pointer (some ⟨c, 0, none⟩)] W fun e w' => ∃ res, res = play (diff n) l [] ∧ Comes B g m W res e w' := by
  have HN := hide hn
  have HBB := hide hB
  have HMG := hide hS.lt
  have HGW := hide hS.gt
  have hB0 := (Below.refl W.heap.size W).alloc (Nat.le_refl _) (boxQ false nilV nilV nilV)
  have HB0 := hide hB0
  have HS0 := hide (hS.old hB0)
  have c0 := cell_old hB0 hc
  have HR0 := hide (new_block W (boxQ false nilV nilV nilV))
  clear hB0 hc hn hB hS
  go_enter Try.func115, Try.ntmps115
  go_wp2_with fail
  (with_reducible refine (untilProg (n := n) (by have := HN.out; omega)).mono ?_)
  rintro e w1 ⟨v1, rfl, hB1, hO1⟩
  obtain ⟨o1, c1, rfl⟩ := Go.Il.Own.form hO1
  have hN2 := nats_range hO1 HN.out
  rw [List.length_map, List.length_range] at hN2
  have HNA := hide hN2
  have HB1 := hide (HB0.out.trans (hB1.mono HB0.out.size))
  have HBX := hide hB1
  simp only [List.length_map, List.length_range]
  clear hB1 hO1 hN2
  go_wp2_with fail
  (with_reducible refine (setOfQ HNA.out (fun k hk => by have := List.mem_range.1 hk; have := HN.out; omega)).mono ?_)
  rintro e w2 ⟨rfl, hB2⟩
  have HB2 := hide (HB1.out.trans (hB2.mono HB1.out.size))
  have HBY := hide (HBX.out.trans (hB2.mono HBX.out.size))
  clear hB2 HNA HB1 HBX c0
  rw [allQ_among]
  go_wp2_with fail
  have hAB := (Below.refl w2.heap.size w2).alloc (Nat.le_refl _) (boxB zeroQ (allQ n) 2)
  have hYB := HBY.out.trans (hAB.mono HBY.out.size)
  have HU := hide (new_block w2 (boxB zeroQ (allQ n) 2))
  have HS3 := hide (HS0.out.old hYB)
  have HR3 := hide ((hYB.block _ (block_lt HR0.out)).trans HR0.out)
  have HB3 := hide (HB2.out.trans (hAB.mono HB2.out.size))
  have HWU : Hid (W.heap.size < w2.heap.size) := hide (by have := HBY.out.size; simp at this; omega)
  clear hAB hYB HB2 HBY HS0 HR0 HB0
  change Calls Try.prog 116 #[.pointer (some ⟨g, 0, none⟩), setV zeroQ.a zeroQ.b zeroQ.c zeroQ.d] (w2.alloc (boxB zeroQ (allQ n) 2)) _
  generalize w2.alloc (boxB zeroQ (allQ n) 2) = W1 at *
  generalize w2.heap.size = u at *
  have HK1 : Hid (KeepsM m g W W1) := hide (KeepsM.of_below (by have := HMG.out; have := HGW.out; omega) HB3.out)
  (with_reducible refine (passesS HS3.out zero_ok).mono ?_)
  rintro e w3 ha
  rcases asked_play ha with ⟨rfl, hk, hpl⟩ | ⟨x, l1, T1, rfl, hk, hs, hpl⟩
  · have HK := hide (HK1.out.trans hk)
    have HP := hide (hpl fun v => if v = 1 then .ask (allQ n) fun v => if v = 2 then diffT 70000 ⟨zeroQ, allQ n, 2⟩ else .err 7 else .err 7)
    clear ha hk hpl
    unfold asks4
    go_wp2_with fail
    exact ⟨rfl, _, HP.out.symm, _, _, _, _, rfl, sp_mem zero_ok, HK.out⟩
  have HK2 := hide (HK1.out.trans hk)
  have HP2 : Hid (play (diff n) l [] = _) := hide (hpl fun v => if v = 1 then .ask (allQ n) fun v => if v = 2 then diffT 70000 ⟨zeroQ, allQ n, 2⟩ else .err 7 else .err 7)
  have HS2 := hide hs
  have HU2 := hide (keepsM_block hk (by have := HWU.out; have := HMG.out; have := HGW.out; omega) (by have := HWU.out; have := HGW.out; omega) HU.out)
  have HR2 := hide (keepsM_block hk (by have := HMG.out; have := HGW.out; omega) (by have := HGW.out; omega) HR3.out)
  clear ha hk hpl hs HU HR3 HS3 HB3 HK1
  rcases (Decidable.em (x = 1)).symm with hx | hx
  · have d1 : (x == (1 : Int)) = false := beq_false_of_ne hx
    have HP3 : Hid (play (diff n) l [] = .err 7) := hide (by rw [HP2.out]; simp only [if_neg hx]; rfl)
    clear hx HP2
    obtain ⟨q0, q1, q2, q3⟩ := q_cells HR2.out
    have s0 := Bi.frozen_of HR2.out 0
    have s1 := Bi.frozen_of HR2.out 1
    have s2 := Bi.frozen_of HR2.out 2
    have s3 := Bi.frozen_of HR2.out 3
    go_wp2_with fail
    refine final8 (X := putQ w3 W.heap.size false nilV nilV nilV) rfl ?_
    have HP9 := hide (putQ_block (e := false) (b := nilV) (l := nilV) (q := nilV) HR2.out)
    have HK9 := hide (keepsM_put (d := false) (a := nilV) (k := nilV) (p := nilV) (by have := HMG.out; have := HGW.out; omega) HK2.out (Nat.le_refl W.heap.size))
    generalize putQ w3 W.heap.size false nilV nilV nilV = X at *
    obtain ⟨y0, y1, y2, y3⟩ := q_cells HP9.out
    refine bodyPost_ret (v := .tuple #[questV false nilV nilV nilV, .int .i64 7]) (by simp [results, Try.results115, go_sem, y0, y1, y2, y3]) rfl ?_
    exact ⟨_, HP3.out.symm, rfl, by decide, HK9.out⟩
  have d1 : (x == (1 : Int)) = true := by simp [hx]
  have HP3 : Hid (play (diff n) l [] = play (.ask (allQ n) fun v => if v = 2 then diffT 70000 ⟨zeroQ, allQ n, 2⟩ else .err 7) l1 T1) := hide (by rw [HP2.out]; simp only [if_pos hx])
  clear hx HP2
  obtain ⟨⟨x0, x1, x2, x3⟩, ⟨x4, x5, x6, x7⟩, x8⟩ := b_cells HU2.out
  go_wp2_with fail
  (with_reducible refine (failsS HS2.out (small_all (n := n)).ok).mono ?_)
  rintro e w4 ha
  rcases asked_play ha with ⟨rfl, hk, hpl⟩ | ⟨y, l2, T2, rfl, hk, hs, hpl⟩
  · have HK := hide (HK2.out.trans hk)
    have HP := hide (HP3.out.trans (hpl _))
    clear ha hk hpl
    unfold asks4
    go_wp2_with fail
    exact ⟨rfl, _, HP.out.symm, _, _, _, _, rfl, sp_mem (small_all (n := n)).ok, HK.out⟩
  have HK3 := hide (HK2.out.trans hk)
  have HP4 := hide (HP3.out.trans (hpl _))
  have HS3 := hide hs
  have HU3 := hide (keepsM_block hk (by have := HWU.out; have := HMG.out; have := HGW.out; omega) (by have := HWU.out; have := HGW.out; omega) HU2.out)
  have HR3 := hide (keepsM_block hk (by have := HMG.out; have := HGW.out; omega) (by have := HGW.out; omega) HR2.out)
  clear ha hk hpl hs HU2 HR2 HS2 HK2 HP3 x0 x1 x2 x3 x4 x5 x6 x7 x8
  rcases (Decidable.em (y = 2)).symm with hy | hy
  · have d2 : (y == (2 : Int)) = false := beq_false_of_ne hy
    have HP5 : Hid (play (diff n) l [] = .err 7) := hide (by rw [HP4.out]; simp only [if_neg hy]; rfl)
    clear hy HP4
    obtain ⟨q0, q1, q2, q3⟩ := q_cells HR3.out
    have s0 := Bi.frozen_of HR3.out 0
    have s1 := Bi.frozen_of HR3.out 1
    have s2 := Bi.frozen_of HR3.out 2
    have s3 := Bi.frozen_of HR3.out 3
    go_wp2_with fail
    refine final8 (X := putQ w4 W.heap.size false nilV nilV nilV) rfl ?_
    have HP9 := hide (putQ_block (e := false) (b := nilV) (l := nilV) (q := nilV) HR3.out)
    have HK9 := hide (keepsM_put (d := false) (a := nilV) (k := nilV) (p := nilV) (by have := HMG.out; have := HGW.out; omega) HK3.out (Nat.le_refl W.heap.size))
    generalize putQ w4 W.heap.size false nilV nilV nilV = X at *
    obtain ⟨y0, y1, y2, y3⟩ := q_cells HP9.out
    refine bodyPost_ret (v := .tuple #[questV false nilV nilV nilV, .int .i64 7]) (by simp [results, Try.results115, go_sem, y0, y1, y2, y3]) rfl ?_
    exact ⟨_, HP5.out.symm, rfl, by decide, HK9.out⟩
  have d2 : (y == (2 : Int)) = true := by simp [hy]
  have HP5 : Hid (play (diff n) l [] = play (diffT 70000 ⟨zeroQ, allQ n, 2⟩) l2 T2) := hide (by rw [HP4.out]; simp only [if_pos hy])
  clear hy HP4
  go_wp2_with fail
  have HZ := hide HK3.out.below.size
  go_loopw [24] (fun s24 wr => ∃ (b : Bs) (f : Nat) (l' : List Int) (T' : List (Q4 × Int)), Hid (Fit n b) ∧ Hid (size b < f) ∧ Hid (play (diff n) l [] = play (diffT f b) l' T') ∧ Hid (SBox wr g m l' T') ∧ Hid (wr.heap[u]? = some (boxB b.pass b.fail b.g)) ∧ Hid (KeepsB m g u w4 wr)) (fun s24 wr => sizeAt wr u)
  case atStart => exact ⟨⟨zeroQ, allQ n, 2⟩, 70000, l2, T2, hide (fit_start n), hide (size_le (fit_start n)), HP5, HS3, HU3, hide (KeepsB.refl _ _ _ _)⟩
  case round =>
    obtain ⟨b, f, l', T', HF, HSF, HPL, HSB, HUB, HKB⟩ := hrel
    obtain ⟨f, rfl⟩ : ∃ f', f = f' + 1 := ⟨f - 1, by have := HSF.out; omega⟩
    go_wp2_with fail
    (with_reducible refine (narrowS (n := n) HSB.out HUB.out (by have := HWU.out; have := HMG.out; have := HGW.out; omega) (by have := HWU.out; have := HGW.out; omega) HF.out).mono ?_)
    rintro e w5 (⟨q, rfl, hq, hp, hk⟩ | ⟨b', l3, T3, rfl, hf, hsz, hp, hs, hu, hk⟩ | ⟨h, l3, T3, rfl, hp, hs, hu, hk⟩)
    · have HK := hide (HKB.out.trans hk)
      have HQ := hide hq
      have HP := hide (HPL.out.trans (hp f))
      clear hq hp hk
      unfold asks4
      go_wp2_with fail
      exact ⟨rfl, _, HP.out.symm, _, _, _, _, rfl, sp_mem HQ.out, keepsM_of HK3.out HK.out (Nat.le_of_lt HWU.out)⟩
    · have HK := hide (HKB.out.trans hk)
      have HF' := hide hf
      have HSZ' := hide hsz
      have HP := hide (HPL.out.trans (hp f))
      have HS' := hide hs
      have HU' := hide hu
      clear hf hsz hp hs hu hk
      go_wp2_with fail
      exact ⟨⟨b', f, l3, T3, HF', hide (by have := HSZ'.out; have := HSF.out; omega), HP, HS', HU', HK⟩, by rw [sizeAt_eq HU'.out, sizeAt_eq HUB.out]; exact HSZ'.out⟩
    · have HK := hide (HKB.out.trans hk)
      have HP := hide (HPL.out.trans (hp f))
      have HS4 := hide hs
      have HU4 := hide hu
      have HR4 := hide ((HKB.out.trans hk).same HR3.out (by have := HMG.out; have := HGW.out; omega) (by have := HGW.out; omega) (by have := HWU.out; omega))
      have HWS : Hid (B ≤ w5.heap.size ∧ W.heap.size ≤ w5.heap.size) := hide (by have := HBB.out; have := HK3.out.below.size; have := (HKB.out.trans hk).below.size; omega)
      have hbu := block_lt hu
      have hbr := block_lt HR4.out
      clear hp hs hu hk
      go_upto_region 5 with (fail)
      refine wp_region_held_drew (S := fun w' => Hid (w'.heap[u]? = some (boxB b.pass b.fail h))) (by kernel_rfl) HU4 (fun hHeld => ?_)
      refine takeAt (i := 0) (d := some 25) (v := .pointer (some ⟨u, 0, none⟩)) rfl rfl (by kernel_rfl) (by kernel_rfl) (by kernel_rfl) (fun _ _ _ h => h) (Or.inl ⟨by rfl, fun w _ => by go_simp⟩) hHeld ?_
      simp only [Act.put, List.setIfInBounds_toArray, List.set_cons_zero, List.set_cons_succ]
      refine takeAt (i := 1) (d := some 26) (v := setV b.pass.a b.pass.b b.pass.c b.pass.d) rfl rfl (by kernel_rfl) (by kernel_rfl) (by kernel_rfl) (fun _ _ _ h => h) (Or.inl ⟨by rfl, fun w hS => by obtain ⟨⟨x0, x1, x2, x3⟩, ⟨x4, x5, x6, x7⟩, x8⟩ := b_cells hS.out; go_simp⟩) hHeld ?_
      simp only [Act.put, List.setIfInBounds_toArray, List.set_cons_zero, List.set_cons_succ]
      refine takeAt (i := 3) (d := some 28) (v := .pointer (some ⟨u, 4, none⟩)) rfl rfl (by kernel_rfl) (by kernel_rfl) (by kernel_rfl) (fun _ _ _ h => h) (Or.inl ⟨by rfl, fun w _ => by go_simp⟩) hHeld ?_
      simp only [Act.put, List.setIfInBounds_toArray, List.set_cons_zero, List.set_cons_succ]
      refine takeAt (i := 4) (d := some 29) (v := setV b.fail.a b.fail.b b.fail.c b.fail.d) rfl rfl (by kernel_rfl) (by kernel_rfl) (by kernel_rfl) (fun _ _ _ h => h) (Or.inl ⟨by rfl, fun w hS => by obtain ⟨⟨x0, x1, x2, x3⟩, ⟨x4, x5, x6, x7⟩, x8⟩ := b_cells hS.out; go_simp⟩) hHeld ?_
      simp only [Act.put, List.setIfInBounds_toArray, List.set_cons_zero, List.set_cons_succ]
      refine wpAnyH_ready (rs := [2]) (by kernel_rfl) (by simp) ?_
      refine AllReadyH.cons rfl (fun K0 hK => ?_) AllReadyH.nil
      go_simp
      go_at_call 79
      (with_reducible refine (listProg (sp_mem HF.out.pass)).mono ?_)
      rintro e v5 ⟨vp, rfl, hB5, hO5⟩
      obtain ⟨op, cp, rfl⟩ := Go.Il.Own.form hO5
      have HB5 := hide ((Below.drew (Below.refl w5.heap.size w5)).trans hB5)
      have HH5 : Hid (v5.heap[u]? = some (boxB b.pass b.fail h)) := hide ((HB5.out.block _ (block_lt HU4.out)).trans HU4.out)
      have HO5 := hide hO5
      clear hB5 hO5
      refine hK.out _ _ HH5 (fun hHeld => ?_)
      clear hK K0
      try simp only [Act.put, List.setIfInBounds_toArray, List.set_cons_zero, List.set_cons_succ]
      refine wpAnyH_ready (rs := [5]) (by kernel_rfl) (by simp) ?_
      refine AllReadyH.cons rfl (fun K0 hK => ?_) AllReadyH.nil
      go_simp
      go_at_call 79
      (with_reducible refine (listProg (sp_mem HF.out.fail.ok)).mono ?_)
      rintro e v6 ⟨vf, rfl, hB6, hO6⟩
      obtain ⟨of, cf, rfl⟩ := Go.Il.Own.form hO6
      have HB6 := hide (HB5.out.trans (hB6.mono HB5.out.size))
      have HH6 : Hid (v6.heap[u]? = some (boxB b.pass b.fail h)) := hide ((HB6.out.block _ (block_lt HU4.out)).trans HU4.out)
      have HO6 := hide (own_mono (B' := B) (by have := HB5.out.size; have := HWS.out; omega) hO6)
      have HO5' := hide (own_mono (B' := B) (by have := HWS.out; show B ≤ w5.heap.size; omega) (own_up HO5.out hB6))
      have HR6 := hide ((HB6.out.block _ (block_lt HR4.out)).trans HR4.out)
      have HK6 := hide (keepsM_of HK3.out (HK.out.trans (KeepsB.of_below (by have := HMG.out; have := HGW.out; have := HWS.out; omega) HB6.out)) (Nat.le_of_lt HWU.out))
      have HS6 := hide (HS4.out.old HB6.out)
      clear hB6 hO6
      refine hK.out _ _ HH6 (fun hHeld => ?_)
      clear hK K0
      try simp only [Act.put, List.setIfInBounds_toArray, List.set_cons_zero, List.set_cons_succ]
      refine wpAnyH_ready (rs := [6]) (by kernel_rfl) (by simp) ?_
      refine AllReadyH.cons rfl (fun K0 hK => ?_) AllReadyH.nil
      go_simp
      refine hK.out _ _ HH6 (fun hHeld => ?_)
      clear hK K0
      try simp only [Act.put, List.setIfInBounds_toArray, List.set_cons_zero, List.set_cons_succ]
      refine wpAnyH_ready (rs := [7]) (by kernel_rfl) (by simp) ?_
      refine AllReadyH.cons rfl (fun K0 hK => ?_) AllReadyH.nil
      obtain ⟨q0, q1, q2, q3⟩ := q_cells HR6.out
      have s0 := Bi.frozen_of HR6.out 0
      have s1 := Bi.frozen_of HR6.out 1
      have s2 := Bi.frozen_of HR6.out 2
      have s3 := Bi.frozen_of HR6.out 3
      have hbR := block_lt HR6.out
      go_simp
      show K0 _ (putQ v6 W.heap.size true nilV (.slice of (upTo (memQ b.fail) 256).length cf) (.slice op (upTo (memQ b.pass) 256).length cp))
      have HH7 : Hid ((putQ v6 W.heap.size true nilV (.slice of (upTo (memQ b.fail) 256).length cf) (.slice op (upTo (memQ b.pass) 256).length cp)).heap[u]? = some (boxB b.pass b.fail h)) := hide ((putQ_other (by have := HWU.out; omega)).trans HH6.out)
      have HP7 := hide (putQ_block (e := true) (b := nilV) (l := .slice of (upTo (memQ b.fail) 256).length cf) (q := .slice op (upTo (memQ b.pass) 256).length cp) HR6.out)
      have HK7 := hide (keepsM_put (d := true) (a := nilV) (k := .slice of (upTo (memQ b.fail) 256).length cf) (p := .slice op (upTo (memQ b.pass) 256).length cp) (by have := HMG.out; have := HGW.out; omega) HK6.out (Nat.le_refl W.heap.size))
      have HS7 := hide (sbox_put (d := true) (a := nilV) (k := .slice of (upTo (memQ b.fail) 256).length cf) (p := .slice op (upTo (memQ b.pass) 256).length cp) HS6.out HGW.out)
      have HOF := hide (own_putQ (d := true) (a := nilV) (k := .slice of (upTo (memQ b.fail) 256).length cf) (p := .slice op (upTo (memQ b.pass) 256).length cp) HO6.out HR6.out)
      have HOP := hide (own_putQ (d := true) (a := nilV) (k := .slice of (upTo (memQ b.fail) 256).length cf) (p := .slice op (upTo (memQ b.pass) 256).length cp) HO5'.out HR6.out)
      clear q0 q1 q2 q3 s0 s1 s2 s3 hbR
      generalize putQ v6 W.heap.size true nilV (.slice of (upTo (memQ b.fail) 256).length cf) (.slice op (upTo (memQ b.pass) 256).length cp) = X at *
      refine hK.out _ _ HH7 (fun hHeld => ?_)
      clear hK K0
      try simp only [Act.put, List.setIfInBounds_toArray, List.set_cons_zero, List.set_cons_succ]
      refine wpAnyH_ready (rs := [8]) (by kernel_rfl) (by simp) ?_
      refine AllReadyH.cons rfl (fun K0 hK => ?_) AllReadyH.nil
      go_simp
      refine hK.out _ _ HH7 (fun hHeld => ?_)
      clear hK K0
      try simp only [Act.put, List.setIfInBounds_toArray, List.set_cons_zero, List.set_cons_succ]
      refine wpAnyH_done (by kernel_rfl) ?_ _
      obtain ⟨y0, y1, y2, y3⟩ := q_cells HP7.out
      go_wp2_with fail
      refine bodyPost_ret (v := .tuple #[questV true nilV (.slice of (upTo (memQ b.fail) 256).length cf) (.slice op (upTo (memQ b.pass) 256).length cp), .int .i64 0]) (by simp [results, Try.results115, go_sem, y0, y1, y2, y3]) rfl ?_
      exact ⟨.fin (upTo (memQ b.fail) 256) (upTo (memQ b.pass) 256) l3, HP.out.symm, _, _, _, rfl, HOF.out, HOP.out, HK7.out, HS7.out⟩
end Go.Proofs.Ytmkapmbmgpnjaaa.Se

set_option maxRecDepth 100000
set_option linter.unusedSimpArgs false
set_option linter.unusedVariables false
namespace Go.Proofs.Ytmkapmbmgpnjaaa.Se
open Go Go.Ms Go.Pg Go.Bi Go.Se Go.ChangeShapes Go.WideShapes Go.ChangeAt Go.RowKit Go.Deep Go.Proofs.Ytmkapmbmgpnjaaa.Bi

theorem enters115 (args : Array Value) (W : World) : (callFunc 115 args).run Try.prog W = .ok (.enter 115 args) W := by
  simp [callFunc, go_sem, Try.func115]
  rfl
set_option maxHeartbeats 8000000 in
theorem diffProg {w : World} {an : Value} {z : Int} {n : Nat} {l : List Int} (hz : z ≤ 256) (hn : max z 0 = (n : Int)) (ha : Vs w w.heap.size an l) (hl : l.length ≤ 4096) (hwf : ∀ x ∈ l, 0 ≤ x ∧ x < 256) :
    Calls Try.prog 54 #[.int .i64 z, an] w fun e w' => ∃ res, res = play (diff n) l [] ∧ Gives w.heap.size w' res e ∧ Below w.heap.size w w' := by
  have hB0 := ((Below.refl w.heap.size w).alloc (Nat.le_refl _) (box1 (.int .i64 n) 3)).alloc (by simp) (boxQ false nilV nilV nilV)
  have HB0 := hide hB0
  have HBX : Hid (((w.alloc (box1 (.int .i64 n) 3)).alloc (boxQ false nilV nilV nilV)).heap[w.heap.size]? = some (box1 (.int .i64 n) 3)) := hide (old_block (new_block w _) _)
  have HR0 : Hid (((w.alloc (box1 (.int .i64 n) 3)).alloc (boxQ false nilV nilV nilV)).heap[w.heap.size + 1]? = some (boxQ false nilV nilV nilV)) := hide (alloc_at (by simp))
  have hsz : ((w.alloc (box1 (.int .i64 n) 3)).alloc (boxQ false nilV nilV nilV)).heap.size = w.heap.size + 2 := by simp
  have HSZ := hide hsz
  have HVA := hide ha
  have x0 := cell_of HBX.out 0
  have HIT := hide (fun W => itemsProg (w := W) hz hn)
  have HL := hide hl
  have HWF := hide hwf
  have HNN : Hid (n ≤ 256) := hide (by omega)
  have hmf : ∀ (fn : Fn) (first cap : Array Value) (w : World), (Instr.makeFunc fn first cap).run Try.prog w = .ok (.func fn first cap) w := fun _ _ _ _ => rfl
  obtain ⟨oan, capn, rfl, -, -, -⟩ := ha
  clear hB0 hl hwf hz hn hsz
  go_enter Try.func54, Try.ntmps54
  go_wp2_with fail
  (with_reducible refine (HIT.out _).mono ?_)
  rintro e w1 ⟨rfl, rfl⟩
  clear HIT
  go_wp2_with fail
  change Calls Try.prog 74 _ ((w.alloc (box1 (.int .i64 n) 3)).alloc (boxQ false nilV nilV nilV)) _
  generalize (w.alloc (box1 (.int .i64 n) 3)).alloc (boxQ false nilV nilV nilV) = W at *
  have HSR := hide (searchS (w := W) (fn := 115) (caps := #[.pointer (some ⟨w.heap.size, 0, none⟩)]) (R := fun res => res = play (diff n) l []) (vs_self HVA.out HB0.out) HL.out HWF.out enters115 fun g m W2 hW2 hm hs => by
    have hxW : W2.cell? ⟨w.heap.size, 0, none⟩ = some (.int .i64 (n : Int)) := cell_old hW2 x0
    exact diff1 hs hxW HNN.out (by have := hs.gt; have := hs.lt; omega))
  (with_reducible refine HSR.out.mono ?_)
  rintro e w1 ⟨res, hres, ho, hB⟩
  have HRES := hide hres
  obtain ⟨dd, oa1, na, ca, ok, nk, ck, op, np, cp, x, rfl, hkeep⟩ := gives_form ho
  have HKP := hide hkeep
  have HB1 := hide (HB0.out.trans (hB.mono HB0.out.size))
  have HR := hide ((hB.block _ (block_lt HR0.out)).trans HR0.out)
  have hws : w.heap.size ≤ W.heap.size := HB0.out.size
  clear hres ho hkeep hB x0
  obtain ⟨q0, q1, q2, q3⟩ := q_cells HR.out
  have s0 := Bi.frozen_of HR.out 0
  have s1 := Bi.frozen_of HR.out 1
  have s2 := Bi.frozen_of HR.out 2
  have s3 := Bi.frozen_of HR.out 3
  go_wp2_with fail
  refine final8 (X := putQ w1 (w.heap.size + 1) dd (.slice oa1 na ca) (.slice ok nk ck) (.slice op np cp)) rfl ?_
  have HP := hide (putQ_block (e := dd) (b := .slice oa1 na ca) (l := .slice ok nk ck) (q := .slice op np cp) HR.out)
  have HQ := hide (putQ_below (d := dd) (a := .slice oa1 na ca) (l := .slice ok nk ck) (p := .slice op np cp) HB1.out (B := w.heap.size + 1) (by omega))
  have HO := hide (gives_low hws (HKP.out (putQ w1 (w.heap.size + 1) dd (.slice oa1 na ca) (.slice ok nk ck) (.slice op np cp)) fun b cs hh => putQ_other (fun e => by subst e; rw [HR.out] at hh; injection hh with hh; injection hh with _ ht; cases ht)))
  clear HKP
  generalize putQ w1 (w.heap.size + 1) dd (.slice oa1 na ca) (.slice ok nk ck) (.slice op np cp) = X at *
  obtain ⟨x0, x1, x2, x3⟩ := q_cells HP.out
  refine bodyPost_ret (v := .tuple #[questV dd (.slice oa1 na ca) (.slice ok nk ck) (.slice op np cp), .int .i64 x]) (by simp [results, Try.results54, go_sem, x0, x1, x2, x3]) rfl ?_
  exact ⟨res, HRES.out, HO.out, HQ.out⟩
end Go.Proofs.Ytmkapmbmgpnjaaa.Se

set_option maxRecDepth 100000
set_option linter.unusedSimpArgs false
set_option linter.unusedVariables false
namespace Go.Proofs.Ytmkapmbmgpnjaaa.Se
open Go Go.Ms Go.Pg Go.Bi Go.Se Go.ChangeShapes Go.WideShapes Go.ChangeAt Go.RowKit Go.Deep Go.Proofs.Ytmkapmbmgpnjaaa.Bi

/-! What the law asks the program. -/
set_option maxHeartbeats 8000000 in
theorem askDiff {w : World} {an : Value} {z st : Int} {n : Nat} {l : List Int} (hz : z ≤ 256) (hn : max z 0 = (n : Int)) (ha : Vs w w.heap.size an l) (hl : l.length ≤ 4096) (hwf : ∀ x ∈ l, 0 ≤ x ∧ x < 256) :
    Calls Try.prog 46 #[.int .u8 2, .int .i64 z, .int .i64 st, an] w fun e w' => ∃ res, res = play (diff n) l [] ∧ Gives w.heap.size w' res e ∧ Below w.heap.size w w' := by
  have hB0 := (Below.refl w.heap.size w).alloc (Nat.le_refl _) (boxQ false nilV nilV nilV)
  have HB0 := hide hB0
  have HR0 := hide (new_block w (boxQ false nilV nilV nilV))
  have hsz : (w.alloc (boxQ false nilV nilV nilV)).heap.size = w.heap.size + 1 := by simp
  have HSZ := hide hsz
  have HD := hide (diffProg (w := w.alloc (boxQ false nilV nilV nilV)) hz hn (vs_self ha hB0) hl hwf)
  obtain ⟨oan, capn, rfl, -, -, -⟩ := ha
  clear hB0 hl hwf hz hn hsz
  go_enter Try.func46, Try.ntmps46
  go_wp2_with fail
  (with_reducible refine HD.out.mono ?_)
  rintro e w1 ⟨res, hres, ho, hB⟩
  have HRES := hide hres
  obtain ⟨dd, oa1, na, ca, ok, nk, ck, op, np, cp, x, rfl, hkeep⟩ := gives_form ho
  have HKP := hide hkeep
  have HB1 := hide (HB0.out.trans (hB.mono HB0.out.size))
  have HR := hide ((hB.block _ (block_lt HR0.out)).trans HR0.out)
  have hws : w.heap.size ≤ (w.alloc (boxQ false nilV nilV nilV)).heap.size := HB0.out.size
  clear hres ho hkeep hB HD
  obtain ⟨q0, q1, q2, q3⟩ := q_cells HR.out
  have s0 := Bi.frozen_of HR.out 0
  have s1 := Bi.frozen_of HR.out 1
  have s2 := Bi.frozen_of HR.out 2
  have s3 := Bi.frozen_of HR.out 3
  go_wp2_with fail
  refine final8 (X := putQ w1 w.heap.size dd (.slice oa1 na ca) (.slice ok nk ck) (.slice op np cp)) rfl ?_
  have HP := hide (putQ_block (e := dd) (b := .slice oa1 na ca) (l := .slice ok nk ck) (q := .slice op np cp) HR.out)
  have HQ := hide (putQ_below (d := dd) (a := .slice oa1 na ca) (l := .slice ok nk ck) (p := .slice op np cp) HB1.out (B := w.heap.size) (Nat.le_refl _))
  have HO := hide (gives_low hws (HKP.out (putQ w1 w.heap.size dd (.slice oa1 na ca) (.slice ok nk ck) (.slice op np cp)) fun b cs hh => putQ_other (fun e => by subst e; rw [HR.out] at hh; injection hh with hh; injection hh with _ ht; cases ht)))
  clear HKP
  generalize putQ w1 w.heap.size dd (.slice oa1 na ca) (.slice ok nk ck) (.slice op np cp) = X at *
  obtain ⟨x0, x1, x2, x3⟩ := q_cells HP.out
  refine bodyPost_ret (v := .tuple #[questV dd (.slice oa1 na ca) (.slice ok nk ck) (.slice op np cp), .int .i64 x]) (by simp [results, Try.results46, go_sem, x0, x1, x2, x3]) rfl ?_
  exact ⟨res, HRES.out, HO.out, HQ.out⟩
end Go.Proofs.Ytmkapmbmgpnjaaa.Se

