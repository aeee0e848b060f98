import Derived.Test.YtdpgcoicbagflaaReE
set_option maxRecDepth 100000
set_option linter.unusedSimpArgs false
set_option linter.unusedVariables false
namespace Go.Proofs.Ytdpgcoicbagflaa.Se
open Go Go.Ms Go.Pg Go.Bi Go.Se Go.ChangeShapes Go.WideShapes Go.ChangeAt Go.RowKit Go.Deep Go.Proofs.Ytdpgcoicbagflaa.Bi

theorem natsM_of {w : World} {v : Value} {l : List Int} (h : IntsW w v l) (hs : IsSet l 256) : ∃ xs : List Nat, l = ofN xs ∧ NatsM w w.heap.size v xs := by
  have e : l = ofN (l.map Int.toNat) := by
    apply List.ext_getElem
    · simp
    · intro i h1 h2
      have := (hs i h1 h1).1
      simp
      omega
  refine ⟨l.map Int.toNat, e, ?_⟩
  obtain ⟨oa, cap, rfl, hl, hc⟩ := h
  refine ⟨oa, cap, by simp, by simpa using hl, fun i hi => ?_⟩
  have hi2 : i < l.length := by simpa using hi
  obtain ⟨b, o, e2, hx⟩ := hc i hi2
  refine ⟨b, o, e2, Bi.cell_lt hx, ?_⟩
  have := (hs i hi2 hi2).1
  rw [hx]
  simp
  omega
theorem natsM_old {w w' : World} {v : Value} {xs : List Nat} (h : NatsM w w.heap.size v xs) (hB : Below w.heap.size w w') : NatsM w' w'.heap.size v xs := by
  obtain ⟨oa, cap, rfl, hl, hc⟩ := h
  exact ⟨oa, cap, rfl, hl, fun i hi => by
    obtain ⟨b, o, e, hb, hx⟩ := hc i hi
    exact ⟨b, o, e, Nat.lt_of_lt_of_le hb hB.size, (hB.cell (p := ⟨b, o + i, none⟩) hb).trans hx⟩⟩

set_option maxHeartbeats 16000000 in
theorem lawMain {w : World} {sn sb : Value} {o : Orc} {v : Value} {xs : List Nat} (h12 : xs.length ≤ 12) (ho : OrcAt w sn sb o) (hg : great o = false) (hv : NatsM w w.heap.size v xs) (hset : IsSet (ofN xs) 256) (hA : Awake) : YesR w #[orcV sn sb o, v] := by
  unfold YesR
  unfold Awake at hA
  have HAW := hide hA
  have HSM := hide (small_of hg)
  have hB0 := (Below.refl w.heap.size w).alloc (Nat.le_refl _) (boxO sn sb o)
  have HB0 := hide hB0
  have HO := hide (ho.old hB0)
  have HG := hide (greatRef HO.out)
  rw [hg] at HG
  have HV := hide (natsM_old hv hB0)
  have HSET := hide hset
  have HX := hide (new_block w (boxO sn sb o))
  have HX256 := hide (pairwise_of hset).2
  have HD := hide (pairwise_of hset).1
  have H12 := hide h12
  have x0 : (w.alloc (boxO sn sb o)).cell? ⟨w.heap.size, 0, none⟩ = some sn := cell_of HX.out 0
  have x1 : (w.alloc (boxO sn sb o)).cell? ⟨w.heap.size, 1, none⟩ = some sb := cell_of HX.out 1
  have x2 : (w.alloc (boxO sn sb o)).cell? ⟨w.heap.size, 2, none⟩ = some (.int .u64 (o.salt : Int)) := cell_of HX.out 2
  have x3 : (w.alloc (boxO sn sb o)).cell? ⟨w.heap.size, 3, none⟩ = some (.int .u8 (o.loose : Int)) := cell_of HX.out 3
  have HL := hide (natsM_old hv hB0).ints
  obtain ⟨oa, cap, rfl, hlen, -⟩ := hv
  have HLEN := hide hlen
  have t1 : decide ((12 : Int) < (xs.length : Int)) = false := decide_eq_false (by omega)
  have t2 : decide (12 < xs.length) = false := decide_eq_false (by omega)
  clear hB0 ho hg h12 hset hlen
  go_enter Try.func5, Try.ntmps5
  go_wp2_with fail
  (with_reducible refine HG.out.mono ?_)
  rintro e w1 ⟨rfl, hB1⟩
  have HB1 := hide (HB0.out.trans (hB1.mono HB0.out.size))
  have HO1 := hide (HO.out.old hB1)
  have HV1 := hide (natsM_old HV.out hB1)
  have HL1 := hide (ints_below HL.out hB1)
  have HX1 := hide ((hB1.block _ (block_lt HX.out)).trans HX.out)
  clear hB1 x0 x1 x2 x3
  go_wp2_with fail
  (with_reducible refine (setRef HL1.out).mono ?_)
  rintro e w2 ⟨r, rfl, hr, d, rfl⟩
  obtain rfl : r = true := hr.2 HSET.out
  clear hr
  go_wp2_with fail
  have HB2 : Hid (Below w.heap.size w (w1.drewN d)) := hide (HB1.out.trans (belowN _ _ d))
  have HO2 : Hid (OrcAt (w1.drewN d) sn sb o) := hide (HO1.out.old (belowN _ _ d))
  have HV2 : Hid (NatsM (w1.drewN d) (w1.drewN d).heap.size (.slice oa xs.length cap) xs) := hide (natsM_old HV1.out (belowN _ _ d))
  have HX2 : Hid ((w1.drewN d).heap[w.heap.size]? = some (boxO sn sb o)) := hide HX1.out
  clear HB1 HO1 HV1 HX1 HB0 HO HV HX HG HL HL1 t1 t2 HAW
  generalize w1.drewN d = W at *
  go_loopw [5, 6] (fun s5 s6 wr => ∃ (i : Nat) (l : List Int), i ≤ xs.length ∧ s6 = .int .i64 (i : Int) ∧ Go.Il.Own 33 .u8 W.heap.size wr s5 l ∧ l.length = i ∧ (∀ a ∈ l, a ≠ 2 ∧ 0 ≤ a ∧ a < 256) ∧ Below W.heap.size W wr) (fun _ s6 _ => xs.length - (intOf s6).toNat)
  case atStart => exact ⟨0, [], Nat.zero_le _, rfl, Go.Il.Own.nil _ _ _ _, rfl, fun a ha => by simp at ha, Below.refl _ _⟩
  case round =>
    obtain ⟨i, l, hi, rfl, hO, hli, hla, hB⟩ := hrel
    have HOW := hide hO
    have HLI := hide hli
    have HLA := hide hla
    have HB := hide hB
    have HBW := hide (HB2.out.trans (hB.mono HB2.out.size))
    have HVR := hide (natsM_old HV2.out hB)
    have HOR := hide (HO2.out.old hB)
    have HXR := hide ((hB.block _ (block_lt HX2.out)).trans HX2.out)
    have HVS := hide (vs_own hO (by have := H12.out; omega))
    have HL4 : Hid (l.length ≤ 4096) := hide (by have := H12.out; omega)
    have HWF : Hid (∀ x ∈ l, 0 ≤ x ∧ x < 256) := hide fun x hx => (hla x hx).2
    obtain ⟨o5, c5, rfl⟩ := Go.Il.Own.form hO
    have HREM := hide (rem_skip (all := xs) l xs [] (fun a ha => (hla a ha).1) (by omega))
    rw [List.append_nil, hli] at HREM
    clear hO hli hla hB
    by_cases hlt : i < xs.length
    · have hilt : (i : Int) < (xs.length : Int) := by omega
      have HLT := hide hlt
      have hwi : IntKind.i64.wrap ((i : Int) + 1) = (i : Int) + 1 := wrap_upW hlt HLEN.out
      rw [rem_asks hlt] at HREM
      obtain ⟨x, hx⟩ : ∃ x, x = xs[i] := ⟨_, rfl⟩
      have HXI := hide hx
      have HXK : Hid (∀ h, xs[i]'h = x) := hide fun _ => hx.symm
      have HXL : Hid (x < 256) := hide (by rw [hx]; exact HX256.out _ (List.getElem_mem hlt))
      have HLK := hide (lacks_list HX256.out HD.out x)
      have HSAYV := hide (say_value o (minus (ofN xs) [(x : Int)]))
      have HREM2 : Hid (rem xs xs l = .ask (lacks xs x)) := hide (by rw [HREM.out, hx]; rfl)
      clear HREM
      have HREM := HREM2
      clear HREM2
      obtain ⟨kb, ko, hoa, hkb, hkw⟩ : ∃ kb ko, oa = some ⟨kb, ko, none⟩ ∧ kb < W.heap.size ∧ W.cell? ⟨kb, ko + i, none⟩ = some (.int .i64 (x : Int)) := by
        obtain ⟨oa', cap', e1, -, hc⟩ := HV2.out
        injection e1 with e1 e2 e3
        subst e1
        obtain ⟨b, oo, e, hb, hcell⟩ := hc i hlt
        exact ⟨b, oo, e, hb, by rw [hcell, hx]; rfl⟩
      have HKB := hide hkb
      have HKW := hide hkw
      have hkc : wr.cell? ⟨kb, ko + i, none⟩ = some (.int .i64 (x : Int)) := (HB.out.cell (p := ⟨kb, ko + i, none⟩) hkb).trans hkw
      subst hoa
      have HKC := hide hkc
      clear hx hlt hkc hkb hkw
      go_wp2_with fail
      (with_reducible refine (removableProg HVR.out HSET.out HVS.out HL4.out HWF.out).mono ?_)
      rintro e w3 ⟨res, rfl, ho, hB3⟩
      rw [HREM.out] at ho
      obtain ⟨s, rfl, hs⟩ := ho
      rw [HLK.out] at hs
      obtain ⟨os, cs, rfl⟩ := Go.Il.Own.form hs
      have hA3 := (Below.refl w3.heap.size w3).alloc (Nat.le_refl _) (boxQ false (.slice os (minus (ofN xs) [(x : Int)]).length cs) nilV nilV)
      have hW3 := hB3.trans (hA3.mono hB3.size)
      have HW3 := hide hW3
      have HQ3 := hide (new_block w3 (boxQ false (.slice os (minus (ofN xs) [(x : Int)]).length cs) nilV nilV))
      have HS3 := hide (ints_own (own_up hs hA3) (by have := minus_length (ofN xs) [(x : Int)]; have := H12.out; simp at *; omega))
      have HV3 := hide (natsM_old HVR.out hW3)
      have hkc3 := cell_old hW3 HKC.out
      obtain ⟨q0, q1, q2, q3⟩ := q_cells HQ3.out
      generalize hmn : minus (ofN xs) [(x : Int)] = mn at *
      have HMN := hide hmn
      have HML : Hid (mn.length ≤ 100000) := hide (by rw [← hmn]; have := minus_length (ofN xs) [(x : Int)]; have := H12.out; simp at *; omega)
      have hbQ := block_lt HQ3.out
      clear hA3 hW3 hs hmn
      have hA4 := (Below.refl _ _).alloc (Nat.le_refl (w3.alloc (boxQ false (.slice os mn.length cs) nilV nilV)).heap.size) (.cells #[.int .i64 (x : Int)] 3)
      have HI1 := hide (ints_below HV3.out.ints hA4)
      have HI2 : Hid (IntsW ((w3.alloc (boxQ false (.slice os mn.length cs) nilV nilV)).alloc (.cells #[.int .i64 (x : Int)] 3)) (.slice (some ⟨w3.heap.size + 1, 0, none⟩) 1 1) [(x : Int)]) := hide (ints_own (own_built (B := 0) (alloc_at (by simp)) (Nat.zero_le _)) (by simp))
      have HA4 := hide hA4
      clear hA4
      go_wp2_with fail
      (with_reducible refine (minusRef HI1.out HI2.out (by have := H12.out; simp; omega)).mono ?_)
      rintro e w4 ⟨r, rfl, hr, hB4⟩
      rw [HMN.out] at hr
      have hW4 := HA4.out.trans (hB4.mono HA4.out.size)
      have HW4 := hide hW4
      have HR4 := hide (ints_own hr (by have := HML.out; omega))
      have HS4 := hide (ints_below HS3.out hW4)
      have HQ4 := hide ((hW4.block _ hbQ).trans HQ3.out)
      obtain ⟨or, cr, hrf⟩ := Go.Il.Own.form hr
      subst hrf
      clear hr hB4 hW4 q0 q1 q2 q3 HI1 HI2 HA4
      obtain ⟨q0, q1, q2, q3⟩ := q_cells HQ4.out
      go_wp2_with fail
      (with_reducible refine (intsSame17 HS4.out HR4.out).mono ?_)
      rintro e w5 ⟨rfl, d5, rfl⟩
      have HW5 : Hid (Below wr.heap.size wr (w4.drewN d5)) := hide ((HW3.out.trans (HW4.out.mono HW3.out.size)).trans (belowN _ _ _))
      have HQ5 : Hid ((w4.drewN d5).heap[w3.heap.size]? = some (boxQ false (.slice os mn.length cs) nilV nilV)) := hide HQ4.out
      have HR5 : Hid (IntsW (w4.drewN d5) (.slice or mn.length cr) mn) := hide (ints_drewN HR4.out d5)
      have HQO : Hid (w3.heap.size < (w4.drewN d5).heap.size) := hide (block_lt HQ5.out)
      have HWQ : Hid (wr.heap.size ≤ w3.heap.size) := hide hB3.size
      clear q0 q1 q2 q3 HQ4 HR4 HS4 HW4 HW3 HQ3 HS3 HV3 hkc3 hbQ hB3
      generalize w4.drewN d5 = W5 at *
      have HO5 := hide (HOR.out.old HW5.out)
      have hx5 := (HW5.out.block _ (block_lt HXR.out)).trans HXR.out
      have x0 : W5.cell? ⟨w.heap.size, 0, none⟩ = some sn := cell_of hx5 0
      have x1 : W5.cell? ⟨w.heap.size, 1, none⟩ = some sb := cell_of hx5 1
      have x2 : W5.cell? ⟨w.heap.size, 2, none⟩ = some (.int .u64 (o.salt : Int)) := cell_of hx5 2
      have x3 : W5.cell? ⟨w.heap.size, 3, none⟩ = some (.int .u8 (o.loose : Int)) := cell_of hx5 3
      clear hx5
      go_wp2_with fail
      (with_reducible refine (sayRef HO5.out HR5.out HSM.out).mono ?_)
      rintro e w6 ⟨rfl, hB6⟩
      clear x0 x1 x2 x3
      have HW6 := hide (HW5.out.trans (hB6.mono HW5.out.size))
      have HQ6 := hide ((hB6.block _ HQO.out).trans HQ5.out)
      have HOW6 := hide (own_up8 HOW.out HW6.out)
      have HBB6 : Hid (W.heap.size ≤ w6.heap.size) := hide (Nat.le_trans HB.out.size HW6.out.size)
      clear hB6 HQ5 HR5 HO5 HW5
      generalize hsv : say o mn = sv at *
      have HSV := hide hsv
      have hlen8 : l.length + [(sv : Int)].length ≤ 10000000 := by have := HL4.out; simp; omega
      have hsz8 := HBB6.out
      clear hsv
      have HBX6 := hide (HB.out.trans (HW6.out.mono HB.out.size))
      by_cases h2 : sv = 2
      · subst h2
        have h2b : ((2 : Int) == 2) = true := rfl
        go_wp2_with (first
          | (at_builtin
             (refine Go.Il.wpl_push EV (by decide) rfl (.tmp 61) (.tmp 63) rfl HOW6.out _ _ [2] _ _ rfl rfl rfl rfl rfl hsz8 hlen8 ?_
              intro v7 w7 ho7 hs7
              have HO7 := hide ho7
              have HS7 := hide hs7
              clear ho7 hs7 hlen8 hsz8))
          | fail)
        obtain ⟨o7, c7, hv7⟩ := Go.Il.Own.form HO7.out
        subst hv7
        have HB7 := hide (HBX6.out.trans HS7.out.below)
        have HQ7 := hide (HS7.out.block HQ6.out (by decide))
        have HR7 := hide ((rem_skip (all := xs) l xs [2] (fun a ha => (HLA.out a ha).1) (by have := HLI.out; have := HLT.out; omega)).trans (by rw [HLI.out, rem_found HLT.out, HXK.out]))
        (with_reducible refine (removableProg (natsM_old HV2.out HB7.out) HSET.out (vs_own HO7.out (by have := HL4.out; simp; omega)) (by have := H12.out; have := HLI.out; have := HLT.out; simp; omega) (fun y hy => by
          rcases List.mem_append.1 hy with q | q
          · exact HWF.out y q
          · rw [List.mem_singleton] at q; omega)).mono ?_)
        rintro e w8 ⟨res, rfl, ho, hB8⟩
        rw [HR7.out, Gives, if_pos rfl] at ho
        obtain ⟨k8, p8, rfl, hk8, hp8⟩ := ho
        obtain ⟨ok8, ck8, rfl⟩ := Go.Il.Own.form hk8
        obtain ⟨op8, cp8, rfl⟩ := Go.Il.Own.form hp8
        have HQ8 := hide ((hB8.block _ (block_lt HQ7.out)).trans HQ7.out)
        have HK8 := hide (own_put (d := true) (a := nilV) (k := .slice ok8 1 ck8) (p := .slice op8 0 cp8) hk8 HQ8.out)
        have HBX8 := hide (HB7.out.trans (hB8.mono HB7.out.size))
        have HWW3 : Hid (W.heap.size ≤ w3.heap.size) := hide (Nat.le_trans HB.out.size HWQ.out)
        clear hk8 hp8 hB8
        obtain ⟨q0, q1, q2, q3⟩ := q_cells HQ8.out
        have f0 := Bi.frozen_of HQ8.out 0
        have f1 := Bi.frozen_of HQ8.out 1
        have f2 := Bi.frozen_of HQ8.out 2
        have f3 := Bi.frozen_of HQ8.out 3
        simp only [List.length_singleton, List.length_nil]
        go_upto_region 15 with (fail)
        have hP := putQ_block (e := true) (b := nilV) (l := .slice ok8 1 ck8) (q := .slice op8 0 cp8) HQ8.out
        have hPB := putQ_below (d := true) (a := nilV) (l := .slice ok8 1 ck8) (p := .slice op8 0 cp8) HBX8.out HWW3.out
        change Code.wp _ _ _ _ (putQ w8 w3.heap.size true nilV (.slice ok8 1 ck8) (.slice op8 0 cp8))
        generalize putQ w8 w3.heap.size true nilV (.slice ok8 1 ck8) (.slice op8 0 cp8) = X at *
        have HP := hide hP
        have HPB := hide hPB
        have HKX : Hid (X.cell? ⟨kb, ko + i, none⟩ = some (.int .i64 (x : Int))) := hide ((hPB.cell (p := ⟨kb, ko + i, none⟩) HKB.out).trans HKW.out)
        have HIX : Hid (IntsW X (.slice ok8 1 ck8) [(x : Int)]) := hide (ints_own HK8.out (by simp))
        have HKBX : Hid (kb < X.heap.size) := hide (Nat.lt_of_lt_of_le HKB.out hPB.size)
        have HQX := hide (block_lt hP)
        clear q0 q1 q2 q3 f0 f1 f2 f3 hP hPB
        refine wp_region_held_drew (S := fun w' => Hid (w'.heap[w3.heap.size]? = some (boxQ true nilV (.slice ok8 1 ck8) (.slice op8 0 cp8)) ∧ w'.cell? ⟨kb, ko + i, none⟩ = some (.int .i64 (x : Int)))) (by kernel_rfl) (hide ⟨HP.out, HKX.out⟩) (fun hHeld => ?_)
        refine takeAt (i := 0) (d := some 73) (v := .int .i64 0) rfl rfl (by kernel_rfl) (by kernel_rfl) (by kernel_rfl) (fun _ _ _ h => h) (Or.inl ⟨by rfl, fun w hS => by go_simp⟩) hHeld ?_
        simp only [Act.put, List.setIfInBounds_toArray, List.set_cons_zero, List.set_cons_succ]
        refine takeAt (i := 1) (d := some 74) (v := .bool true) rfl rfl (by kernel_rfl) (by kernel_rfl) (by kernel_rfl) (fun _ _ _ h => h) (Or.inl ⟨by rfl, fun w hS => by go_simp⟩) hHeld ?_
        simp only [Act.put, List.setIfInBounds_toArray, List.set_cons_zero, List.set_cons_succ]
        refine takeAt (i := 2) (d := some 75) (v := .bool true) rfl rfl (by kernel_rfl) (by kernel_rfl) (by kernel_rfl) (fun _ _ _ h => h) (Or.inl ⟨by rfl, fun w hS => by go_simp⟩) hHeld ?_
        simp only [Act.put, List.setIfInBounds_toArray, List.set_cons_zero, List.set_cons_succ]
        refine takeAt (i := 3) (d := some 76) (v := .pointer (some ⟨w3.heap.size, 0, none⟩)) rfl rfl (by kernel_rfl) (by kernel_rfl) (by kernel_rfl) (fun _ _ _ h => h) (Or.inl ⟨by rfl, fun w hS => by go_simp⟩) hHeld ?_
        simp only [Act.put, List.setIfInBounds_toArray, List.set_cons_zero, List.set_cons_succ]
        refine takeAt (i := 4) (d := some 77) (v := .bool true) rfl rfl (by kernel_rfl) (by kernel_rfl) (by kernel_rfl) (fun _ _ _ h => h) (Or.inl ⟨by rfl, fun w hS => by obtain ⟨q0, q1, q2, q3⟩ := q_cells hS.out.1; go_simp⟩) hHeld ?_
        simp only [Act.put, List.setIfInBounds_toArray, List.set_cons_zero, List.set_cons_succ]
        refine takeAt (i := 5) (d := some 78) (v := .bool true) rfl rfl (by kernel_rfl) (by kernel_rfl) (by kernel_rfl) (fun _ _ _ h => h) (Or.inl ⟨by rfl, fun w hS => by go_simp⟩) hHeld ?_
        simp only [Act.put, List.setIfInBounds_toArray, List.set_cons_zero, List.set_cons_succ]
        refine takeAt (i := 6) (d := some 79) (v := .bool true) rfl rfl (by kernel_rfl) (by kernel_rfl) (by kernel_rfl) (fun _ _ _ h => h) (Or.inl ⟨by rfl, fun w hS => by go_simp⟩) hHeld ?_
        simp only [Act.put, List.setIfInBounds_toArray, List.set_cons_zero, List.set_cons_succ]
        refine takeAt (i := 7) (d := some 80) (v := .pointer (some ⟨w3.heap.size, 2, none⟩)) rfl rfl (by kernel_rfl) (by kernel_rfl) (by kernel_rfl) (fun _ _ _ h => h) (Or.inl ⟨by rfl, fun w hS => by go_simp⟩) hHeld ?_
        simp only [Act.put, List.setIfInBounds_toArray, List.set_cons_zero, List.set_cons_succ]
        refine takeAt (i := 8) (d := some 81) (v := .slice ok8 1 ck8) rfl rfl (by kernel_rfl) (by kernel_rfl) (by kernel_rfl) (fun _ _ _ h => h) (Or.inl ⟨by rfl, fun w hS => by obtain ⟨q0, q1, q2, q3⟩ := q_cells hS.out.1; go_simp⟩) hHeld ?_
        simp only [Act.put, List.setIfInBounds_toArray, List.set_cons_zero, List.set_cons_succ]
        refine takeAt (i := 9) (d := some 82) (v := .slice (some ⟨kb, ko, none⟩) xs.length cap) rfl rfl (by kernel_rfl) (by kernel_rfl) (by kernel_rfl) (fun _ _ _ h => h) (Or.inl ⟨by rfl, fun w hS => by go_simp⟩) hHeld ?_
        simp only [Act.put, List.setIfInBounds_toArray, List.set_cons_zero, List.set_cons_succ]
        refine takeAt (i := 10) (d := some 83) (v := .int .i64 (i : Int)) rfl rfl (by kernel_rfl) (by kernel_rfl) (by kernel_rfl) (fun _ _ _ h => h) (Or.inl ⟨by rfl, fun w hS => by go_simp⟩) hHeld ?_
        simp only [Act.put, List.setIfInBounds_toArray, List.set_cons_zero, List.set_cons_succ]
        refine takeAt (i := 11) (d := some 84) (v := .pointer (some ⟨kb, ko + i, none⟩)) rfl rfl (by kernel_rfl) (by kernel_rfl) (by kernel_rfl) (fun _ _ _ h => h) (Or.inl ⟨by rfl, fun w hS => by go_simp⟩) hHeld ?_
        simp only [Act.put, List.setIfInBounds_toArray, List.set_cons_zero, List.set_cons_succ]
        refine takeAt (i := 12) (d := some 85) (v := .int .i64 (x : Int)) rfl rfl (by kernel_rfl) (by kernel_rfl) (by kernel_rfl) (fun _ _ _ h => h) (Or.inl ⟨by rfl, fun w hS => by have hkk := hS.out.2; go_simp⟩) hHeld ?_
        simp only [Act.put, List.setIfInBounds_toArray, List.set_cons_zero, List.set_cons_succ]
        refine wpAnyH_ready (rs := [13]) (by kernel_rfl) (by simp) ?_
        refine AllReadyH.cons rfl (fun K0 hK => ?_) AllReadyH.nil
        go_simp
        have HBA : Hid (Below X.heap.size X (X.alloc (.cells #[.int .i64 (x : Int)] 3)).drew) := hide (Below.drew ((Below.refl X.heap.size X).alloc (Nat.le_refl _) _))
        have HSA : Hid ((X.alloc (.cells #[.int .i64 (x : Int)] 3)).drew.heap[w3.heap.size]? = some (boxQ true nilV (.slice ok8 1 ck8) (.slice op8 0 cp8)) ∧ (X.alloc (.cells #[.int .i64 (x : Int)] 3)).drew.cell? ⟨kb, ko + i, none⟩ = some (.int .i64 (x : Int))) := hide ⟨(HBA.out.block _ HQX.out).trans HP.out, (HBA.out.cell (p := ⟨kb, ko + i, none⟩) HKBX.out).trans HKX.out⟩
        have HIA := hide (ints_below HIX.out HBA.out)
        have HIB : Hid (IntsW (X.alloc (.cells #[.int .i64 (x : Int)] 3)).drew (.slice (some ⟨X.heap.size, 0, none⟩) 1 1) [(x : Int)]) := hide (ints_own (own_built (B := 0) (new_block X (.cells #[.int .i64 (x : Int)] 3)) (Nat.zero_le _)) (by simp))
        refine hK.out _ _ HSA (fun hHeld => ?_)
        clear hK K0
        try simp only [Act.put, List.setIfInBounds_toArray, List.set_cons_zero, List.set_cons_succ]
        refine wpAnyH_ready (rs := [14]) (by kernel_rfl) (by simp) ?_
        refine AllReadyH.cons rfl (fun K0 hK => ?_) AllReadyH.nil
        go_simp
        go_at_call 17
        (with_reducible refine (intsSame17 HIA.out HIB.out).mono ?_)
        rintro e w9 ⟨rfl, d9, rfl⟩
        have HSB : Hid (((X.alloc (.cells #[.int .i64 (x : Int)] 3)).drew.drewN d9).heap[w3.heap.size]? = some (boxQ true nilV (.slice ok8 1 ck8) (.slice op8 0 cp8)) ∧ ((X.alloc (.cells #[.int .i64 (x : Int)] 3)).drew.drewN d9).cell? ⟨kb, ko + i, none⟩ = some (.int .i64 (x : Int))) := HSA
        have HBB : Hid (Below X.heap.size X ((X.alloc (.cells #[.int .i64 (x : Int)] 3)).drewN (1 + d9))) := hide (((Below.refl X.heap.size X).alloc (Nat.le_refl _) _).trans (belowN _ _ _))
        refine hK.out _ _ HSB (fun hHeld => ?_)
        clear hK K0
        try simp only [Act.put, List.setIfInBounds_toArray, List.set_cons_zero, List.set_cons_succ]
        refine takeAt (i := 15) (d := some 88) (v := .bool true) rfl rfl (by kernel_rfl) (by kernel_rfl) (by kernel_rfl) (fun _ _ _ h => h) (Or.inl ⟨by rfl, fun w hS => by go_simp⟩) hHeld ?_
        simp only [Act.put, List.setIfInBounds_toArray, List.set_cons_zero, List.set_cons_succ]
        refine takeAt (i := 16) (d := some 89) (v := .bool true) rfl rfl (by kernel_rfl) (by kernel_rfl) (by kernel_rfl) (fun _ _ _ h => h) (Or.inl ⟨by rfl, fun w hS => by go_simp⟩) hHeld ?_
        simp only [Act.put, List.setIfInBounds_toArray, List.set_cons_zero, List.set_cons_succ]
        refine wpAnyH_ready (rs := [17]) (by kernel_rfl) (by simp) ?_
        refine AllReadyH.cons rfl (fun K0 hK => ?_) AllReadyH.nil
        go_simp
        go_at_call 14
        (with_reducible refine (hA _).mono ?_)
        rintro e w10 ⟨rfl, hB10⟩
        have HBC := hide (HBB.out.trans (hB10.mono HBB.out.size))
        have HSC : Hid (w10.heap[w3.heap.size]? = some (boxQ true nilV (.slice ok8 1 ck8) (.slice op8 0 cp8)) ∧ w10.cell? ⟨kb, ko + i, none⟩ = some (.int .i64 (x : Int))) := hide ⟨(HBC.out.block _ HQX.out).trans HP.out, (HBC.out.cell (p := ⟨kb, ko + i, none⟩) HKBX.out).trans HKX.out⟩
        refine hK.out _ _ HSC (fun hHeld => ?_)
        clear hK K0
        try simp only [Act.put, List.setIfInBounds_toArray, List.set_cons_zero, List.set_cons_succ]
        refine takeAt (i := 18) (d := some 91) (v := .bool true) rfl rfl (by kernel_rfl) (by kernel_rfl) (by kernel_rfl) (fun _ _ _ h => h) (Or.inl ⟨by rfl, fun w hS => by go_simp⟩) hHeld ?_
        simp only [Act.put, List.setIfInBounds_toArray, List.set_cons_zero, List.set_cons_succ]
        refine takeAt (i := 19) (d := some 4) (v := .bool true) rfl rfl (by kernel_rfl) (by kernel_rfl) (by kernel_rfl) (fun _ _ _ h => h) (Or.inl ⟨by rfl, fun w hS => by go_simp⟩) hHeld ?_
        simp only [Act.put, List.setIfInBounds_toArray, List.set_cons_zero, List.set_cons_succ]
        refine wpAnyH_done (by kernel_rfl) ?_ _
        go_wp2_with fail
        go_ret
        exact ⟨rfl, (HB2.out.trans (HPB.out.mono HB2.out.size)).trans (HBC.out.mono (Nat.le_trans HB2.out.size HPB.out.size))⟩

      · have h2b : ((sv : Int) == 2) = false := beq_false_of_ne (by omega)
        have H2 := hide h2
        clear h2
        go_wp2_with (first
          | (at_builtin
             (refine Go.Il.wpl_push EV (by decide) rfl (.tmp 61) (.tmp 63) rfl HOW6.out _ _ [(sv : Int)] _ _ rfl rfl rfl rfl rfl hsz8 hlen8 ?_
              intro v7 w7 ho7 hs7
              have HO7 := hide ho7
              have HS7 := hide hs7
              clear ho7 hs7 hlen8 hsz8))
          | fail)
        refine ⟨⟨i + 1, l ++ [(sv : Int)], HLT.out, by go_num, HO7.out, by simp [HLI.out], ?_, HBX6.out.trans HS7.out.below⟩, by simp [intOf]; have := HLT.out; omega⟩
        intro a ha
        rcases List.mem_append.1 ha with q | q
        · exact HLA.out a q
        · rw [List.mem_singleton] at q
          have := H2.out
          rcases HSAYV.out with e | e | e <;> omega
    · obtain rfl : i = xs.length := by omega
      rw [← List.append_nil (xs.drop xs.length), List.drop_length] at HREM
      have HREM2 : Hid (rem xs xs l = .fin [] [] []) := hide HREM.out
      clear hlt
      go_wp2_with fail
      (with_reducible refine (removableProg HVR.out HSET.out HVS.out HL4.out HWF.out).mono ?_)
      rintro e w3 ⟨res, rfl, ho, hB3⟩
      rw [HREM2.out, Gives, if_pos rfl] at ho
      obtain ⟨k8, p8, rfl, hk8, hp8⟩ := ho
      obtain ⟨ok8, ck8, rfl⟩ := Go.Il.Own.form hk8
      obtain ⟨op8, cp8, rfl⟩ := Go.Il.Own.form hp8
      have HB3 := hide (HBW.out.trans (hB3.mono HBW.out.size))
      have hA3 := (Below.refl w3.heap.size w3).alloc (Nat.le_refl _) (boxQ true nilV (.slice ok8 0 ck8) (.slice op8 0 cp8))
      have HB4 := hide (HB3.out.trans (hA3.mono HB3.out.size))
      have HQ3 := hide (new_block w3 (boxQ true nilV (.slice ok8 0 ck8) (.slice op8 0 cp8)))
      obtain ⟨q0, q1, q2, q3⟩ := q_cells HQ3.out
      simp only [List.length_nil]
      clear hk8 hp8 hB3 hA3
      go_wp2_with fail
      (with_reducible refine (hA _).mono ?_)
      rintro e w5 ⟨rfl, hB5⟩
      have HB5 := hide (HB4.out.trans (hB5.mono HB4.out.size))
      clear hB5
      go_wp2_with fail
      go_ret
      exact ⟨rfl, HB5.out⟩
end Go.Proofs.Ytdpgcoicbagflaa.Se
