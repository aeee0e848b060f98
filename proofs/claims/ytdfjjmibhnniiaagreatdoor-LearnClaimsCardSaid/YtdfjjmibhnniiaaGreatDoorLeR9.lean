import Derived.Test.YtdfjjmibhnniiaaGreatDoorLeR
import Derived.Deep.RegionHeld3
set_option maxRecDepth 100000
set_option linter.unusedSimpArgs false
set_option linter.unusedVariables false
namespace Go.Proofs.YtdfjjmibhnniiaaGreatDoor.Le
open Go Go.Ms Go.Pg Go.Le Go.ChangeShapes Go.WideShapes Go.ChangeAt Go.RowKit Go.Deep

set_option maxHeartbeats 8000000 in
theorem of7 {w : World} {a b K M n : Int} {l : List Int} {os : Option Addr} {cs : Nat} (hs : IntsW w (.slice os l.length cs) l) : Calls Tryz.prog 31 #[.agg #[.int .u8 7, .int .i64 a, .int .i64 b, .int .i64 K, .int .i64 M, .slice os l.length cs], .int .i64 n] w (Claimed (⟨7, a, b, K, M, l⟩ : Inv) (.slice os l.length cs) n w) := by
  have V64 : Hid (∀ w', IntsW w' (.slice os l.length cs) l → Calls Tryz.prog 64 #[.iface 160 (.agg #[.int .i64 a, .int .i64 b]), .int .i64 n] w' (TellsB (VarsOK (⟨7, a, b, K, M, l⟩ : Inv) n) w')) := hide fun w' h => variablesProg (x := (⟨7, a, b, K, M, l⟩ : Inv)) ⟨by show (1 : Int) ≤ 7; decide, by show (7 : Int) ≤ 11; decide⟩ h
  have V66 : Hid (∀ w', IntsW w' (.slice os l.length cs) l → Calls Tryz.prog 66 #[.iface 160 (.agg #[.int .i64 a, .int .i64 b])] w' (TellsB (NumsOK (⟨7, a, b, K, M, l⟩ : Inv)) w')) := hide fun w' h => numbersProg (x := (⟨7, a, b, K, M, l⟩ : Inv)) ⟨by show (1 : Int) ≤ 7; decide, by show (7 : Int) ≤ 11; decide⟩ h
  have V63 : Hid (∀ w', IntsW w' (.slice os l.length cs) l → Calls Tryz.prog 63 #[.agg #[.int .u8 7, .int .i64 a, .int .i64 b, .int .i64 K, .int .i64 M, .slice os l.length cs]] w' fun e w'' => e = .returned (.iface 160 (.agg #[.int .i64 a, .int .i64 b])) ∧ Below w'.heap.size w' w'') := hide fun w' h => claimedProg (x := (⟨7, a, b, K, M, l⟩ : Inv)) h
  have V67 : Hid (∀ w', IntsW w' (.slice os l.length cs) l → Calls Tryz.prog 67 #[.agg #[.int .u8 7, .int .i64 a, .int .i64 b, .int .i64 0, .int .i64 0, .slice none 0 0], .agg #[.int .u8 7, .int .i64 a, .int .i64 b, .int .i64 K, .int .i64 M, .slice os l.length cs]] w' (TellsB ((⟨7, a, b, 0, 0, []⟩ : Inv) = (⟨7, a, b, K, M, l⟩ : Inv)) w')) := hide fun w' h => sameProg (x := (⟨7, a, b, 0, 0, []⟩ : Inv)) (y := (⟨7, a, b, K, M, l⟩ : Inv)) empty_ints h
  have V47 : Hid (∀ w', Calls Tryz.prog 250 #[.agg #[.int .i64 a, .int .i64 b]] w' fun e w'' => e = .returned (.agg #[.int .u8 7, .int .i64 a, .int .i64 b, .int .i64 0, .int .i64 0, .slice none 0 0]) ∧ Below w'.heap.size w' w'') := hide fun w' => inv7 a b K M os l.length cs w'
  have HX : Hid ((⟨7, a, b, 0, 0, []⟩ : Inv) = (⟨7, a, b, K, M, l⟩ : Inv) ↔ (⟨7, a, b, K, M, l⟩ : Inv) = bare (⟨7, a, b, K, M, l⟩ : Inv)) := hide (by rw [show bare (⟨7, a, b, K, M, l⟩ : Inv) = (⟨7, a, b, 0, 0, []⟩ : Inv) from rfl]; exact ⟨fun q => q.symm, fun q => q.symm⟩)
  obtain ⟨b1, b3⟩ := one_box w (⟨7, a, b, K, M, l⟩ : Inv) (.slice os l.length cs) 31
  unfold cInv at *
  dsimp only at b1 b3
  go_enter Tryz.func31, Tryz.ntmps31
  go_upto_region 1 with (fail)
  generalize w.alloc (.cells #[.int .u8 7, .int .i64 a, .int .i64 b, .int .i64 K, .int .i64 M, .slice os l.length cs] 31) = w0 at *
  have I0 := hide (intsW_below hs b3)
  have L0 := hide b1
  have HB := hide b3
  clear b3 hs
  obtain ⟨p0, p1, p2, p3, p4, p5⟩ := b1
  dsimp only at p0 p1 p2 p3 p4 p5
  by_cases n1 : n < 1
  · have E := hide (errC_low (x := (⟨7, a, b, K, M, l⟩ : Inv)) n1)
    go_wp2_with (first
      | (go_at_call 41
         with_reducible refine (checkVars n _).mono ?_
         rintro e _ ⟨rfl, rfl⟩
         rw [if_pos n1])
      | fail)
    refine bodyPost_ret (v := .tuple #[.nilIface, .int .i64 1]) (by simp [results, Tryz.results31, go_sem]) rfl ?_
    exact Claimed.bad E.out (by decide) (HB.out)
  by_cases n8 : 8 < n
  · have E := hide (errC_high (x := (⟨7, a, b, K, M, l⟩ : Inv)) n8)
    go_wp2_with (first
      | (go_at_call 41
         with_reducible refine (checkVars n _).mono ?_
         rintro e _ ⟨rfl, rfl⟩
         rw [if_neg (by omega), if_pos n8])
      | fail)
    refine bodyPost_ret (v := .tuple #[.nilIface, .int .i64 3]) (by simp [results, Tryz.results31, go_sem]) rfl ?_
    exact Claimed.bad E.out (by decide) (HB.out)
  have N1 : Hid (1 ≤ n) := hide (by omega)
  have N8 : Hid (n ≤ 8) := hide (by omega)
  go_upto_region 5 with (first
      | (go_at_call 41
         with_reducible refine (checkVars n _).mono ?_
         rintro e _ ⟨rfl, rfl⟩
         rw [if_neg (by have := N1.out; omega), if_neg (by have := N8.out; omega)])
      | (go_at_call 63
         with_reducible refine (V63.out _ I0.out).mono ?_
         rintro e w1 ⟨rfl, hB⟩
         have L1 := hide (L0.out.below hB)
         have I1 := hide (intsW_below I0.out hB)
         have B1 := hide (below_up HB.out hB)
         clear hB p0 p1 p2 p3 p4 p5
         obtain ⟨p0, p1, p2, p3, p4, p5⟩ := L1.out
         dsimp only at p0 p1 p2 p3 p4 p5)
      | fail)
  clear n1 n8
  by_cases hv : VarsOK (⟨7, a, b, K, M, l⟩ : Inv) n
  rotate_left
  · have E := hide (errC_vars (x := (⟨7, a, b, K, M, l⟩ : Inv)) N1.out N8.out ⟨by show (1 : Int) ≤ 7; decide, by show (7 : Int) ≤ 11; decide⟩ hv)
    have HV := hide hv
    clear hv
    go_wp2_with (first
      | (go_at_call 64
         with_reducible refine (V64.out _ I1.out).mono ?_
         rintro e w2 h2
         obtain ⟨rfl, hB⟩ := tellsB_no h2 HV.out
         have B2 := hide (below_up B1.out hB)
         clear hB h2)
      | fail)
    refine bodyPost_ret (v := .tuple #[.nilIface, .int .i64 1]) (by simp [results, Tryz.results31, go_sem]) rfl ?_
    exact Claimed.bad E.out (by decide) (B2.out)
  have HV := hide hv
  clear hv
  go_upto_region 7 with (first
    | (go_at_call 64
       with_reducible refine (V64.out _ I1.out).mono ?_
       rintro e w2 h2
       obtain ⟨rfl, hB⟩ := tellsB_yes h2 HV.out
       have L2 := hide (L1.out.below hB)
       have I2 := hide (intsW_below I1.out hB)
       have B2 := hide (below_up B1.out hB)
       clear hB h2 p0 p1 p2 p3 p4 p5
       obtain ⟨p0, p1, p2, p3, p4, p5⟩ := L2.out
       dsimp only at p0 p1 p2 p3 p4 p5)
    | fail)
  by_cases hK : Plain K
  rotate_left
  · have E := hide (errC_plain (x := (⟨7, a, b, K, M, l⟩ : Inv)) N1.out N8.out ⟨by show (1 : Int) ≤ 7; decide, by show (7 : Int) ≤ 11; decide⟩ HV.out fun q => hK q.1)
    have PK := hide hK
    clear hK
    go_wp2_with (first
      | (go_at_call 65
         with_reducible refine (plainProg (n := K)).mono ?_
         intro e w3 h3
         obtain ⟨rfl, n3K, rfl⟩ := tells_no h3 PK.out
         clear h3)
      | fail)
    refine bodyPost_ret (v := .tuple #[.nilIface, .int .i64 3]) (by simp [results, Tryz.results31, go_sem]) rfl ?_
    exact Claimed.bad E.out (by decide) (B2.out.trans (by first | exact belowN _ _ _ | exact Below.refl _ _))
  have PK := hide hK
  clear hK
  by_cases hM : Plain M
  rotate_left
  · have E := hide (errC_plain (x := (⟨7, a, b, K, M, l⟩ : Inv)) N1.out N8.out ⟨by show (1 : Int) ≤ 7; decide, by show (7 : Int) ≤ 11; decide⟩ HV.out fun q => hM q.2.1)
    have PM := hide hM
    clear hM
    go_wp2_with (first
      | (go_at_call 65
         with_reducible refine (plainProg (n := K)).mono ?_
         intro e w3 h3
         obtain ⟨rfl, n3K, rfl⟩ := tells_yes h3 PK.out
         clear h3)
      | (go_at_call 65
         with_reducible refine (plainProg (n := M)).mono ?_
         intro e w3 h3
         obtain ⟨rfl, n3M, rfl⟩ := tells_no h3 PM.out
         clear h3)
      | fail)
    refine bodyPost_ret (v := .tuple #[.nilIface, .int .i64 3]) (by simp [results, Tryz.results31, go_sem]) rfl ?_
    exact Claimed.bad E.out (by decide) (B2.out.trans (by first | exact belowN _ _ _ | exact Below.refl _ _))
  have PM := hide hM
  clear hM
  by_cases h5 : AllPlain l
  rotate_left
  · have E := hide (errC_plain (x := (⟨7, a, b, K, M, l⟩ : Inv)) N1.out N8.out ⟨by show (1 : Int) ≤ 7; decide, by show (7 : Int) ≤ 11; decide⟩ HV.out fun q => h5 q.2.2)
    have P5 := hide h5
    clear h5
    go_wp2_with (first
      | (go_at_call 65
         with_reducible refine (plainProg (n := K)).mono ?_
         intro e w3 h3
         obtain ⟨rfl, n3K, rfl⟩ := tells_yes h3 PK.out
         clear h3)
      | (go_at_call 65
         with_reducible refine (plainProg (n := M)).mono ?_
         intro e w3 h3
         obtain ⟨rfl, n3M, rfl⟩ := tells_yes h3 PM.out
         clear h3)
      | (go_at_call 35
         with_reducible refine (plainAll (l := l) (by first | exact I2.out | exact intsW_drewN I2.out _)).mono ?_
         intro e w3 h3
         obtain ⟨rfl, n5, rfl⟩ := tells_no h3 P5.out
         clear h3)
      | fail)
    refine bodyPost_ret (v := .tuple #[.nilIface, .int .i64 3]) (by simp [results, Tryz.results31, go_sem]) rfl ?_
    exact Claimed.bad E.out (by decide) (B2.out.trans (by first | exact belowN _ _ _ | exact Below.refl _ _))
  have P5 := hide h5
  clear h5
  go_upto_region 9 with (first
      | (go_at_call 65
         with_reducible refine (plainProg (n := K)).mono ?_
         intro e w3 h3
         obtain ⟨rfl, n3K, rfl⟩ := tells_yes h3 PK.out
         clear h3)
      | (go_at_call 65
         with_reducible refine (plainProg (n := M)).mono ?_
         intro e w3 h3
         obtain ⟨rfl, n3M, rfl⟩ := tells_yes h3 PM.out
         clear h3)
      | (go_at_call 35
         with_reducible refine (plainAll (l := l) (by first | exact I2.out | exact intsW_drewN I2.out _)).mono ?_
         intro e w3 h3
         obtain ⟨rfl, n5, rfl⟩ := tells_yes h3 P5.out
         clear h3)
      | fail)
  have H3 : Hid (St w (⟨7, a, b, K, M, l⟩ : Inv) (.slice os l.length cs) w2) := hide ⟨L2.out, I2.out, B2.out⟩
  clear p0 p1 p2 p3 p4 p5
  by_cases hn : NumsOK (⟨7, a, b, K, M, l⟩ : Inv)
  rotate_left
  · have E := hide (errC_nums (x := (⟨7, a, b, K, M, l⟩ : Inv)) N1.out N8.out ⟨by show (1 : Int) ≤ 7; decide, by show (7 : Int) ≤ 11; decide⟩ HV.out ⟨PK.out, PM.out, P5.out⟩ hn)
    have HN := hide hn
    clear hn
    refine wp_region_held_drew (S := fun w' => Hid (St w (⟨7, a, b, K, M, l⟩ : Inv) (.slice os l.length cs) w')) (by kernel_rfl) (stDrewn (stDrew H3.out _)) (fun hHeld => ?_)
    refine takeAt (i := 0) (d := some 42) (v := .iface 160 (.agg #[.int .i64 a, .int .i64 b])) rfl rfl (by kernel_rfl) (by kernel_rfl) (by kernel_rfl) (fun _ _ _ h => h) (Or.inl ⟨by rfl, fun w _ => by go_simp⟩) hHeld ?_
    simp only [Act.put, List.setIfInBounds_toArray, List.set_cons_zero, List.set_cons_succ]
    refine wpAnyH_ready (rs := [1]) (by kernel_rfl) (by simp) ?_
    refine AllReadyH.cons rfl (fun K0 hK => ?_) AllReadyH.nil
    go_simp
    (go_at_call 66; with_reducible refine (V66.out _ (stInts (by first | assumption | exact stDrew H3.out _))).mono ?_; rintro e w4 h4; obtain ⟨rfl, hB⟩ := tellsB_no h4 HN.out; have HS4 : Hid (St w (⟨7, a, b, K, M, l⟩ : Inv) (.slice os l.length cs) w4) := hide (stStep (hide (stDrew H3.out _)) hB); clear hB h4)
    refine hK.out _ _ HS4 (fun hHeld => ?_)
    clear hK K0
    try simp only [Act.put, List.setIfInBounds_toArray, List.set_cons_zero, List.set_cons_succ]
    refine takeAt (i := 2) (d := some 44) (v := .bool true) rfl rfl (by kernel_rfl) (by kernel_rfl) (by kernel_rfl) (fun _ _ _ h => h) (Or.inl ⟨by rfl, fun w _ => by go_simp⟩) hHeld ?_
    simp only [Act.put, List.setIfInBounds_toArray, List.set_cons_zero, List.set_cons_succ]
    refine takeAt (i := 3) (d := some 45) (v := .bool true) rfl rfl (by kernel_rfl) (by kernel_rfl) (by kernel_rfl) (fun _ _ _ h => h) (Or.inl ⟨by rfl, fun w _ => by go_simp⟩) hHeld ?_
    simp only [Act.put, List.setIfInBounds_toArray, List.set_cons_zero, List.set_cons_succ]
    refine takeAt (i := 4) (d := some 46) (v := undef) rfl rfl (by kernel_rfl) (by kernel_rfl) (by kernel_rfl) (fun _ _ _ h => h) (Or.inr ⟨by rfl, rfl⟩) hHeld ?_
    simp only [Act.put, List.setIfInBounds_toArray, List.set_cons_zero, List.set_cons_succ]
    refine takeAt (i := 5) (d := some 47) (v := undef) rfl rfl (by kernel_rfl) (by kernel_rfl) (by kernel_rfl) (fun _ _ _ h => h) (Or.inr ⟨by rfl, rfl⟩) hHeld ?_
    simp only [Act.put, List.setIfInBounds_toArray, List.set_cons_zero, List.set_cons_succ]
    refine takeAt (i := 6) (d := some 48) (v := undef) rfl rfl (by kernel_rfl) (by kernel_rfl) (by kernel_rfl) (fun _ _ _ h => h) (Or.inr ⟨by rfl, rfl⟩) hHeld ?_
    simp only [Act.put, List.setIfInBounds_toArray, List.set_cons_zero, List.set_cons_succ]
    refine takeAt (i := 7) (d := some 49) (v := undef) rfl rfl (by kernel_rfl) (by kernel_rfl) (by kernel_rfl) (fun _ _ _ h => h) (Or.inr ⟨by rfl, rfl⟩) hHeld ?_
    simp only [Act.put, List.setIfInBounds_toArray, List.set_cons_zero, List.set_cons_succ]
    refine takeAt (i := 8) (d := some 50) (v := undef) rfl rfl (by kernel_rfl) (by kernel_rfl) (by kernel_rfl) (fun _ _ _ h => h) (Or.inr ⟨by rfl, rfl⟩) hHeld ?_
    simp only [Act.put, List.setIfInBounds_toArray, List.set_cons_zero, List.set_cons_succ]
    refine takeAt (i := 9) (d := some 51) (v := .bool true) rfl rfl (by kernel_rfl) (by kernel_rfl) (by kernel_rfl) (fun _ _ _ h => h) (Or.inl ⟨by rfl, fun w _ => by go_simp⟩) hHeld ?_
    simp only [Act.put, List.setIfInBounds_toArray, List.set_cons_zero, List.set_cons_succ]
    refine takeAt (i := 10) (d := some 41) (v := .bool true) rfl rfl (by kernel_rfl) (by kernel_rfl) (by kernel_rfl) (fun _ _ _ h => h) (Or.inl ⟨by rfl, fun w _ => by go_simp⟩) hHeld ?_
    simp only [Act.put, List.setIfInBounds_toArray, List.set_cons_zero, List.set_cons_succ]
    refine wpAnyH_done (by kernel_rfl) ?_ _
    go_wp2_with fail
    refine bodyPost_ret (v := .tuple #[.nilIface, .int .i64 1]) (by simp [results, Tryz.results31, go_sem]) rfl ?_
    exact Claimed.bad E.out (by decide) HS4.out.2.2
  have HN := hide hn
  clear hn
  by_cases hq : (⟨7, a, b, 0, 0, []⟩ : Inv) = (⟨7, a, b, K, M, l⟩ : Inv)
  rotate_left
  · have E := hide (errC_bare (x := (⟨7, a, b, K, M, l⟩ : Inv)) N1.out N8.out ⟨by show (1 : Int) ≤ 7; decide, by show (7 : Int) ≤ 11; decide⟩ HV.out ⟨PK.out, PM.out, P5.out⟩ HN.out fun q => hq (HX.out.2 q))
    have HQ := hide hq
    clear hq
    go_region_held3 (fun w' => w'.cell? ⟨w.heap.size, 0, none⟩ = some (.int .u8 7) ∧ w'.cell? ⟨w.heap.size, 1, none⟩ = some (.int .i64 a) ∧ w'.cell? ⟨w.heap.size, 2, none⟩ = some (.int .i64 b) ∧ w'.cell? ⟨w.heap.size, 3, none⟩ = some (.int .i64 K) ∧ w'.cell? ⟨w.heap.size, 4, none⟩ = some (.int .i64 M) ∧ w'.cell? ⟨w.heap.size, 5, none⟩ = some (.slice os l.length cs) ∧ Hid (St w (⟨7, a, b, K, M, l⟩ : Inv) (.slice os l.length cs) w'))
      (first | assumption | (with_reducible exact stOf (stDrewn (stDrew H3.out _))) | (with_reducible exact stOf HS4.out) | (with_reducible exact stOf HS5.out) | (with_reducible exact stOf HS6.out))
      (first
      | (go_at_call 66; with_reducible refine (V66.out _ (stInts (by first | assumption | exact stDrew H3.out _))).mono ?_; rintro e w4 h4; obtain ⟨rfl, hB⟩ := tellsB_yes h4 HN.out; have HS4 : Hid (St w (⟨7, a, b, K, M, l⟩ : Inv) (.slice os l.length cs) w4) := hide (stStep (hide (stDrew H3.out _)) hB); clear hB h4)
      | (go_at_call 250; with_reducible refine (V47.out _).mono ?_; rintro e w5 ⟨rfl, hB⟩; have HS5 : Hid (St w (⟨7, a, b, K, M, l⟩ : Inv) (.slice os l.length cs) w5) := hide (stStep (by assumption) hB); clear hB)
      | (go_at_call 67; with_reducible refine (V67.out _ (stInts (by assumption))).mono ?_; rintro e w6 h6; obtain ⟨rfl, hB⟩ := tellsB_no h6 HQ.out; have HS6 : Hid (St w (⟨7, a, b, K, M, l⟩ : Inv) (.slice os l.length cs) w6) := hide (stStep (by assumption) hB); clear hB h6))
    all_goals
      go_wp2_with fail
      refine bodyPost_ret (v := .tuple #[.nilIface, .int .i64 1]) (by simp [results, Tryz.results31, go_sem]) rfl ?_
      exact Claimed.bad E.out (by decide) (HS6.out.2.2)
  have HQ := hide hq
  clear hq
  have E := hide (errC_ok (x := (⟨7, a, b, K, M, l⟩ : Inv)) N1.out N8.out ⟨by show (1 : Int) ≤ 7; decide, by show (7 : Int) ≤ 11; decide⟩ HV.out ⟨PK.out, PM.out, P5.out⟩ HN.out (HX.out.1 HQ.out))
  go_region_held3 (fun w' => w'.cell? ⟨w.heap.size, 0, none⟩ = some (.int .u8 7) ∧ w'.cell? ⟨w.heap.size, 1, none⟩ = some (.int .i64 a) ∧ w'.cell? ⟨w.heap.size, 2, none⟩ = some (.int .i64 b) ∧ w'.cell? ⟨w.heap.size, 3, none⟩ = some (.int .i64 K) ∧ w'.cell? ⟨w.heap.size, 4, none⟩ = some (.int .i64 M) ∧ w'.cell? ⟨w.heap.size, 5, none⟩ = some (.slice os l.length cs) ∧ Hid (St w (⟨7, a, b, K, M, l⟩ : Inv) (.slice os l.length cs) w'))
      (first | assumption | (with_reducible exact stOf (stDrewn (stDrew H3.out _))) | (with_reducible exact stOf HS4.out) | (with_reducible exact stOf HS5.out) | (with_reducible exact stOf HS6.out))
      (first
      | (go_at_call 66; with_reducible refine (V66.out _ (stInts (by first | assumption | exact stDrew H3.out _))).mono ?_; rintro e w4 h4; obtain ⟨rfl, hB⟩ := tellsB_yes h4 HN.out; have HS4 : Hid (St w (⟨7, a, b, K, M, l⟩ : Inv) (.slice os l.length cs) w4) := hide (stStep (hide (stDrew H3.out _)) hB); clear hB h4)
      | (go_at_call 250; with_reducible refine (V47.out _).mono ?_; rintro e w5 ⟨rfl, hB⟩; have HS5 : Hid (St w (⟨7, a, b, K, M, l⟩ : Inv) (.slice os l.length cs) w5) := hide (stStep (by assumption) hB); clear hB)
      | (go_at_call 67; with_reducible refine (V67.out _ (stInts (by assumption))).mono ?_; rintro e w6 h6; obtain ⟨rfl, hB⟩ := tellsB_yes h6 HQ.out; have HS6 : Hid (St w (⟨7, a, b, K, M, l⟩ : Inv) (.slice os l.length cs) w6) := hide (stStep (by assumption) hB); clear hB h6))
  all_goals
    go_wp2_with fail
    refine bodyPost_ret (v := .tuple #[.iface 160 (.agg #[.int .i64 a, .int .i64 b]), .int .i64 0]) (by simp [results, Tryz.results31, go_sem]) rfl ?_
    exact ⟨.iface 160 (.agg #[.int .i64 a, .int .i64 b]), by rw [E.out], fun _ => rfl, HS6.out.2.2⟩
end Go.Proofs.YtdfjjmibhnniiaaGreatDoor.Le

set_option maxRecDepth 100000
set_option linter.unusedSimpArgs false
set_option linter.unusedVariables false
namespace Go.Proofs.YtdfjjmibhnniiaaGreatDoor.Le
open Go Go.Ms Go.Pg Go.Le Go.ChangeShapes Go.WideShapes Go.ChangeAt Go.RowKit Go.Deep

set_option maxHeartbeats 8000000 in
theorem of8 {w : World} {a b K M n : Int} {l : List Int} {os : Option Addr} {cs : Nat} (hs : IntsW w (.slice os l.length cs) l) : Calls Tryz.prog 31 #[.agg #[.int .u8 8, .int .i64 a, .int .i64 b, .int .i64 K, .int .i64 M, .slice os l.length cs], .int .i64 n] w (Claimed (⟨8, a, b, K, M, l⟩ : Inv) (.slice os l.length cs) n w) := by
  have V64 : Hid (∀ w', IntsW w' (.slice os l.length cs) l → Calls Tryz.prog 64 #[.iface 164 (.agg #[.int .i64 a, .int .i64 b]), .int .i64 n] w' (TellsB (VarsOK (⟨8, a, b, K, M, l⟩ : Inv) n) w')) := hide fun w' h => variablesProg (x := (⟨8, a, b, K, M, l⟩ : Inv)) ⟨by show (1 : Int) ≤ 8; decide, by show (8 : Int) ≤ 11; decide⟩ h
  have V66 : Hid (∀ w', IntsW w' (.slice os l.length cs) l → Calls Tryz.prog 66 #[.iface 164 (.agg #[.int .i64 a, .int .i64 b])] w' (TellsB (NumsOK (⟨8, a, b, K, M, l⟩ : Inv)) w')) := hide fun w' h => numbersProg (x := (⟨8, a, b, K, M, l⟩ : Inv)) ⟨by show (1 : Int) ≤ 8; decide, by show (8 : Int) ≤ 11; decide⟩ h
  have V63 : Hid (∀ w', IntsW w' (.slice os l.length cs) l → Calls Tryz.prog 63 #[.agg #[.int .u8 8, .int .i64 a, .int .i64 b, .int .i64 K, .int .i64 M, .slice os l.length cs]] w' fun e w'' => e = .returned (.iface 164 (.agg #[.int .i64 a, .int .i64 b])) ∧ Below w'.heap.size w' w'') := hide fun w' h => claimedProg (x := (⟨8, a, b, K, M, l⟩ : Inv)) h
  have V67 : Hid (∀ w', IntsW w' (.slice os l.length cs) l → Calls Tryz.prog 67 #[.agg #[.int .u8 8, .int .i64 a, .int .i64 b, .int .i64 0, .int .i64 0, .slice none 0 0], .agg #[.int .u8 8, .int .i64 a, .int .i64 b, .int .i64 K, .int .i64 M, .slice os l.length cs]] w' (TellsB ((⟨8, a, b, 0, 0, []⟩ : Inv) = (⟨8, a, b, K, M, l⟩ : Inv)) w')) := hide fun w' h => sameProg (x := (⟨8, a, b, 0, 0, []⟩ : Inv)) (y := (⟨8, a, b, K, M, l⟩ : Inv)) empty_ints h
  have V47 : Hid (∀ w', Calls Tryz.prog 259 #[.agg #[.int .i64 a, .int .i64 b]] w' fun e w'' => e = .returned (.agg #[.int .u8 8, .int .i64 a, .int .i64 b, .int .i64 0, .int .i64 0, .slice none 0 0]) ∧ Below w'.heap.size w' w'') := hide fun w' => inv8 a b K M os l.length cs w'
  have HX : Hid ((⟨8, a, b, 0, 0, []⟩ : Inv) = (⟨8, a, b, K, M, l⟩ : Inv) ↔ (⟨8, a, b, K, M, l⟩ : Inv) = bare (⟨8, a, b, K, M, l⟩ : Inv)) := hide (by rw [show bare (⟨8, a, b, K, M, l⟩ : Inv) = (⟨8, a, b, 0, 0, []⟩ : Inv) from rfl]; exact ⟨fun q => q.symm, fun q => q.symm⟩)
  obtain ⟨b1, b3⟩ := one_box w (⟨8, a, b, K, M, l⟩ : Inv) (.slice os l.length cs) 31
  unfold cInv at *
  dsimp only at b1 b3
  go_enter Tryz.func31, Tryz.ntmps31
  go_upto_region 1 with (fail)
  generalize w.alloc (.cells #[.int .u8 8, .int .i64 a, .int .i64 b, .int .i64 K, .int .i64 M, .slice os l.length cs] 31) = w0 at *
  have I0 := hide (intsW_below hs b3)
  have L0 := hide b1
  have HB := hide b3
  clear b3 hs
  obtain ⟨p0, p1, p2, p3, p4, p5⟩ := b1
  dsimp only at p0 p1 p2 p3 p4 p5
  by_cases n1 : n < 1
  · have E := hide (errC_low (x := (⟨8, a, b, K, M, l⟩ : Inv)) n1)
    go_wp2_with (first
      | (go_at_call 41
         with_reducible refine (checkVars n _).mono ?_
         rintro e _ ⟨rfl, rfl⟩
         rw [if_pos n1])
      | fail)
    refine bodyPost_ret (v := .tuple #[.nilIface, .int .i64 1]) (by simp [results, Tryz.results31, go_sem]) rfl ?_
    exact Claimed.bad E.out (by decide) (HB.out)
  by_cases n8 : 8 < n
  · have E := hide (errC_high (x := (⟨8, a, b, K, M, l⟩ : Inv)) n8)
    go_wp2_with (first
      | (go_at_call 41
         with_reducible refine (checkVars n _).mono ?_
         rintro e _ ⟨rfl, rfl⟩
         rw [if_neg (by omega), if_pos n8])
      | fail)
    refine bodyPost_ret (v := .tuple #[.nilIface, .int .i64 3]) (by simp [results, Tryz.results31, go_sem]) rfl ?_
    exact Claimed.bad E.out (by decide) (HB.out)
  have N1 : Hid (1 ≤ n) := hide (by omega)
  have N8 : Hid (n ≤ 8) := hide (by omega)
  go_upto_region 5 with (first
      | (go_at_call 41
         with_reducible refine (checkVars n _).mono ?_
         rintro e _ ⟨rfl, rfl⟩
         rw [if_neg (by have := N1.out; omega), if_neg (by have := N8.out; omega)])
      | (go_at_call 63
         with_reducible refine (V63.out _ I0.out).mono ?_
         rintro e w1 ⟨rfl, hB⟩
         have L1 := hide (L0.out.below hB)
         have I1 := hide (intsW_below I0.out hB)
         have B1 := hide (below_up HB.out hB)
         clear hB p0 p1 p2 p3 p4 p5
         obtain ⟨p0, p1, p2, p3, p4, p5⟩ := L1.out
         dsimp only at p0 p1 p2 p3 p4 p5)
      | fail)
  clear n1 n8
  by_cases hv : VarsOK (⟨8, a, b, K, M, l⟩ : Inv) n
  rotate_left
  · have E := hide (errC_vars (x := (⟨8, a, b, K, M, l⟩ : Inv)) N1.out N8.out ⟨by show (1 : Int) ≤ 8; decide, by show (8 : Int) ≤ 11; decide⟩ hv)
    have HV := hide hv
    clear hv
    go_wp2_with (first
      | (go_at_call 64
         with_reducible refine (V64.out _ I1.out).mono ?_
         rintro e w2 h2
         obtain ⟨rfl, hB⟩ := tellsB_no h2 HV.out
         have B2 := hide (below_up B1.out hB)
         clear hB h2)
      | fail)
    refine bodyPost_ret (v := .tuple #[.nilIface, .int .i64 1]) (by simp [results, Tryz.results31, go_sem]) rfl ?_
    exact Claimed.bad E.out (by decide) (B2.out)
  have HV := hide hv
  clear hv
  go_upto_region 7 with (first
    | (go_at_call 64
       with_reducible refine (V64.out _ I1.out).mono ?_
       rintro e w2 h2
       obtain ⟨rfl, hB⟩ := tellsB_yes h2 HV.out
       have L2 := hide (L1.out.below hB)
       have I2 := hide (intsW_below I1.out hB)
       have B2 := hide (below_up B1.out hB)
       clear hB h2 p0 p1 p2 p3 p4 p5
       obtain ⟨p0, p1, p2, p3, p4, p5⟩ := L2.out
       dsimp only at p0 p1 p2 p3 p4 p5)
    | fail)
  by_cases hK : Plain K
  rotate_left
  · have E := hide (errC_plain (x := (⟨8, a, b, K, M, l⟩ : Inv)) N1.out N8.out ⟨by show (1 : Int) ≤ 8; decide, by show (8 : Int) ≤ 11; decide⟩ HV.out fun q => hK q.1)
    have PK := hide hK
    clear hK
    go_wp2_with (first
      | (go_at_call 65
         with_reducible refine (plainProg (n := K)).mono ?_
         intro e w3 h3
         obtain ⟨rfl, n3K, rfl⟩ := tells_no h3 PK.out
         clear h3)
      | fail)
    refine bodyPost_ret (v := .tuple #[.nilIface, .int .i64 3]) (by simp [results, Tryz.results31, go_sem]) rfl ?_
    exact Claimed.bad E.out (by decide) (B2.out.trans (by first | exact belowN _ _ _ | exact Below.refl _ _))
  have PK := hide hK
  clear hK
  by_cases hM : Plain M
  rotate_left
  · have E := hide (errC_plain (x := (⟨8, a, b, K, M, l⟩ : Inv)) N1.out N8.out ⟨by show (1 : Int) ≤ 8; decide, by show (8 : Int) ≤ 11; decide⟩ HV.out fun q => hM q.2.1)
    have PM := hide hM
    clear hM
    go_wp2_with (first
      | (go_at_call 65
         with_reducible refine (plainProg (n := K)).mono ?_
         intro e w3 h3
         obtain ⟨rfl, n3K, rfl⟩ := tells_yes h3 PK.out
         clear h3)
      | (go_at_call 65
         with_reducible refine (plainProg (n := M)).mono ?_
         intro e w3 h3
         obtain ⟨rfl, n3M, rfl⟩ := tells_no h3 PM.out
         clear h3)
      | fail)
    refine bodyPost_ret (v := .tuple #[.nilIface, .int .i64 3]) (by simp [results, Tryz.results31, go_sem]) rfl ?_
    exact Claimed.bad E.out (by decide) (B2.out.trans (by first | exact belowN _ _ _ | exact Below.refl _ _))
  have PM := hide hM
  clear hM
  by_cases h5 : AllPlain l
  rotate_left
  · have E := hide (errC_plain (x := (⟨8, a, b, K, M, l⟩ : Inv)) N1.out N8.out ⟨by show (1 : Int) ≤ 8; decide, by show (8 : Int) ≤ 11; decide⟩ HV.out fun q => h5 q.2.2)
    have P5 := hide h5
    clear h5
    go_wp2_with (first
      | (go_at_call 65
         with_reducible refine (plainProg (n := K)).mono ?_
         intro e w3 h3
         obtain ⟨rfl, n3K, rfl⟩ := tells_yes h3 PK.out
         clear h3)
      | (go_at_call 65
         with_reducible refine (plainProg (n := M)).mono ?_
         intro e w3 h3
         obtain ⟨rfl, n3M, rfl⟩ := tells_yes h3 PM.out
         clear h3)
      | (go_at_call 35
         with_reducible refine (plainAll (l := l) (by first | exact I2.out | exact intsW_drewN I2.out _)).mono ?_
         intro e w3 h3
         obtain ⟨rfl, n5, rfl⟩ := tells_no h3 P5.out
         clear h3)
      | fail)
    refine bodyPost_ret (v := .tuple #[.nilIface, .int .i64 3]) (by simp [results, Tryz.results31, go_sem]) rfl ?_
    exact Claimed.bad E.out (by decide) (B2.out.trans (by first | exact belowN _ _ _ | exact Below.refl _ _))
  have P5 := hide h5
  clear h5
  go_upto_region 9 with (first
      | (go_at_call 65
         with_reducible refine (plainProg (n := K)).mono ?_
         intro e w3 h3
         obtain ⟨rfl, n3K, rfl⟩ := tells_yes h3 PK.out
         clear h3)
      | (go_at_call 65
         with_reducible refine (plainProg (n := M)).mono ?_
         intro e w3 h3
         obtain ⟨rfl, n3M, rfl⟩ := tells_yes h3 PM.out
         clear h3)
      | (go_at_call 35
         with_reducible refine (plainAll (l := l) (by first | exact I2.out | exact intsW_drewN I2.out _)).mono ?_
         intro e w3 h3
         obtain ⟨rfl, n5, rfl⟩ := tells_yes h3 P5.out
         clear h3)
      | fail)
  have H3 : Hid (St w (⟨8, a, b, K, M, l⟩ : Inv) (.slice os l.length cs) w2) := hide ⟨L2.out, I2.out, B2.out⟩
  clear p0 p1 p2 p3 p4 p5
  by_cases hn : NumsOK (⟨8, a, b, K, M, l⟩ : Inv)
  rotate_left
  · have E := hide (errC_nums (x := (⟨8, a, b, K, M, l⟩ : Inv)) N1.out N8.out ⟨by show (1 : Int) ≤ 8; decide, by show (8 : Int) ≤ 11; decide⟩ HV.out ⟨PK.out, PM.out, P5.out⟩ hn)
    have HN := hide hn
    clear hn
    refine wp_region_held_drew (S := fun w' => Hid (St w (⟨8, a, b, K, M, l⟩ : Inv) (.slice os l.length cs) w')) (by kernel_rfl) (stDrewn (stDrew H3.out _)) (fun hHeld => ?_)
    refine takeAt (i := 0) (d := some 42) (v := .iface 164 (.agg #[.int .i64 a, .int .i64 b])) rfl rfl (by kernel_rfl) (by kernel_rfl) (by kernel_rfl) (fun _ _ _ h => h) (Or.inl ⟨by rfl, fun w _ => by go_simp⟩) hHeld ?_
    simp only [Act.put, List.setIfInBounds_toArray, List.set_cons_zero, List.set_cons_succ]
    refine wpAnyH_ready (rs := [1]) (by kernel_rfl) (by simp) ?_
    refine AllReadyH.cons rfl (fun K0 hK => ?_) AllReadyH.nil
    go_simp
    (go_at_call 66; with_reducible refine (V66.out _ (stInts (by first | assumption | exact stDrew H3.out _))).mono ?_; rintro e w4 h4; obtain ⟨rfl, hB⟩ := tellsB_no h4 HN.out; have HS4 : Hid (St w (⟨8, a, b, K, M, l⟩ : Inv) (.slice os l.length cs) w4) := hide (stStep (hide (stDrew H3.out _)) hB); clear hB h4)
    refine hK.out _ _ HS4 (fun hHeld => ?_)
    clear hK K0
    try simp only [Act.put, List.setIfInBounds_toArray, List.set_cons_zero, List.set_cons_succ]
    refine takeAt (i := 2) (d := some 44) (v := .bool true) rfl rfl (by kernel_rfl) (by kernel_rfl) (by kernel_rfl) (fun _ _ _ h => h) (Or.inl ⟨by rfl, fun w _ => by go_simp⟩) hHeld ?_
    simp only [Act.put, List.setIfInBounds_toArray, List.set_cons_zero, List.set_cons_succ]
    refine takeAt (i := 3) (d := some 45) (v := .bool true) rfl rfl (by kernel_rfl) (by kernel_rfl) (by kernel_rfl) (fun _ _ _ h => h) (Or.inl ⟨by rfl, fun w _ => by go_simp⟩) hHeld ?_
    simp only [Act.put, List.setIfInBounds_toArray, List.set_cons_zero, List.set_cons_succ]
    refine takeAt (i := 4) (d := some 46) (v := undef) rfl rfl (by kernel_rfl) (by kernel_rfl) (by kernel_rfl) (fun _ _ _ h => h) (Or.inr ⟨by rfl, rfl⟩) hHeld ?_
    simp only [Act.put, List.setIfInBounds_toArray, List.set_cons_zero, List.set_cons_succ]
    refine takeAt (i := 5) (d := some 47) (v := undef) rfl rfl (by kernel_rfl) (by kernel_rfl) (by kernel_rfl) (fun _ _ _ h => h) (Or.inr ⟨by rfl, rfl⟩) hHeld ?_
    simp only [Act.put, List.setIfInBounds_toArray, List.set_cons_zero, List.set_cons_succ]
    refine takeAt (i := 6) (d := some 48) (v := undef) rfl rfl (by kernel_rfl) (by kernel_rfl) (by kernel_rfl) (fun _ _ _ h => h) (Or.inr ⟨by rfl, rfl⟩) hHeld ?_
    simp only [Act.put, List.setIfInBounds_toArray, List.set_cons_zero, List.set_cons_succ]
    refine takeAt (i := 7) (d := some 49) (v := undef) rfl rfl (by kernel_rfl) (by kernel_rfl) (by kernel_rfl) (fun _ _ _ h => h) (Or.inr ⟨by rfl, rfl⟩) hHeld ?_
    simp only [Act.put, List.setIfInBounds_toArray, List.set_cons_zero, List.set_cons_succ]
    refine takeAt (i := 8) (d := some 50) (v := undef) rfl rfl (by kernel_rfl) (by kernel_rfl) (by kernel_rfl) (fun _ _ _ h => h) (Or.inr ⟨by rfl, rfl⟩) hHeld ?_
    simp only [Act.put, List.setIfInBounds_toArray, List.set_cons_zero, List.set_cons_succ]
    refine takeAt (i := 9) (d := some 51) (v := .bool true) rfl rfl (by kernel_rfl) (by kernel_rfl) (by kernel_rfl) (fun _ _ _ h => h) (Or.inl ⟨by rfl, fun w _ => by go_simp⟩) hHeld ?_
    simp only [Act.put, List.setIfInBounds_toArray, List.set_cons_zero, List.set_cons_succ]
    refine takeAt (i := 10) (d := some 41) (v := .bool true) rfl rfl (by kernel_rfl) (by kernel_rfl) (by kernel_rfl) (fun _ _ _ h => h) (Or.inl ⟨by rfl, fun w _ => by go_simp⟩) hHeld ?_
    simp only [Act.put, List.setIfInBounds_toArray, List.set_cons_zero, List.set_cons_succ]
    refine wpAnyH_done (by kernel_rfl) ?_ _
    go_wp2_with fail
    refine bodyPost_ret (v := .tuple #[.nilIface, .int .i64 1]) (by simp [results, Tryz.results31, go_sem]) rfl ?_
    exact Claimed.bad E.out (by decide) HS4.out.2.2
  have HN := hide hn
  clear hn
  by_cases hq : (⟨8, a, b, 0, 0, []⟩ : Inv) = (⟨8, a, b, K, M, l⟩ : Inv)
  rotate_left
  · have E := hide (errC_bare (x := (⟨8, a, b, K, M, l⟩ : Inv)) N1.out N8.out ⟨by show (1 : Int) ≤ 8; decide, by show (8 : Int) ≤ 11; decide⟩ HV.out ⟨PK.out, PM.out, P5.out⟩ HN.out fun q => hq (HX.out.2 q))
    have HQ := hide hq
    clear hq
    go_region_held3 (fun w' => w'.cell? ⟨w.heap.size, 0, none⟩ = some (.int .u8 8) ∧ w'.cell? ⟨w.heap.size, 1, none⟩ = some (.int .i64 a) ∧ w'.cell? ⟨w.heap.size, 2, none⟩ = some (.int .i64 b) ∧ w'.cell? ⟨w.heap.size, 3, none⟩ = some (.int .i64 K) ∧ w'.cell? ⟨w.heap.size, 4, none⟩ = some (.int .i64 M) ∧ w'.cell? ⟨w.heap.size, 5, none⟩ = some (.slice os l.length cs) ∧ Hid (St w (⟨8, a, b, K, M, l⟩ : Inv) (.slice os l.length cs) w'))
      (first | assumption | (with_reducible exact stOf (stDrewn (stDrew H3.out _))) | (with_reducible exact stOf HS4.out) | (with_reducible exact stOf HS5.out) | (with_reducible exact stOf HS6.out))
      (first
      | (go_at_call 66; with_reducible refine (V66.out _ (stInts (by first | assumption | exact stDrew H3.out _))).mono ?_; rintro e w4 h4; obtain ⟨rfl, hB⟩ := tellsB_yes h4 HN.out; have HS4 : Hid (St w (⟨8, a, b, K, M, l⟩ : Inv) (.slice os l.length cs) w4) := hide (stStep (hide (stDrew H3.out _)) hB); clear hB h4)
      | (go_at_call 259; with_reducible refine (V47.out _).mono ?_; rintro e w5 ⟨rfl, hB⟩; have HS5 : Hid (St w (⟨8, a, b, K, M, l⟩ : Inv) (.slice os l.length cs) w5) := hide (stStep (by assumption) hB); clear hB)
      | (go_at_call 67; with_reducible refine (V67.out _ (stInts (by assumption))).mono ?_; rintro e w6 h6; obtain ⟨rfl, hB⟩ := tellsB_no h6 HQ.out; have HS6 : Hid (St w (⟨8, a, b, K, M, l⟩ : Inv) (.slice os l.length cs) w6) := hide (stStep (by assumption) hB); clear hB h6))
    all_goals
      go_wp2_with fail
      refine bodyPost_ret (v := .tuple #[.nilIface, .int .i64 1]) (by simp [results, Tryz.results31, go_sem]) rfl ?_
      exact Claimed.bad E.out (by decide) (HS6.out.2.2)
  have HQ := hide hq
  clear hq
  have E := hide (errC_ok (x := (⟨8, a, b, K, M, l⟩ : Inv)) N1.out N8.out ⟨by show (1 : Int) ≤ 8; decide, by show (8 : Int) ≤ 11; decide⟩ HV.out ⟨PK.out, PM.out, P5.out⟩ HN.out (HX.out.1 HQ.out))
  go_region_held3 (fun w' => w'.cell? ⟨w.heap.size, 0, none⟩ = some (.int .u8 8) ∧ w'.cell? ⟨w.heap.size, 1, none⟩ = some (.int .i64 a) ∧ w'.cell? ⟨w.heap.size, 2, none⟩ = some (.int .i64 b) ∧ w'.cell? ⟨w.heap.size, 3, none⟩ = some (.int .i64 K) ∧ w'.cell? ⟨w.heap.size, 4, none⟩ = some (.int .i64 M) ∧ w'.cell? ⟨w.heap.size, 5, none⟩ = some (.slice os l.length cs) ∧ Hid (St w (⟨8, a, b, K, M, l⟩ : Inv) (.slice os l.length cs) w'))
      (first | assumption | (with_reducible exact stOf (stDrewn (stDrew H3.out _))) | (with_reducible exact stOf HS4.out) | (with_reducible exact stOf HS5.out) | (with_reducible exact stOf HS6.out))
      (first
      | (go_at_call 66; with_reducible refine (V66.out _ (stInts (by first | assumption | exact stDrew H3.out _))).mono ?_; rintro e w4 h4; obtain ⟨rfl, hB⟩ := tellsB_yes h4 HN.out; have HS4 : Hid (St w (⟨8, a, b, K, M, l⟩ : Inv) (.slice os l.length cs) w4) := hide (stStep (hide (stDrew H3.out _)) hB); clear hB h4)
      | (go_at_call 259; with_reducible refine (V47.out _).mono ?_; rintro e w5 ⟨rfl, hB⟩; have HS5 : Hid (St w (⟨8, a, b, K, M, l⟩ : Inv) (.slice os l.length cs) w5) := hide (stStep (by assumption) hB); clear hB)
      | (go_at_call 67; with_reducible refine (V67.out _ (stInts (by assumption))).mono ?_; rintro e w6 h6; obtain ⟨rfl, hB⟩ := tellsB_yes h6 HQ.out; have HS6 : Hid (St w (⟨8, a, b, K, M, l⟩ : Inv) (.slice os l.length cs) w6) := hide (stStep (by assumption) hB); clear hB h6))
  all_goals
    go_wp2_with fail
    refine bodyPost_ret (v := .tuple #[.iface 164 (.agg #[.int .i64 a, .int .i64 b]), .int .i64 0]) (by simp [results, Tryz.results31, go_sem]) rfl ?_
    exact ⟨.iface 164 (.agg #[.int .i64 a, .int .i64 b]), by rw [E.out], fun _ => rfl, HS6.out.2.2⟩
end Go.Proofs.YtdfjjmibhnniiaaGreatDoor.Le

set_option maxRecDepth 100000
set_option linter.unusedSimpArgs false
set_option linter.unusedVariables false
namespace Go.Proofs.YtdfjjmibhnniiaaGreatDoor.Le
open Go Go.Ms Go.Pg Go.Le Go.ChangeShapes Go.WideShapes Go.ChangeAt Go.RowKit Go.Deep

set_option maxHeartbeats 8000000 in
theorem of9 {w : World} {a b K M n : Int} {l : List Int} {os : Option Addr} {cs : Nat} (hs : IntsW w (.slice os l.length cs) l) : Calls Tryz.prog 31 #[.agg #[.int .u8 9, .int .i64 a, .int .i64 b, .int .i64 K, .int .i64 M, .slice os l.length cs], .int .i64 n] w (Claimed (⟨9, a, b, K, M, l⟩ : Inv) (.slice os l.length cs) n w) := by
  have V64 : Hid (∀ w', IntsW w' (.slice os l.length cs) l → Calls Tryz.prog 64 #[.iface 162 (.agg #[.int .i64 a, .int .i64 b]), .int .i64 n] w' (TellsB (VarsOK (⟨9, a, b, K, M, l⟩ : Inv) n) w')) := hide fun w' h => variablesProg (x := (⟨9, a, b, K, M, l⟩ : Inv)) ⟨by show (1 : Int) ≤ 9; decide, by show (9 : Int) ≤ 11; decide⟩ h
  have V66 : Hid (∀ w', IntsW w' (.slice os l.length cs) l → Calls Tryz.prog 66 #[.iface 162 (.agg #[.int .i64 a, .int .i64 b])] w' (TellsB (NumsOK (⟨9, a, b, K, M, l⟩ : Inv)) w')) := hide fun w' h => numbersProg (x := (⟨9, a, b, K, M, l⟩ : Inv)) ⟨by show (1 : Int) ≤ 9; decide, by show (9 : Int) ≤ 11; decide⟩ h
  have V63 : Hid (∀ w', IntsW w' (.slice os l.length cs) l → Calls Tryz.prog 63 #[.agg #[.int .u8 9, .int .i64 a, .int .i64 b, .int .i64 K, .int .i64 M, .slice os l.length cs]] w' fun e w'' => e = .returned (.iface 162 (.agg #[.int .i64 a, .int .i64 b])) ∧ Below w'.heap.size w' w'') := hide fun w' h => claimedProg (x := (⟨9, a, b, K, M, l⟩ : Inv)) h
  have V67 : Hid (∀ w', IntsW w' (.slice os l.length cs) l → Calls Tryz.prog 67 #[.agg #[.int .u8 9, .int .i64 a, .int .i64 b, .int .i64 0, .int .i64 0, .slice none 0 0], .agg #[.int .u8 9, .int .i64 a, .int .i64 b, .int .i64 K, .int .i64 M, .slice os l.length cs]] w' (TellsB ((⟨9, a, b, 0, 0, []⟩ : Inv) = (⟨9, a, b, K, M, l⟩ : Inv)) w')) := hide fun w' h => sameProg (x := (⟨9, a, b, 0, 0, []⟩ : Inv)) (y := (⟨9, a, b, K, M, l⟩ : Inv)) empty_ints h
  have V47 : Hid (∀ w', Calls Tryz.prog 253 #[.agg #[.int .i64 a, .int .i64 b]] w' fun e w'' => e = .returned (.agg #[.int .u8 9, .int .i64 a, .int .i64 b, .int .i64 0, .int .i64 0, .slice none 0 0]) ∧ Below w'.heap.size w' w'') := hide fun w' => inv9 a b K M os l.length cs w'
  have HX : Hid ((⟨9, a, b, 0, 0, []⟩ : Inv) = (⟨9, a, b, K, M, l⟩ : Inv) ↔ (⟨9, a, b, K, M, l⟩ : Inv) = bare (⟨9, a, b, K, M, l⟩ : Inv)) := hide (by rw [show bare (⟨9, a, b, K, M, l⟩ : Inv) = (⟨9, a, b, 0, 0, []⟩ : Inv) from rfl]; exact ⟨fun q => q.symm, fun q => q.symm⟩)
  obtain ⟨b1, b3⟩ := one_box w (⟨9, a, b, K, M, l⟩ : Inv) (.slice os l.length cs) 31
  unfold cInv at *
  dsimp only at b1 b3
  go_enter Tryz.func31, Tryz.ntmps31
  go_upto_region 1 with (fail)
  generalize w.alloc (.cells #[.int .u8 9, .int .i64 a, .int .i64 b, .int .i64 K, .int .i64 M, .slice os l.length cs] 31) = w0 at *
  have I0 := hide (intsW_below hs b3)
  have L0 := hide b1
  have HB := hide b3
  clear b3 hs
  obtain ⟨p0, p1, p2, p3, p4, p5⟩ := b1
  dsimp only at p0 p1 p2 p3 p4 p5
  by_cases n1 : n < 1
  · have E := hide (errC_low (x := (⟨9, a, b, K, M, l⟩ : Inv)) n1)
    go_wp2_with (first
      | (go_at_call 41
         with_reducible refine (checkVars n _).mono ?_
         rintro e _ ⟨rfl, rfl⟩
         rw [if_pos n1])
      | fail)
    refine bodyPost_ret (v := .tuple #[.nilIface, .int .i64 1]) (by simp [results, Tryz.results31, go_sem]) rfl ?_
    exact Claimed.bad E.out (by decide) (HB.out)
  by_cases n8 : 8 < n
  · have E := hide (errC_high (x := (⟨9, a, b, K, M, l⟩ : Inv)) n8)
    go_wp2_with (first
      | (go_at_call 41
         with_reducible refine (checkVars n _).mono ?_
         rintro e _ ⟨rfl, rfl⟩
         rw [if_neg (by omega), if_pos n8])
      | fail)
    refine bodyPost_ret (v := .tuple #[.nilIface, .int .i64 3]) (by simp [results, Tryz.results31, go_sem]) rfl ?_
    exact Claimed.bad E.out (by decide) (HB.out)
  have N1 : Hid (1 ≤ n) := hide (by omega)
  have N8 : Hid (n ≤ 8) := hide (by omega)
  go_upto_region 5 with (first
      | (go_at_call 41
         with_reducible refine (checkVars n _).mono ?_
         rintro e _ ⟨rfl, rfl⟩
         rw [if_neg (by have := N1.out; omega), if_neg (by have := N8.out; omega)])
      | (go_at_call 63
         with_reducible refine (V63.out _ I0.out).mono ?_
         rintro e w1 ⟨rfl, hB⟩
         have L1 := hide (L0.out.below hB)
         have I1 := hide (intsW_below I0.out hB)
         have B1 := hide (below_up HB.out hB)
         clear hB p0 p1 p2 p3 p4 p5
         obtain ⟨p0, p1, p2, p3, p4, p5⟩ := L1.out
         dsimp only at p0 p1 p2 p3 p4 p5)
      | fail)
  clear n1 n8
  by_cases hv : VarsOK (⟨9, a, b, K, M, l⟩ : Inv) n
  rotate_left
  · have E := hide (errC_vars (x := (⟨9, a, b, K, M, l⟩ : Inv)) N1.out N8.out ⟨by show (1 : Int) ≤ 9; decide, by show (9 : Int) ≤ 11; decide⟩ hv)
    have HV := hide hv
    clear hv
    go_wp2_with (first
      | (go_at_call 64
         with_reducible refine (V64.out _ I1.out).mono ?_
         rintro e w2 h2
         obtain ⟨rfl, hB⟩ := tellsB_no h2 HV.out
         have B2 := hide (below_up B1.out hB)
         clear hB h2)
      | fail)
    refine bodyPost_ret (v := .tuple #[.nilIface, .int .i64 1]) (by simp [results, Tryz.results31, go_sem]) rfl ?_
    exact Claimed.bad E.out (by decide) (B2.out)
  have HV := hide hv
  clear hv
  go_upto_region 7 with (first
    | (go_at_call 64
       with_reducible refine (V64.out _ I1.out).mono ?_
       rintro e w2 h2
       obtain ⟨rfl, hB⟩ := tellsB_yes h2 HV.out
       have L2 := hide (L1.out.below hB)
       have I2 := hide (intsW_below I1.out hB)
       have B2 := hide (below_up B1.out hB)
       clear hB h2 p0 p1 p2 p3 p4 p5
       obtain ⟨p0, p1, p2, p3, p4, p5⟩ := L2.out
       dsimp only at p0 p1 p2 p3 p4 p5)
    | fail)
  by_cases hK : Plain K
  rotate_left
  · have E := hide (errC_plain (x := (⟨9, a, b, K, M, l⟩ : Inv)) N1.out N8.out ⟨by show (1 : Int) ≤ 9; decide, by show (9 : Int) ≤ 11; decide⟩ HV.out fun q => hK q.1)
    have PK := hide hK
    clear hK
    go_wp2_with (first
      | (go_at_call 65
         with_reducible refine (plainProg (n := K)).mono ?_
         intro e w3 h3
         obtain ⟨rfl, n3K, rfl⟩ := tells_no h3 PK.out
         clear h3)
      | fail)
    refine bodyPost_ret (v := .tuple #[.nilIface, .int .i64 3]) (by simp [results, Tryz.results31, go_sem]) rfl ?_
    exact Claimed.bad E.out (by decide) (B2.out.trans (by first | exact belowN _ _ _ | exact Below.refl _ _))
  have PK := hide hK
  clear hK
  by_cases hM : Plain M
  rotate_left
  · have E := hide (errC_plain (x := (⟨9, a, b, K, M, l⟩ : Inv)) N1.out N8.out ⟨by show (1 : Int) ≤ 9; decide, by show (9 : Int) ≤ 11; decide⟩ HV.out fun q => hM q.2.1)
    have PM := hide hM
    clear hM
    go_wp2_with (first
      | (go_at_call 65
         with_reducible refine (plainProg (n := K)).mono ?_
         intro e w3 h3
         obtain ⟨rfl, n3K, rfl⟩ := tells_yes h3 PK.out
         clear h3)
      | (go_at_call 65
         with_reducible refine (plainProg (n := M)).mono ?_
         intro e w3 h3
         obtain ⟨rfl, n3M, rfl⟩ := tells_no h3 PM.out
         clear h3)
      | fail)
    refine bodyPost_ret (v := .tuple #[.nilIface, .int .i64 3]) (by simp [results, Tryz.results31, go_sem]) rfl ?_
    exact Claimed.bad E.out (by decide) (B2.out.trans (by first | exact belowN _ _ _ | exact Below.refl _ _))
  have PM := hide hM
  clear hM
  by_cases h5 : AllPlain l
  rotate_left
  · have E := hide (errC_plain (x := (⟨9, a, b, K, M, l⟩ : Inv)) N1.out N8.out ⟨by show (1 : Int) ≤ 9; decide, by show (9 : Int) ≤ 11; decide⟩ HV.out fun q => h5 q.2.2)
    have P5 := hide h5
    clear h5
    go_wp2_with (first
      | (go_at_call 65
         with_reducible refine (plainProg (n := K)).mono ?_
         intro e w3 h3
         obtain ⟨rfl, n3K, rfl⟩ := tells_yes h3 PK.out
         clear h3)
      | (go_at_call 65
         with_reducible refine (plainProg (n := M)).mono ?_
         intro e w3 h3
         obtain ⟨rfl, n3M, rfl⟩ := tells_yes h3 PM.out
         clear h3)
      | (go_at_call 35
         with_reducible refine (plainAll (l := l) (by first | exact I2.out | exact intsW_drewN I2.out _)).mono ?_
         intro e w3 h3
         obtain ⟨rfl, n5, rfl⟩ := tells_no h3 P5.out
         clear h3)
      | fail)
    refine bodyPost_ret (v := .tuple #[.nilIface, .int .i64 3]) (by simp [results, Tryz.results31, go_sem]) rfl ?_
    exact Claimed.bad E.out (by decide) (B2.out.trans (by first | exact belowN _ _ _ | exact Below.refl _ _))
  have P5 := hide h5
  clear h5
  go_upto_region 9 with (first
      | (go_at_call 65
         with_reducible refine (plainProg (n := K)).mono ?_
         intro e w3 h3
         obtain ⟨rfl, n3K, rfl⟩ := tells_yes h3 PK.out
         clear h3)
      | (go_at_call 65
         with_reducible refine (plainProg (n := M)).mono ?_
         intro e w3 h3
         obtain ⟨rfl, n3M, rfl⟩ := tells_yes h3 PM.out
         clear h3)
      | (go_at_call 35
         with_reducible refine (plainAll (l := l) (by first | exact I2.out | exact intsW_drewN I2.out _)).mono ?_
         intro e w3 h3
         obtain ⟨rfl, n5, rfl⟩ := tells_yes h3 P5.out
         clear h3)
      | fail)
  have H3 : Hid (St w (⟨9, a, b, K, M, l⟩ : Inv) (.slice os l.length cs) w2) := hide ⟨L2.out, I2.out, B2.out⟩
  clear p0 p1 p2 p3 p4 p5
  by_cases hn : NumsOK (⟨9, a, b, K, M, l⟩ : Inv)
  rotate_left
  · have E := hide (errC_nums (x := (⟨9, a, b, K, M, l⟩ : Inv)) N1.out N8.out ⟨by show (1 : Int) ≤ 9; decide, by show (9 : Int) ≤ 11; decide⟩ HV.out ⟨PK.out, PM.out, P5.out⟩ hn)
    have HN := hide hn
    clear hn
    refine wp_region_held_drew (S := fun w' => Hid (St w (⟨9, a, b, K, M, l⟩ : Inv) (.slice os l.length cs) w')) (by kernel_rfl) (stDrewn (stDrew H3.out _)) (fun hHeld => ?_)
    refine takeAt (i := 0) (d := some 42) (v := .iface 162 (.agg #[.int .i64 a, .int .i64 b])) rfl rfl (by kernel_rfl) (by kernel_rfl) (by kernel_rfl) (fun _ _ _ h => h) (Or.inl ⟨by rfl, fun w _ => by go_simp⟩) hHeld ?_
    simp only [Act.put, List.setIfInBounds_toArray, List.set_cons_zero, List.set_cons_succ]
    refine wpAnyH_ready (rs := [1]) (by kernel_rfl) (by simp) ?_
    refine AllReadyH.cons rfl (fun K0 hK => ?_) AllReadyH.nil
    go_simp
    (go_at_call 66; with_reducible refine (V66.out _ (stInts (by first | assumption | exact stDrew H3.out _))).mono ?_; rintro e w4 h4; obtain ⟨rfl, hB⟩ := tellsB_no h4 HN.out; have HS4 : Hid (St w (⟨9, a, b, K, M, l⟩ : Inv) (.slice os l.length cs) w4) := hide (stStep (hide (stDrew H3.out _)) hB); clear hB h4)
    refine hK.out _ _ HS4 (fun hHeld => ?_)
    clear hK K0
    try simp only [Act.put, List.setIfInBounds_toArray, List.set_cons_zero, List.set_cons_succ]
    refine takeAt (i := 2) (d := some 44) (v := .bool true) rfl rfl (by kernel_rfl) (by kernel_rfl) (by kernel_rfl) (fun _ _ _ h => h) (Or.inl ⟨by rfl, fun w _ => by go_simp⟩) hHeld ?_
    simp only [Act.put, List.setIfInBounds_toArray, List.set_cons_zero, List.set_cons_succ]
    refine takeAt (i := 3) (d := some 45) (v := .bool true) rfl rfl (by kernel_rfl) (by kernel_rfl) (by kernel_rfl) (fun _ _ _ h => h) (Or.inl ⟨by rfl, fun w _ => by go_simp⟩) hHeld ?_
    simp only [Act.put, List.setIfInBounds_toArray, List.set_cons_zero, List.set_cons_succ]
    refine takeAt (i := 4) (d := some 46) (v := undef) rfl rfl (by kernel_rfl) (by kernel_rfl) (by kernel_rfl) (fun _ _ _ h => h) (Or.inr ⟨by rfl, rfl⟩) hHeld ?_
    simp only [Act.put, List.setIfInBounds_toArray, List.set_cons_zero, List.set_cons_succ]
    refine takeAt (i := 5) (d := some 47) (v := undef) rfl rfl (by kernel_rfl) (by kernel_rfl) (by kernel_rfl) (fun _ _ _ h => h) (Or.inr ⟨by rfl, rfl⟩) hHeld ?_
    simp only [Act.put, List.setIfInBounds_toArray, List.set_cons_zero, List.set_cons_succ]
    refine takeAt (i := 6) (d := some 48) (v := undef) rfl rfl (by kernel_rfl) (by kernel_rfl) (by kernel_rfl) (fun _ _ _ h => h) (Or.inr ⟨by rfl, rfl⟩) hHeld ?_
    simp only [Act.put, List.setIfInBounds_toArray, List.set_cons_zero, List.set_cons_succ]
    refine takeAt (i := 7) (d := some 49) (v := undef) rfl rfl (by kernel_rfl) (by kernel_rfl) (by kernel_rfl) (fun _ _ _ h => h) (Or.inr ⟨by rfl, rfl⟩) hHeld ?_
    simp only [Act.put, List.setIfInBounds_toArray, List.set_cons_zero, List.set_cons_succ]
    refine takeAt (i := 8) (d := some 50) (v := undef) rfl rfl (by kernel_rfl) (by kernel_rfl) (by kernel_rfl) (fun _ _ _ h => h) (Or.inr ⟨by rfl, rfl⟩) hHeld ?_
    simp only [Act.put, List.setIfInBounds_toArray, List.set_cons_zero, List.set_cons_succ]
    refine takeAt (i := 9) (d := some 51) (v := .bool true) rfl rfl (by kernel_rfl) (by kernel_rfl) (by kernel_rfl) (fun _ _ _ h => h) (Or.inl ⟨by rfl, fun w _ => by go_simp⟩) hHeld ?_
    simp only [Act.put, List.setIfInBounds_toArray, List.set_cons_zero, List.set_cons_succ]
    refine takeAt (i := 10) (d := some 41) (v := .bool true) rfl rfl (by kernel_rfl) (by kernel_rfl) (by kernel_rfl) (fun _ _ _ h => h) (Or.inl ⟨by rfl, fun w _ => by go_simp⟩) hHeld ?_
    simp only [Act.put, List.setIfInBounds_toArray, List.set_cons_zero, List.set_cons_succ]
    refine wpAnyH_done (by kernel_rfl) ?_ _
    go_wp2_with fail
    refine bodyPost_ret (v := .tuple #[.nilIface, .int .i64 1]) (by simp [results, Tryz.results31, go_sem]) rfl ?_
    exact Claimed.bad E.out (by decide) HS4.out.2.2
  have HN := hide hn
  clear hn
  by_cases hq : (⟨9, a, b, 0, 0, []⟩ : Inv) = (⟨9, a, b, K, M, l⟩ : Inv)
  rotate_left
  · have E := hide (errC_bare (x := (⟨9, a, b, K, M, l⟩ : Inv)) N1.out N8.out ⟨by show (1 : Int) ≤ 9; decide, by show (9 : Int) ≤ 11; decide⟩ HV.out ⟨PK.out, PM.out, P5.out⟩ HN.out fun q => hq (HX.out.2 q))
    have HQ := hide hq
    clear hq
    go_region_held3 (fun w' => w'.cell? ⟨w.heap.size, 0, none⟩ = some (.int .u8 9) ∧ w'.cell? ⟨w.heap.size, 1, none⟩ = some (.int .i64 a) ∧ w'.cell? ⟨w.heap.size, 2, none⟩ = some (.int .i64 b) ∧ w'.cell? ⟨w.heap.size, 3, none⟩ = some (.int .i64 K) ∧ w'.cell? ⟨w.heap.size, 4, none⟩ = some (.int .i64 M) ∧ w'.cell? ⟨w.heap.size, 5, none⟩ = some (.slice os l.length cs) ∧ Hid (St w (⟨9, a, b, K, M, l⟩ : Inv) (.slice os l.length cs) w'))
      (first | assumption | (with_reducible exact stOf (stDrewn (stDrew H3.out _))) | (with_reducible exact stOf HS4.out) | (with_reducible exact stOf HS5.out) | (with_reducible exact stOf HS6.out))
      (first
      | (go_at_call 66; with_reducible refine (V66.out _ (stInts (by first | assumption | exact stDrew H3.out _))).mono ?_; rintro e w4 h4; obtain ⟨rfl, hB⟩ := tellsB_yes h4 HN.out; have HS4 : Hid (St w (⟨9, a, b, K, M, l⟩ : Inv) (.slice os l.length cs) w4) := hide (stStep (hide (stDrew H3.out _)) hB); clear hB h4)
      | (go_at_call 253; with_reducible refine (V47.out _).mono ?_; rintro e w5 ⟨rfl, hB⟩; have HS5 : Hid (St w (⟨9, a, b, K, M, l⟩ : Inv) (.slice os l.length cs) w5) := hide (stStep (by assumption) hB); clear hB)
      | (go_at_call 67; with_reducible refine (V67.out _ (stInts (by assumption))).mono ?_; rintro e w6 h6; obtain ⟨rfl, hB⟩ := tellsB_no h6 HQ.out; have HS6 : Hid (St w (⟨9, a, b, K, M, l⟩ : Inv) (.slice os l.length cs) w6) := hide (stStep (by assumption) hB); clear hB h6))
    all_goals
      go_wp2_with fail
      refine bodyPost_ret (v := .tuple #[.nilIface, .int .i64 1]) (by simp [results, Tryz.results31, go_sem]) rfl ?_
      exact Claimed.bad E.out (by decide) (HS6.out.2.2)
  have HQ := hide hq
  clear hq
  have E := hide (errC_ok (x := (⟨9, a, b, K, M, l⟩ : Inv)) N1.out N8.out ⟨by show (1 : Int) ≤ 9; decide, by show (9 : Int) ≤ 11; decide⟩ HV.out ⟨PK.out, PM.out, P5.out⟩ HN.out (HX.out.1 HQ.out))
  go_region_held3 (fun w' => w'.cell? ⟨w.heap.size, 0, none⟩ = some (.int .u8 9) ∧ w'.cell? ⟨w.heap.size, 1, none⟩ = some (.int .i64 a) ∧ w'.cell? ⟨w.heap.size, 2, none⟩ = some (.int .i64 b) ∧ w'.cell? ⟨w.heap.size, 3, none⟩ = some (.int .i64 K) ∧ w'.cell? ⟨w.heap.size, 4, none⟩ = some (.int .i64 M) ∧ w'.cell? ⟨w.heap.size, 5, none⟩ = some (.slice os l.length cs) ∧ Hid (St w (⟨9, a, b, K, M, l⟩ : Inv) (.slice os l.length cs) w'))
      (first | assumption | (with_reducible exact stOf (stDrewn (stDrew H3.out _))) | (with_reducible exact stOf HS4.out) | (with_reducible exact stOf HS5.out) | (with_reducible exact stOf HS6.out))
      (first
      | (go_at_call 66; with_reducible refine (V66.out _ (stInts (by first | assumption | exact stDrew H3.out _))).mono ?_; rintro e w4 h4; obtain ⟨rfl, hB⟩ := tellsB_yes h4 HN.out; have HS4 : Hid (St w (⟨9, a, b, K, M, l⟩ : Inv) (.slice os l.length cs) w4) := hide (stStep (hide (stDrew H3.out _)) hB); clear hB h4)
      | (go_at_call 253; with_reducible refine (V47.out _).mono ?_; rintro e w5 ⟨rfl, hB⟩; have HS5 : Hid (St w (⟨9, a, b, K, M, l⟩ : Inv) (.slice os l.length cs) w5) := hide (stStep (by assumption) hB); clear hB)
      | (go_at_call 67; with_reducible refine (V67.out _ (stInts (by assumption))).mono ?_; rintro e w6 h6; obtain ⟨rfl, hB⟩ := tellsB_yes h6 HQ.out; have HS6 : Hid (St w (⟨9, a, b, K, M, l⟩ : Inv) (.slice os l.length cs) w6) := hide (stStep (by assumption) hB); clear hB h6))
  all_goals
    go_wp2_with fail
    refine bodyPost_ret (v := .tuple #[.iface 162 (.agg #[.int .i64 a, .int .i64 b]), .int .i64 0]) (by simp [results, Tryz.results31, go_sem]) rfl ?_
    exact ⟨.iface 162 (.agg #[.int .i64 a, .int .i64 b]), by rw [E.out], fun _ => rfl, HS6.out.2.2⟩
end Go.Proofs.YtdfjjmibhnniiaaGreatDoor.Le

