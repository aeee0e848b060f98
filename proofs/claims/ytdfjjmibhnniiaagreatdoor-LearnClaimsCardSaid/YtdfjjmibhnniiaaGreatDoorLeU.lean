import Derived.Test.YtdfjjmibhnniiaaGreatDoorLeT6
import Derived.Deep.RegionHeld3
set_option maxRecDepth 100000
set_option linter.unusedSimpArgs false
set_option linter.unusedVariables false
namespace Go.Proofs.YtdfjjmibhnniiaaGreatDoor.Le
open Go Go.Ms Go.Pg Go.Le Go.ChangeShapes Go.WideShapes Go.ChangeAt Go.RowKit Go.Deep

set_option maxHeartbeats 8000000 in
theorem in7 {w : World} {i j : Nat} {K M : Int} {l row : List Int} {os : Option Addr} {cs : Nat} {t : Value} (hs : IntsW w (.slice os l.length cs) l) (ht : IntsW w t row) (he : err (⟨7, i, j, K, M, l⟩ : Inv) row.length = 0) : Calls Tryz.prog 12 #[.agg #[.int .u8 7, .int .i64 (i : Int), .int .i64 (j : Int), .int .i64 K, .int .i64 M, .slice os l.length cs], t] w (Answers (⟨7, i, j, K, M, l⟩ : Inv) row w) := by
  obtain ⟨-, -, hv, hp, hn, -⟩ := err_zero he
  have hb := b_in he
  have hi : i < row.length := by have := hv.2.1; dsimp only at this; omega
  have hj : j < row.length := by have := hb.2; dsimp only at this; omega
  have hK : Plain K := hp.1
  have hM : Plain M := hp.2.1
  have hq : (row[i] = row[j]) ↔ Holds (⟨7, i, j, K, M, l⟩ : Inv) row := by simp [Holds, at_nat, hi, hj]
  have V31 : Hid (∀ w', IntsW w' (.slice os l.length cs) l → Calls Tryz.prog 31 #[.agg #[.int .u8 7, .int .i64 (i : Int), .int .i64 (j : Int), .int .i64 K, .int .i64 M, .slice os l.length cs], .int .i64 (row.length : Int)] w' fun e w'' => e = .returned (.tuple #[.iface 160 (.agg #[.int .i64 (i : Int), .int .i64 (j : Int)]), .int .i64 0]) ∧ Below w'.heap.size w' w'') := hide fun w' h => (claimOfProg (x := (⟨7, i, j, K, M, l⟩ : Inv)) h).mono fun e w'' ⟨v, q1, q2, q3⟩ => ⟨by rw [q1, he, q2 he]; rfl, q3⟩
  have VH : Hid (∀ w', IntsW w' (.slice os l.length cs) l → IntsW w' t row → AllPlain row → Calls Tryz.prog 249 #[.agg #[.int .i64 (i : Int), .int .i64 (j : Int)], t] w' (TellsB (Holds (⟨7, i, j, K, M, l⟩ : Inv) row) w')) := hide fun w' h1 h2 h3 => (hold7 i j K M h2 hi hj hK hM h3).mono fun e w'' q => q.iff hq
  have HE := hide he
  clear he hv hp hn hb hi hj hK hM hq
  obtain ⟨b1, b3⟩ := one_box w (⟨7, i, j, K, M, l⟩ : Inv) (.slice os l.length cs) 31
  unfold cInv at *
  dsimp only at b1 b3
  have I0 := hide (intsW_below hs b3)
  have R0 := hide (intsW_below ht b3)
  have HB := hide b3
  obtain ⟨ot, ct, rfl, hlt, _⟩ := ht
  clear b3 hs
  go_enter Tryz.func12, Tryz.ntmps12
  go_upto_region 1 with (fail)
  generalize w.alloc (.cells #[.int .u8 7, .int .i64 (i : Int), .int .i64 (j : Int), .int .i64 K, .int .i64 M, .slice os l.length cs] 31) = w0 at *
  obtain ⟨p0, p1, p2, p3, p4, p5⟩ := b1
  dsimp only at p0 p1 p2 p3 p4 p5
  by_cases hr : AllPlain row
  · have HP := hide hr
    clear hr
    have h1 : Hid (rowErr (⟨7, i, j, K, M, l⟩ : Inv) row = 0) := hide (by unfold rowErr; rw [if_pos HE.out, if_pos HP.out])
    go_wp2_with (first
      | (go_at_call 31
         with_reducible refine (V31.out _ I0.out).mono ?_
         rintro e w1 ⟨rfl, hB⟩
         have I1 := hide (intsW_below I0.out hB)
         have R1 := hide (intsW_below R0.out hB)
         have B1 := hide (below_up HB.out hB)
         clear hB p0 p1 p2 p3 p4 p5)
      | (go_at_call 35
         with_reducible refine (plainAll (l := row) R1.out).mono ?_
         intro e w2 h2
         obtain ⟨rfl, n2, rfl⟩ := tells_yes h2 HP.out
         clear h2)
      | (go_at_call 249
         with_reducible refine (VH.out _ (intsW_drewN I1.out _) (intsW_drewN R1.out _) HP.out).mono ?_
         rintro e w3 ⟨r, rfl, hr3, hB⟩
         have HR := hide hr3
         have B3 := hide (below_up (B1.out.trans (belowN _ _ _)) hB)
         clear hr3 hB)
      | fail)
    refine bodyPost_ret (v := .tuple #[.bool r, .int .i64 0]) (by simp [results, Tryz.results12, go_sem]) rfl ?_
    exact ⟨r, by rw [h1.out], by rw [h1.out, if_pos rfl]; exact HR.out, B3.out⟩
  · have HP := hide hr
    clear hr
    have h1 : Hid (rowErr (⟨7, i, j, K, M, l⟩ : Inv) row = 3) := hide (by unfold rowErr; rw [if_pos HE.out, if_neg HP.out])
    go_wp2_with (first
      | (go_at_call 31
         with_reducible refine (V31.out _ I0.out).mono ?_
         rintro e w1 ⟨rfl, hB⟩
         have R1 := hide (intsW_below R0.out hB)
         have B1 := hide (below_up HB.out hB)
         clear hB p0 p1 p2 p3 p4 p5)
      | (go_at_call 35
         with_reducible refine (plainAll (l := row) R1.out).mono ?_
         intro e w2 h2
         obtain ⟨rfl, n2, rfl⟩ := tells_no h2 HP.out
         clear h2)
      | fail)
    refine bodyPost_ret (v := .tuple #[.bool false, .int .i64 3]) (by simp [results, Tryz.results12, go_sem]) rfl ?_
    exact ⟨false, by rw [h1.out], by rw [h1.out, if_neg (by decide)], B1.out.trans (belowN _ _ _)⟩
end Go.Proofs.YtdfjjmibhnniiaaGreatDoor.Le

set_option maxRecDepth 100000
set_option linter.unusedSimpArgs false
set_option linter.unusedVariables false
namespace Go.Proofs.YtdfjjmibhnniiaaGreatDoor.Le
open Go Go.Ms Go.Pg Go.Le Go.ChangeShapes Go.WideShapes Go.ChangeAt Go.RowKit Go.Deep

set_option maxHeartbeats 8000000 in
theorem in8 {w : World} {i j : Nat} {K M : Int} {l row : List Int} {os : Option Addr} {cs : Nat} {t : Value} (hs : IntsW w (.slice os l.length cs) l) (ht : IntsW w t row) (he : err (⟨8, i, j, K, M, l⟩ : Inv) row.length = 0) : Calls Tryz.prog 12 #[.agg #[.int .u8 8, .int .i64 (i : Int), .int .i64 (j : Int), .int .i64 K, .int .i64 M, .slice os l.length cs], t] w (Answers (⟨8, i, j, K, M, l⟩ : Inv) row w) := by
  obtain ⟨-, -, hv, hp, hn, -⟩ := err_zero he
  have hb := b_in he
  have hi : i < row.length := by have := hv.2.1; dsimp only at this; omega
  have hj : j < row.length := by have := hb.2; dsimp only at this; omega
  have hK : Plain K := hp.1
  have hM : Plain M := hp.2.1
  have hq : (row[i] ≠ row[j]) ↔ Holds (⟨8, i, j, K, M, l⟩ : Inv) row := by simp [Holds, at_nat, hi, hj]
  have V31 : Hid (∀ w', IntsW w' (.slice os l.length cs) l → Calls Tryz.prog 31 #[.agg #[.int .u8 8, .int .i64 (i : Int), .int .i64 (j : Int), .int .i64 K, .int .i64 M, .slice os l.length cs], .int .i64 (row.length : Int)] w' fun e w'' => e = .returned (.tuple #[.iface 164 (.agg #[.int .i64 (i : Int), .int .i64 (j : Int)]), .int .i64 0]) ∧ Below w'.heap.size w' w'') := hide fun w' h => (claimOfProg (x := (⟨8, i, j, K, M, l⟩ : Inv)) h).mono fun e w'' ⟨v, q1, q2, q3⟩ => ⟨by rw [q1, he, q2 he]; rfl, q3⟩
  have VH : Hid (∀ w', IntsW w' (.slice os l.length cs) l → IntsW w' t row → AllPlain row → Calls Tryz.prog 258 #[.agg #[.int .i64 (i : Int), .int .i64 (j : Int)], t] w' (TellsB (Holds (⟨8, i, j, K, M, l⟩ : Inv) row) w')) := hide fun w' h1 h2 h3 => (hold8 i j K M h2 hi hj hK hM h3).mono fun e w'' q => q.iff hq
  have HE := hide he
  clear he hv hp hn hb hi hj hK hM hq
  obtain ⟨b1, b3⟩ := one_box w (⟨8, i, j, K, M, l⟩ : Inv) (.slice os l.length cs) 31
  unfold cInv at *
  dsimp only at b1 b3
  have I0 := hide (intsW_below hs b3)
  have R0 := hide (intsW_below ht b3)
  have HB := hide b3
  obtain ⟨ot, ct, rfl, hlt, _⟩ := ht
  clear b3 hs
  go_enter Tryz.func12, Tryz.ntmps12
  go_upto_region 1 with (fail)
  generalize w.alloc (.cells #[.int .u8 8, .int .i64 (i : Int), .int .i64 (j : Int), .int .i64 K, .int .i64 M, .slice os l.length cs] 31) = w0 at *
  obtain ⟨p0, p1, p2, p3, p4, p5⟩ := b1
  dsimp only at p0 p1 p2 p3 p4 p5
  by_cases hr : AllPlain row
  · have HP := hide hr
    clear hr
    have h1 : Hid (rowErr (⟨8, i, j, K, M, l⟩ : Inv) row = 0) := hide (by unfold rowErr; rw [if_pos HE.out, if_pos HP.out])
    go_wp2_with (first
      | (go_at_call 31
         with_reducible refine (V31.out _ I0.out).mono ?_
         rintro e w1 ⟨rfl, hB⟩
         have I1 := hide (intsW_below I0.out hB)
         have R1 := hide (intsW_below R0.out hB)
         have B1 := hide (below_up HB.out hB)
         clear hB p0 p1 p2 p3 p4 p5)
      | (go_at_call 35
         with_reducible refine (plainAll (l := row) R1.out).mono ?_
         intro e w2 h2
         obtain ⟨rfl, n2, rfl⟩ := tells_yes h2 HP.out
         clear h2)
      | (go_at_call 258
         with_reducible refine (VH.out _ (intsW_drewN I1.out _) (intsW_drewN R1.out _) HP.out).mono ?_
         rintro e w3 ⟨r, rfl, hr3, hB⟩
         have HR := hide hr3
         have B3 := hide (below_up (B1.out.trans (belowN _ _ _)) hB)
         clear hr3 hB)
      | fail)
    refine bodyPost_ret (v := .tuple #[.bool r, .int .i64 0]) (by simp [results, Tryz.results12, go_sem]) rfl ?_
    exact ⟨r, by rw [h1.out], by rw [h1.out, if_pos rfl]; exact HR.out, B3.out⟩
  · have HP := hide hr
    clear hr
    have h1 : Hid (rowErr (⟨8, i, j, K, M, l⟩ : Inv) row = 3) := hide (by unfold rowErr; rw [if_pos HE.out, if_neg HP.out])
    go_wp2_with (first
      | (go_at_call 31
         with_reducible refine (V31.out _ I0.out).mono ?_
         rintro e w1 ⟨rfl, hB⟩
         have R1 := hide (intsW_below R0.out hB)
         have B1 := hide (below_up HB.out hB)
         clear hB p0 p1 p2 p3 p4 p5)
      | (go_at_call 35
         with_reducible refine (plainAll (l := row) R1.out).mono ?_
         intro e w2 h2
         obtain ⟨rfl, n2, rfl⟩ := tells_no h2 HP.out
         clear h2)
      | fail)
    refine bodyPost_ret (v := .tuple #[.bool false, .int .i64 3]) (by simp [results, Tryz.results12, go_sem]) rfl ?_
    exact ⟨false, by rw [h1.out], by rw [h1.out, if_neg (by decide)], B1.out.trans (belowN _ _ _)⟩
end Go.Proofs.YtdfjjmibhnniiaaGreatDoor.Le

set_option maxRecDepth 100000
set_option linter.unusedSimpArgs false
set_option linter.unusedVariables false
namespace Go.Proofs.YtdfjjmibhnniiaaGreatDoor.Le
open Go Go.Ms Go.Pg Go.Le Go.ChangeShapes Go.WideShapes Go.ChangeAt Go.RowKit Go.Deep

set_option maxHeartbeats 8000000 in
theorem in9 {w : World} {i j : Nat} {K M : Int} {l row : List Int} {os : Option Addr} {cs : Nat} {t : Value} (hs : IntsW w (.slice os l.length cs) l) (ht : IntsW w t row) (he : err (⟨9, i, j, K, M, l⟩ : Inv) row.length = 0) : Calls Tryz.prog 12 #[.agg #[.int .u8 9, .int .i64 (i : Int), .int .i64 (j : Int), .int .i64 K, .int .i64 M, .slice os l.length cs], t] w (Answers (⟨9, i, j, K, M, l⟩ : Inv) row w) := by
  obtain ⟨-, -, hv, hp, hn, -⟩ := err_zero he
  have hb := b_in he
  have hi : i < row.length := by have := hv.2.1; dsimp only at this; omega
  have hj : j < row.length := by have := hb.2; dsimp only at this; omega
  have hK : Plain K := hp.1
  have hM : Plain M := hp.2.1
  have hq : (row[i] < row[j]) ↔ Holds (⟨9, i, j, K, M, l⟩ : Inv) row := by simp [Holds, at_nat, hi, hj]
  have V31 : Hid (∀ w', IntsW w' (.slice os l.length cs) l → Calls Tryz.prog 31 #[.agg #[.int .u8 9, .int .i64 (i : Int), .int .i64 (j : Int), .int .i64 K, .int .i64 M, .slice os l.length cs], .int .i64 (row.length : Int)] w' fun e w'' => e = .returned (.tuple #[.iface 162 (.agg #[.int .i64 (i : Int), .int .i64 (j : Int)]), .int .i64 0]) ∧ Below w'.heap.size w' w'') := hide fun w' h => (claimOfProg (x := (⟨9, i, j, K, M, l⟩ : Inv)) h).mono fun e w'' ⟨v, q1, q2, q3⟩ => ⟨by rw [q1, he, q2 he]; rfl, q3⟩
  have VH : Hid (∀ w', IntsW w' (.slice os l.length cs) l → IntsW w' t row → AllPlain row → Calls Tryz.prog 252 #[.agg #[.int .i64 (i : Int), .int .i64 (j : Int)], t] w' (TellsB (Holds (⟨9, i, j, K, M, l⟩ : Inv) row) w')) := hide fun w' h1 h2 h3 => (hold9 i j K M h2 hi hj hK hM h3).mono fun e w'' q => q.iff hq
  have HE := hide he
  clear he hv hp hn hb hi hj hK hM hq
  obtain ⟨b1, b3⟩ := one_box w (⟨9, i, j, K, M, l⟩ : Inv) (.slice os l.length cs) 31
  unfold cInv at *
  dsimp only at b1 b3
  have I0 := hide (intsW_below hs b3)
  have R0 := hide (intsW_below ht b3)
  have HB := hide b3
  obtain ⟨ot, ct, rfl, hlt, _⟩ := ht
  clear b3 hs
  go_enter Tryz.func12, Tryz.ntmps12
  go_upto_region 1 with (fail)
  generalize w.alloc (.cells #[.int .u8 9, .int .i64 (i : Int), .int .i64 (j : Int), .int .i64 K, .int .i64 M, .slice os l.length cs] 31) = w0 at *
  obtain ⟨p0, p1, p2, p3, p4, p5⟩ := b1
  dsimp only at p0 p1 p2 p3 p4 p5
  by_cases hr : AllPlain row
  · have HP := hide hr
    clear hr
    have h1 : Hid (rowErr (⟨9, i, j, K, M, l⟩ : Inv) row = 0) := hide (by unfold rowErr; rw [if_pos HE.out, if_pos HP.out])
    go_wp2_with (first
      | (go_at_call 31
         with_reducible refine (V31.out _ I0.out).mono ?_
         rintro e w1 ⟨rfl, hB⟩
         have I1 := hide (intsW_below I0.out hB)
         have R1 := hide (intsW_below R0.out hB)
         have B1 := hide (below_up HB.out hB)
         clear hB p0 p1 p2 p3 p4 p5)
      | (go_at_call 35
         with_reducible refine (plainAll (l := row) R1.out).mono ?_
         intro e w2 h2
         obtain ⟨rfl, n2, rfl⟩ := tells_yes h2 HP.out
         clear h2)
      | (go_at_call 252
         with_reducible refine (VH.out _ (intsW_drewN I1.out _) (intsW_drewN R1.out _) HP.out).mono ?_
         rintro e w3 ⟨r, rfl, hr3, hB⟩
         have HR := hide hr3
         have B3 := hide (below_up (B1.out.trans (belowN _ _ _)) hB)
         clear hr3 hB)
      | fail)
    refine bodyPost_ret (v := .tuple #[.bool r, .int .i64 0]) (by simp [results, Tryz.results12, go_sem]) rfl ?_
    exact ⟨r, by rw [h1.out], by rw [h1.out, if_pos rfl]; exact HR.out, B3.out⟩
  · have HP := hide hr
    clear hr
    have h1 : Hid (rowErr (⟨9, i, j, K, M, l⟩ : Inv) row = 3) := hide (by unfold rowErr; rw [if_pos HE.out, if_neg HP.out])
    go_wp2_with (first
      | (go_at_call 31
         with_reducible refine (V31.out _ I0.out).mono ?_
         rintro e w1 ⟨rfl, hB⟩
         have R1 := hide (intsW_below R0.out hB)
         have B1 := hide (below_up HB.out hB)
         clear hB p0 p1 p2 p3 p4 p5)
      | (go_at_call 35
         with_reducible refine (plainAll (l := row) R1.out).mono ?_
         intro e w2 h2
         obtain ⟨rfl, n2, rfl⟩ := tells_no h2 HP.out
         clear h2)
      | fail)
    refine bodyPost_ret (v := .tuple #[.bool false, .int .i64 3]) (by simp [results, Tryz.results12, go_sem]) rfl ?_
    exact ⟨false, by rw [h1.out], by rw [h1.out, if_neg (by decide)], B1.out.trans (belowN _ _ _)⟩
end Go.Proofs.YtdfjjmibhnniiaaGreatDoor.Le

set_option maxRecDepth 100000
set_option linter.unusedSimpArgs false
set_option linter.unusedVariables false
namespace Go.Proofs.YtdfjjmibhnniiaaGreatDoor.Le
open Go Go.Ms Go.Pg Go.Le Go.ChangeShapes Go.WideShapes Go.ChangeAt Go.RowKit Go.Deep

set_option maxHeartbeats 8000000 in
theorem in10 {w : World} {i j : Nat} {K M : Int} {l row : List Int} {os : Option Addr} {cs : Nat} {t : Value} (hs : IntsW w (.slice os l.length cs) l) (ht : IntsW w t row) (he : err (⟨10, i, j, K, M, l⟩ : Inv) row.length = 0) : Calls Tryz.prog 12 #[.agg #[.int .u8 10, .int .i64 (i : Int), .int .i64 (j : Int), .int .i64 K, .int .i64 M, .slice os l.length cs], t] w (Answers (⟨10, i, j, K, M, l⟩ : Inv) row w) := by
  obtain ⟨-, -, hv, hp, hn, -⟩ := err_zero he
  have hb := b_in he
  have hi : i < row.length := by have := hv.2.1; dsimp only at this; omega
  have hj : j < row.length := by have := hb.2; dsimp only at this; omega
  have hK : Plain K := hp.1
  have hM : Plain M := hp.2.1
  have hq : (row[i] ≤ row[j]) ↔ Holds (⟨10, i, j, K, M, l⟩ : Inv) row := by simp [Holds, at_nat, hi, hj]
  have V31 : Hid (∀ w', IntsW w' (.slice os l.length cs) l → Calls Tryz.prog 31 #[.agg #[.int .u8 10, .int .i64 (i : Int), .int .i64 (j : Int), .int .i64 K, .int .i64 M, .slice os l.length cs], .int .i64 (row.length : Int)] w' fun e w'' => e = .returned (.tuple #[.iface 163 (.agg #[.int .i64 (i : Int), .int .i64 (j : Int)]), .int .i64 0]) ∧ Below w'.heap.size w' w'') := hide fun w' h => (claimOfProg (x := (⟨10, i, j, K, M, l⟩ : Inv)) h).mono fun e w'' ⟨v, q1, q2, q3⟩ => ⟨by rw [q1, he, q2 he]; rfl, q3⟩
  have VH : Hid (∀ w', IntsW w' (.slice os l.length cs) l → IntsW w' t row → AllPlain row → Calls Tryz.prog 255 #[.agg #[.int .i64 (i : Int), .int .i64 (j : Int)], t] w' (TellsB (Holds (⟨10, i, j, K, M, l⟩ : Inv) row) w')) := hide fun w' h1 h2 h3 => (hold10 i j K M h2 hi hj hK hM h3).mono fun e w'' q => q.iff hq
  have HE := hide he
  clear he hv hp hn hb hi hj hK hM hq
  obtain ⟨b1, b3⟩ := one_box w (⟨10, i, j, K, M, l⟩ : Inv) (.slice os l.length cs) 31
  unfold cInv at *
  dsimp only at b1 b3
  have I0 := hide (intsW_below hs b3)
  have R0 := hide (intsW_below ht b3)
  have HB := hide b3
  obtain ⟨ot, ct, rfl, hlt, _⟩ := ht
  clear b3 hs
  go_enter Tryz.func12, Tryz.ntmps12
  go_upto_region 1 with (fail)
  generalize w.alloc (.cells #[.int .u8 10, .int .i64 (i : Int), .int .i64 (j : Int), .int .i64 K, .int .i64 M, .slice os l.length cs] 31) = w0 at *
  obtain ⟨p0, p1, p2, p3, p4, p5⟩ := b1
  dsimp only at p0 p1 p2 p3 p4 p5
  by_cases hr : AllPlain row
  · have HP := hide hr
    clear hr
    have h1 : Hid (rowErr (⟨10, i, j, K, M, l⟩ : Inv) row = 0) := hide (by unfold rowErr; rw [if_pos HE.out, if_pos HP.out])
    go_wp2_with (first
      | (go_at_call 31
         with_reducible refine (V31.out _ I0.out).mono ?_
         rintro e w1 ⟨rfl, hB⟩
         have I1 := hide (intsW_below I0.out hB)
         have R1 := hide (intsW_below R0.out hB)
         have B1 := hide (below_up HB.out hB)
         clear hB p0 p1 p2 p3 p4 p5)
      | (go_at_call 35
         with_reducible refine (plainAll (l := row) R1.out).mono ?_
         intro e w2 h2
         obtain ⟨rfl, n2, rfl⟩ := tells_yes h2 HP.out
         clear h2)
      | (go_at_call 255
         with_reducible refine (VH.out _ (intsW_drewN I1.out _) (intsW_drewN R1.out _) HP.out).mono ?_
         rintro e w3 ⟨r, rfl, hr3, hB⟩
         have HR := hide hr3
         have B3 := hide (below_up (B1.out.trans (belowN _ _ _)) hB)
         clear hr3 hB)
      | fail)
    refine bodyPost_ret (v := .tuple #[.bool r, .int .i64 0]) (by simp [results, Tryz.results12, go_sem]) rfl ?_
    exact ⟨r, by rw [h1.out], by rw [h1.out, if_pos rfl]; exact HR.out, B3.out⟩
  · have HP := hide hr
    clear hr
    have h1 : Hid (rowErr (⟨10, i, j, K, M, l⟩ : Inv) row = 3) := hide (by unfold rowErr; rw [if_pos HE.out, if_neg HP.out])
    go_wp2_with (first
      | (go_at_call 31
         with_reducible refine (V31.out _ I0.out).mono ?_
         rintro e w1 ⟨rfl, hB⟩
         have R1 := hide (intsW_below R0.out hB)
         have B1 := hide (below_up HB.out hB)
         clear hB p0 p1 p2 p3 p4 p5)
      | (go_at_call 35
         with_reducible refine (plainAll (l := row) R1.out).mono ?_
         intro e w2 h2
         obtain ⟨rfl, n2, rfl⟩ := tells_no h2 HP.out
         clear h2)
      | fail)
    refine bodyPost_ret (v := .tuple #[.bool false, .int .i64 3]) (by simp [results, Tryz.results12, go_sem]) rfl ?_
    exact ⟨false, by rw [h1.out], by rw [h1.out, if_neg (by decide)], B1.out.trans (belowN _ _ _)⟩
end Go.Proofs.YtdfjjmibhnniiaaGreatDoor.Le

set_option maxRecDepth 100000
set_option linter.unusedSimpArgs false
set_option linter.unusedVariables false
namespace Go.Proofs.YtdfjjmibhnniiaaGreatDoor.Le
open Go Go.Ms Go.Pg Go.Le Go.ChangeShapes Go.WideShapes Go.ChangeAt Go.RowKit Go.Deep

set_option maxHeartbeats 8000000 in
theorem in11 {w : World} {i j : Nat} {K M : Int} {l row : List Int} {os : Option Addr} {cs : Nat} {t : Value} (hs : IntsW w (.slice os l.length cs) l) (ht : IntsW w t row) (he : err (⟨11, i, j, K, M, l⟩ : Inv) row.length = 0) : Calls Tryz.prog 12 #[.agg #[.int .u8 11, .int .i64 (i : Int), .int .i64 (j : Int), .int .i64 K, .int .i64 M, .slice os l.length cs], t] w (Answers (⟨11, i, j, K, M, l⟩ : Inv) row w) := by
  obtain ⟨-, -, hv, hp, hn, -⟩ := err_zero he
  have hb := b_in he
  have hi : i < row.length := by have := hv.2.1; dsimp only at this; omega
  have hj : j < row.length := by have := hb.2; dsimp only at this; omega
  have hK : Plain K := hp.1
  have hM : Plain M := hp.2.1
  have hq : (row[j] = K * row[i] + M) ↔ Holds (⟨11, i, j, K, M, l⟩ : Inv) row := by simp [Holds, at_nat, hi, hj]
  have V31 : Hid (∀ w', IntsW w' (.slice os l.length cs) l → Calls Tryz.prog 31 #[.agg #[.int .u8 11, .int .i64 (i : Int), .int .i64 (j : Int), .int .i64 K, .int .i64 M, .slice os l.length cs], .int .i64 (row.length : Int)] w' fun e w'' => e = .returned (.tuple #[.iface 166 (.agg #[.int .i64 (i : Int), .int .i64 (j : Int), .int .i64 K, .int .i64 M]), .int .i64 0]) ∧ Below w'.heap.size w' w'') := hide fun w' h => (claimOfProg (x := (⟨11, i, j, K, M, l⟩ : Inv)) h).mono fun e w'' ⟨v, q1, q2, q3⟩ => ⟨by rw [q1, he, q2 he]; rfl, q3⟩
  have VH : Hid (∀ w', IntsW w' (.slice os l.length cs) l → IntsW w' t row → AllPlain row → Calls Tryz.prog 261 #[.agg #[.int .i64 (i : Int), .int .i64 (j : Int), .int .i64 K, .int .i64 M], t] w' (TellsB (Holds (⟨11, i, j, K, M, l⟩ : Inv) row) w')) := hide fun w' h1 h2 h3 => (hold11 i j K M h2 hi hj hK hM h3).mono fun e w'' q => q.iff hq
  have HE := hide he
  clear he hv hp hn hb hi hj hK hM hq
  obtain ⟨b1, b3⟩ := one_box w (⟨11, i, j, K, M, l⟩ : Inv) (.slice os l.length cs) 31
  unfold cInv at *
  dsimp only at b1 b3
  have I0 := hide (intsW_below hs b3)
  have R0 := hide (intsW_below ht b3)
  have HB := hide b3
  obtain ⟨ot, ct, rfl, hlt, _⟩ := ht
  clear b3 hs
  go_enter Tryz.func12, Tryz.ntmps12
  go_upto_region 1 with (fail)
  generalize w.alloc (.cells #[.int .u8 11, .int .i64 (i : Int), .int .i64 (j : Int), .int .i64 K, .int .i64 M, .slice os l.length cs] 31) = w0 at *
  obtain ⟨p0, p1, p2, p3, p4, p5⟩ := b1
  dsimp only at p0 p1 p2 p3 p4 p5
  by_cases hr : AllPlain row
  · have HP := hide hr
    clear hr
    have h1 : Hid (rowErr (⟨11, i, j, K, M, l⟩ : Inv) row = 0) := hide (by unfold rowErr; rw [if_pos HE.out, if_pos HP.out])
    go_wp2_with (first
      | (go_at_call 31
         with_reducible refine (V31.out _ I0.out).mono ?_
         rintro e w1 ⟨rfl, hB⟩
         have I1 := hide (intsW_below I0.out hB)
         have R1 := hide (intsW_below R0.out hB)
         have B1 := hide (below_up HB.out hB)
         clear hB p0 p1 p2 p3 p4 p5)
      | (go_at_call 35
         with_reducible refine (plainAll (l := row) R1.out).mono ?_
         intro e w2 h2
         obtain ⟨rfl, n2, rfl⟩ := tells_yes h2 HP.out
         clear h2)
      | (go_at_call 261
         with_reducible refine (VH.out _ (intsW_drewN I1.out _) (intsW_drewN R1.out _) HP.out).mono ?_
         rintro e w3 ⟨r, rfl, hr3, hB⟩
         have HR := hide hr3
         have B3 := hide (below_up (B1.out.trans (belowN _ _ _)) hB)
         clear hr3 hB)
      | fail)
    refine bodyPost_ret (v := .tuple #[.bool r, .int .i64 0]) (by simp [results, Tryz.results12, go_sem]) rfl ?_
    exact ⟨r, by rw [h1.out], by rw [h1.out, if_pos rfl]; exact HR.out, B3.out⟩
  · have HP := hide hr
    clear hr
    have h1 : Hid (rowErr (⟨11, i, j, K, M, l⟩ : Inv) row = 3) := hide (by unfold rowErr; rw [if_pos HE.out, if_neg HP.out])
    go_wp2_with (first
      | (go_at_call 31
         with_reducible refine (V31.out _ I0.out).mono ?_
         rintro e w1 ⟨rfl, hB⟩
         have R1 := hide (intsW_below R0.out hB)
         have B1 := hide (below_up HB.out hB)
         clear hB p0 p1 p2 p3 p4 p5)
      | (go_at_call 35
         with_reducible refine (plainAll (l := row) R1.out).mono ?_
         intro e w2 h2
         obtain ⟨rfl, n2, rfl⟩ := tells_no h2 HP.out
         clear h2)
      | fail)
    refine bodyPost_ret (v := .tuple #[.bool false, .int .i64 3]) (by simp [results, Tryz.results12, go_sem]) rfl ?_
    exact ⟨false, by rw [h1.out], by rw [h1.out, if_neg (by decide)], B1.out.trans (belowN _ _ _)⟩
end Go.Proofs.YtdfjjmibhnniiaaGreatDoor.Le

set_option maxRecDepth 100000
set_option linter.unusedSimpArgs false
set_option linter.unusedVariables false
namespace Go.Proofs.YtdfjjmibhnniiaaGreatDoor.Le
open Go Go.Ms Go.Pg Go.Le Go.ChangeShapes Go.WideShapes Go.ChangeAt Go.RowKit Go.Deep

set_option maxHeartbeats 4000000 in
theorem checkProg {w : World} {x : Inv} {s : Value} {n : Int} (hs : IntsW w s x.set) : Calls Tryz.prog 10 #[vInv x s, .int .i64 n] w fun e w' => e = .returned (.int .i64 (err x n)) ∧ Below w.heap.size w w' := by
  have hs0 := hs
  obtain ⟨os, cs, rfl, hls, _⟩ := hs
  obtain ⟨b1, b3⟩ := one_box w x (.slice os x.set.length cs) 31
  unfold vInv
  unfold cInv at *
  go_enter Tryz.func10, Tryz.ntmps10
  go_upto_region 1 with (fail)
  generalize w.alloc (.cells #[.int .u8 x.k, .int .i64 x.a, .int .i64 x.b, .int .i64 x.K, .int .i64 x.M, .slice os x.set.length cs] 31) = w0 at *
  have I0 := hide (intsW_below hs0 b3)
  have HB := hide b3
  clear b3 hs0
  obtain ⟨p0, p1, p2, p3, p4, p5⟩ := b1
  go_wp2_with (first
    | (go_at_call 31
       with_reducible refine (claimOfProg (n := n) I0.out).mono ?_
       rintro e w1 ⟨v, rfl, hv, hB⟩
       have B1 := hide (below_up HB.out hB)
       clear hB hv)
    | fail)
  go_ret
  exact ⟨rfl, B1.out⟩

set_option maxHeartbeats 4000000 in
theorem inBad {w : World} {x : Inv} {s t : Value} {row : List Int} (hs : IntsW w s x.set) (ht : IntsW w t row) (he : ¬ err x row.length = 0) : Calls Tryz.prog 12 #[vInv x s, t] w (Answers x row w) := by
  have hs0 := hs
  obtain ⟨os, cs, rfl, hls, _⟩ := hs
  obtain ⟨ot, ct, rfl, hlt, _⟩ := ht
  obtain ⟨b1, b3⟩ := one_box w x (.slice os x.set.length cs) 31
  unfold vInv
  unfold cInv at *
  go_enter Tryz.func12, Tryz.ntmps12
  go_upto_region 1 with (fail)
  generalize w.alloc (.cells #[.int .u8 x.k, .int .i64 x.a, .int .i64 x.b, .int .i64 x.K, .int .i64 x.M, .slice os x.set.length cs] 31) = w0 at *
  have I0 := hide (intsW_below hs0 b3)
  have HB := hide b3
  clear b3 hs0
  obtain ⟨p0, p1, p2, p3, p4, p5⟩ := b1
  have ee : (err x row.length != 0) = true := by simpa using he
  have NE := hide he
  clear he
  have h1 : Hid (rowErr x row = err x row.length) := hide (if_neg NE.out)
  go_wp2_with (first
    | (go_at_call 31
       with_reducible refine (claimOfProg (n := row.length) I0.out).mono ?_
       rintro e w1 ⟨v, rfl, hv, hB⟩
       have B1 := hide (below_up HB.out hB)
       clear hB hv)
    | fail)
  refine bodyPost_ret (v := .tuple #[.bool false, .int .i64 (err x row.length)]) (by simp [results, Tryz.results12, go_sem]) rfl ?_
  refine ⟨false, by rw [h1.out], ?_, B1.out⟩
  rw [h1.out, if_neg NE.out]

theorem rowProg {w : World} {x : Inv} {s t : Value} {row : List Int} (hs : IntsW w s x.set) (ht : IntsW w t row) : Calls Tryz.prog 12 #[vInv x s, t] w (Answers x row w) := by
  by_cases he : err x row.length = 0
  · obtain ⟨os, cs, rfl, _, _⟩ := id hs
    obtain ⟨k, a, b, K, M, l⟩ := x
    obtain ⟨_, hk, hv, _, _, _⟩ := err_zero he
    have hb := b_in he
    dsimp only at hk hb
    obtain ⟨i, rfl⟩ : ∃ i : Nat, a = i := ⟨a.toNat, by have := hv.1; dsimp only at this; omega⟩
    obtain ⟨j, rfl⟩ : ∃ j : Nat, b = j := ⟨b.toNat, by omega⟩
    have hc : k = 1 ∨ k = 2 ∨ k = 3 ∨ k = 4 ∨ k = 5 ∨ k = 6 ∨ k = 7 ∨ k = 8 ∨ k = 9 ∨ k = 10 ∨ k = 11 := by omega
    clear hk hv hb
    rcases hc with rfl | rfl | rfl | rfl | rfl | rfl | rfl | rfl | rfl | rfl | rfl
    · exact in1 hs ht he
    · exact in2 hs ht he
    · exact in3 hs ht he
    · exact in4 hs ht he
    · exact in5 hs ht he
    · exact in6 hs ht he
    · exact in7 hs ht he
    · exact in8 hs ht he
    · exact in9 hs ht he
    · exact in10 hs ht he
    · exact in11 hs ht he
  · exact inBad hs ht he
end Go.Proofs.YtdfjjmibhnniiaaGreatDoor.Le

