import Derived.Test.YtdfjjmibhnniiaaGreatDoorLeS
import Derived.Test.YtdfjjmibhnniiaaGreatDoorLeO
import Derived.Deep.RegionHeld3
set_option maxRecDepth 100000
set_option linter.unusedSimpArgs false
set_option linter.unusedVariables false
namespace Go.Proofs.YtdfjjmibhnniiaaGreatDoor.Le
open Go Go.Ms Go.Pg Go.Le Go.ChangeShapes Go.WideShapes Go.ChangeAt Go.RowKit Go.Deep

theorem TellsB.iff {p q : Prop} {w w' : World} {e : Ending} (k : TellsB p w e w') (h : p ↔ q) : TellsB q w e w' := by
  obtain ⟨r, e1, h1, h2⟩ := k
  exact ⟨r, e1, h1.trans h, h2⟩
theorem at_nat {row : List Int} {i : Nat} (h : i < row.length) : at_ row (i : Int) = row[i] := by
  simp [at_, h]
end Go.Proofs.YtdfjjmibhnniiaaGreatDoor.Le

set_option maxRecDepth 100000
set_option linter.unusedSimpArgs false
set_option linter.unusedVariables false
namespace Go.Proofs.YtdfjjmibhnniiaaGreatDoor.Le
open Go Go.Ms Go.Pg Go.Le Go.ChangeShapes Go.WideShapes Go.ChangeAt Go.RowKit Go.Deep

set_option maxHeartbeats 8000000 in
theorem in1 {w : World} {i j : Nat} {K M : Int} {l row : List Int} {os : Option Addr} {cs : Nat} {t : Value} (hs : IntsW w (.slice os l.length cs) l) (ht : IntsW w t row) (he : err (⟨1, i, j, K, M, l⟩ : Inv) row.length = 0) : Calls Tryz.prog 12 #[.agg #[.int .u8 1, .int .i64 (i : Int), .int .i64 (j : Int), .int .i64 K, .int .i64 M, .slice os l.length cs], t] w (Answers (⟨1, i, j, K, M, l⟩ : Inv) row w) := by
  obtain ⟨-, -, hv, hp, hn, -⟩ := err_zero he
  have hb := b_in he
  have hi : i < row.length := by have := hv.2.1; dsimp only at this; omega
  have hj : j < row.length := by have := hb.2; dsimp only at this; omega
  have hK : Plain K := hp.1
  have hM : Plain M := hp.2.1
  have hq : (row[i] = K) ↔ Holds (⟨1, i, j, K, M, l⟩ : Inv) row := by simp [Holds, at_nat, hi, hj]
  have V31 : Hid (∀ w', IntsW w' (.slice os l.length cs) l → Calls Tryz.prog 31 #[.agg #[.int .u8 1, .int .i64 (i : Int), .int .i64 (j : Int), .int .i64 K, .int .i64 M, .slice os l.length cs], .int .i64 (row.length : Int)] w' fun e w'' => e = .returned (.tuple #[.iface 142 (.agg #[.int .i64 (i : Int), .int .i64 K]), .int .i64 0]) ∧ Below w'.heap.size w' w'') := hide fun w' h => (claimOfProg (x := (⟨1, i, j, K, M, l⟩ : Inv)) h).mono fun e w'' ⟨v, q1, q2, q3⟩ => ⟨by rw [q1, he, q2 he]; rfl, q3⟩
  have VH : Hid (∀ w', IntsW w' (.slice os l.length cs) l → IntsW w' t row → AllPlain row → Calls Tryz.prog 220 #[.agg #[.int .i64 (i : Int), .int .i64 K], t] w' (TellsB (Holds (⟨1, i, j, K, M, l⟩ : Inv) row) w')) := hide fun w' h1 h2 h3 => (hold1 i j K M h2 hi hj hK hM h3).mono fun e w'' q => q.iff hq
  have HE := hide he
  clear he hv hp hn hb hi hj hK hM hq
  obtain ⟨b1, b3⟩ := one_box w (⟨1, i, j, K, M, l⟩ : Inv) (.slice os l.length cs) 31
  unfold cInv at *
  dsimp only at b1 b3
  have I0 := hide (intsW_below hs b3)
  have R0 := hide (intsW_below ht b3)
  have HB := hide b3
  obtain ⟨ot, ct, rfl, hlt, _⟩ := ht
  clear b3 hs
  go_enter Tryz.func12, Tryz.ntmps12
  go_upto_region 1 with (fail)
  generalize w.alloc (.cells #[.int .u8 1, .int .i64 (i : Int), .int .i64 (j : Int), .int .i64 K, .int .i64 M, .slice os l.length cs] 31) = w0 at *
  obtain ⟨p0, p1, p2, p3, p4, p5⟩ := b1
  dsimp only at p0 p1 p2 p3 p4 p5
  by_cases hr : AllPlain row
  · have HP := hide hr
    clear hr
    have h1 : Hid (rowErr (⟨1, i, j, K, M, l⟩ : Inv) row = 0) := hide (by unfold rowErr; rw [if_pos HE.out, if_pos HP.out])
    go_wp2_with (first
      | (go_at_call 31
         with_reducible refine (V31.out _ I0.out).mono ?_
         rintro e w1 ⟨rfl, hB⟩
         have I1 := hide (intsW_below I0.out hB)
         have R1 := hide (intsW_below R0.out hB)
         have B1 := hide (below_up HB.out hB)
         clear hB p0 p1 p2 p3 p4 p5)
      | (go_at_call 35
         with_reducible refine (plainAll (l := row) R1.out).mono ?_
         intro e w2 h2
         obtain ⟨rfl, n2, rfl⟩ := tells_yes h2 HP.out
         clear h2)
      | (go_at_call 220
         with_reducible refine (VH.out _ (intsW_drewN I1.out _) (intsW_drewN R1.out _) HP.out).mono ?_
         rintro e w3 ⟨r, rfl, hr3, hB⟩
         have HR := hide hr3
         have B3 := hide (below_up (B1.out.trans (belowN _ _ _)) hB)
         clear hr3 hB)
      | fail)
    refine bodyPost_ret (v := .tuple #[.bool r, .int .i64 0]) (by simp [results, Tryz.results12, go_sem]) rfl ?_
    exact ⟨r, by rw [h1.out], by rw [h1.out, if_pos rfl]; exact HR.out, B3.out⟩
  · have HP := hide hr
    clear hr
    have h1 : Hid (rowErr (⟨1, i, j, K, M, l⟩ : Inv) row = 3) := hide (by unfold rowErr; rw [if_pos HE.out, if_neg HP.out])
    go_wp2_with (first
      | (go_at_call 31
         with_reducible refine (V31.out _ I0.out).mono ?_
         rintro e w1 ⟨rfl, hB⟩
         have R1 := hide (intsW_below R0.out hB)
         have B1 := hide (below_up HB.out hB)
         clear hB p0 p1 p2 p3 p4 p5)
      | (go_at_call 35
         with_reducible refine (plainAll (l := row) R1.out).mono ?_
         intro e w2 h2
         obtain ⟨rfl, n2, rfl⟩ := tells_no h2 HP.out
         clear h2)
      | fail)
    refine bodyPost_ret (v := .tuple #[.bool false, .int .i64 3]) (by simp [results, Tryz.results12, go_sem]) rfl ?_
    exact ⟨false, by rw [h1.out], by rw [h1.out, if_neg (by decide)], B1.out.trans (belowN _ _ _)⟩
end Go.Proofs.YtdfjjmibhnniiaaGreatDoor.Le

set_option maxRecDepth 100000
set_option linter.unusedSimpArgs false
set_option linter.unusedVariables false
namespace Go.Proofs.YtdfjjmibhnniiaaGreatDoor.Le
open Go Go.Ms Go.Pg Go.Le Go.ChangeShapes Go.WideShapes Go.ChangeAt Go.RowKit Go.Deep

set_option maxHeartbeats 8000000 in
theorem in2 {w : World} {i j : Nat} {K M : Int} {l row : List Int} {os : Option Addr} {cs : Nat} {t : Value} (hs : IntsW w (.slice os l.length cs) l) (ht : IntsW w t row) (he : err (⟨2, i, j, K, M, l⟩ : Inv) row.length = 0) : Calls Tryz.prog 12 #[.agg #[.int .u8 2, .int .i64 (i : Int), .int .i64 (j : Int), .int .i64 K, .int .i64 M, .slice os l.length cs], t] w (Answers (⟨2, i, j, K, M, l⟩ : Inv) row w) := by
  obtain ⟨-, -, hv, hp, hn, -⟩ := err_zero he
  have hb := b_in he
  have hi : i < row.length := by have := hv.2.1; dsimp only at this; omega
  have hj : j < row.length := by have := hb.2; dsimp only at this; omega
  have hK : Plain K := hp.1
  have hM : Plain M := hp.2.1
  have hq : (row[i] ∈ l) ↔ Holds (⟨2, i, j, K, M, l⟩ : Inv) row := by simp [Holds, at_nat, hi, hj]
  have V31 : Hid (∀ w', IntsW w' (.slice os l.length cs) l → Calls Tryz.prog 31 #[.agg #[.int .u8 2, .int .i64 (i : Int), .int .i64 (j : Int), .int .i64 K, .int .i64 M, .slice os l.length cs], .int .i64 (row.length : Int)] w' fun e w'' => e = .returned (.tuple #[.iface 148 (.agg #[.int .i64 (i : Int), .slice os l.length cs]), .int .i64 0]) ∧ Below w'.heap.size w' w'') := hide fun w' h => (claimOfProg (x := (⟨2, i, j, K, M, l⟩ : Inv)) h).mono fun e w'' ⟨v, q1, q2, q3⟩ => ⟨by rw [q1, he, q2 he]; rfl, q3⟩
  have VH : Hid (∀ w', IntsW w' (.slice os l.length cs) l → IntsW w' t row → AllPlain row → Calls Tryz.prog 240 #[.agg #[.int .i64 (i : Int), .slice os l.length cs], t] w' (TellsB (Holds (⟨2, i, j, K, M, l⟩ : Inv) row) w')) := hide fun w' h1 h2 h3 => (hold2 i h1 h2 hi).mono fun e w'' q => q.iff hq
  have HE := hide he
  clear he hv hp hn hb hi hj hK hM hq
  obtain ⟨b1, b3⟩ := one_box w (⟨2, i, j, K, M, l⟩ : Inv) (.slice os l.length cs) 31
  unfold cInv at *
  dsimp only at b1 b3
  have I0 := hide (intsW_below hs b3)
  have R0 := hide (intsW_below ht b3)
  have HB := hide b3
  obtain ⟨ot, ct, rfl, hlt, _⟩ := ht
  clear b3 hs
  go_enter Tryz.func12, Tryz.ntmps12
  go_upto_region 1 with (fail)
  generalize w.alloc (.cells #[.int .u8 2, .int .i64 (i : Int), .int .i64 (j : Int), .int .i64 K, .int .i64 M, .slice os l.length cs] 31) = w0 at *
  obtain ⟨p0, p1, p2, p3, p4, p5⟩ := b1
  dsimp only at p0 p1 p2 p3 p4 p5
  by_cases hr : AllPlain row
  · have HP := hide hr
    clear hr
    have h1 : Hid (rowErr (⟨2, i, j, K, M, l⟩ : Inv) row = 0) := hide (by unfold rowErr; rw [if_pos HE.out, if_pos HP.out])
    go_wp2_with (first
      | (go_at_call 31
         with_reducible refine (V31.out _ I0.out).mono ?_
         rintro e w1 ⟨rfl, hB⟩
         have I1 := hide (intsW_below I0.out hB)
         have R1 := hide (intsW_below R0.out hB)
         have B1 := hide (below_up HB.out hB)
         clear hB p0 p1 p2 p3 p4 p5)
      | (go_at_call 35
         with_reducible refine (plainAll (l := row) R1.out).mono ?_
         intro e w2 h2
         obtain ⟨rfl, n2, rfl⟩ := tells_yes h2 HP.out
         clear h2)
      | (go_at_call 240
         with_reducible refine (VH.out _ (intsW_drewN I1.out _) (intsW_drewN R1.out _) HP.out).mono ?_
         rintro e w3 ⟨r, rfl, hr3, hB⟩
         have HR := hide hr3
         have B3 := hide (below_up (B1.out.trans (belowN _ _ _)) hB)
         clear hr3 hB)
      | fail)
    refine bodyPost_ret (v := .tuple #[.bool r, .int .i64 0]) (by simp [results, Tryz.results12, go_sem]) rfl ?_
    exact ⟨r, by rw [h1.out], by rw [h1.out, if_pos rfl]; exact HR.out, B3.out⟩
  · have HP := hide hr
    clear hr
    have h1 : Hid (rowErr (⟨2, i, j, K, M, l⟩ : Inv) row = 3) := hide (by unfold rowErr; rw [if_pos HE.out, if_neg HP.out])
    go_wp2_with (first
      | (go_at_call 31
         with_reducible refine (V31.out _ I0.out).mono ?_
         rintro e w1 ⟨rfl, hB⟩
         have R1 := hide (intsW_below R0.out hB)
         have B1 := hide (below_up HB.out hB)
         clear hB p0 p1 p2 p3 p4 p5)
      | (go_at_call 35
         with_reducible refine (plainAll (l := row) R1.out).mono ?_
         intro e w2 h2
         obtain ⟨rfl, n2, rfl⟩ := tells_no h2 HP.out
         clear h2)
      | fail)
    refine bodyPost_ret (v := .tuple #[.bool false, .int .i64 3]) (by simp [results, Tryz.results12, go_sem]) rfl ?_
    exact ⟨false, by rw [h1.out], by rw [h1.out, if_neg (by decide)], B1.out.trans (belowN _ _ _)⟩
end Go.Proofs.YtdfjjmibhnniiaaGreatDoor.Le

set_option maxRecDepth 100000
set_option linter.unusedSimpArgs false
set_option linter.unusedVariables false
namespace Go.Proofs.YtdfjjmibhnniiaaGreatDoor.Le
open Go Go.Ms Go.Pg Go.Le Go.ChangeShapes Go.WideShapes Go.ChangeAt Go.RowKit Go.Deep

set_option maxHeartbeats 8000000 in
theorem in3 {w : World} {i j : Nat} {K M : Int} {l row : List Int} {os : Option Addr} {cs : Nat} {t : Value} (hs : IntsW w (.slice os l.length cs) l) (ht : IntsW w t row) (he : err (⟨3, i, j, K, M, l⟩ : Inv) row.length = 0) : Calls Tryz.prog 12 #[.agg #[.int .u8 3, .int .i64 (i : Int), .int .i64 (j : Int), .int .i64 K, .int .i64 M, .slice os l.length cs], t] w (Answers (⟨3, i, j, K, M, l⟩ : Inv) row w) := by
  obtain ⟨-, -, hv, hp, hn, -⟩ := err_zero he
  have hb := b_in he
  have hi : i < row.length := by have := hv.2.1; dsimp only at this; omega
  have hj : j < row.length := by have := hb.2; dsimp only at this; omega
  have hK : Plain K := hp.1
  have hM : Plain M := hp.2.1
  have hq : (K ≤ row[i]) ↔ Holds (⟨3, i, j, K, M, l⟩ : Inv) row := by simp [Holds, at_nat, hi, hj]
  have V31 : Hid (∀ w', IntsW w' (.slice os l.length cs) l → Calls Tryz.prog 31 #[.agg #[.int .u8 3, .int .i64 (i : Int), .int .i64 (j : Int), .int .i64 K, .int .i64 M, .slice os l.length cs], .int .i64 (row.length : Int)] w' fun e w'' => e = .returned (.tuple #[.iface 143 (.agg #[.int .i64 (i : Int), .int .i64 K]), .int .i64 0]) ∧ Below w'.heap.size w' w'') := hide fun w' h => (claimOfProg (x := (⟨3, i, j, K, M, l⟩ : Inv)) h).mono fun e w'' ⟨v, q1, q2, q3⟩ => ⟨by rw [q1, he, q2 he]; rfl, q3⟩
  have VH : Hid (∀ w', IntsW w' (.slice os l.length cs) l → IntsW w' t row → AllPlain row → Calls Tryz.prog 234 #[.agg #[.int .i64 (i : Int), .int .i64 K], t] w' (TellsB (Holds (⟨3, i, j, K, M, l⟩ : Inv) row) w')) := hide fun w' h1 h2 h3 => (hold3 i j K M h2 hi hj hK hM h3).mono fun e w'' q => q.iff hq
  have HE := hide he
  clear he hv hp hn hb hi hj hK hM hq
  obtain ⟨b1, b3⟩ := one_box w (⟨3, i, j, K, M, l⟩ : Inv) (.slice os l.length cs) 31
  unfold cInv at *
  dsimp only at b1 b3
  have I0 := hide (intsW_below hs b3)
  have R0 := hide (intsW_below ht b3)
  have HB := hide b3
  obtain ⟨ot, ct, rfl, hlt, _⟩ := ht
  clear b3 hs
  go_enter Tryz.func12, Tryz.ntmps12
  go_upto_region 1 with (fail)
  generalize w.alloc (.cells #[.int .u8 3, .int .i64 (i : Int), .int .i64 (j : Int), .int .i64 K, .int .i64 M, .slice os l.length cs] 31) = w0 at *
  obtain ⟨p0, p1, p2, p3, p4, p5⟩ := b1
  dsimp only at p0 p1 p2 p3 p4 p5
  by_cases hr : AllPlain row
  · have HP := hide hr
    clear hr
    have h1 : Hid (rowErr (⟨3, i, j, K, M, l⟩ : Inv) row = 0) := hide (by unfold rowErr; rw [if_pos HE.out, if_pos HP.out])
    go_wp2_with (first
      | (go_at_call 31
         with_reducible refine (V31.out _ I0.out).mono ?_
         rintro e w1 ⟨rfl, hB⟩
         have I1 := hide (intsW_below I0.out hB)
         have R1 := hide (intsW_below R0.out hB)
         have B1 := hide (below_up HB.out hB)
         clear hB p0 p1 p2 p3 p4 p5)
      | (go_at_call 35
         with_reducible refine (plainAll (l := row) R1.out).mono ?_
         intro e w2 h2
         obtain ⟨rfl, n2, rfl⟩ := tells_yes h2 HP.out
         clear h2)
      | (go_at_call 234
         with_reducible refine (VH.out _ (intsW_drewN I1.out _) (intsW_drewN R1.out _) HP.out).mono ?_
         rintro e w3 ⟨r, rfl, hr3, hB⟩
         have HR := hide hr3
         have B3 := hide (below_up (B1.out.trans (belowN _ _ _)) hB)
         clear hr3 hB)
      | fail)
    refine bodyPost_ret (v := .tuple #[.bool r, .int .i64 0]) (by simp [results, Tryz.results12, go_sem]) rfl ?_
    exact ⟨r, by rw [h1.out], by rw [h1.out, if_pos rfl]; exact HR.out, B3.out⟩
  · have HP := hide hr
    clear hr
    have h1 : Hid (rowErr (⟨3, i, j, K, M, l⟩ : Inv) row = 3) := hide (by unfold rowErr; rw [if_pos HE.out, if_neg HP.out])
    go_wp2_with (first
      | (go_at_call 31
         with_reducible refine (V31.out _ I0.out).mono ?_
         rintro e w1 ⟨rfl, hB⟩
         have R1 := hide (intsW_below R0.out hB)
         have B1 := hide (below_up HB.out hB)
         clear hB p0 p1 p2 p3 p4 p5)
      | (go_at_call 35
         with_reducible refine (plainAll (l := row) R1.out).mono ?_
         intro e w2 h2
         obtain ⟨rfl, n2, rfl⟩ := tells_no h2 HP.out
         clear h2)
      | fail)
    refine bodyPost_ret (v := .tuple #[.bool false, .int .i64 3]) (by simp [results, Tryz.results12, go_sem]) rfl ?_
    exact ⟨false, by rw [h1.out], by rw [h1.out, if_neg (by decide)], B1.out.trans (belowN _ _ _)⟩
end Go.Proofs.YtdfjjmibhnniiaaGreatDoor.Le

set_option maxRecDepth 100000
set_option linter.unusedSimpArgs false
set_option linter.unusedVariables false
namespace Go.Proofs.YtdfjjmibhnniiaaGreatDoor.Le
open Go Go.Ms Go.Pg Go.Le Go.ChangeShapes Go.WideShapes Go.ChangeAt Go.RowKit Go.Deep

set_option maxHeartbeats 8000000 in
theorem in4 {w : World} {i j : Nat} {K M : Int} {l row : List Int} {os : Option Addr} {cs : Nat} {t : Value} (hs : IntsW w (.slice os l.length cs) l) (ht : IntsW w t row) (he : err (⟨4, i, j, K, M, l⟩ : Inv) row.length = 0) : Calls Tryz.prog 12 #[.agg #[.int .u8 4, .int .i64 (i : Int), .int .i64 (j : Int), .int .i64 K, .int .i64 M, .slice os l.length cs], t] w (Answers (⟨4, i, j, K, M, l⟩ : Inv) row w) := by
  obtain ⟨-, -, hv, hp, hn, -⟩ := err_zero he
  have hb := b_in he
  have hi : i < row.length := by have := hv.2.1; dsimp only at this; omega
  have hj : j < row.length := by have := hb.2; dsimp only at this; omega
  have hK : Plain K := hp.1
  have hM : Plain M := hp.2.1
  have hq : (row[i] ≤ K) ↔ Holds (⟨4, i, j, K, M, l⟩ : Inv) row := by simp [Holds, at_nat, hi, hj]
  have V31 : Hid (∀ w', IntsW w' (.slice os l.length cs) l → Calls Tryz.prog 31 #[.agg #[.int .u8 4, .int .i64 (i : Int), .int .i64 (j : Int), .int .i64 K, .int .i64 M, .slice os l.length cs], .int .i64 (row.length : Int)] w' fun e w'' => e = .returned (.tuple #[.iface 144 (.agg #[.int .i64 (i : Int), .int .i64 K]), .int .i64 0]) ∧ Below w'.heap.size w' w'') := hide fun w' h => (claimOfProg (x := (⟨4, i, j, K, M, l⟩ : Inv)) h).mono fun e w'' ⟨v, q1, q2, q3⟩ => ⟨by rw [q1, he, q2 he]; rfl, q3⟩
  have VH : Hid (∀ w', IntsW w' (.slice os l.length cs) l → IntsW w' t row → AllPlain row → Calls Tryz.prog 237 #[.agg #[.int .i64 (i : Int), .int .i64 K], t] w' (TellsB (Holds (⟨4, i, j, K, M, l⟩ : Inv) row) w')) := hide fun w' h1 h2 h3 => (hold4 i j K M h2 hi hj hK hM h3).mono fun e w'' q => q.iff hq
  have HE := hide he
  clear he hv hp hn hb hi hj hK hM hq
  obtain ⟨b1, b3⟩ := one_box w (⟨4, i, j, K, M, l⟩ : Inv) (.slice os l.length cs) 31
  unfold cInv at *
  dsimp only at b1 b3
  have I0 := hide (intsW_below hs b3)
  have R0 := hide (intsW_below ht b3)
  have HB := hide b3
  obtain ⟨ot, ct, rfl, hlt, _⟩ := ht
  clear b3 hs
  go_enter Tryz.func12, Tryz.ntmps12
  go_upto_region 1 with (fail)
  generalize w.alloc (.cells #[.int .u8 4, .int .i64 (i : Int), .int .i64 (j : Int), .int .i64 K, .int .i64 M, .slice os l.length cs] 31) = w0 at *
  obtain ⟨p0, p1, p2, p3, p4, p5⟩ := b1
  dsimp only at p0 p1 p2 p3 p4 p5
  by_cases hr : AllPlain row
  · have HP := hide hr
    clear hr
    have h1 : Hid (rowErr (⟨4, i, j, K, M, l⟩ : Inv) row = 0) := hide (by unfold rowErr; rw [if_pos HE.out, if_pos HP.out])
    go_wp2_with (first
      | (go_at_call 31
         with_reducible refine (V31.out _ I0.out).mono ?_
         rintro e w1 ⟨rfl, hB⟩
         have I1 := hide (intsW_below I0.out hB)
         have R1 := hide (intsW_below R0.out hB)
         have B1 := hide (below_up HB.out hB)
         clear hB p0 p1 p2 p3 p4 p5)
      | (go_at_call 35
         with_reducible refine (plainAll (l := row) R1.out).mono ?_
         intro e w2 h2
         obtain ⟨rfl, n2, rfl⟩ := tells_yes h2 HP.out
         clear h2)
      | (go_at_call 237
         with_reducible refine (VH.out _ (intsW_drewN I1.out _) (intsW_drewN R1.out _) HP.out).mono ?_
         rintro e w3 ⟨r, rfl, hr3, hB⟩
         have HR := hide hr3
         have B3 := hide (below_up (B1.out.trans (belowN _ _ _)) hB)
         clear hr3 hB)
      | fail)
    refine bodyPost_ret (v := .tuple #[.bool r, .int .i64 0]) (by simp [results, Tryz.results12, go_sem]) rfl ?_
    exact ⟨r, by rw [h1.out], by rw [h1.out, if_pos rfl]; exact HR.out, B3.out⟩
  · have HP := hide hr
    clear hr
    have h1 : Hid (rowErr (⟨4, i, j, K, M, l⟩ : Inv) row = 3) := hide (by unfold rowErr; rw [if_pos HE.out, if_neg HP.out])
    go_wp2_with (first
      | (go_at_call 31
         with_reducible refine (V31.out _ I0.out).mono ?_
         rintro e w1 ⟨rfl, hB⟩
         have R1 := hide (intsW_below R0.out hB)
         have B1 := hide (below_up HB.out hB)
         clear hB p0 p1 p2 p3 p4 p5)
      | (go_at_call 35
         with_reducible refine (plainAll (l := row) R1.out).mono ?_
         intro e w2 h2
         obtain ⟨rfl, n2, rfl⟩ := tells_no h2 HP.out
         clear h2)
      | fail)
    refine bodyPost_ret (v := .tuple #[.bool false, .int .i64 3]) (by simp [results, Tryz.results12, go_sem]) rfl ?_
    exact ⟨false, by rw [h1.out], by rw [h1.out, if_neg (by decide)], B1.out.trans (belowN _ _ _)⟩
end Go.Proofs.YtdfjjmibhnniiaaGreatDoor.Le

set_option maxRecDepth 100000
set_option linter.unusedSimpArgs false
set_option linter.unusedVariables false
namespace Go.Proofs.YtdfjjmibhnniiaaGreatDoor.Le
open Go Go.Ms Go.Pg Go.Le Go.ChangeShapes Go.WideShapes Go.ChangeAt Go.RowKit Go.Deep

set_option maxHeartbeats 8000000 in
theorem in5 {w : World} {i j : Nat} {K M : Int} {l row : List Int} {os : Option Addr} {cs : Nat} {t : Value} (hs : IntsW w (.slice os l.length cs) l) (ht : IntsW w t row) (he : err (⟨5, i, j, K, M, l⟩ : Inv) row.length = 0) : Calls Tryz.prog 12 #[.agg #[.int .u8 5, .int .i64 (i : Int), .int .i64 (j : Int), .int .i64 K, .int .i64 M, .slice os l.length cs], t] w (Answers (⟨5, i, j, K, M, l⟩ : Inv) row w) := by
  obtain ⟨-, -, hv, hp, hn, -⟩ := err_zero he
  have hb := b_in he
  have hi : i < row.length := by have := hv.2.1; dsimp only at this; omega
  have hj : j < row.length := by have := hb.2; dsimp only at this; omega
  have hK : Plain K := hp.1
  have hM : Plain M := hp.2.1
  have hq : (row[i] ≠ 0) ↔ Holds (⟨5, i, j, K, M, l⟩ : Inv) row := by simp [Holds, at_nat, hi, hj]
  have V31 : Hid (∀ w', IntsW w' (.slice os l.length cs) l → Calls Tryz.prog 31 #[.agg #[.int .u8 5, .int .i64 (i : Int), .int .i64 (j : Int), .int .i64 K, .int .i64 M, .slice os l.length cs], .int .i64 (row.length : Int)] w' fun e w'' => e = .returned (.tuple #[.iface 150 (.agg #[.int .i64 (i : Int)]), .int .i64 0]) ∧ Below w'.heap.size w' w'') := hide fun w' h => (claimOfProg (x := (⟨5, i, j, K, M, l⟩ : Inv)) h).mono fun e w'' ⟨v, q1, q2, q3⟩ => ⟨by rw [q1, he, q2 he]; rfl, q3⟩
  have VH : Hid (∀ w', IntsW w' (.slice os l.length cs) l → IntsW w' t row → AllPlain row → Calls Tryz.prog 243 #[.agg #[.int .i64 (i : Int)], t] w' (TellsB (Holds (⟨5, i, j, K, M, l⟩ : Inv) row) w')) := hide fun w' h1 h2 h3 => (hold5 i j K M h2 hi hj hK hM h3).mono fun e w'' q => q.iff hq
  have HE := hide he
  clear he hv hp hn hb hi hj hK hM hq
  obtain ⟨b1, b3⟩ := one_box w (⟨5, i, j, K, M, l⟩ : Inv) (.slice os l.length cs) 31
  unfold cInv at *
  dsimp only at b1 b3
  have I0 := hide (intsW_below hs b3)
  have R0 := hide (intsW_below ht b3)
  have HB := hide b3
  obtain ⟨ot, ct, rfl, hlt, _⟩ := ht
  clear b3 hs
  go_enter Tryz.func12, Tryz.ntmps12
  go_upto_region 1 with (fail)
  generalize w.alloc (.cells #[.int .u8 5, .int .i64 (i : Int), .int .i64 (j : Int), .int .i64 K, .int .i64 M, .slice os l.length cs] 31) = w0 at *
  obtain ⟨p0, p1, p2, p3, p4, p5⟩ := b1
  dsimp only at p0 p1 p2 p3 p4 p5
  by_cases hr : AllPlain row
  · have HP := hide hr
    clear hr
    have h1 : Hid (rowErr (⟨5, i, j, K, M, l⟩ : Inv) row = 0) := hide (by unfold rowErr; rw [if_pos HE.out, if_pos HP.out])
    go_wp2_with (first
      | (go_at_call 31
         with_reducible refine (V31.out _ I0.out).mono ?_
         rintro e w1 ⟨rfl, hB⟩
         have I1 := hide (intsW_below I0.out hB)
         have R1 := hide (intsW_below R0.out hB)
         have B1 := hide (below_up HB.out hB)
         clear hB p0 p1 p2 p3 p4 p5)
      | (go_at_call 35
         with_reducible refine (plainAll (l := row) R1.out).mono ?_
         intro e w2 h2
         obtain ⟨rfl, n2, rfl⟩ := tells_yes h2 HP.out
         clear h2)
      | (go_at_call 243
         with_reducible refine (VH.out _ (intsW_drewN I1.out _) (intsW_drewN R1.out _) HP.out).mono ?_
         rintro e w3 ⟨r, rfl, hr3, hB⟩
         have HR := hide hr3
         have B3 := hide (below_up (B1.out.trans (belowN _ _ _)) hB)
         clear hr3 hB)
      | fail)
    refine bodyPost_ret (v := .tuple #[.bool r, .int .i64 0]) (by simp [results, Tryz.results12, go_sem]) rfl ?_
    exact ⟨r, by rw [h1.out], by rw [h1.out, if_pos rfl]; exact HR.out, B3.out⟩
  · have HP := hide hr
    clear hr
    have h1 : Hid (rowErr (⟨5, i, j, K, M, l⟩ : Inv) row = 3) := hide (by unfold rowErr; rw [if_pos HE.out, if_neg HP.out])
    go_wp2_with (first
      | (go_at_call 31
         with_reducible refine (V31.out _ I0.out).mono ?_
         rintro e w1 ⟨rfl, hB⟩
         have R1 := hide (intsW_below R0.out hB)
         have B1 := hide (below_up HB.out hB)
         clear hB p0 p1 p2 p3 p4 p5)
      | (go_at_call 35
         with_reducible refine (plainAll (l := row) R1.out).mono ?_
         intro e w2 h2
         obtain ⟨rfl, n2, rfl⟩ := tells_no h2 HP.out
         clear h2)
      | fail)
    refine bodyPost_ret (v := .tuple #[.bool false, .int .i64 3]) (by simp [results, Tryz.results12, go_sem]) rfl ?_
    exact ⟨false, by rw [h1.out], by rw [h1.out, if_neg (by decide)], B1.out.trans (belowN _ _ _)⟩
end Go.Proofs.YtdfjjmibhnniiaaGreatDoor.Le

set_option maxRecDepth 100000
set_option linter.unusedSimpArgs false
set_option linter.unusedVariables false
namespace Go.Proofs.YtdfjjmibhnniiaaGreatDoor.Le
open Go Go.Ms Go.Pg Go.Le Go.ChangeShapes Go.WideShapes Go.ChangeAt Go.RowKit Go.Deep

set_option maxHeartbeats 8000000 in
theorem in6 {w : World} {i j : Nat} {K M : Int} {l row : List Int} {os : Option Addr} {cs : Nat} {t : Value} (hs : IntsW w (.slice os l.length cs) l) (ht : IntsW w t row) (he : err (⟨6, i, j, K, M, l⟩ : Inv) row.length = 0) : Calls Tryz.prog 12 #[.agg #[.int .u8 6, .int .i64 (i : Int), .int .i64 (j : Int), .int .i64 K, .int .i64 M, .slice os l.length cs], t] w (Answers (⟨6, i, j, K, M, l⟩ : Inv) row w) := by
  obtain ⟨-, -, hv, hp, hn, -⟩ := err_zero he
  have hb := b_in he
  have hi : i < row.length := by have := hv.2.1; dsimp only at this; omega
  have hj : j < row.length := by have := hb.2; dsimp only at this; omega
  have hK : Plain K := hp.1
  have hM : Plain M := hp.2.1
  have hm : 2 ≤ M := (hn.2 rfl).1
  have hq : (modulo row[i] M = K) ↔ Holds (⟨6, i, j, K, M, l⟩ : Inv) row := by simp [Holds, at_nat, hi, hj]
  have V31 : Hid (∀ w', IntsW w' (.slice os l.length cs) l → Calls Tryz.prog 31 #[.agg #[.int .u8 6, .int .i64 (i : Int), .int .i64 (j : Int), .int .i64 K, .int .i64 M, .slice os l.length cs], .int .i64 (row.length : Int)] w' fun e w'' => e = .returned (.tuple #[.iface 152 (.agg #[.int .i64 (i : Int), .int .i64 K, .int .i64 M]), .int .i64 0]) ∧ Below w'.heap.size w' w'') := hide fun w' h => (claimOfProg (x := (⟨6, i, j, K, M, l⟩ : Inv)) h).mono fun e w'' ⟨v, q1, q2, q3⟩ => ⟨by rw [q1, he, q2 he]; rfl, q3⟩
  have VH : Hid (∀ w', IntsW w' (.slice os l.length cs) l → IntsW w' t row → AllPlain row → Calls Tryz.prog 246 #[.agg #[.int .i64 (i : Int), .int .i64 K, .int .i64 M], t] w' (TellsB (Holds (⟨6, i, j, K, M, l⟩ : Inv) row) w')) := hide fun w' h1 h2 h3 => (hold6 i j K M h2 hi hj hK hM h3 hm).mono fun e w'' q => q.iff hq
  have HE := hide he
  clear he hv hp hn hb hi hj hK hM hq hm
  obtain ⟨b1, b3⟩ := one_box w (⟨6, i, j, K, M, l⟩ : Inv) (.slice os l.length cs) 31
  unfold cInv at *
  dsimp only at b1 b3
  have I0 := hide (intsW_below hs b3)
  have R0 := hide (intsW_below ht b3)
  have HB := hide b3
  obtain ⟨ot, ct, rfl, hlt, _⟩ := ht
  clear b3 hs
  go_enter Tryz.func12, Tryz.ntmps12
  go_upto_region 1 with (fail)
  generalize w.alloc (.cells #[.int .u8 6, .int .i64 (i : Int), .int .i64 (j : Int), .int .i64 K, .int .i64 M, .slice os l.length cs] 31) = w0 at *
  obtain ⟨p0, p1, p2, p3, p4, p5⟩ := b1
  dsimp only at p0 p1 p2 p3 p4 p5
  by_cases hr : AllPlain row
  · have HP := hide hr
    clear hr
    have h1 : Hid (rowErr (⟨6, i, j, K, M, l⟩ : Inv) row = 0) := hide (by unfold rowErr; rw [if_pos HE.out, if_pos HP.out])
    go_wp2_with (first
      | (go_at_call 31
         with_reducible refine (V31.out _ I0.out).mono ?_
         rintro e w1 ⟨rfl, hB⟩
         have I1 := hide (intsW_below I0.out hB)
         have R1 := hide (intsW_below R0.out hB)
         have B1 := hide (below_up HB.out hB)
         clear hB p0 p1 p2 p3 p4 p5)
      | (go_at_call 35
         with_reducible refine (plainAll (l := row) R1.out).mono ?_
         intro e w2 h2
         obtain ⟨rfl, n2, rfl⟩ := tells_yes h2 HP.out
         clear h2)
      | (go_at_call 246
         with_reducible refine (VH.out _ (intsW_drewN I1.out _) (intsW_drewN R1.out _) HP.out).mono ?_
         rintro e w3 ⟨r, rfl, hr3, hB⟩
         have HR := hide hr3
         have B3 := hide (below_up (B1.out.trans (belowN _ _ _)) hB)
         clear hr3 hB)
      | fail)
    refine bodyPost_ret (v := .tuple #[.bool r, .int .i64 0]) (by simp [results, Tryz.results12, go_sem]) rfl ?_
    exact ⟨r, by rw [h1.out], by rw [h1.out, if_pos rfl]; exact HR.out, B3.out⟩
  · have HP := hide hr
    clear hr
    have h1 : Hid (rowErr (⟨6, i, j, K, M, l⟩ : Inv) row = 3) := hide (by unfold rowErr; rw [if_pos HE.out, if_neg HP.out])
    go_wp2_with (first
      | (go_at_call 31
         with_reducible refine (V31.out _ I0.out).mono ?_
         rintro e w1 ⟨rfl, hB⟩
         have R1 := hide (intsW_below R0.out hB)
         have B1 := hide (below_up HB.out hB)
         clear hB p0 p1 p2 p3 p4 p5)
      | (go_at_call 35
         with_reducible refine (plainAll (l := row) R1.out).mono ?_
         intro e w2 h2
         obtain ⟨rfl, n2, rfl⟩ := tells_no h2 HP.out
         clear h2)
      | fail)
    refine bodyPost_ret (v := .tuple #[.bool false, .int .i64 3]) (by simp [results, Tryz.results12, go_sem]) rfl ?_
    exact ⟨false, by rw [h1.out], by rw [h1.out, if_neg (by decide)], B1.out.trans (belowN _ _ _)⟩
end Go.Proofs.YtdfjjmibhnniiaaGreatDoor.Le

