import Derived.Test.YtdpgcoicbagflaaBiV
import Derived.Test.YtdpgcoicbagflaaBeA
set_option maxRecDepth 100000
set_option linter.unusedSimpArgs false
set_option linter.unusedVariables false
namespace Go.Proofs.Ytdpgcoicbagflaa.Be
open Go Go.Ms Go.Pg Go.Bi Go.Be Go.ChangeShapes Go.WideShapes Go.ChangeAt Go.RowKit Go.Deep Go.Proofs.Ytdpgcoicbagflaa.Bi

theorem rem4 (κ : Nat) : ((κ : Int).tmod 4) = ((κ % 4 : Nat) : Int) := by
  rw [Int.tmod_eq_emod_of_nonneg (by omega)]; rfl

set_option maxHeartbeats 4000000 in
theorem replyProg {w : World} {κ k : Nat} (hκ : κ < 256) :
    Calls Try.prog 11 #[.int .u8 (κ : Int), .int .i64 (k : Int)] w fun e w' => e = .returned (.int .u8 (reply κ k)) ∧ w' = w := by
  have hr := rem4 κ
  obtain ⟨m, hm⟩ : ∃ m, m = κ % 4 := ⟨_, rfl⟩
  rw [← hm] at hr
  have hw : IntKind.u8.wrap (m : Int) = (m : Int) := by simp [IntKind.wrap, IntKind.signed, IntKind.bits]; omega
  have hc : m = 0 ∨ m = 1 ∨ m = 2 ∨ m = 3 := by omega
  have HM := hide hm
  clear hm hκ
  rcases hc with rfl | rfl | rfl | rfl
  · go_enter Try.func11, Try.ntmps11
    go_wp2_with fail
    go_ret
    rw [reply_0 HM.out.symm]
    exact ⟨rfl, rfl⟩
  · go_enter Try.func11, Try.ntmps11
    go_wp2_with fail
    go_ret
    rw [reply_1 HM.out.symm]
    exact ⟨rfl, rfl⟩
  · go_enter Try.func11, Try.ntmps11
    go_wp2_with fail
    go_ret
    rw [reply_2 HM.out.symm]
    exact ⟨rfl, rfl⟩
  · by_cases hk : 0 < k
    · have t : decide ((0 : Int) < (k : Int)) = true := decide_eq_true (by omega)
      have t2 : decide (0 < k) = true := decide_eq_true hk
      have HK := hide hk
      clear hk
      go_enter Try.func11, Try.ntmps11
      go_wp2_with fail
      go_ret
      rw [reply_3 HM.out.symm, if_pos HK.out]
      exact ⟨rfl, rfl⟩
    · obtain rfl : k = 0 := by omega
      clear hk
      go_enter Try.func11, Try.ntmps11
      go_wp2_with fail
      go_ret
      rw [reply_3 HM.out.symm]
      exact ⟨rfl, rfl⟩

set_option maxHeartbeats 4000000 in
theorem judgedProg {w : World} {κ T : Nat} (hκ : κ < 256) :
    Calls Try.prog 10 #[.int .u8 (κ : Int), .int .i64 (T : Int)] w fun e w' => e = .returned (.int .u8 (judged κ T)) ∧ w' = w := by
  have hr := rem4 κ
  obtain ⟨m, hm⟩ : ∃ m, m = κ % 4 := ⟨_, rfl⟩
  rw [← hm] at hr
  have hw : IntKind.u8.wrap (m : Int) = (m : Int) := by simp [IntKind.wrap, IntKind.signed, IntKind.bits]; omega
  have HM := hide hm
  have HR : Hid (Calls Try.prog 11 #[.int .u8 (κ : Int), .int .i64 0] w fun e w' => e = .returned (.int .u8 (reply κ 0)) ∧ w' = w) := hide (replyProg (w := w) (k := 0) hκ)
  have HJ : Hid (judged κ T = if m = 3 ∧ 1 < T then 2 else reply κ 0) := hide (by rw [hm]; rfl)
  clear hm hκ
  by_cases h3 : m = 3
  · subst h3
    by_cases hT : 1 < T
    · have t : decide ((1 : Int) < (T : Int)) = true := decide_eq_true (by omega)
      have t2 : decide (1 < T) = true := decide_eq_true hT
      rw [if_pos ⟨rfl, hT⟩] at HJ
      clear hT
      go_enter Try.func10, Try.ntmps10
      go_wp2_with fail
      (with_reducible refine (HR.out).mono ?_)
      rintro e w1 ⟨rfl, rfl⟩
      go_wp2_with fail
      go_ret
      rw [HJ.out]
      exact ⟨rfl, rfl⟩
    · have t : decide ((1 : Int) < (T : Int)) = false := decide_eq_false (by omega)
      have t2 : decide (1 < T) = false := decide_eq_false hT
      rw [if_neg (fun q => hT q.2)] at HJ
      clear hT
      go_enter Try.func10, Try.ntmps10
      go_wp2_with fail
      (with_reducible refine (HR.out).mono ?_)
      rintro e w1 ⟨rfl, rfl⟩
      go_wp2_with fail
      go_ret
      rw [HJ.out]
      exact ⟨rfl, rfl⟩
  · have t : ((m : Int) == 3) = false := beq_false_of_ne (by omega)
    have t2 : (m == 3) = false := beq_false_of_ne h3
    rw [if_neg (fun q => h3 q.1)] at HJ
    clear h3
    go_enter Try.func10, Try.ntmps10
    go_wp2_with fail
    (with_reducible refine (HR.out).mono ?_)
    rintro e w1 ⟨rfl, rfl⟩
    go_wp2_with fail
    go_ret
    rw [HJ.out]
    exact ⟨rfl, rfl⟩
end Go.Proofs.Ytdpgcoicbagflaa.Be
