import Derived.Test.YtmkapmbmgpnjaaaDsD
import Derived.Test.YtmkapmbmgpnjaaaGmC
import Derived.Test.YtmkapmbmgpnjaaaGrF
set_option maxRecDepth 100000
set_option linter.unusedSimpArgs false
set_option linter.unusedVariables false
namespace Go.Proofs.Ytmkapmbmgpnjaaa.Se
open Go Go.Ms Go.Pg Go.Bi Go.Se Go.ChangeShapes Go.WideShapes Go.ChangeAt Go.RowKit Go.Deep Go.Proofs.Ytmkapmbmgpnjaaa.Bi

/-! Small functions. -/

theorem EI30 : Go.Il.IntElem Try.prog 30 3 .i64 8 := Go.Il.IntElem.mk Try.underlying30 (by kernel_rfl)

set_option maxHeartbeats 4000000 in
theorem untilProg {w : World} {n : Nat} (hn : n ≤ 1000000) :
    Calls Try.prog 88 #[.int .i64 n] w fun e w' => ∃ v, e = .returned v ∧ Below w.heap.size w w' ∧ Il.Own 3 .i64 w.heap.size w' v ((List.range n).map Int.ofNat) := by
  go_enter Try.func88, Try.ntmps88
  go_wp2_with fail
  go_loopw [3, 6] (fun v i wr => ∃ k : Nat, k ≤ n ∧ i = .int .i64 (k : Int) ∧ Il.Own 3 .i64 w.heap.size wr v ((List.range k).map Int.ofNat) ∧ Il.Stp 3 w.heap.size w wr) (fun _ i _ => n - (intOf i).toNat)
  case atStart => exact ⟨0, Nat.zero_le _, rfl, Il.Own.nil _ _ _ _, Il.Stp.refl _ _ _⟩
  case round =>
    obtain ⟨k, hk, rfl, hO, hS⟩ := hrel
    have HO := hide hO
    have HS := hide hS
    clear hO hS
    by_cases hlt : k < n
    · have h64 : (k : Int) < (n : Int) := by omega
      have hz : w.heap.size ≤ wr.heap.size := HS.out.below.size
      have hw : IntKind.i64.wrap ((k : Int) + 1) = (k : Int) + 1 := by simp [IntKind.wrap, IntKind.signed, IntKind.bits]; omega
      go_wp2_with (first
        | (at_builtin
           (refine Go.Il.wpl_push EI30 (by decide) rfl (.tmp 9) (.tmp 11) rfl HO.out _ _ [(k : Int)] _ _ rfl rfl rfl rfl rfl hz (by simp; omega) ?_
            intro v1 w1 ho1 hs1
            have HO1 := hide ho1
            have HS1 := hide (HS.out.trans hs1)
            clear ho1 hs1))
        | fail)
      refine ⟨⟨k + 1, by omega, by go_num, ?_, HS1.out⟩, by simp [intOf]; omega⟩
      rw [List.range_succ, List.map_append]
      exact HO1.out
    · obtain rfl : k = n := by omega
      go_wp2_with fail
      go_ret
      exact ⟨_, rfl, HS.out.below, HO.out⟩

set_option maxHeartbeats 4000000 in
theorem allRef {w : World} {n : Nat} (hn : n ≤ 1000000) :
    Calls Try.prog 32 #[.int .i64 n] w fun e w' => ∃ v, e = .returned v ∧ Below w.heap.size w w' ∧ Il.Own 3 .i64 w.heap.size w' v ((List.range n).map Int.ofNat) := by
  go_enter Try.func32, Try.ntmps32
  go_wp2_with fail
  go_loopw [3, 4] (fun v i wr => ∃ k : Nat, k ≤ n ∧ i = .int .i64 (k : Int) ∧ Il.Own 3 .i64 w.heap.size wr v ((List.range k).map Int.ofNat) ∧ Il.Stp 3 w.heap.size w wr) (fun _ i _ => n - (intOf i).toNat)
  case atStart => exact ⟨0, Nat.zero_le _, rfl, Il.Own.nil _ _ _ _, Il.Stp.refl _ _ _⟩
  case round =>
    obtain ⟨k, hk, rfl, hO, hS⟩ := hrel
    have HO := hide hO
    have HS := hide hS
    clear hO hS
    by_cases hlt : k < n
    · have h64 : (k : Int) < (n : Int) := by omega
      have hz : w.heap.size ≤ wr.heap.size := HS.out.below.size
      have hw : IntKind.i64.wrap ((k : Int) + 1) = (k : Int) + 1 := by simp [IntKind.wrap, IntKind.signed, IntKind.bits]; omega
      go_wp2_with (first
        | (at_builtin
           (refine Go.Il.wpl_push EI30 (by decide) rfl (.tmp 10) (.tmp 12) rfl HO.out _ _ [(k : Int)] _ _ rfl rfl rfl rfl rfl hz (by simp; omega) ?_
            intro v1 w1 ho1 hs1
            have HO1 := hide ho1
            have HS1 := hide (HS.out.trans hs1)
            clear ho1 hs1))
        | fail)
      refine ⟨⟨k + 1, by omega, by go_num, ?_, HS1.out⟩, by simp [intOf]; omega⟩
      rw [List.range_succ, List.map_append]
      exact HO1.out
    · obtain rfl : k = n := by omega
      go_wp2_with fail
      go_ret
      exact ⟨_, rfl, HS.out.below, HO.out⟩

theorem itemsProg {w : World} {z : Int} {n : Nat} (hz : z ≤ 256) (e : max z 0 = (n : Int)) : Calls Try.prog 102 #[.int .i64 z] w fun e w' => e = .returned (.tuple #[.int .i64 (n : Int), .int .i64 0]) ∧ w' = w := by
  have h1 : decide ((256 : Int) < z) = false := decide_eq_false (by omega)
  have h2 : ¬ (256 : Int) < z := by omega
  have hn : (0 ≤ z ∧ z = (n : Int)) ∨ (z < 0 ∧ n = 0) := by omega
  clear e
  go_enter Try.func102, Try.ntmps102
  go_wp2_with fail
  all_goals
    refine bodyPost_ret (v := .tuple #[.int .i64 (n : Int), .int .i64 0]) ?_ rfl ⟨rfl, rfl⟩
    simp [results, Try.results102, go_sem]
    omega

end Go.Proofs.Ytmkapmbmgpnjaaa.Se
