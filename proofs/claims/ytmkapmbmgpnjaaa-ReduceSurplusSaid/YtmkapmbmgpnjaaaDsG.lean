import Derived.Test.YtmkapmbmgpnjaaaDsD
import Derived.Test.YtmkapmbmgpnjaaaGmC
import Derived.Test.YtmkapmbmgpnjaaaGrF
set_option maxRecDepth 100000
set_option linter.unusedSimpArgs false
set_option linter.unusedVariables false
namespace Go.Proofs.Ytmkapmbmgpnjaaa.Se
open Go Go.Ms Go.Pg Go.Bi Go.Se Go.ChangeShapes Go.WideShapes Go.ChangeAt Go.RowKit Go.Deep Go.Proofs.Ytmkapmbmgpnjaaa.Bi

/-! Small functions. -/

theorem EI30 : Go.Il.IntElem Try.prog 30 3 .i64 8 := Go.Il.IntElem.mk Try.underlying30 (by kernel_rfl)

set_option maxHeartbeats 4000000 in
theorem untilProg {w : World} {n : Nat} (hn : n ≤ 1000000) :
    Calls Try.prog 88 #[.int .i64 n] w fun e w' => ∃ v, e = .returned v ∧ Below w.heap.size w w' ∧ Il.Own 3 .i64 w.heap.size w' v ((List.range n).map Int.ofNat) := by
  go_enter Try.func88, Try.ntmps88
  go_wp2_with fail
  go_loopw [3, 6] (fun v i wr => ∃ k : Nat, k ≤ n ∧ i = .int .i64 (k : Int) ∧ Il.Own 3 .i64 w.heap.size wr v ((List.range k).map Int.ofNat) ∧ Il.Stp 3 w.heap.size w wr) (fun _ i _ => n - (intOf i).toNat)
  case atStart => exact ⟨0, Nat.zero_le _, rfl, Il.Own.nil _ _ _ _, Il.Stp.refl _ _ _⟩
  case round =>
    obtain ⟨k, hk, rfl, hO, hS⟩ := hrel
    have HO := hide hO
    have HS := hide hS
    clear hO hS
    by_cases hlt : k < n
    · have h64 : (k : Int) < (n : Int) := by omega
      have hz : w.heap.size ≤ wr.heap.size := HS.out.below.size
      have hw : IntKind.i64.wrap ((k : Int) + 1) = (k : Int) + 1 := by simp [IntKind.wrap, IntKind.signed, IntKind.bits]; omega
      go_wp2_with (first
        | (at_builtin
           (refine Go.Il.wpl_push EI30 (by decide) rfl (.tmp 9) (.tmp 11) rfl HO.out _ _ [(k : Int)] _ _ rfl rfl rfl rfl rfl hz (by simp; omega) ?_
            intro v1 w1 ho1 hs1
            have HO1 := hide ho1
            have HS1 := hide (HS.out.trans hs1)
            clear ho1 hs1))
        | fail)
      refine ⟨⟨k + 1, by omega, by go_num, ?_, HS1.out⟩, by simp [intOf]; omega⟩
      rw [List.range_succ, List.map_append]
      exact HO1.out
    · obtain rfl : k = n := by omega
      go_wp2_with fail
      go_ret
      exact ⟨_, rfl, HS.out.below, HO.out⟩

set_option maxHeartbeats 4000000 in
theorem allRef {w : World} {n : Nat} (hn : n ≤ 1000000) :
    Calls Try.prog 32 #[.int .i64 n] w fun e w' => ∃ v, e = .returned v ∧ Below w.heap.size w w' ∧ Il.Own 3 .i64 w.heap.size w' v ((List.range n).map Int.ofNat) := by
  go_enter Try.func32, Try.ntmps32
  go_wp2_with fail
  go_loopw [3, 4] (fun v i wr => ∃ k : Nat, k ≤ n ∧ i = .int .i64 (k : Int) ∧ Il.Own 3 .i64 w.heap.size wr v ((List.range k).map Int.ofNat) ∧ Il.Stp 3 w.heap.size w wr) (fun _ i _ => n - (intOf i).toNat)
  case atStart => exact ⟨0, Nat.zero_le _, rfl, Il.Own.nil _ _ _ _, Il.Stp.refl _ _ _⟩
  case round =>
    obtain ⟨k, hk, rfl, hO, hS⟩ := hrel
    have HO := hide hO
    have HS := hide hS
    clear hO hS
    by_cases hlt : k < n
    · have h64 : (k : Int) < (n : Int) := by omega
      have hz : w.heap.size ≤ wr.heap.size := HS.out.below.size
      have hw : IntKind.i64.wrap ((k : Int) + 1) = (k : Int) + 1 := by simp [IntKind.wrap, IntKind.signed, IntKind.bits]; omega
      go_wp2_with (first
        | (at_builtin
           (refine Go.Il.wpl_push EI30 (by decide) rfl (.tmp 10) (.tmp 12) rfl HO.out _ _ [(k : Int)] _ _ rfl rfl rfl rfl rfl hz (by simp; omega) ?_
            intro v1 w1 ho1 hs1
            have HO1 := hide ho1
            have HS1 := hide (HS.out.trans hs1)
            clear ho1 hs1))
        | fail)
      refine ⟨⟨k + 1, by omega, by go_num, ?_, HS1.out⟩, by simp [intOf]; omega⟩
      rw [List.range_succ, List.map_append]
      exact HO1.out
    · obtain rfl : k = n := by omega
      go_wp2_with fail
      go_ret
      exact ⟨_, rfl, HS.out.below, HO.out⟩

theorem itemsProg {w : World} {z : Int} {n : Nat} (hz : z ≤ 256) (e : max z 0 = (n : Int)) : Calls Try.prog 102 #[.int .i64 z] w fun e w' => e = .returned (.tuple #[.int .i64 (n : Int), .int .i64 0]) ∧ w' = w := by
  have h1 : decide ((256 : Int) < z) = false := decide_eq_false (by omega)
  have h2 : ¬ (256 : Int) < z := by omega
  have hn : (0 ≤ z ∧ z = (n : Int)) ∨ (z < 0 ∧ n = 0) := by omega
  clear e
  go_enter Try.func102, Try.ntmps102
  go_wp2_with fail
  all_goals
    refine bodyPost_ret (v := .tuple #[.int .i64 (n : Int), .int .i64 0]) ?_ rfl ⟨rfl, rfl⟩
    simp [results, Try.results102, go_sem]
    omega

set_option maxHeartbeats 8000000 in
theorem passesS {w : World} {g m : Nat} {q : Q4} {l : List Int} {T : List (Q4 × Int)} (h : SBox w g m l T) (hq : q.Ok) :
    Calls Try.prog 116 #[.pointer (some ⟨g, 0, none⟩), setV q.a q.b q.c q.d] w fun e w' => Asked w g m l T q e w' fun v => .bool (v == 1) := by
  have hB0 := (Below.refl w.heap.size w).alloc (Nat.le_refl _) (boxV q.a q.b q.c q.d)
  have H0 := hide (h.old hB0)
  have HQ := hide hq
  have HX := hide (new_block w (boxV q.a q.b q.c q.d))
  have HK0 : Hid (KeepsM m g w (w.alloc (boxV q.a q.b q.c q.d))) := hide (KeepsM.of_below (by have := h.lt; have := h.gt; omega) hB0)
  obtain ⟨x0, x1, x2, x3⟩ := box_cells HX.out
  clear hB0 h hq
  go_enter Try.func116, Try.ntmps116
  go_wp2_with fail
  (with_reducible refine (verdictS H0.out HQ.out).mono ?_)
  rintro e w1 ha
  unfold Asked at ha
  cases hm : memo T q with
  | some v =>
    rw [hm] at ha
    have HMM := hide hm
    obtain ⟨rfl, hk, hs⟩ := ha
    have HK := hide (HK0.out.trans hk)
    have HS := hide hs
    clear hk hs hm
    go_wp2_with fail
    go_ret
    unfold Asked
    rw [HMM.out]
    exact ⟨rfl, HK.out, HS.out⟩
  | none =>
    rw [hm] at ha
    have HMM := hide hm
    clear hm
    cases l with
    | nil =>
      obtain ⟨rfl, hk⟩ := ha
      have HK := hide (HK0.out.trans hk)
      clear hk
      unfold asks4
      go_wp2_with fail
      refine ⟨rfl, ?_⟩
      unfold Asked
      rw [HMM.out]
      exact ⟨rfl, HK.out⟩
    | cons x l =>
      obtain ⟨rfl, hk, hs⟩ := ha
      have HK := hide (HK0.out.trans hk)
      have HS := hide hs
      clear hk hs
      go_wp2_with fail
      go_ret
      unfold Asked
      rw [HMM.out]
      exact ⟨rfl, HK.out, HS.out⟩
end Go.Proofs.Ytmkapmbmgpnjaaa.Se
