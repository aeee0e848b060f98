import Derived.Test.YtdpgcoicbagflaaBiN
set_option maxRecDepth 100000
set_option linter.unusedSimpArgs false
set_option linter.unusedVariables false
namespace Go.Proofs.Ytdpgcoicbagflaa.Bi
open Go Go.Ms Go.Pg Go.Bi Go.ChangeShapes Go.WideShapes Go.ChangeAt Go.RowKit Go.Deep

def Bools (w : World) (v : Value) (K : List Bool) : Prop := ∃ b o cap, v = .slice (some ⟨b, o, none⟩) K.length cap ∧ K.length ≤ 256 ∧ ∀ i (h : i < K.length), w.cell? ⟨b, o + i, none⟩ = some (.bool K[i])
def known (K : List Bool) (v : Nat) : Bool := K.getD v false
theorem known_cell {w : World} {b o : Nat} {K : List Bool} (h : ∀ i (h : i < K.length), w.cell? ⟨b, o + i, none⟩ = some (.bool K[i])) {v : Nat} (hv : v < K.length) : w.cell? ⟨b, o + v, none⟩ = some (.bool (known K v)) := by
  rw [h v hv]
  simp [known, List.getElem?_eq_getElem hv]
def numOf : Option Nat → Int
  | some v => v
  | none => -1

set_option maxHeartbeats 8000000 in
theorem betweenProg {w : World} {s : Value} {K : List Bool} {low high : Nat} (hs : Bools w s K) (hl : low ≤ high) (hh : high < K.length) :
    Calls Try.prog 32 #[.int .i64 (low : Int), .int .i64 (high : Int), s] w fun e w' => e = .returned (.int .i64 (numOf (near low high (known K)))) ∧ w' = w := by
  obtain ⟨b, o, cap, rfl, hK, hc⟩ := hs
  have HC := hide hc
  have HL := hide hl
  have HH := hide hh
  have w1 : IntKind.i64.wrap ((low : Int) + (high : Int)) = (low : Int) + (high : Int) := wrap_in (by omega) (by omega)
  obtain ⟨m, hm⟩ : ∃ m, m = (low + high) / 2 := ⟨_, rfl⟩
  have w2 : ((low : Int) + (high : Int)).tdiv 2 = (m : Int) := by rw [Int.tdiv_eq_ediv_of_nonneg (by omega)]; omega
  have w2' : IntKind.i64.wrap (m : Int) = (m : Int) := wrap_in (by omega) (by omega)
  obtain ⟨t, ht⟩ : ∃ t, t = high - low := ⟨_, rfl⟩
  have w3 : IntKind.i64.wrap ((high : Int) - (low : Int)) = (t : Int) := by rw [wrap_in (by omega) (by omega)]; omega
  have HM := hide hm
  have HT := hide ht
  have ht9 : t < 256 := by omega
  have hm9 : m < 256 := by omega
  have hnear : near low high (known K) = nearF low high (known K) (t + 1) 0 := by rw [near, ← ht]; exact (nearF_last hl t 0 (by omega)).symm
  rw [hnear]
  clear hc hl hh hm ht hnear
  go_enter Try.func32, Try.ntmps32
  go_wp2_with fail
  go_loopw [8] (fun s wr => ∃ k : Nat, k ≤ t + 1 ∧ s = .int .i64 (k : Int) ∧ Hid (nearF low high (known K) (t + 1 - k) k = nearF low high (known K) (t + 1) 0) ∧ wr = w) (fun s _ => t + 1 - (intOf s).toNat)
  case atStart => exact ⟨0, Nat.zero_le _, rfl, hide rfl, rfl⟩
  case round =>
    obtain ⟨k, hk, rfl, hr, rfl⟩ := hrel
    by_cases hlt : k ≤ t
    · have hi : (k : Int) ≤ (t : Int) := by omega
      have w4 : IntKind.i64.wrap ((k : Int) + 1) = (k : Int) + 1 := wrap_in (by omega) (by omega)
      obtain ⟨c1, h1⟩ : ∃ c1 : Int, c1 = (m : Int) + (k : Int) := ⟨_, rfl⟩
      obtain ⟨c2, h2⟩ : ∃ c2 : Int, c2 = (m : Int) - (k : Int) := ⟨_, rfl⟩
      have w5 : IntKind.i64.wrap ((m : Int) + (k : Int)) = c1 := by rw [wrap_in (by omega) (by omega), h1]
      have w6 : IntKind.i64.wrap ((m : Int) - (k : Int)) = c2 := by rw [wrap_in (by omega) (by omega), h2]
      have E1 := hide h1
      have E2 := hide h2
      clear h1 h2
      obtain ⟨j, hj⟩ : ∃ j, t + 1 - k = j + 1 := ⟨t - k, by omega⟩
      rw [hj] at hr
      have hj2 : t + 1 - (k + 1) = j := by omega
      have HR := hide hr.out
      have HJ := hide hj2
      clear hr hj hj2
      by_cases lo1 : (low : Int) < c1
      · by_cases hi1 : c1 < (high : Int)
        · obtain ⟨n1, hn1⟩ : ∃ n : Nat, c1 = (n : Int) := ⟨c1.toNat, by omega⟩
          have HN1 := hide hn1
          subst hn1
          have ta1 : decide (low < n1) = true := decide_eq_true (by omega)
          have tb1 : decide (n1 < high) = true := decide_eq_true (by omega)
          have HLO1 := hide lo1
          have HHI1 := hide hi1
          have ga1 : low < n1 := by omega
          have gb1 : n1 < high := by omega
          have gc1 : (n1 : Int) < (K.length : Int) := by have := HH.out; omega
          have f1 := known_cell HC.out (v := n1) (by have := HH.out; omega)
          clear lo1 hi1
          cases hp1 : known K n1 with
          | false =>
            rw [hp1] at f1
            have HP1 := hide hp1
            clear hp1
            go_wp2_with fail
            go_ret
            rw [← HR.out, nearF_some (nearAt_first (HM.out ▸ E1.out) ⟨HLO1.out, HHI1.out, by simpa using HP1.out⟩ rfl)]
            exact ⟨rfl, rfl⟩
          | true =>
            rw [hp1] at f1
            have HP1 := hide hp1
            clear hp1
            have NF1 : Hid (¬ Fits low high (known K) (n1 : Int)) := hide fun q => by have := q.2.2; rw [show Int.toNat (n1 : Int) = n1 from rfl, HP1.out] at this; cases this
            by_cases lo2 : (low : Int) < c2
            · by_cases hi2 : c2 < (high : Int)
              · obtain ⟨n2, hn2⟩ : ∃ n : Nat, c2 = (n : Int) := ⟨c2.toNat, by omega⟩
                have HN2 := hide hn2
                subst hn2
                have ta2 : decide (low < n2) = true := decide_eq_true (by omega)
                have tb2 : decide (n2 < high) = true := decide_eq_true (by omega)
                have HLO2 := hide lo2
                have HHI2 := hide hi2
                have ga2 : low < n2 := by omega
                have gb2 : n2 < high := by omega
                have gc2 : (n2 : Int) < (K.length : Int) := by have := HH.out; omega
                have f2 := known_cell HC.out (v := n2) (by have := HH.out; omega)
                clear lo2 hi2
                cases hp2 : known K n2 with
                | false =>
                  rw [hp2] at f2
                  have HP2 := hide hp2
                  clear hp2
                  go_wp2_with fail
                  go_ret
                  rw [← HR.out, nearF_some (nearAt_second (HM.out ▸ E1.out) (HM.out ▸ E2.out) NF1.out ⟨HLO2.out, HHI2.out, by simpa using HP2.out⟩ rfl)]
                  exact ⟨rfl, rfl⟩
                | true =>
                  rw [hp2] at f2
                  have HP2 := hide hp2
                  clear hp2
                  have NF2 : Hid (¬ Fits low high (known K) (n2 : Int)) := hide fun q => by have := q.2.2; rw [show Int.toNat (n2 : Int) = n2 from rfl, HP2.out] at this; cases this
                  go_wp2_with fail
                  refine ⟨⟨k + 1, by omega, by go_num, hide ?_, trivial⟩, by simp [intOf]; omega⟩
                  rw [HJ.out, ← HR.out, nearF_none (nearAt_none (HM.out ▸ E1.out) (HM.out ▸ E2.out) NF1.out NF2.out)]
              · have ga2 : (low : Int) < c2 := lo2
                have ta2 : decide ((low : Int) < c2) = true := decide_eq_true lo2
                have tb2 : decide (c2 < (high : Int)) = false := decide_eq_false hi2
                have NF2 : Hid (¬ Fits low high (known K) c2) := hide fun q => hi2 q.2.1
                clear hi2
                go_wp2_with fail
                refine ⟨⟨k + 1, by omega, by go_num, hide ?_, trivial⟩, by simp [intOf]; omega⟩
                rw [HJ.out, ← HR.out, nearF_none (nearAt_none (HM.out ▸ E1.out) (HM.out ▸ E2.out) NF1.out NF2.out)]
            · have ta2 : decide ((low : Int) < c2) = false := decide_eq_false lo2
              have NF2 : Hid (¬ Fits low high (known K) c2) := hide fun q => lo2 q.1
              clear lo2
              go_wp2_with fail
              refine ⟨⟨k + 1, by omega, by go_num, hide ?_, trivial⟩, by simp [intOf]; omega⟩
              rw [HJ.out, ← HR.out, nearF_none (nearAt_none (HM.out ▸ E1.out) (HM.out ▸ E2.out) NF1.out NF2.out)]
        · have ga1 : (low : Int) < c1 := lo1
          have ta1 : decide ((low : Int) < c1) = true := decide_eq_true lo1
          have tb1 : decide (c1 < (high : Int)) = false := decide_eq_false hi1
          have NF1 : Hid (¬ Fits low high (known K) c1) := hide fun q => hi1 q.2.1
          clear hi1
          by_cases lo2 : (low : Int) < c2
          · by_cases hi2 : c2 < (high : Int)
            · obtain ⟨n2, hn2⟩ : ∃ n : Nat, c2 = (n : Int) := ⟨c2.toNat, by omega⟩
              have HN2 := hide hn2
              subst hn2
              have ta2 : decide (low < n2) = true := decide_eq_true (by omega)
              have tb2 : decide (n2 < high) = true := decide_eq_true (by omega)
              have HLO2 := hide lo2
              have HHI2 := hide hi2
              have ga2 : low < n2 := by omega
              have gb2 : n2 < high := by omega
              have gc2 : (n2 : Int) < (K.length : Int) := by have := HH.out; omega
              have f2 := known_cell HC.out (v := n2) (by have := HH.out; omega)
              clear lo2 hi2
              cases hp2 : known K n2 with
              | false =>
                rw [hp2] at f2
                have HP2 := hide hp2
                clear hp2
                go_wp2_with fail
                go_ret
                rw [← HR.out, nearF_some (nearAt_second (HM.out ▸ E1.out) (HM.out ▸ E2.out) NF1.out ⟨HLO2.out, HHI2.out, by simpa using HP2.out⟩ rfl)]
                exact ⟨rfl, rfl⟩
              | true =>
                rw [hp2] at f2
                have HP2 := hide hp2
                clear hp2
                have NF2 : Hid (¬ Fits low high (known K) (n2 : Int)) := hide fun q => by have := q.2.2; rw [show Int.toNat (n2 : Int) = n2 from rfl, HP2.out] at this; cases this
                go_wp2_with fail
                refine ⟨⟨k + 1, by omega, by go_num, hide ?_, trivial⟩, by simp [intOf]; omega⟩
                rw [HJ.out, ← HR.out, nearF_none (nearAt_none (HM.out ▸ E1.out) (HM.out ▸ E2.out) NF1.out NF2.out)]
            · have ga2 : (low : Int) < c2 := lo2
              have ta2 : decide ((low : Int) < c2) = true := decide_eq_true lo2
              have tb2 : decide (c2 < (high : Int)) = false := decide_eq_false hi2
              have NF2 : Hid (¬ Fits low high (known K) c2) := hide fun q => hi2 q.2.1
              clear hi2
              go_wp2_with fail
              refine ⟨⟨k + 1, by omega, by go_num, hide ?_, trivial⟩, by simp [intOf]; omega⟩
              rw [HJ.out, ← HR.out, nearF_none (nearAt_none (HM.out ▸ E1.out) (HM.out ▸ E2.out) NF1.out NF2.out)]
          · have ta2 : decide ((low : Int) < c2) = false := decide_eq_false lo2
            have NF2 : Hid (¬ Fits low high (known K) c2) := hide fun q => lo2 q.1
            clear lo2
            go_wp2_with fail
            refine ⟨⟨k + 1, by omega, by go_num, hide ?_, trivial⟩, by simp [intOf]; omega⟩
            rw [HJ.out, ← HR.out, nearF_none (nearAt_none (HM.out ▸ E1.out) (HM.out ▸ E2.out) NF1.out NF2.out)]
      · have ta1 : decide ((low : Int) < c1) = false := decide_eq_false lo1
        have NF1 : Hid (¬ Fits low high (known K) c1) := hide fun q => lo1 q.1
        clear lo1
        by_cases lo2 : (low : Int) < c2
        · by_cases hi2 : c2 < (high : Int)
          · obtain ⟨n2, hn2⟩ : ∃ n : Nat, c2 = (n : Int) := ⟨c2.toNat, by omega⟩
            have HN2 := hide hn2
            subst hn2
            have ta2 : decide (low < n2) = true := decide_eq_true (by omega)
            have tb2 : decide (n2 < high) = true := decide_eq_true (by omega)
            have HLO2 := hide lo2
            have HHI2 := hide hi2
            have ga2 : low < n2 := by omega
            have gb2 : n2 < high := by omega
            have gc2 : (n2 : Int) < (K.length : Int) := by have := HH.out; omega
            have f2 := known_cell HC.out (v := n2) (by have := HH.out; omega)
            clear lo2 hi2
            cases hp2 : known K n2 with
            | false =>
              rw [hp2] at f2
              have HP2 := hide hp2
              clear hp2
              go_wp2_with fail
              go_ret
              rw [← HR.out, nearF_some (nearAt_second (HM.out ▸ E1.out) (HM.out ▸ E2.out) NF1.out ⟨HLO2.out, HHI2.out, by simpa using HP2.out⟩ rfl)]
              exact ⟨rfl, rfl⟩
            | true =>
              rw [hp2] at f2
              have HP2 := hide hp2
              clear hp2
              have NF2 : Hid (¬ Fits low high (known K) (n2 : Int)) := hide fun q => by have := q.2.2; rw [show Int.toNat (n2 : Int) = n2 from rfl, HP2.out] at this; cases this
              go_wp2_with fail
              refine ⟨⟨k + 1, by omega, by go_num, hide ?_, trivial⟩, by simp [intOf]; omega⟩
              rw [HJ.out, ← HR.out, nearF_none (nearAt_none (HM.out ▸ E1.out) (HM.out ▸ E2.out) NF1.out NF2.out)]
          · have ga2 : (low : Int) < c2 := lo2
            have ta2 : decide ((low : Int) < c2) = true := decide_eq_true lo2
            have tb2 : decide (c2 < (high : Int)) = false := decide_eq_false hi2
            have NF2 : Hid (¬ Fits low high (known K) c2) := hide fun q => hi2 q.2.1
            clear hi2
            go_wp2_with fail
            refine ⟨⟨k + 1, by omega, by go_num, hide ?_, trivial⟩, by simp [intOf]; omega⟩
            rw [HJ.out, ← HR.out, nearF_none (nearAt_none (HM.out ▸ E1.out) (HM.out ▸ E2.out) NF1.out NF2.out)]
        · have ta2 : decide ((low : Int) < c2) = false := decide_eq_false lo2
          have NF2 : Hid (¬ Fits low high (known K) c2) := hide fun q => lo2 q.1
          clear lo2
          go_wp2_with fail
          refine ⟨⟨k + 1, by omega, by go_num, hide ?_, trivial⟩, by simp [intOf]; omega⟩
          rw [HJ.out, ← HR.out, nearF_none (nearAt_none (HM.out ▸ E1.out) (HM.out ▸ E2.out) NF1.out NF2.out)]
    · obtain rfl : k = t + 1 := by omega
      rw [Nat.sub_self] at hr
      have HR := hide hr.out
      clear hr
      have hi : ¬ ((t + 1 : Nat) : Int) ≤ (t : Int) := by omega
      have hi2 : decide (((t : Int) + 1) ≤ (t : Int)) = false := decide_eq_false (by omega)
      go_wp2_with fail
      go_ret
      rw [← HR.out]
      exact ⟨rfl, rfl⟩
end Go.Proofs.Ytdpgcoicbagflaa.Bi
