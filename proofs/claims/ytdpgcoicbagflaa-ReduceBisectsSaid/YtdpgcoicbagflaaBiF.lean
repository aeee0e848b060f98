import Derived.Test.YtdpgcoicbagflaaBiE
set_option maxRecDepth 100000
set_option linter.unusedSimpArgs false
set_option linter.unusedVariables false
namespace Go.Proofs.Ytdpgcoicbagflaa.Bi
open Go Go.Ms Go.Pg Go.Bi Go.ChangeShapes Go.WideShapes Go.ChangeAt Go.RowKit Go.Deep

def Fits (low high : Nat) (p : Nat → Bool) (c : Int) : Prop := (low : Int) < c ∧ c < (high : Int) ∧ p c.toNat = false
theorem nearAt_first {low high : Nat} {p : Nat → Bool} {d n : Nat} {c : Int} (e : c = (((low + high) / 2 : Nat) : Int) + (d : Int)) (h : Fits low high p c) (hn : c = (n : Int)) : nearAt low high p d = some n := by
  obtain ⟨h1, h2, h3⟩ := h
  have en : (low + high) / 2 + d = n := by omega
  have e3 : c.toNat = n := by omega
  rw [e3] at h3
  unfold nearAt
  rw [en, if_pos ⟨by omega, by omega, h3⟩]
theorem nearAt_second {low high : Nat} {p : Nat → Bool} {d n : Nat} {c c' : Int} (e : c = (((low + high) / 2 : Nat) : Int) + (d : Int)) (e' : c' = (((low + high) / 2 : Nat) : Int) - (d : Int)) (h : ¬ Fits low high p c) (h' : Fits low high p c') (hn : c' = (n : Int)) : nearAt low high p d = some n := by
  obtain ⟨h1, h2, h3⟩ := h'
  have en : (low + high) / 2 - d = n := by omega
  have e3 : c'.toNat = n := by omega
  rw [e3] at h3
  unfold nearAt
  rw [if_neg, en, if_pos ⟨by omega, by omega, h3⟩]
  rintro ⟨a, b, f⟩
  exact h ⟨by omega, by omega, by rw [show c.toNat = (low + high) / 2 + d by omega]; exact f⟩
theorem nearAt_none {low high : Nat} {p : Nat → Bool} {d : Nat} {c c' : Int} (e : c = (((low + high) / 2 : Nat) : Int) + (d : Int)) (e' : c' = (((low + high) / 2 : Nat) : Int) - (d : Int)) (h : ¬ Fits low high p c) (h' : ¬ Fits low high p c') : nearAt low high p d = none := by
  unfold nearAt
  rw [if_neg, if_neg]
  · rintro ⟨a, b, f⟩
    exact h' ⟨by omega, by omega, by rw [show c'.toNat = (low + high) / 2 - d by omega]; exact f⟩
  · rintro ⟨a, b, f⟩
    exact h ⟨by omega, by omega, by rw [show c.toNat = (low + high) / 2 + d by omega]; exact f⟩
theorem nearF_some {low high : Nat} {p : Nat → Bool} {k d n : Nat} (h : nearAt low high p d = some n) : nearF low high p (k + 1) d = some n := by simp [nearF, h]
theorem nearF_none {low high : Nat} {p : Nat → Bool} {k d : Nat} (h : nearAt low high p d = none) : nearF low high p (k + 1) d = nearF low high p k (d + 1) := by simp [nearF, h]

theorem size3 : ∀ h, (Try.prog.types[3]'h).size = 1 := fun _ => by kernel_rfl
theorem idx0 (x y : Int) (w : World) : (Instr.index 98 (.agg #[.int .i64 x, .int .i64 y]) (.int .i64 0)).run Try.prog w = .ok (.int .i64 x) w := by
  simp [Instr.index, go_sem, run_underlying Try.underlying98, Result.andThen, size3]
theorem idx1 (x y : Int) (w : World) : (Instr.index 98 (.agg #[.int .i64 x, .int .i64 y]) (.int .i64 1)).run Try.prog w = .ok (.int .i64 y) w := by
  simp [Instr.index, go_sem, run_underlying Try.underlying98, Result.andThen, size3]
def Near : Option Nat → Ending → Prop
  | some n, e => e = .returned (.tuple #[.int .i64 (n : Int), .bool true])
  | none, e => e = .returned (.tuple #[.int .i64 0, .bool false])

set_option maxHeartbeats 8000000 in
theorem nearestProg {w : World} {p : Nat → Bool} {a b c d low high : Nat} (h : Sp p a b c d) (hl : low ≤ high) (hh : high < 256) :
    Calls Try.prog 26 #[.int .i64 (low : Int), .int .i64 (high : Int), setV a b c d] w fun e w' => Near (near low high p) e ∧ Below w.heap.size w w' := by
  have HS := hide h
  have HL := hide hl
  have HH := hide hh
  have w1 : IntKind.i64.wrap ((low : Int) + (high : Int)) = (low : Int) + (high : Int) := wrap_in (by omega) (by omega)
  obtain ⟨m, hm⟩ : ∃ m, m = (low + high) / 2 := ⟨_, rfl⟩
  have w2 : ((low : Int) + (high : Int)).tdiv 2 = (m : Int) := by rw [Int.tdiv_eq_ediv_of_nonneg (by omega)]; omega
  have w2' : IntKind.i64.wrap (m : Int) = (m : Int) := wrap_in (by omega) (by omega)
  obtain ⟨t, ht⟩ : ∃ t, t = high - low := ⟨_, rfl⟩
  have w3 : IntKind.i64.wrap ((high : Int) - (low : Int)) = (t : Int) := by rw [wrap_in (by omega) (by omega)]; omega
  have HM := hide hm
  have HT := hide ht
  have ht9 : t < 256 := by omega
  have hm9 : m < 256 := by omega
  have hnear : near low high p = nearF low high p t 0 := by rw [ht]; rfl
  rw [hnear]
  clear h hl hh hm ht hnear
  have i0 := idx0
  have i1 := idx1
  go_enter Try.func26, Try.ntmps26
  go_wp2_with fail
  go_loopw [19] (fun s wr => ∃ k : Nat, k ≤ t ∧ s = .int .i64 (k : Int) ∧ Hid (nearF low high p (t - k) k = nearF low high p t 0) ∧ Below w.heap.size w wr ∧ wr.heap[w.heap.size]? = some (boxV a b c d)) (fun s _ => t - (intOf s).toNat)
  case atStart => exact ⟨0, Nat.zero_le _, rfl, hide rfl, (Below.refl _ w).alloc (Nat.le_refl _) _, new_block w _⟩
  case round =>
    obtain ⟨k, hk, rfl, hr, hB, hb⟩ := hrel
    have HB := hide hB
    have H0 := hide hb
    clear hB hb
    by_cases hlt : k < t
    · have hi : (k : Int) < (t : Int) := by omega
      have w4 : IntKind.i64.wrap ((k : Int) + 1) = (k : Int) + 1 := wrap_in (by omega) (by omega)
      obtain ⟨c1, h1⟩ : ∃ c1 : Int, c1 = (m : Int) + (k : Int) := ⟨_, rfl⟩
      obtain ⟨c2, h2⟩ : ∃ c2 : Int, c2 = (m : Int) - (k : Int) := ⟨_, rfl⟩
      have w5 : IntKind.i64.wrap ((m : Int) + (k : Int)) = c1 := by rw [wrap_in (by omega) (by omega), h1]
      have w6 : IntKind.i64.wrap ((m : Int) - (k : Int)) = c2 := by rw [wrap_in (by omega) (by omega), h2]
      have E1 := hide h1
      have E2 := hide h2
      clear h1 h2
      obtain ⟨j, hj⟩ : ∃ j, t - k = j + 1 := ⟨t - k - 1, by omega⟩
      rw [hj] at hr
      have hj2 : t - (k + 1) = j := by omega
      have HR := hide hr.out
      have HJ := hide hj2
      clear hr hj hj2
      go_wp2_with fail
      obtain ⟨wo, rfl⟩ : ∃ wo : World, wo = wr := ⟨_, rfl⟩
      go_loopw [29] (fun s wr => ∃ i : Nat, i ≤ 2 ∧ s = .int .i64 (i : Int) ∧ Hid ((1 ≤ i → ¬ Fits low high p c1) ∧ (2 ≤ i → ¬ Fits low high p c2)) ∧ Below w.heap.size w wr ∧ wr.heap[w.heap.size]? = some (boxV a b c d)) (fun s _ => 2 - (intOf s).toNat)
      case atStart => exact ⟨0, by omega, rfl, hide ⟨fun h => by omega, fun h => by omega⟩, HB.out, H0.out⟩
      case round =>
        obtain ⟨i, hi2, rfl, hf, hB, hb⟩ := hrel
        have HB := hide hB
        have H0 := hide hb
        have HF := hide hf.out
        clear hB hb hf
        obtain ⟨q1, q2, q3, q4⟩ := box_cells H0.out
        have hc : i = 0 ∨ i = 1 ∨ i = 2 := by omega
        rcases hc with rfl | rfl | rfl
        · by_cases hlo : (low : Int) < c1
          · by_cases hhi : c1 < (high : Int)
            · obtain ⟨n, hn⟩ : ∃ n : Nat, c1 = (n : Int) := ⟨c1.toNat, by omega⟩
              subst hn
              have HN : Hid (n < 256) := hide (by have := HH.out; omega)
              have t1 : decide (low < n) = true := decide_eq_true (by omega)
              have t2 : decide (n < high) = true := decide_eq_true (by omega)
              have HLO := hide hlo
              have HHI := hide hhi
              have g1 : low < n := by omega
              have g2 : n < high := by omega
              clear hlo hhi
              cases hp : p n with
              | false =>
                have HP := hide hp
                clear hp
                go_wp2_with (first
                  | (go_at_call 56
                     (with_reducible refine (hasSet HS.out HN.out).mono ?_)
                     rintro e w1 ⟨rfl, hB1⟩
                     rw [HP.out]
                     have HB1 := hide (HB.out.trans (hB1.mono HB.out.size))
                     have H01 := hide ((hB1.block _ (block_lt H0.out)).trans H0.out)
                     clear hB1)
                  | fail)
                go_ret2
                rw [← HR.out, nearF_some (nearAt_first (HM.out ▸ E1.out) ⟨by have := HLO.out; omega, by have := HHI.out; omega, by simpa using HP.out⟩ rfl)]
                exact ⟨rfl, HB1.out⟩
              | true =>
                have HP := hide hp
                clear hp
                go_wp2_with (first
                  | (go_at_call 56
                     (with_reducible refine (hasSet HS.out HN.out).mono ?_)
                     rintro e w1 ⟨rfl, hB1⟩
                     rw [HP.out]
                     have HB1 := hide (HB.out.trans (hB1.mono HB.out.size))
                     have H01 := hide ((hB1.block _ (block_lt H0.out)).trans H0.out)
                     clear hB1)
                  | fail)
                exact ⟨⟨1, by omega, rfl, hide ⟨fun _ => (fun q => by have := q.2.2; rw [show Int.toNat (n : Int) = n from rfl, HP.out] at this; cases this), fun h => by omega⟩, HB1.out, H01.out⟩, by simp [intOf]⟩
            · have g1 : (low : Int) < c1 := hlo
              have t1 : decide ((low : Int) < c1) = true := decide_eq_true hlo
              have t2 : decide (c1 < (high : Int)) = false := decide_eq_false hhi
              have HHI := hide hhi
              clear hhi
              go_wp2_with fail
              exact ⟨⟨1, by omega, rfl, hide ⟨fun _ => (fun q => HHI.out q.2.1), fun h => by omega⟩, HB.out, H0.out⟩, by simp [intOf]⟩
          · have t1 : decide ((low : Int) < c1) = false := decide_eq_false hlo
            have HLO := hide hlo
            clear hlo
            go_wp2_with fail
            exact ⟨⟨1, by omega, rfl, hide ⟨fun _ => (fun q => HLO.out q.1), fun h => by omega⟩, HB.out, H0.out⟩, by simp [intOf]⟩
        · by_cases hlo : (low : Int) < c2
          · by_cases hhi : c2 < (high : Int)
            · obtain ⟨n, hn⟩ : ∃ n : Nat, c2 = (n : Int) := ⟨c2.toNat, by omega⟩
              subst hn
              have HN : Hid (n < 256) := hide (by have := HH.out; omega)
              have t1 : decide (low < n) = true := decide_eq_true (by omega)
              have t2 : decide (n < high) = true := decide_eq_true (by omega)
              have HLO := hide hlo
              have HHI := hide hhi
              have g1 : low < n := by omega
              have g2 : n < high := by omega
              clear hlo hhi
              cases hp : p n with
              | false =>
                have HP := hide hp
                clear hp
                go_wp2_with (first
                  | (go_at_call 56
                     (with_reducible refine (hasSet HS.out HN.out).mono ?_)
                     rintro e w1 ⟨rfl, hB1⟩
                     rw [HP.out]
                     have HB1 := hide (HB.out.trans (hB1.mono HB.out.size))
                     have H01 := hide ((hB1.block _ (block_lt H0.out)).trans H0.out)
                     clear hB1)
                  | fail)
                go_ret2
                rw [← HR.out, nearF_some (nearAt_second (HM.out ▸ E1.out) (HM.out ▸ E2.out) (HF.out.1 (by omega)) ⟨by have := HLO.out; omega, by have := HHI.out; omega, by simpa using HP.out⟩ rfl)]
                exact ⟨rfl, HB1.out⟩
              | true =>
                have HP := hide hp
                clear hp
                go_wp2_with (first
                  | (go_at_call 56
                     (with_reducible refine (hasSet HS.out HN.out).mono ?_)
                     rintro e w1 ⟨rfl, hB1⟩
                     rw [HP.out]
                     have HB1 := hide (HB.out.trans (hB1.mono HB.out.size))
                     have H01 := hide ((hB1.block _ (block_lt H0.out)).trans H0.out)
                     clear hB1)
                  | fail)
                exact ⟨⟨2, by omega, rfl, hide ⟨fun _ => HF.out.1 (by omega), fun _ => (fun q => by have := q.2.2; rw [show Int.toNat (n : Int) = n from rfl, HP.out] at this; cases this)⟩, HB1.out, H01.out⟩, by simp [intOf]⟩
            · have g1 : (low : Int) < c2 := hlo
              have t1 : decide ((low : Int) < c2) = true := decide_eq_true hlo
              have t2 : decide (c2 < (high : Int)) = false := decide_eq_false hhi
              have HHI := hide hhi
              clear hhi
              go_wp2_with fail
              exact ⟨⟨2, by omega, rfl, hide ⟨fun _ => HF.out.1 (by omega), fun _ => (fun q => HHI.out q.2.1)⟩, HB.out, H0.out⟩, by simp [intOf]⟩
          · have t1 : decide ((low : Int) < c2) = false := decide_eq_false hlo
            have HLO := hide hlo
            clear hlo
            go_wp2_with fail
            exact ⟨⟨2, by omega, rfl, hide ⟨fun _ => HF.out.1 (by omega), fun _ => (fun q => HLO.out q.1)⟩, HB.out, H0.out⟩, by simp [intOf]⟩
        · go_wp2_with fail
          refine ⟨⟨k + 1, by omega, by go_num, hide ?_, HB.out, H0.out⟩, by simp [intOf]; omega⟩
          rw [HJ.out, ← HR.out, nearF_none (nearAt_none (HM.out ▸ E1.out) (HM.out ▸ E2.out) (HF.out.1 (by omega)) (HF.out.2 (by omega)))]
    · obtain rfl : k = t := by omega
      rw [Nat.sub_self] at hr
      have HR := hide hr.out
      clear hr
      go_wp2_with fail
      go_ret2
      rw [← HR.out]
      exact ⟨rfl, HB.out⟩
end Go.Proofs.Ytdpgcoicbagflaa.Bi
