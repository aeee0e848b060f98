import Derived.Test.YtmkapmbmgpnjaaaDmB
set_option maxRecDepth 100000
set_option linter.unusedSimpArgs false
set_option linter.unusedVariables false
namespace Go.Proofs.Ytmkapmbmgpnjaaa.Se
open Go Go.Ms Go.Pg Go.Rc Go.Bi Go.Se Go.ChangeShapes Go.WideShapes Go.ChangeAt Go.RowKit Go.Deep Go.Proofs.Ytmkapmbmgpnjaaa.Bi

/-! The closures of changes that need nothing. -/
theorem setNil {w : World} : Calls Try.prog 77 #[.slice none 0 0] w fun e w' => e = .returned (setV 0 0 0 0) ∧ Below w.heap.size w w' := by
  have := setOfQ (nats_nil w) (by simp)
  rw [zero_among] at this
  exact this
theorem setOneQ {w w' : World} {g n : Nat} (hg : w.heap.size = g) (hn : n < 256) (hw : w' = w.alloc (.cells #[.int .i64 (n : Int)] 3)) : Calls Try.prog 77 #[.slice (some ⟨g, 0, none⟩) 1 1] w' fun e w' => e = .returned (setQ (ofP (among [n]))) ∧ Below w.heap.size w w' := by
  subst hg hw
  have hb : Below w.heap.size w (w.alloc (.cells #[.int .i64 (n : Int)] 3)) := (Below.refl _ w).alloc (Nat.le_refl _) _
  refine (setOfQ (xs := [n]) (nats_one (cell_of (new_block w _) 0)) (fun m hm => by simp at hm; omega)).mono ?_
  rintro e w' ⟨rfl, h⟩
  exact ⟨rfl, hb.trans (h.mono hb.size)⟩
theorem withZero {w : World} {q : Q4} (hq : q.Ok) : Calls Try.prog 81 #[setV 0 0 0 0, setQ q] w fun e w' => e = .returned (setQ q) ∧ Below w.heap.size w w' := by
  have := withSet (w := w) (sp_mem zero_ok) (sp_mem hq)
  simpa [zeroQ] using this
theorem withSelf {w : World} {q : Q4} (hq : q.Ok) : Calls Try.prog 81 #[setQ q, setQ q] w fun e w' => e = .returned (setQ q) ∧ Below w.heap.size w w' := by
  have := withSet (w := w) (sp_mem hq) (sp_mem hq)
  simpa using this
theorem wrap_k {k : Nat} (h : k < 1000) : IntKind.i64.wrap ((k : Int) + 1) = (k : Int) + 1 := by
  simp [IntKind.wrap, IntKind.signed, IntKind.bits]
  omega

set_option maxHeartbeats 16000000 in
theorem closuresN {w : World} {v : Value} {n : Nat} (h : NilRow w v n) (hn : n ≤ 256) :
    Calls Try.prog 71 #[v] w fun e w' => ∃ g, e = .returned (.slice (some ⟨g, 0, none⟩) n n) ∧ w.heap.size ≤ g ∧ Below w.heap.size w w' ∧ w'.heap[g]? = some (rowQ (singles n)) := by
  have HR := hide h
  obtain ⟨oa, cap, rfl, hc⟩ := h
  have HC := hide hc
  have HN := hide hn
  have hmk := make95 n (by omega)
  clear hc hn
  go_enter Try.func71, Try.ntmps71
  go_wp2_with fail
  go_loopw [13] (fun i wr => ∃ k : Nat, k ≤ n ∧ i = .int .i64 (k : Int) ∧ Below w.heap.size w wr ∧ wr.heap[w.heap.size]? = some (rowQ (partQ n k))) (fun i _ => n - (intOf i).toNat)
  case atStart => exact ⟨0, Nat.zero_le _, rfl, (Below.refl _ w).alloc (Nat.le_refl _) _, by rw [partQ_zero]; exact new_block w _⟩
  case round =>
    obtain ⟨k, hk, rfl, hB, hb0⟩ := hrel
    have HB := hide hB
    have H0 := hide hb0
    clear hB hb0
    by_cases hlt : k < n
    · have hi : (k : Int) < (n : Int) := by omega
      obtain ⟨b, o, rfl, f0⟩ := HC.out k hlt
      have f := cell_old HB.out f0
      clear f0
      have hw := wrap_k (k := k) (by have := HN.out; omega)
      have HPL := hide (partQ_length (n := n) (k := k) (by omega))
      have HPS := hide (partQ_set hlt)
      have hbl : w.heap.size < wr.heap.size := block_lt H0.out
      have HK6 : Hid (k < 256) := hide (by have := HN.out; omega)
      obtain ⟨q, hq⟩ : ∃ q, q = ofP (among [k]) := ⟨_, rfl⟩
      have HQK : Hid (q.Ok) := hide (by rw [hq]; exact ofP_ok _)
      have HQ := hide hq
      rw [← hq] at HPS
      clear hq
      go_wp2_with (first
        | (go_at_call 77
           (with_reducible refine (setNil).mono ?_)
           rintro e w1 ⟨rfl, hB1⟩
           have HB1 := hide hB1
           clear hB1)
        | (go_at_call 77
           (refine (setOneQ rfl HK6.out rfl).mono ?_)
           rintro e w2 ⟨rfl, hB2⟩
           have HB2 := hide (HB1.out.trans (hB2.mono HB1.out.size))
           clear hB2
           rw [← HQ.out])
        | (go_at_call 81
           (with_reducible refine (withZero HQK.out).mono ?_)
           rintro e w3 ⟨rfl, hB3⟩
           have HB3 := hide (HB2.out.trans (hB3.mono HB2.out.size))
           have H03 := hide ((HB3.out.block _ hbl).trans H0.out)
           have hkl : k < (partQ n k).length := by rw [HPL.out]; exact hlt
           obtain ⟨q0, q1, q2, q3⟩ := row_get H03.out hkl rfl
           have r0 := Bi.frozen_of H03.out (k * 4)
           have r1 := Bi.frozen_of H03.out (k * 4 + 1)
           have r2 := Bi.frozen_of H03.out (k * 4 + 2)
           have r3 := Bi.frozen_of H03.out (k * 4 + 3)
           clear hB3)
        | fail)
      refine ⟨⟨k + 1, by omega, by go_num, putR_below (o := k * 4) (q := q) (HB.out.trans (HB3.out.mono HB.out.size)) (B := w.heap.size) (Nat.le_refl _), ?_⟩, by simp [intOf]; omega⟩
      have := putR_row (q := q) H03.out hkl
      rw [HPS.out] at this
      exact this
    · obtain rfl : k = n := by omega
      rw [partQ_all] at H0
      obtain ⟨A, hA⟩ : ∃ A, A = singles k := ⟨_, rfl⟩
      have HA := hide hA
      have HAL : Hid (A.length = k) := hide (by rw [hA]; exact singles_length k)
      rw [← hA] at H0
      clear hA
      go_wp2_with fail
      go_loopw [30] (fun i wr => ∃ t : Nat, t ≤ k ∧ i = .int .i64 (t : Int) ∧ Below w.heap.size w wr ∧ wr.heap[w.heap.size]? = some (rowQ A)) (fun i _ => k - (intOf i).toNat)
      case atStart => exact ⟨0, Nat.zero_le _, rfl, HB.out, H0.out⟩
      case round =>
        clear HB H0
        obtain ⟨t, ht, rfl, hB, hb0⟩ := hrel
        have HB := hide hB
        have H0 := hide hb0
        clear hB hb0
        by_cases hlt : t < k
        · have hi : (t : Int) < (k : Int) := by omega
          have hw := wrap_k (k := t) (by have := HN.out; omega)
          go_wp2_with fail
          go_loopw [35] (fun i wr => ∃ j : Nat, j ≤ k ∧ i = .int .i64 (j : Int) ∧ Below w.heap.size w wr ∧ wr.heap[w.heap.size]? = some (rowQ A)) (fun i _ => k - (intOf i).toNat)
          case atStart => exact ⟨0, Nat.zero_le _, rfl, HB.out, H0.out⟩
          case round =>
            clear HB H0
            obtain ⟨j, hj, rfl, hB, hb0⟩ := hrel
            have HB := hide hB
            have H0 := hide hb0
            clear hB hb0
            by_cases hjl : j < k
            · have hi2 : (j : Int) < (k : Int) := by omega
              have hw2 := wrap_k (k := j) (by have := HN.out; omega)
              have hjA : j < A.length := by rw [HAL.out]; exact hjl
              have hbl : w.heap.size < wr.heap.size := block_lt H0.out
              obtain ⟨x, ex⟩ : ∃ x, A.getD j zeroQ = x := ⟨_, rfl⟩
              have EX := hide ex
              have HXO : Hid (x.Ok) := hide (by rw [← ex, HA.out, singles_get hjl]; exact ofP_ok _)
              have HMT : Hid (memQ x t = decide (t = j)) := hide (by rw [← ex, HA.out]; exact singles_mem hjl (by have := HN.out; omega))
              have HT6 : Hid (t < 256) := hide (by have := HN.out; omega)
              obtain ⟨q0, q1, q2, q3⟩ := row_get H0.out hjA ex
              by_cases hb : t = j
              · rw [decide_eq_true hb] at HMT
                subst hb
                have HU : Hid (A.set t x = A) := hide (by rw [← ex, HA.out, singles_get hjl]; exact singles_set hjl)
                clear ex
                go_wp2_with (first
                  | (go_at_call 73
                     (with_reducible refine (hasSet (sp_mem HXO.out) HT6.out).mono ?_)
                     rintro e w1 ⟨he, hB1⟩
                     rw [HMT.out] at he
                     subst he
                     have HB1 := hide (HB.out.trans (hB1.mono HB.out.size))
                     have H01 := hide ((hB1.block _ hbl).trans H0.out)
                     have hbl1 := block_lt H01.out
                     clear q0 q1 q2 q3 hB1
                     obtain ⟨q0, q1, q2, q3⟩ := row_get H01.out hjA EX.out)
                  | fail)
                go_region_with (first
                  | (go_at_call 81
                     (with_reducible refine (withSelf HXO.out).mono ?_)
                     rintro e w2 ⟨rfl, hB2⟩
                     have HB2 := hide (HB1.out.trans (((belowN w1.heap.size w1 1).trans hB2).mono HB1.out.size))
                     have H02 := hide ((hB2.block _ hbl1).trans H01.out)
                     have r0 := Bi.frozen_of H02.out (t * 4)
                     have r1 := Bi.frozen_of H02.out (t * 4 + 1)
                     have r2 := Bi.frozen_of H02.out (t * 4 + 2)
                     have r3 := Bi.frozen_of H02.out (t * 4 + 3)
                     clear q0 q1 q2 q3
                     obtain ⟨q0, q1, q2, q3⟩ := row_get H02.out hjA EX.out
                     clear hB2)
                  | fail)
                all_goals
                  go_wp2_with fail
                  have hp := putR_row (q := x) H02.out hjA
                  rw [HU.out] at hp
                  exact ⟨⟨t + 1, by omega, by go_num, putR_below (o := t * 4) (q := x) HB2.out (B := w.heap.size) (Nat.le_refl _), hp⟩, by simp [intOf]; omega⟩
              · rw [decide_eq_false hb] at HMT
                clear ex hb
                go_wp2_with (first
                  | (go_at_call 73
                     (with_reducible refine (hasSet (sp_mem HXO.out) HT6.out).mono ?_)
                     rintro e w1 ⟨he, hB1⟩
                     rw [HMT.out] at he
                     subst he
                     have HB1 := hide (HB.out.trans (hB1.mono HB.out.size))
                     have H01 := hide ((hB1.block _ hbl).trans H0.out)
                     clear hB1)
                  | fail)
                exact ⟨⟨j + 1, by omega, by go_num, HB1.out, H01.out⟩, by simp [intOf]; omega⟩
            · obtain rfl : j = k := by omega
              go_wp2_with fail
              exact ⟨⟨t + 1, by omega, by go_num, HB.out, H0.out⟩, by simp [intOf]; omega⟩
        · obtain rfl : t = k := by omega
          go_wp2_with fail
          go_ret
          rw [HA.out] at H0
          exact ⟨_, rfl, Nat.le_refl _, HB.out, H0.out⟩
end Go.Proofs.Ytmkapmbmgpnjaaa.Se
