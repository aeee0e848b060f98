import Derived.Test.YtinllamocplgjaaClD
set_option maxRecDepth 100000
namespace Go.Proofs.Ytinllamocplgjaa.Cl
open Go Go.Ms Go.Pg Go.Rc Go.Cl Go.ChangeShapes Go.WideShapes Go.ChangeAt Go.RowKit Go.Deep Go.Proofs.Ytinllamocplgjaa.Rc

structure Sets (need : Nat → Nat → Prop) (N : Nat) (w : World) (v : Value) (A : List Nat) (g : Nat) : Prop where
  eq : v = .slice (some ⟨g, 0, none⟩) A.length A.length
  clos : Clos need N A
  thru : Thru N N A
  small : N ≤ 20
  row : w.heap[g]? = some (rowA A)
theorem Sets.below {need : Nat → Nat → Prop} {N g : Nat} {w w' : World} {v : Value} {A : List Nat} (h : Sets need N w v A g) (hB : Below w.heap.size w w') : Sets need N w' v A g :=
  ⟨h.eq, h.clos, h.thru, h.small, (hB.block _ (block_lt h.row)).trans h.row⟩
theorem Sets.lt {need : Nat → Nat → Prop} {N g : Nat} {w : World} {v : Value} {A : List Nat} (h : Sets need N w v A g) (n : Nat) : A.getD n 0 < 2 ^ 20 := good_lt h.clos h.small n
theorem row_at {w : World} {g i x : Nat} {A : List Nat} (ex : A.getD i 0 = x) (h : w.heap[g]? = some (rowA A)) (hi : i < A.length) :
    w.cell? ⟨g, i * 4, none⟩ = some (.int .u64 (x : Int)) ∧ w.cell? ⟨g, i * 4 + 1, none⟩ = some (.int .u64 0) ∧ w.cell? ⟨g, i * 4 + 2, none⟩ = some (.int .u64 0) ∧ w.cell? ⟨g, i * 4 + 3, none⟩ = some (.int .u64 0) := by
  have := row_get h hi
  rwa [getD_get hi, ex] at this
theorem uni_lt {need : Nat → Nat → Prop} {N g : Nat} {w : World} {v : Value} {A : List Nat} (h : Sets need N w v A g) (xs : List Nat) : uni A xs < 2 ^ 20 :=
  Nat.lt_of_lt_of_le (lt_of_bits (N := N) fun b hb => by
    obtain ⟨n, _, h2⟩ := (testBit_uni A b xs).1 hb
    exact h.clos.low n b h2) (Nat.pow_le_pow_right (by decide) h.small)
theorem uni_take {A xs : List Nat} {k : Nat} (h : k < xs.length) : uni A (xs.take (k + 1)) = uni A (xs.take k) ||| A.getD xs[k] 0 := by rw [List.take_succ_eq_append_getElem h, uni_snoc]

set_option maxHeartbeats 16000000 in
theorem closureProg {need : Nat → Nat → Prop} {N g : Nat} {w : World} {v u : Value} {A xs : List Nat} (h : Sets need N w v A g) (hu : Ints w u (ints xs)) (hx : ∀ n ∈ xs, n < N) :
    Calls Try.prog 37 #[v, u] w fun e w' => e = .returned (setV (uni A xs)) ∧ Below w.heap.size w w' := by
  have HS := hide h
  obtain ⟨oa, cap, rfl, hl, hc⟩ := cells_at hu
  have HC := hide hc
  have HX := hide hx
  have hlen : (ints xs).length = xs.length := by simp [ints]
  have e := h.eq
  subst e
  rw [hlen] at hl ⊢
  clear h hu hc hx hlen
  go_enter Try.func37, Try.ntmps37
  go_wp2_with fail
  go_loopw [10] (fun i wr => ∃ k : Nat, k ≤ xs.length ∧ i = .int .i64 (k : Int) ∧ Below w.heap.size w wr ∧ wr.heap[w.heap.size]? = some (boxS 0) ∧ wr.heap[w.heap.size + 1]? = some (boxS (uni A (xs.take k)))) (fun i _ => xs.length - (intOf i).toNat)
  case atStart => exact ⟨0, Nat.zero_le _, rfl, ((Below.refl _ w).alloc (Nat.le_refl _) _).alloc (by simp) _, old_block (new_block w _) _, alloc_at (by simp)⟩
  case round =>
    obtain ⟨k, hk, rfl, hB, hb0, hb1⟩ := hrel
    have HB := hide hB
    have H0 := hide hb0
    have H1 := hide hb1
    clear hB hb0 hb1
    by_cases hlt : k < xs.length
    · have hi : (k : Int) < (xs.length : Int) := by omega
      obtain ⟨b, o, rfl, f0⟩ := nat_cell HC.out hlt
      have f := cell_below HB.out f0
      clear f0
      have hw := wrap_up hlt hl
      have HN := hide (HX.out xs[k] (List.getElem_mem hlt))
      have HT := hide (uni_take (A := A) hlt)
      have HU := hide (uni_lt HS.out (xs.take k))
      generalize xs[k] = n at *
      have hnA : n < A.length := by rw [HS.out.clos.len]; exact HN.out
      have hn64 : (n : Int) < (A.length : Int) := by omega
      obtain ⟨y, ey⟩ : ∃ y, A.getD n 0 = y := ⟨_, rfl⟩
      have HY : Hid (y < 2 ^ 20) := hide (by rw [← ey]; exact HS.out.lt n)
      have HW := hide (HS.out.below HB.out)
      obtain ⟨p0, p1, p2, p3⟩ := row_at ey HW.out.row hnA
      rw [ey] at HT
      clear ey
      generalize uni A (xs.take k) = z at *
      obtain ⟨q0, q1, q2, q3⟩ := box_cells H1.out
      have hb1 := block_lt H1.out
      have hb0 := block_lt H0.out
      go_wp2_with fail
      go_region_with (first
        | (go_at_call 52
           (with_reducible refine (withSet HU.out HY.out).mono ?_)
           rintro e w2 ⟨rfl, hB2⟩
           have HB2 := hide (HB.out.trans (((belowN wr.heap.size wr 1).trans hB2).mono HB.out.size))
           have H12 := hide ((hB2.block _ hb1).trans H1.out)
           have H02 := hide ((hB2.block _ hb0).trans H0.out)
           have r0 := box_frozen H12.out 0
           have r1 := box_frozen H12.out 1
           have r2 := box_frozen H12.out 2
           have r3 := box_frozen H12.out 3
           clear q0 q1 q2 q3 p0 p1 p2 p3
           obtain ⟨q0, q1, q2, q3⟩ := box_cells H12.out
           clear hB2)
        | fail)
      all_goals
        go_wp2_with fail
        refine ⟨⟨k + 1, by omega, by go_num, putS_below (o := 0) (z := z ||| y) HB2.out (B := w.heap.size + 1) (by omega), (putS_other (o := 0) (z := z ||| y) (by omega)).trans H02.out, ?_⟩, by simp [intOf]; omega⟩
        rw [HT.out]
        exact putS_block (z := z ||| y) H12.out
    · obtain rfl : k = xs.length := by omega
      rw [List.take_length] at H1
      obtain ⟨q1, q2, q3, q4⟩ := box_cells H1.out
      obtain ⟨r1, r2, r3, r4⟩ := box_cells H0.out
      have s1 := box_frozen H0.out 0
      have s2 := box_frozen H0.out 1
      have s3 := box_frozen H0.out 2
      have s4 := box_frozen H0.out 3
      go_wp2_with fail
      refine final8 (X := putS wr w.heap.size 0 (uni A xs)) rfl ?_
      have HP := hide (putS_block (z := uni A xs) H0.out)
      have HQ := hide (putS_below (o := 0) (z := uni A xs) HB.out (B := w.heap.size) (Nat.le_refl _))
      generalize putS wr w.heap.size 0 (uni A xs) = X at *
      obtain ⟨x0, x1, x2, x3⟩ := box_cells HP.out
      refine bodyPost_ret (v := setV (uni A xs)) (by simp [results, Try.results37, go_sem, x0, x1, x2, x3]) rfl ?_
      exact ⟨rfl, HQ.out⟩

theorem setOneA {w : World} {g n : Nat} (hg : w.heap.size = g) (hn : n < 20) : Calls Try.prog 39 #[.slice (some ⟨g, 0, none⟩) 1 1] (w.alloc (.cells #[.int .i64 (n : Int)] 3)).drew fun e w' => e = .returned (setV (maskOf [n])) ∧ Below w.heap.size w w' := by
  subst hg
  have hb : Below w.heap.size w (w.alloc (.cells #[.int .i64 (n : Int)] 3)).drew := Below.drew ((Below.refl _ w).alloc (Nat.le_refl _) _)
  refine (setOfProg (xs := [n]) ⟨some ⟨w.heap.size, 0, none⟩, 1, rfl, by simp, fun i hi => ?_⟩ (fun m hm => by simp at hm; omega)).mono ?_
  · simp at hi
    subst hi
    refine ⟨_, _, rfl, ?_, ?_⟩
    · exact cell_of (new_block w _) 0
    · simp [Lit.wf, IntKind.min, IntKind.max, IntKind.signed, IntKind.bits]
      omega
  · rintro e w' ⟨rfl, h⟩
    exact ⟨rfl, hb.trans (h.mono hb.size)⟩
theorem stay_take {A xs : List Nat} {i k : Nat} (h : k < xs.length) : stay A i (xs.take (k + 1)) = if (A.getD xs[k] 0).testBit i = true then stay A i (xs.take k) else stay A i (xs.take k) ||| 2 ^ xs[k] := by rw [List.take_succ_eq_append_getElem h, stay_snoc]
theorem stay_lt {A xs : List Nat} {i : Nat} (h : ∀ n ∈ xs, n < 20) : stay A i xs < 2 ^ 20 := mask_lt fun n hn => h n (List.mem_filter.1 hn).1

set_option maxHeartbeats 16000000 in
theorem notNeedingProg {need : Nat → Nat → Prop} {N g : Nat} {w : World} {v u : Value} {A xs : List Nat} {c : Nat} (h : Sets need N w v A g) (hu : Ints w u (ints xs)) (hx : ∀ n ∈ xs, n < N) (hcN : c < 256) :
    Calls Try.prog 41 #[v, u, .int .i64 c] w fun e w' => e = .returned (setV (stay A c xs)) ∧ Below w.heap.size w w' := by
  have HS := hide h
  obtain ⟨oa, cap, rfl, hl, hc⟩ := cells_at hu
  have HC := hide hc
  have HX := hide hx
  have HX2 : Hid (∀ n ∈ xs, n < 20) := hide fun n hn => Nat.lt_of_lt_of_le (hx n hn) h.small
  have hlen : (ints xs).length = xs.length := by simp [ints]
  have e := h.eq
  subst e
  rw [hlen] at hl ⊢
  clear h hu hc hx hlen
  go_enter Try.func41, Try.ntmps41
  go_wp2_with fail
  go_loopw [12] (fun i wr => ∃ k : Nat, k ≤ xs.length ∧ i = .int .i64 (k : Int) ∧ Below w.heap.size w wr ∧ wr.heap[w.heap.size]? = some (boxS 0) ∧ wr.heap[w.heap.size + 1]? = some (boxS (stay A c (xs.take k)))) (fun i _ => xs.length - (intOf i).toNat)
  case atStart => exact ⟨0, Nat.zero_le _, rfl, ((Below.refl _ w).alloc (Nat.le_refl _) _).alloc (by simp) _, old_block (new_block w _) _, alloc_at (by simp)⟩
  case round =>
    obtain ⟨k, hk, rfl, hB, hb0, hb1⟩ := hrel
    have HB := hide hB
    have H0 := hide hb0
    have H1 := hide hb1
    clear hB hb0 hb1
    by_cases hlt : k < xs.length
    · have hi : (k : Int) < (xs.length : Int) := by omega
      obtain ⟨b, o, rfl, f0⟩ := nat_cell HC.out hlt
      have f := cell_below HB.out f0
      clear f0
      have hw := wrap_up hlt hl
      have HN := hide (HX.out xs[k] (List.getElem_mem hlt))
      have HN2 := hide (HX2.out xs[k] (List.getElem_mem hlt))
      have HT := hide (stay_take (A := A) (i := c) hlt)
      have HU := hide (stay_lt (A := A) (i := c) (xs := xs.take k) fun n hn => HX2.out n (List.mem_of_mem_take hn))
      generalize xs[k] = n at *
      have hnA : n < A.length := by rw [HS.out.clos.len]; exact HN.out
      have hn64 : (n : Int) < (A.length : Int) := by omega
      obtain ⟨y, ey⟩ : ∃ y, A.getD n 0 = y := ⟨_, rfl⟩
      have HY : Hid (y < 2 ^ 20) := hide (by rw [← ey]; exact HS.out.lt n)
      have HW := hide (HS.out.below HB.out)
      obtain ⟨p0, p1, p2, p3⟩ := row_at ey HW.out.row hnA
      rw [ey] at HT
      clear ey
      generalize stay A c (xs.take k) = z at *
      have hb1 := block_lt H1.out
      have hb0 := block_lt H0.out
      cases hb : y.testBit c with
      | true =>
        rw [hb, if_pos rfl] at HT
        have HBT := hide hb
        clear hb
        go_wp2_with (first
          | (go_at_call 59
             (with_reducible refine (hasSet HY.out hcN).mono ?_)
             rintro e w1 ⟨he, hB1⟩
             rw [HBT.out] at he
             subst he
             have HB1 := hide (HB.out.trans (hB1.mono HB.out.size))
             have H11 := hide ((hB1.block _ hb1).trans H1.out)
             have H01 := hide ((hB1.block _ hb0).trans H0.out)
             clear hB1)
          | fail)
        exact ⟨⟨k + 1, by omega, by go_num, HB1.out, H01.out, by rw [HT.out]; exact H11.out⟩, by simp [intOf]; omega⟩
      | false =>
        rw [hb] at HT
        simp only [Bool.false_eq_true, if_false] at HT
        have HBT := hide hb
        have HMN : Hid (maskOf [n] = 2 ^ n) := hide (by simp [maskOf])
        have HML : Hid (maskOf [n] < 2 ^ 20) := hide (mask_lt fun m hm => by simp at hm; rw [hm]; exact HN2.out)
        clear hb
        go_wp2_with (first
          | (go_at_call 59
             (with_reducible refine (hasSet HY.out hcN).mono ?_)
             rintro e w1 ⟨he, hB1⟩
             rw [HBT.out] at he
             subst he
             have HB1 := hide (HB.out.trans (hB1.mono HB.out.size))
             have H11 := hide ((hB1.block _ hb1).trans H1.out)
             have H01 := hide ((hB1.block _ hb0).trans H0.out)
             have hb11 := block_lt H11.out
             have hb01 := block_lt H01.out
             obtain ⟨q0, q1, q2, q3⟩ := box_cells H11.out
             clear hB1 p0 p1 p2 p3)
          | fail)
        go_region_with (first
          | (go_at_call 39
             (with_reducible refine (setOneA rfl HN2.out).mono ?_)
             rintro e w2 ⟨rfl, hB2⟩
             have HB2 := hide (HB1.out.trans (hB2.mono HB1.out.size))
             have H12 := hide ((hB2.block _ hb11).trans H11.out)
             have H02 := hide ((hB2.block _ hb01).trans H01.out)
             have hb12 := block_lt H12.out
             have hb02 := block_lt H02.out
             clear hB2 q0 q1 q2 q3
             obtain ⟨q0, q1, q2, q3⟩ := box_cells H12.out)
          | (go_at_call 52
             (with_reducible refine (withSet HU.out HML.out).mono ?_)
             rintro e w3 ⟨rfl, hB3⟩
             have HB3 := hide (HB2.out.trans (hB3.mono HB2.out.size))
             have H13 := hide ((hB3.block _ hb12).trans H12.out)
             have H03 := hide ((hB3.block _ hb02).trans H02.out)
             have r0 := box_frozen H13.out 0
             have r1 := box_frozen H13.out 1
             have r2 := box_frozen H13.out 2
             have r3 := box_frozen H13.out 3
             clear q0 q1 q2 q3
             obtain ⟨q0, q1, q2, q3⟩ := box_cells H13.out
             clear hB3)
          | fail)
        all_goals
          go_wp2_with fail
          refine ⟨⟨k + 1, by omega, by go_num, putS_below (o := 0) (z := z ||| maskOf [n]) HB3.out (B := w.heap.size + 1) (by omega), (putS_other (o := 0) (z := z ||| maskOf [n]) (by omega)).trans H03.out, ?_⟩, by simp [intOf]; omega⟩
          rw [HT.out, ← HMN.out]
          exact putS_block (z := z ||| maskOf [n]) H13.out
    · obtain rfl : k = xs.length := by omega
      rw [List.take_length] at H1
      obtain ⟨q1, q2, q3, q4⟩ := box_cells H1.out
      obtain ⟨r1, r2, r3, r4⟩ := box_cells H0.out
      have s1 := box_frozen H0.out 0
      have s2 := box_frozen H0.out 1
      have s3 := box_frozen H0.out 2
      have s4 := box_frozen H0.out 3
      go_wp2_with fail
      refine final8 (X := putS wr w.heap.size 0 (stay A c xs)) rfl ?_
      have HP := hide (putS_block (z := stay A c xs) H0.out)
      have HQ := hide (putS_below (o := 0) (z := stay A c xs) HB.out (B := w.heap.size) (Nat.le_refl _))
      generalize putS wr w.heap.size 0 (stay A c xs) = X at *
      obtain ⟨x0, x1, x2, x3⟩ := box_cells HP.out
      refine bodyPost_ret (v := setV (stay A c xs)) (by simp [results, Try.results41, go_sem, x0, x1, x2, x3]) rfl ?_
      exact ⟨rfl, HQ.out⟩
end Go.Proofs.Ytinllamocplgjaa.Cl
