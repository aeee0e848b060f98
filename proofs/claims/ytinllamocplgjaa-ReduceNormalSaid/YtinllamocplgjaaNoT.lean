import Derived.Test.YtinllamocplgjaaNoR
set_option maxRecDepth 100000
namespace Go.Proofs.Ytinllamocplgjaa.No
open Go Go.Ms Go.Pg Go.Rc Go.No Go.ChangeShapes Go.WideShapes Go.ChangeAt Go.RowKit Go.Deep Go.Shelf Go.Proofs.Ytinllamocplgjaa.Rc

theorem zero_again {w w1 : World} {l : List Pick} {e : Ending} (h : Normal w (norm l) e w1) (h0 : err 65536 l = 0) :
    ∃ oa cap, e = .returned (.tuple #[.slice oa (norm l).length cap, .int .i64 0]) ∧ Below w.heap.size w w1 ∧ OwnP w.heap.size w1 (.slice oa (norm l).length cap) (norm l) := by
  have := zero_normal h (norm_err h0)
  rwa [norm_norm] at this
theorem stepsV_norm (l : List Pick) : stepsV (norm l) = stepsV l := by simp [stepsV, steps_norm]
theorem stepsV_moved {l : List Pick} {a n : Nat} (h : a < n) (hn : n < (norm l).length) : stepsV (norm (moved (norm l) a n)) = stepsV l := by simp [stepsV, steps_norm, moved_steps h hn]
theorem says_true {m : List Pick} {w w' : World} {e : Ending} (h : SaysP m m w e w') : e = .returned (.bool true) ∧ ∃ n, w' = w.drewN n := by
  obtain ⟨r, rfl, hr, hn⟩ := h
  rw [hr.2 rfl]
  exact ⟨rfl, hn⟩

theorem rest_bound {l rest tail : List Pick} {k : Nat} (h : l.drop k = rest ++ tail) (h0 : err 65536 l = 0) : 0 ≤ No.sum rest ∧ No.sum rest ≤ 65536 ∧ ∀ q ∈ rest, 1 ≤ q.2 ∧ q.2 ≤ 65536 := by
  have hp : ∀ q ∈ l, 1 ≤ q.2 ∧ q.2 ≤ 65536 := fun q hq => by
    have := err_elem h0 q hq
    simp only [Bad] at this
    omega
  have hm : ∀ q ∈ rest ++ tail, q ∈ l := fun q hq => List.mem_of_mem_drop (by rw [h]; exact hq)
  have e1 : No.sum l = No.sum (l.take k) + (No.sum rest + No.sum tail) := by
    have : l = l.take k ++ (rest ++ tail) := by rw [← h, List.take_append_drop]
    conv => lhs; rw [this]
    simp only [No.sum, List.map_append, List.sum_append]
  have s1 := sum_nonneg (l := l.take k) fun q hq => (hp q (List.mem_of_mem_take hq)).1
  have s2 := sum_nonneg (l := rest) fun q hq => (hp q (hm q (List.mem_append_left _ hq))).1
  have s3 := sum_nonneg (l := tail) fun q hq => (hp q (hm q (List.mem_append_right _ hq))).1
  have s4 := sum_bound l 65536 (by omega) h0
  exact ⟨s2, by omega, fun q hq => hp q (hm q (List.mem_append_left _ hq))⟩
theorem rest_head {l r tail : List Pick} {q : Pick} {k : Nat} (h : l.drop k = q :: r ++ tail) : ∃ hk : k < l.length, l[k] = q ∧ l.drop (k + 1) = r ++ tail := by
  have hk : k < l.length := by
    rcases Nat.lt_or_ge k l.length with hk | hk
    · exact hk
    · rw [List.drop_of_length_le hk] at h
      cases h
  rw [List.drop_eq_getElem_cons hk] at h
  injection h with h1 h2
  exact ⟨hk, h1, h2⟩
theorem apart_at {l : List Pick} {i j : Nat} (e : j = i + 1) (hj : j < (norm l).length) (hi : i < (norm l).length) : ((norm l)[i].1 == (norm l)[j].1) = false := by
  subst e
  have := apart_norm l i _ _ (List.getElem?_eq_getElem hi) (List.getElem?_eq_getElem hj)
  simpa using this
theorem cells_of {w : World} {oa : Option Addr} {n cap : Nat} {l : List Pick} (h : Picks w (.slice oa n cap) l) : ∀ i (h : i < l.length), ∃ b o, oa = some ⟨b, o, none⟩ ∧ PairAt .i64 .i64 w b (o + i * 2) l[i] := by
  obtain ⟨oa', cap', e, _, h⟩ := h
  cases e
  exact h

theorem row_of_slice {w : World} {v : Value} {oa : Option Addr} {n cap : Nat} {l : List Int} (h : RowAt 1 (NumAt .i64) w v l) (e : v = .slice oa n cap) : ∀ i (h : i < l.length), ∃ b o, oa = some ⟨b, o, none⟩ ∧ NumAt .i64 w b (o + i * 1) l[i] := by
  subst e
  obtain ⟨oa', cap', e, _, h⟩ := h
  cases e
  exact h
theorem joinNone {w : World} {v : Value} {l : List Pick} {z : Int} (h : Picks w v l) (hl : l.length ≤ 100000) (h0 : err 65536 l = 0) (hp : pres (norm l) = []) :
    Calls Try.prog 16 #[v, .int .i64 z] w fun e w' => (∃ v', e = .returned (.tuple #[v', .int .i64 7])) ∧ Below w.heap.size w w' := by
  by_cases hz : 0 ≤ z ∧ z < (norm l).length
  · obtain ⟨a, rfl⟩ : ∃ a : Nat, z = a := ⟨z.toNat, by omega⟩
    have ha : a < (norm l).length := by omega
    refine joinGone h hl h0 ha ?_
    cases hg : gone (norm l) a with
    | true => rfl
    | false =>
      unfold pres at hp
      simp only [List.map_eq_nil_iff, List.filter_eq_nil_iff] at hp
      have := hp a (List.mem_range.2 ha)
      rw [hg] at this
      exact absurd rfl this
  · exact joinOut h hl h0 hz
theorem pres_length (m : List Pick) : (pres m).length ≤ m.length := by
  unfold pres
  rw [List.length_map]
  have := List.length_filter_le (fun x => !gone m x) (List.range m.length)
  simpa using this
theorem pres_get {m : List Pick} {i : Nat} (h : i < (pres m).length) : ∃ a n : Nat, (pres m)[i] = (a : Int) ∧ a < m.length ∧ later m a = n ∧ a < n ∧ ∃ hn : n < m.length, ∃ ha : a < m.length, m[a].1 = m[n].1 := by
  have hm : (pres m)[i] ∈ pres m := List.getElem_mem h
  unfold pres at hm
  obtain ⟨a, ha, e⟩ := List.mem_map.1 hm
  have h2 := List.mem_filter.1 ha
  have h3 : a < m.length := List.mem_range.1 h2.1
  obtain ⟨n, h4, h5, h6, h7⟩ := next_of h3 (by simpa using h2.2)
  exact ⟨a, n, e.symm, h3, h4, h5, h6, h3, h7.symm⟩
theorem rem_index (z : Int) (n : Nat) (h0 : 0 < n) (hn : n ≤ 30) : ∃ ix : Nat, ix < n ∧ IntKind.i64.wrap (z.tmod (n : Int)) = z.tmod (n : Int) ∧ IntKind.i64.wrap (z.tmod (n : Int) + (n : Int)) = z.tmod (n : Int) + (n : Int) ∧ (z.tmod (n : Int) + (n : Int)).tmod (n : Int) = (ix : Int) := by
  have hp : (0 : Int) < (n : Int) := by omega
  have h1 : z.tmod (n : Int) < n := Int.tmod_lt_of_pos z hp
  have h2 : -(n : Int) < z.tmod (n : Int) := by
    have := Int.lt_tmod_of_pos z hp
    omega
  have h3 : 0 ≤ (z.tmod (n : Int) + (n : Int)).tmod (n : Int) := Int.tmod_nonneg _ (by omega)
  have h4 : (z.tmod (n : Int) + (n : Int)).tmod (n : Int) < n := Int.tmod_lt_of_pos _ hp
  refine ⟨((z.tmod (n : Int) + (n : Int)).tmod (n : Int)).toNat, by omega, wrap_in (by omega) (by omega), wrap_in (by omega) (by omega), by omega⟩
theorem blk_end {m l : List Pick} {bs : List (List Pick)} {k : Nat} (h : Blk m bs) (hk : k ≤ l.length) (hd : l.drop k = (bs.drop m.length).flatten) : k = l.length := by
  have e : bs.drop m.length = [] := List.drop_of_length_le (by rw [blk_length h]; exact Nat.le_refl _)
  rw [e] at hd
  have := congrArg List.length hd
  simp at this
  omega

set_option maxHeartbeats 16000000 in
theorem lawGood {ρ : Ren} (L : SlLaysH.n10 Try.prog ρ) (h31 : ρ.f 10 = 31) (h3 : ρ.t 23 = 3) {w : World} {v : Value} {l : List Pick} {z : Int} (h : Picks w v l) (hl : l.length ≤ 30) (h0 : err 65536 l = 0) (hA : Runs) :
    Calls Try.prog 4 #[v, .int .i64 z] w fun e w' => e = .returned (.bool true) ∧ Below w.heap.size w w' := by
  have HW := hide h
  have HA := hide hA
  have HZ := hide h0
  have HL : Hid (l.length ≤ 100000) := hide (by omega)
  have HZ2 := hide (norm_err h0)
  have HL2 : Hid ((norm l).length ≤ 100000) := hide (Nat.le_trans (norm_length l) HL.out)
  obtain ⟨oa0, ca0, rfl, _, _⟩ := h
  have h1 : (l.length : Int) ≤ 30 := by omega
  have hneq := fun w => neqV l w
  have heql := fun w => eqV l w
  have hn30 : (norm l).length ≤ 30 := Nat.le_trans (norm_length l) hl
  obtain ⟨bs, hbk, hfl⟩ := blk_norm l
  have HBK := hide hbk
  have HFL := hide hfl
  clear hA h0 hbk hfl
  go_enter Try.func4, Try.ntmps4
  go_wp2_with (first
    | (go_at_call 11
       (with_reducible refine (normalRef HW.out HL.out).mono ?_)
       rintro e w1 hN
       obtain ⟨oa1, cap1, rfl, hB1, _⟩ := zero_normal hN HZ.out
       have HB1 := hide hB1
       clear hN hB1)
    | (go_at_call 12
       (with_reducible refine (normalProg (picks_below HW.out HB1.out) HL.out).mono ?_)
       rintro e w2 hN
       obtain ⟨oa2, cap2, rfl, hB2, hO2⟩ := zero_normal hN HZ.out
       have HB2 := hide (HB1.out.trans (hB2.mono HB1.out.size))
       have HO2 := hide hO2
       have HP2 := hide (norm_row hO2 HZ.out HL.out)
       clear hN hB2 hO2)
    | (go_at_call 12
       (with_reducible refine (normalProg HP2.out HL2.out).mono ?_)
       rintro e w3 hN
       obtain ⟨oa3, cap3, rfl, hB3, hO3⟩ := zero_again hN HZ.out
       have HB3 := hide (HB2.out.trans (hB3.mono HB2.out.size))
       have HP3 := hide (norm_row hO3 HZ.out HL.out)
       have HQ3 := hide (picks_below HP2.out hB3)
       have HC3 := hide hB3
       clear hN hB3 hO3)
    | (go_at_call 13
       (with_reducible refine (samePicks HQ3.out HP3.out).mono ?_)
       rintro e _ hS
       obtain ⟨rfl, n4, rfl⟩ := says_true hS
       clear hS)
    | (go_at_call 14
       (with_reducible refine (stepsProg (picks_drewN HQ3.out _) HL2.out HZ2.out).mono ?_)
       rintro e w5 ⟨rfl, hB5⟩
       rw [stepsV_norm]
       have HB5 := hide (HB3.out.trans (((belowN _ _ _).trans hB5).mono HB3.out.size))
       have HC5 := hide ((belowN _ _ _).trans hB5)
       clear hB5)
    | (go_at_call 14
       (with_reducible refine (stepsProg (picks_below HW.out HB5.out) HL.out HZ.out).mono ?_)
       rintro e w6 ⟨rfl, hB6⟩
       have HB6 := hide (HB5.out.trans (hB6.mono HB5.out.size))
       have HP6 := hide (picks_below HQ3.out (HC5.out.trans (hB6.mono HC5.out.size)))
       have HW6 := hide (picks_below HW.out HB6.out)
       clear hB6)
    | fail)
  have HCm := hide (cells_of HP6.out)
  have HCl := hide (cells_of HW6.out)
  go_loopw [13, 15] (fun k i wr => ∃ kn j : Nat, kn ≤ l.length ∧ j ≤ (norm l).length ∧ k = .int .i64 (kn : Int) ∧ i = .int .i64 (j : Int) ∧ l.drop kn = (bs.drop j).flatten ∧ ∃ n, wr = w6.drewN n) (fun _ i _ => (norm l).length - (intOf i).toNat)
  case atStart => exact ⟨0, 0, Nat.zero_le _, Nat.zero_le _, rfl, rfl, HFL.out.symm, 0, rfl⟩
  case round =>
    obtain ⟨kn, j, hk, hj, rfl, rfl, hd, nd, rfl⟩ := hrel
    have HD := hide hd
    clear hd
    by_cases hlt : j < (norm l).length
    · have hj1 : (j : Int) < ((norm l).length : Int) := by omega
      obtain ⟨b1, o1, rfl, c1, c2⟩ := pick_cell HCm.out hlt
      obtain ⟨b, hb1, hb2, hb3⟩ := blk_get HBK.out j hlt
      have HB1' := hide hb1
      have HB2' := hide hb2
      have HB3' := hide hb3
      clear hb1 hb2 hb3
      rcases Nat.eq_zero_or_pos j with h00 | h00
      · have g1 : decide ((0 : Int) < (j : Int)) = false := decide_eq_false (by omega)
        have g2 : decide (0 < j) = false := decide_eq_false (by omega)
        have g3 : ¬ 0 < j := by omega
        have HI := hide h00
        clear h00
        go_wp2_with fail
        go_big_quiet (fail)
        go_wp2_with fail
        go_loopw [13, 14] (fun k lf wr => ∃ (kn : Nat) (x : Int) (rest : List Pick), kn ≤ l.length ∧ k = .int .i64 (kn : Int) ∧ lf = .int .i64 x ∧ x = No.sum rest ∧ l.drop kn = rest ++ (bs.drop (j + 1)).flatten ∧ (∀ q ∈ rest, q.1 = (norm l)[j].1) ∧ ∃ n, wr = w6.drewN n) (fun k _ _ => l.length - (intOf k).toNat)
        case atStart => exact ⟨kn, _, b, hk, rfl, rfl, HB3'.out.symm, by rw [HD.out, HB1'.out, List.flatten_cons], HB2'.out, _, rfl⟩
        case round =>
          obtain ⟨kx, x, rest, hkx, rfl, rfl, hx, hdx, htx, nx, rfl⟩ := hrel
          have HX := hide hx
          have HDX := hide hdx
          have HTX := hide htx
          clear hx hdx htx
          rcases rest with _ | ⟨q, r⟩
          · obtain rfl : x = 0 := by
              have := HX.out
              simpa [No.sum] using this
            go_wp2_with fail
            go_big_quiet (fail)
            go_wp2_with fail
            refine ⟨⟨kx, j + 1, hkx, by omega, rfl, by go_num, ?_, _, rfl⟩, by simp [intOf]; omega⟩
            simpa using HDX.out
          · obtain ⟨hkl, hq, hdn⟩ := rest_head HDX.out
            obtain ⟨b4, o4, e4, f1, f2⟩ := pick_cell HCl.out hkl
            subst e4
            have hrb := rest_bound HDX.out HZ.out
            have hqb := hrb.2.2 q (List.mem_cons_self ..)
            have hxs : x = q.2 + No.sum r := by
              have := HX.out
              simpa [No.sum] using this
            have hr0 : 0 ≤ No.sum r := sum_nonneg fun y hy => (hrb.2.2 y (List.mem_cons_of_mem _ hy)).1
            have hx0 := HX.out
            have hxb : x ≤ 65536 := by omega
            rw [hq] at f1 f2
            have d1 : decide ((kx : Int) < (l.length : Int)) = true := decide_eq_true (by omega)
            have d2 : decide (kx < l.length) = true := decide_eq_true hkl
            have d3 : decide ((0 : Int) < x) = true := decide_eq_true (by omega)
            have d4 : (0 : Int) < x := by omega
            have d5 : (kx : Int) < (l.length : Int) := by omega
            have t2 : (q.1 == (norm l)[j].1) = true := by
              have := HTX.out q (List.mem_cons_self ..)
              simpa using this
            have s1 : IntKind.i64.wrap (x - q.2) = x - q.2 := wrap_in (by omega) (by omega)
            have HR1 : Hid (x - q.2 = No.sum r) := hide (by omega)
            have HR2 := hide hdn
            clear hq hdn hrb hqb hxs hr0 hx0 hxb
            go_wp2_with fail
            go_big_quiet (fail)
            go_wp2_with fail
            refine ⟨⟨kx + 1, _, r, by omega, by go_num, rfl, HR1.out, HR2.out, fun y hy => HTX.out y (List.mem_cons_of_mem _ hy), _, rfl⟩, by simp [intOf]; omega⟩
      · obtain ⟨i, hi⟩ : ∃ i, j = i + 1 := ⟨j - 1, by omega⟩
        have hi1 : (i : Int) < ((norm l).length : Int) := by omega
        have hi2 : i < (norm l).length := by omega
        obtain ⟨b2, o2, e, c3, c4⟩ := pick_cell HCm.out hi2
        cases e
        have g1 : decide ((0 : Int) < (j : Int)) = true := decide_eq_true (by omega)
        have g2 : decide (0 < j) = true := decide_eq_true (by omega)
        have g3 : 0 < j := h00
        have k1 : IntKind.i64.wrap ((j : Int) - 1) = (i : Int) := by rw [wrap_in (by omega) (by omega)]; omega
        have t1 := apart_at hi hlt hi2
        have HI := hide hi
        clear hi h00 c4
        go_wp2_with fail
        go_big_quiet (fail)
        go_wp2_with fail
        go_loopw [13, 14] (fun k lf wr => ∃ (kn : Nat) (x : Int) (rest : List Pick), kn ≤ l.length ∧ k = .int .i64 (kn : Int) ∧ lf = .int .i64 x ∧ x = No.sum rest ∧ l.drop kn = rest ++ (bs.drop (j + 1)).flatten ∧ (∀ q ∈ rest, q.1 = (norm l)[j].1) ∧ ∃ n, wr = w6.drewN n) (fun k _ _ => l.length - (intOf k).toNat)
        case atStart => exact ⟨kn, _, b, hk, rfl, rfl, HB3'.out.symm, by rw [HD.out, HB1'.out, List.flatten_cons], HB2'.out, _, rfl⟩
        case round =>
          obtain ⟨kx, x, rest, hkx, rfl, rfl, hx, hdx, htx, nx, rfl⟩ := hrel
          have HX := hide hx
          have HDX := hide hdx
          have HTX := hide htx
          clear hx hdx htx
          rcases rest with _ | ⟨q, r⟩
          · obtain rfl : x = 0 := by
              have := HX.out
              simpa [No.sum] using this
            go_wp2_with fail
            go_big_quiet (fail)
            go_wp2_with fail
            refine ⟨⟨kx, j + 1, hkx, by omega, rfl, by go_num, ?_, _, rfl⟩, by simp [intOf]; omega⟩
            simpa using HDX.out
          · obtain ⟨hkl, hq, hdn⟩ := rest_head HDX.out
            obtain ⟨b4, o4, e4, f1, f2⟩ := pick_cell HCl.out hkl
            subst e4
            have hrb := rest_bound HDX.out HZ.out
            have hqb := hrb.2.2 q (List.mem_cons_self ..)
            have hxs : x = q.2 + No.sum r := by
              have := HX.out
              simpa [No.sum] using this
            have hr0 : 0 ≤ No.sum r := sum_nonneg fun y hy => (hrb.2.2 y (List.mem_cons_of_mem _ hy)).1
            have hx0 := HX.out
            have hxb : x ≤ 65536 := by omega
            rw [hq] at f1 f2
            have d1 : decide ((kx : Int) < (l.length : Int)) = true := decide_eq_true (by omega)
            have d2 : decide (kx < l.length) = true := decide_eq_true hkl
            have d3 : decide ((0 : Int) < x) = true := decide_eq_true (by omega)
            have d4 : (0 : Int) < x := by omega
            have d5 : (kx : Int) < (l.length : Int) := by omega
            have t2 : (q.1 == (norm l)[j].1) = true := by
              have := HTX.out q (List.mem_cons_self ..)
              simpa using this
            have s1 : IntKind.i64.wrap (x - q.2) = x - q.2 := wrap_in (by omega) (by omega)
            have HR1 : Hid (x - q.2 = No.sum r) := hide (by omega)
            have HR2 := hide hdn
            clear hq hdn hrb hqb hxs hr0 hx0 hxb
            go_wp2_with fail
            go_big_quiet (fail)
            go_wp2_with fail
            refine ⟨⟨kx + 1, _, r, by omega, by go_num, rfl, HR1.out, HR2.out, fun y hy => HTX.out y (List.mem_cons_of_mem _ hy), _, rfl⟩, by simp [intOf]; omega⟩
    · obtain rfl : j = (norm l).length := by omega
      obtain rfl : kn = l.length := blk_end HBK.out hk HD.out
      clear HD HBK HFL HCm HCl
      by_cases hp : pres (norm l) = []
      · have HP := hide hp
        clear hp
        go_wp2_with (first
          | (go_at_call 15
             (with_reducible refine (preemptionsProg L h31 h3 (picks_drewN HW6.out _) HL.out HZ.out).mono ?_)
             rintro e w7 ⟨v7, rfl, hB7, hR7⟩
             obtain ⟨oa7, cap7, e7⟩ := hR7.slice
             rw [HP.out] at e7
             subst e7
             have HB7 := hide (HB6.out.trans (((belowN _ _ _).trans hB7).mono HB6.out.size))
             have HW7 := hide (picks_below HW.out HB7.out)
             clear hB7 hR7)
          | (go_at_call 16
             (with_reducible refine (joinNone HW7.out HL.out HZ.out HP.out).mono ?_)
             rintro e w8 ⟨⟨v8, rfl⟩, hB8⟩
             have HB8 := hide (HB7.out.trans (hB8.mono HB7.out.size))
             clear hB8)
          | (go_at_call 10
             (with_reducible refine (runsAt HA.out _).mono ?_)
             rintro e w9 ⟨rfl, hB⟩
             have HB9 := hide (HB8.out.trans (hB.mono HB8.out.size))
             clear hB)
          | fail)
        go_ret
        exact ⟨rfl, HB9.out⟩
      · have hp0 : 0 < (pres (norm l)).length := List.length_pos_iff.2 hp
        have hpl : (pres (norm l)).length ≤ 30 := Nat.le_trans (pres_length _) hn30
        obtain ⟨ix, hix, e1, e2, e3⟩ := rem_index z _ hp0 hpl
        obtain ⟨a, n, hpa, ha, hlt', han, hnn, ha2, hth⟩ := pres_get hix
        have HPA := hide hpa
        have HIX := hide hix
        have HJ : Hid (a < (norm l).length ∧ later (norm l) a = n ∧ a < n ∧ n < (norm l).length) := hide ⟨ha, hlt', han, hnn⟩
        have HM : Hid (err 65536 (norm (moved (norm l) a n)) = 0 ∧ (norm (moved (norm l) a n)).length ≤ 100000) := hide (by
          have hlm := moved_less han hnn hth
          exact ⟨norm_err (moved_err han hnn HZ2.out), by omega⟩)
        have HSV := hide (stepsV_moved han hnn)
        have hless := moved_less han hnn hth
        have d1 : decide (((norm (moved (norm l) a n)).length : Int) < ((norm l).length : Int)) = true := decide_eq_true (by omega)
        have d2 : decide ((norm (moved (norm l) a n)).length < (norm l).length) = true := decide_eq_true hless
        have d3 : ((norm (moved (norm l) a n)).length : Int) < ((norm l).length : Int) := by omega
        have d4 : ¬ ((pres (norm l)).length : Int) = 0 := by omega
        have d5 : (((pres (norm l)).length : Int) == 0) = false := by simpa using d4
        have d6 : (ix : Int) < ((pres (norm l)).length : Int) := by omega
        have d7 : ¬ (pres (norm l)).length = 0 := by omega
        clear hp hpa ha hlt' han hnn hth hless ha2
        generalize hG : norm (moved (norm l) a n) = g at *
        go_wp2_with (first
          | (go_at_call 15
             (with_reducible refine (preemptionsProg L h31 h3 (picks_drewN HW6.out _) HL.out HZ.out).mono ?_)
             rintro e w7 ⟨v7, rfl, hB7, hR7⟩
             obtain ⟨oa7, cap7, e7⟩ := hR7.slice
             have hcell := int_cell (row_of_slice hR7 e7) HIX.out
             subst e7
             have HB7 := hide (HB6.out.trans (((belowN _ _ _).trans hB7).mono HB6.out.size))
             have HW7 := hide (picks_below HW.out HB7.out)
             obtain ⟨bx, ox, rfl, fx⟩ := hcell
             rw [HPA.out] at fx
             clear hB7 hR7)
          | (go_at_call 16
             (with_reducible refine (joinSome HW7.out HL.out HZ.out HJ.out.1 HJ.out.2.1 HJ.out.2.2.1 HJ.out.2.2.2).mono ?_)
             rw [hG]
             rintro e w8 ⟨oa8, cap8, rfl, hB8, hO8⟩
             have HB8 := hide (HB7.out.trans (hB8.mono HB7.out.size))
             have HP8 := hide (own_picks hO8 HM.out.1 HM.out.2)
             clear hB8 hO8)
          | (go_at_call 14
             (with_reducible refine (stepsProg HP8.out HM.out.2 HM.out.1).mono ?_)
             rintro e w9 ⟨rfl, hB9⟩
             rw [HSV.out]
             have HB9 := hide (HB8.out.trans (hB9.mono HB8.out.size))
             have HW9 := hide (picks_below HW.out HB9.out)
             clear hB9)
          | (go_at_call 14
             (with_reducible refine (stepsProg HW9.out HL.out HZ.out).mono ?_)
             rintro e w10 ⟨rfl, hB10⟩
             have HB10 := hide (HB9.out.trans (hB10.mono HB9.out.size))
             clear hB10)
          | (go_at_call 10
             (with_reducible refine (runsAt HA.out _).mono ?_)
             rintro e w11 ⟨rfl, hB⟩
             have HB11 := hide (HB10.out.trans (hB.mono HB10.out.size))
             clear hB)
          | fail)
        go_ret
        exact ⟨rfl, HB11.out⟩
end Go.Proofs.Ytinllamocplgjaa.No
