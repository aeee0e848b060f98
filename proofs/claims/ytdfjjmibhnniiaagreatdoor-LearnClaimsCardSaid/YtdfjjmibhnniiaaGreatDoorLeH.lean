import Derived.Test.YtdfjjmibhnniiaaGreatDoorLeE
set_option maxRecDepth 100000
namespace Go.Proofs.YtdfjjmibhnniiaaGreatDoor.Le
open Go Go.Ms Go.Pg Go.Le Go.ChangeShapes Go.WideShapes Go.ChangeAt Go.RowKit Go.Deep

theorem numbers_at {w : World} {x : Inv} {s : Value} (hs : IntsW w s x.set) : Calls Tryz.prog 33 #[.agg #[.int .u8 x.k, .int .i64 x.a, .int .i64 x.b, .int .i64 x.K, .int .i64 x.M, s]] w fun e w' => e = .returned (.int .i64 (numErr x)) ∧ Below w.heap.size w w' := numbersRef hs
theorem bare_at {w : World} {x : Inv} {s : Value} (hk : 1 ≤ x.k ∧ x.k ≤ 11) (hs : IntsW w s x.set) : Calls Tryz.prog 34 #[.agg #[.int .u8 x.k, .int .i64 x.a, .int .i64 x.b, .int .i64 x.K, .int .i64 x.M, s]] w fun e w' => ∃ t, e = .returned (vInv (bare x) t) ∧ IntsW w' t (bare x).set ∧ Below w.heap.size w w' := bareRef hk hs
theorem same_at {w : World} {x y : Inv} {s t : Value} (hs : IntsW w s x.set) (ht : IntsW w t y.set) : Calls Tryz.prog 20 #[.agg #[.int .u8 x.k, .int .i64 x.a, .int .i64 x.b, .int .i64 x.K, .int .i64 x.M, s], vInv y t] w (TellsB (x = y) w) := same hs ht
theorem intsW_drew {w : World} {v : Value} {l : List Int} (h : IntsW w v l) : IntsW w.drew v l := h
def BoxL (w : World) (g : Nat) (x : Inv) (os : Option Addr) (cs : Nat) : Prop := BoxI w g x (.slice os x.set.length cs) ∧ IntsW w (.slice os x.set.length cs) x.set
theorem BoxL.below {w w' : World} {g : Nat} {x : Inv} {os : Option Addr} {cs : Nat} (h : BoxL w g x os cs) (hB : Below w.heap.size w w') : BoxL w' g x os cs := ⟨h.1.below hB, intsW_below h.2 hB⟩
theorem below_up {w0 w w' : World} (h : Below w0.heap.size w0 w) (k : Below w.heap.size w w') : Below w0.heap.size w0 w' := h.trans (k.mono h.size)

open Classical in
theorem err_low {x : Inv} {n : Int} (h : n < 1) : err x n = 1 := by unfold err; rw [if_pos h]
open Classical in
theorem err_high {x : Inv} {n : Int} (h : 8 < n) : err x n = 3 := by unfold err; rw [if_neg (by omega), if_pos h]
open Classical in
theorem err_kind {x : Inv} {n : Int} (h1 : 1 ≤ n) (h8 : n ≤ 8) (h : ¬ (1 ≤ x.k ∧ x.k ≤ 11)) : err x n = 1 := by unfold err; rw [if_neg (by omega), if_neg (by omega), if_pos h]
open Classical in
theorem err_vars {x : Inv} {n : Int} (h1 : 1 ≤ n) (h8 : n ≤ 8) (hk : 1 ≤ x.k ∧ x.k ≤ 11) (h : ¬ VarsOK x n) : err x n = 1 := by
  unfold err; rw [if_neg (by omega), if_neg (by omega), if_neg (not_not_intro hk), if_pos h]
open Classical in
theorem err_nums {x : Inv} {n : Int} (h1 : 1 ≤ n) (h8 : n ≤ 8) (hk : 1 ≤ x.k ∧ x.k ≤ 11) (h : VarsOK x n) (hn : numErr x ≠ 0) : err x n = numErr x := by
  unfold err
  rw [if_neg (by omega), if_neg (by omega), if_neg (not_not_intro hk), if_neg (not_not_intro h)]
  unfold numErr at *
  by_cases c1 : PlainOK x
  · by_cases c2 : NumsOK x
    · simp [c1, c2] at hn
    · simp [c1, c2]
  · simp [c1]
open Classical in
theorem err_same {x : Inv} {n : Int} (h1 : 1 ≤ n) (h8 : n ≤ 8) (hk : 1 ≤ x.k ∧ x.k ≤ 11) (h : VarsOK x n) (hn : numErr x = 0) : (x = bare x → err x n = 0) ∧ (¬ x = bare x → err x n = 1) := by
  unfold err
  rw [if_neg (by omega), if_neg (by omega), if_neg (not_not_intro hk), if_neg (not_not_intro h)]
  unfold numErr at *
  by_cases c1 : PlainOK x
  · by_cases c2 : NumsOK x
    · rw [if_neg (not_not_intro c1), if_neg (not_not_intro c2)]
      exact ⟨fun q => if_neg (not_not_intro q), fun q => if_pos q⟩
    · simp [c1, c2] at hn
  · simp [c1] at hn

set_option maxHeartbeats 4000000 in
theorem checkRef {w : World} {x : Inv} {s : Value} {n : Int} (hs : IntsW w s x.set) : Calls Tryz.prog 11 #[vInv x s, .int .i64 n] w fun e w' => e = .returned (.int .i64 (err x n)) ∧ Below w.heap.size w w' := by
  have hs0 := hs
  obtain ⟨os, cs, rfl, hls, _⟩ := hs
  obtain ⟨b1, b3⟩ := one_box w x (.slice os x.set.length cs) 31
  unfold vInv
  unfold cInv at *
  go_enter Tryz.func11, Tryz.ntmps11
  go_upto_region 1 with (fail)
  generalize w.alloc (.cells #[.int .u8 x.k, .int .i64 x.a, .int .i64 x.b, .int .i64 x.K, .int .i64 x.M, .slice os x.set.length cs] 31) = w0 at *
  have hL : BoxL w0 w.heap.size x os cs := ⟨b1, intsW_below hs0 b3⟩
  have L := hide hL
  have HB := hide b3
  clear b3 hs0 hL
  obtain ⟨p0, p1, p2, p3, p4, p5⟩ := b1
  by_cases n1 : n < 1
  · have E := hide (err_low (x := x) n1)
    go_wp2_with fail
    go_ret
    exact ⟨by rw [E.out]; rfl, HB.out⟩
  by_cases n8 : 8 < n
  · have E := hide (err_high (x := x) n8)
    go_wp2_with fail
    go_ret
    exact ⟨by rw [E.out]; rfl, HB.out⟩
  have bad : Hid (¬ (1 ≤ x.k ∧ x.k ≤ 11) → err x n = 1) := hide fun q => err_kind (by omega) (by omega) q
  by_cases k1 : x.k < 1
  · go_wp2_with fail
    go_ret
    exact ⟨by rw [bad.out (by omega)]; rfl, HB.out⟩
  by_cases k11 : 11 < x.k
  · go_wp2_with fail
    go_ret
    exact ⟨by rw [bad.out (by omega)]; rfl, HB.out⟩
  clear bad
  have KK : Hid (1 ≤ x.k ∧ x.k ≤ 11) := hide (by omega)
  have bad : Hid (¬ VarsOK x n → err x n = 1) := hide fun q => err_vars (by omega) (by omega) KK.out q
  have num : Hid (VarsOK x n → numErr x ≠ 0 → err x n = numErr x) := hide fun q c => err_nums (by omega) (by omega) KK.out q c
  have sam : Hid (VarsOK x n → numErr x = 0 → (x = bare x → err x n = 0) ∧ (¬ x = bare x → err x n = 1)) := hide fun q c => err_same (by omega) (by omega) KK.out q c
  by_cases a0 : x.a < 0
  · go_wp2_with fail
    go_ret
    exact ⟨by rw [bad.out fun q => by have := q.1; omega]; rfl, HB.out⟩
  by_cases an : n ≤ x.a
  · go_wp2_with fail
    go_ret
    exact ⟨by rw [bad.out fun q => by have := q.2.1; omega]; rfl, HB.out⟩
  by_cases t7 : 7 ≤ x.k
  · have T7 := hide t7
    clear t7
    by_cases b0 : x.b < 0
    · go_wp2_with (first
        | (go_at_call 32
           (with_reducible refine (two KK.out.2).mono ?_)
           intro e w2 h2
           obtain ⟨rfl, n2, rfl⟩ := tells_yes h2 T7.out
           clear h2)
        | fail)
      go_ret
      exact ⟨by rw [bad.out fun q => by have := (q.2.2.1 T7.out).1; omega]; rfl, HB.out.trans (belowN _ _ _)⟩
    by_cases bn : n ≤ x.b
    · go_wp2_with (first
        | (go_at_call 32
           (with_reducible refine (two KK.out.2).mono ?_)
           intro e w2 h2
           obtain ⟨rfl, n2, rfl⟩ := tells_yes h2 T7.out
           clear h2)
        | fail)
      go_ret
      exact ⟨by rw [bad.out fun q => by have := (q.2.2.1 T7.out).2; omega]; rfl, HB.out.trans (belowN _ _ _)⟩
    by_cases ab : x.a = x.b
    · have eab : (x.a == x.b) = true := by simp [ab]
      have AB := hide ab
      clear ab
      go_wp2_with (first
        | (go_at_call 32
           (with_reducible refine (two KK.out.2).mono ?_)
           intro e w2 h2
           obtain ⟨rfl, n2, rfl⟩ := tells_yes h2 T7.out
           clear h2)
        | fail)
      go_ret
      exact ⟨by rw [bad.out fun q => by have h1 := q.2.2.2.1; have h2 := q.2.2.2.2; have h3 := T7.out; have h4 := AB.out; omega]; rfl, HB.out.trans (belowN _ _ _)⟩
    have eab : (x.a == x.b) = false := by simp [ab]
    have AB := hide ab
    clear ab
    by_cases k7 : x.k = 7
    · have e7 : (x.k == 7) = true := by simp [k7]
      have e8 : (x.k == 8) = false := by simp [k7]
      have K := hide k7
      clear k7
      by_cases g : x.b < x.a
      · go_wp2_with (first
          | (go_at_call 32
             (with_reducible refine (two KK.out.2).mono ?_)
             intro e w2 h2
             obtain ⟨rfl, n2, rfl⟩ := tells_yes h2 T7.out
             clear h2)
          | fail)
        go_ret
        exact ⟨by rw [bad.out fun q => by have h1 := q.2.2.2.1; have h4 := K.out; omega]; rfl, HB.out.trans (belowN _ _ _)⟩
      · have V : Hid (VarsOK x n) := hide ⟨by omega, by omega, fun _ => ⟨by omega, by omega⟩, fun _ => by have := AB.out; omega, fun q => by have := K.out; omega⟩
        skip
        go_upto_region 13 with (first
          | (go_at_call 32
             (with_reducible refine (two KK.out.2).mono ?_)
             intro e w2 h2
             obtain ⟨rfl, n2, rfl⟩ := tells_yes h2 T7.out
             clear h2)
          | fail)
        have L2 := hide (L.out.below (belowN _ w0 n2))
        have I2 : Hid (IntsW (w0.drewN n2) (.slice os x.set.length cs) x.set) := hide L2.out.2
        by_cases hz : numErr x = 0
        · go_wp2_with (first
            | (go_at_call 33
               (with_reducible refine (numbers_at I2.out).mono ?_)
               rintro e w3 ⟨rfl, hB3⟩
               have L3 := hide (L2.out.below hB3)
               have B3 := hide (below_up (HB.out.trans (belowN _ w0 n2)) hB3)
               clear hB3
               obtain ⟨y0, y1, y2, y3, y4, y5⟩ := L3.out.1
               rw [hz])
            | fail)
          have I3 : Hid (IntsW w3 (.slice os x.set.length cs) x.set) := hide L3.out.2
          have S := hide (sam.out V.out hz)
          clear hz p0 p1 p2 p3 p4 p5 a0 an
          go_region_with (first
            | (go_at_call 34
               first
                 | with_reducible refine (bare_at KK.out I3.out).mono ?_
                 | with_reducible refine (bare_at KK.out (intsW_drew I3.out)).mono ?_
               rintro e w4 ⟨t, rfl, hI, hB⟩
               have hB4 : Below w3.heap.size w3 w4 := by first | exact hB | exact ((Below.refl w3.heap.size w3).drew).trans hB
               have L4 := hide (L3.out.below hB4)
               have B4 := hide (below_up B3.out hB4)
               have I4 : Hid (IntsW w4 (.slice os x.set.length cs) x.set) := hide L4.out.2
               have J4 := hide hI
               clear hI hB hB4 y0 y1 y2 y3 y4 y5
               obtain ⟨y0, y1, y2, y3, y4, y5⟩ := L4.out.1)
            | (go_at_call 20
               first
                 | with_reducible refine (same_at I4.out J4.out).mono ?_
                 | with_reducible refine (same_at (intsW_drew I4.out) (intsW_drew J4.out)).mono ?_
               rintro e w5 ⟨r, rfl, hr, hB⟩
               have B5 : Hid (Below w.heap.size w w5) := hide (by first | exact below_up B4.out hB | exact below_up B4.out.drew hB)
               have HR := hide hr
               clear hr hB)
            | fail)
          all_goals
            cases r
            · go_wp2_with fail
              go_ret
              exact ⟨by rw [S.out.2 (fun q => by simpa using HR.out.2 q)]; rfl, B5.out⟩
            · go_wp2_with fail
              go_ret
              exact ⟨by rw [S.out.1 (HR.out.1 trivial)]; rfl, B5.out⟩
        · have ez : (numErr x != 0) = true := by simpa using hz
          have NE := hide (num.out V.out hz)
          clear hz
          go_wp2_with (first
            | (go_at_call 33
               (with_reducible refine (numbers_at I2.out).mono ?_)
               rintro e w3 ⟨rfl, hB3⟩
               have B3 := hide (below_up (HB.out.trans (belowN _ w0 n2)) hB3)
               clear hB3)
            | fail)
          go_ret
          exact ⟨by rw [NE.out]; rfl, B3.out⟩
    by_cases k8 : x.k = 8
    · have e7 : (x.k == 7) = false := by simp [k8]
      have e8 : (x.k == 8) = true := by simp [k8]
      have K := hide k8
      clear k8
      by_cases g : x.b < x.a
      · go_wp2_with (first
          | (go_at_call 32
             (with_reducible refine (two KK.out.2).mono ?_)
             intro e w2 h2
             obtain ⟨rfl, n2, rfl⟩ := tells_yes h2 T7.out
             clear h2)
          | fail)
        go_ret
        exact ⟨by rw [bad.out fun q => by have h1 := q.2.2.2.1; have h4 := K.out; omega]; rfl, HB.out.trans (belowN _ _ _)⟩
      · have V : Hid (VarsOK x n) := hide ⟨by omega, by omega, fun _ => ⟨by omega, by omega⟩, fun _ => by have := AB.out; omega, fun q => by have := K.out; omega⟩
        skip
        go_upto_region 13 with (first
          | (go_at_call 32
             (with_reducible refine (two KK.out.2).mono ?_)
             intro e w2 h2
             obtain ⟨rfl, n2, rfl⟩ := tells_yes h2 T7.out
             clear h2)
          | fail)
        have L2 := hide (L.out.below (belowN _ w0 n2))
        have I2 : Hid (IntsW (w0.drewN n2) (.slice os x.set.length cs) x.set) := hide L2.out.2
        by_cases hz : numErr x = 0
        · go_wp2_with (first
            | (go_at_call 33
               (with_reducible refine (numbers_at I2.out).mono ?_)
               rintro e w3 ⟨rfl, hB3⟩
               have L3 := hide (L2.out.below hB3)
               have B3 := hide (below_up (HB.out.trans (belowN _ w0 n2)) hB3)
               clear hB3
               obtain ⟨y0, y1, y2, y3, y4, y5⟩ := L3.out.1
               rw [hz])
            | fail)
          have I3 : Hid (IntsW w3 (.slice os x.set.length cs) x.set) := hide L3.out.2
          have S := hide (sam.out V.out hz)
          clear hz p0 p1 p2 p3 p4 p5 a0 an
          go_region_with (first
            | (go_at_call 34
               first
                 | with_reducible refine (bare_at KK.out I3.out).mono ?_
                 | with_reducible refine (bare_at KK.out (intsW_drew I3.out)).mono ?_
               rintro e w4 ⟨t, rfl, hI, hB⟩
               have hB4 : Below w3.heap.size w3 w4 := by first | exact hB | exact ((Below.refl w3.heap.size w3).drew).trans hB
               have L4 := hide (L3.out.below hB4)
               have B4 := hide (below_up B3.out hB4)
               have I4 : Hid (IntsW w4 (.slice os x.set.length cs) x.set) := hide L4.out.2
               have J4 := hide hI
               clear hI hB hB4 y0 y1 y2 y3 y4 y5
               obtain ⟨y0, y1, y2, y3, y4, y5⟩ := L4.out.1)
            | (go_at_call 20
               first
                 | with_reducible refine (same_at I4.out J4.out).mono ?_
                 | with_reducible refine (same_at (intsW_drew I4.out) (intsW_drew J4.out)).mono ?_
               rintro e w5 ⟨r, rfl, hr, hB⟩
               have B5 : Hid (Below w.heap.size w w5) := hide (by first | exact below_up B4.out hB | exact below_up B4.out.drew hB)
               have HR := hide hr
               clear hr hB)
            | fail)
          all_goals
            cases r
            · go_wp2_with fail
              go_ret
              exact ⟨by rw [S.out.2 (fun q => by simpa using HR.out.2 q)]; rfl, B5.out⟩
            · go_wp2_with fail
              go_ret
              exact ⟨by rw [S.out.1 (HR.out.1 trivial)]; rfl, B5.out⟩
        · have ez : (numErr x != 0) = true := by simpa using hz
          have NE := hide (num.out V.out hz)
          clear hz
          go_wp2_with (first
            | (go_at_call 33
               (with_reducible refine (numbers_at I2.out).mono ?_)
               rintro e w3 ⟨rfl, hB3⟩
               have B3 := hide (below_up (HB.out.trans (belowN _ w0 n2)) hB3)
               clear hB3)
            | fail)
          go_ret
          exact ⟨by rw [NE.out]; rfl, B3.out⟩
    have e7 : (x.k == 7) = false := by simp [k7]
    have e8 : (x.k == 8) = false := by simp [k8]
    have V : Hid (VarsOK x n) := hide ⟨by omega, by omega, fun _ => ⟨by omega, by omega⟩, fun q => by omega, fun _ => AB.out⟩
    clear k7 k8
    go_upto_region 13 with (first
      | (go_at_call 32
         (with_reducible refine (two KK.out.2).mono ?_)
         intro e w2 h2
         obtain ⟨rfl, n2, rfl⟩ := tells_yes h2 T7.out
         clear h2)
      | fail)
    have L2 := hide (L.out.below (belowN _ w0 n2))
    have I2 : Hid (IntsW (w0.drewN n2) (.slice os x.set.length cs) x.set) := hide L2.out.2
    by_cases hz : numErr x = 0
    · go_wp2_with (first
        | (go_at_call 33
           (with_reducible refine (numbers_at I2.out).mono ?_)
           rintro e w3 ⟨rfl, hB3⟩
           have L3 := hide (L2.out.below hB3)
           have B3 := hide (below_up (HB.out.trans (belowN _ w0 n2)) hB3)
           clear hB3
           obtain ⟨y0, y1, y2, y3, y4, y5⟩ := L3.out.1
           rw [hz])
        | fail)
      have I3 : Hid (IntsW w3 (.slice os x.set.length cs) x.set) := hide L3.out.2
      have S := hide (sam.out V.out hz)
      clear hz p0 p1 p2 p3 p4 p5 a0 an
      go_region_with (first
        | (go_at_call 34
           first
             | with_reducible refine (bare_at KK.out I3.out).mono ?_
             | with_reducible refine (bare_at KK.out (intsW_drew I3.out)).mono ?_
           rintro e w4 ⟨t, rfl, hI, hB⟩
           have hB4 : Below w3.heap.size w3 w4 := by first | exact hB | exact ((Below.refl w3.heap.size w3).drew).trans hB
           have L4 := hide (L3.out.below hB4)
           have B4 := hide (below_up B3.out hB4)
           have I4 : Hid (IntsW w4 (.slice os x.set.length cs) x.set) := hide L4.out.2
           have J4 := hide hI
           clear hI hB hB4 y0 y1 y2 y3 y4 y5
           obtain ⟨y0, y1, y2, y3, y4, y5⟩ := L4.out.1)
        | (go_at_call 20
           first
             | with_reducible refine (same_at I4.out J4.out).mono ?_
             | with_reducible refine (same_at (intsW_drew I4.out) (intsW_drew J4.out)).mono ?_
           rintro e w5 ⟨r, rfl, hr, hB⟩
           have B5 : Hid (Below w.heap.size w w5) := hide (by first | exact below_up B4.out hB | exact below_up B4.out.drew hB)
           have HR := hide hr
           clear hr hB)
        | fail)
      all_goals
        cases r
        · go_wp2_with fail
          go_ret
          exact ⟨by rw [S.out.2 (fun q => by simpa using HR.out.2 q)]; rfl, B5.out⟩
        · go_wp2_with fail
          go_ret
          exact ⟨by rw [S.out.1 (HR.out.1 trivial)]; rfl, B5.out⟩
    · have ez : (numErr x != 0) = true := by simpa using hz
      have NE := hide (num.out V.out hz)
      clear hz
      go_wp2_with (first
        | (go_at_call 33
           (with_reducible refine (numbers_at I2.out).mono ?_)
           rintro e w3 ⟨rfl, hB3⟩
           have B3 := hide (below_up (HB.out.trans (belowN _ w0 n2)) hB3)
           clear hB3)
        | fail)
      go_ret
      exact ⟨by rw [NE.out]; rfl, B3.out⟩
  · have e7 : (x.k == 7) = false := by simp; omega
    have e8 : (x.k == 8) = false := by simp; omega
    have V : Hid (VarsOK x n) := hide ⟨by omega, by omega, fun q => absurd q t7, fun q => by omega, fun q => by omega⟩
    have T7 := hide t7
    clear t7
    go_upto_region 13 with (first
      | (go_at_call 32
         (with_reducible refine (two KK.out.2).mono ?_)
         intro e w2 h2
         obtain ⟨rfl, n2, rfl⟩ := tells_no h2 T7.out
         clear h2)
      | fail)
--T<
    have L2 := hide (L.out.below (belowN _ w0 n2))
    have I2 : Hid (IntsW (w0.drewN n2) (.slice os x.set.length cs) x.set) := hide L2.out.2
    by_cases hz : numErr x = 0
    · go_wp2_with (first
        | (go_at_call 33
           (with_reducible refine (numbers_at I2.out).mono ?_)
           rintro e w3 ⟨rfl, hB3⟩
           have L3 := hide (L2.out.below hB3)
           have B3 := hide (below_up (HB.out.trans (belowN _ w0 n2)) hB3)
           clear hB3
           obtain ⟨y0, y1, y2, y3, y4, y5⟩ := L3.out.1
           rw [hz])
        | fail)
      have I3 : Hid (IntsW w3 (.slice os x.set.length cs) x.set) := hide L3.out.2
      have S := hide (sam.out V.out hz)
      clear hz p0 p1 p2 p3 p4 p5 a0 an
      go_region_with (first
        | (go_at_call 34
           first
             | with_reducible refine (bare_at KK.out I3.out).mono ?_
             | with_reducible refine (bare_at KK.out (intsW_drew I3.out)).mono ?_
           rintro e w4 ⟨t, rfl, hI, hB⟩
           have hB4 : Below w3.heap.size w3 w4 := by first | exact hB | exact ((Below.refl w3.heap.size w3).drew).trans hB
           have L4 := hide (L3.out.below hB4)
           have B4 := hide (below_up B3.out hB4)
           have I4 : Hid (IntsW w4 (.slice os x.set.length cs) x.set) := hide L4.out.2
           have J4 := hide hI
           clear hI hB hB4 y0 y1 y2 y3 y4 y5
           obtain ⟨y0, y1, y2, y3, y4, y5⟩ := L4.out.1)
        | (go_at_call 20
           first
             | with_reducible refine (same_at I4.out J4.out).mono ?_
             | with_reducible refine (same_at (intsW_drew I4.out) (intsW_drew J4.out)).mono ?_
           rintro e w5 ⟨r, rfl, hr, hB⟩
           have B5 : Hid (Below w.heap.size w w5) := hide (by first | exact below_up B4.out hB | exact below_up B4.out.drew hB)
           have HR := hide hr
           clear hr hB)
        | fail)
      all_goals
        cases r
        · go_wp2_with fail
          go_ret
          exact ⟨by rw [S.out.2 (fun q => by simpa using HR.out.2 q)]; rfl, B5.out⟩
        · go_wp2_with fail
          go_ret
          exact ⟨by rw [S.out.1 (HR.out.1 trivial)]; rfl, B5.out⟩
    · have ez : (numErr x != 0) = true := by simpa using hz
      have NE := hide (num.out V.out hz)
      clear hz
      go_wp2_with (first
        | (go_at_call 33
           (with_reducible refine (numbers_at I2.out).mono ?_)
           rintro e w3 ⟨rfl, hB3⟩
           have B3 := hide (below_up (HB.out.trans (belowN _ w0 n2)) hB3)
           clear hB3)
        | fail)
      go_ret
      exact ⟨by rw [NE.out]; rfl, B3.out⟩
--T>
end Go.Proofs.YtdfjjmibhnniiaaGreatDoor.Le

set_option maxRecDepth 100000
set_option linter.unusedSimpArgs false
namespace Go.Proofs.YtdfjjmibhnniiaaGreatDoor.Le
open Go Go.Ms Go.Pg Go.Le Go.ChangeShapes Go.WideShapes Go.ChangeAt Go.RowKit Go.Deep

theorem wrap_small {z : Int} (h0 : -9223372036854775808 ≤ z) (h : z ≤ 9223372036854775807) : IntKind.i64.wrap z = z := by
  simp [IntKind.wrap, IntKind.signed, IntKind.bits]
  omega
theorem mul_plain {a b : Int} (ha : Plain a) (hb : Plain b) : -4611686014132420609 ≤ a * b ∧ a * b ≤ 4611686014132420609 := by
  have h1 : a.natAbs ≤ 2147483647 := by have := ha.1; have := ha.2; omega
  have h2 : b.natAbs ≤ 2147483647 := by have := hb.1; have := hb.2; omega
  have h3 : (a * b).natAbs ≤ 2147483647 * 2147483647 := by
    rw [Int.natAbs_mul]
    exact Nat.mul_le_mul h1 h2
  omega
theorem at_get {l : List Int} {i : Nat} (h : i < l.length) : at_ l (i : Int) = l[i] := by simp [at_, h]
theorem moduloRef {w : World} {n m : Int} (hn : Plain n) (h2 : 2 ≤ m) (hm : m ≤ 2147483647) : Calls Tryz.prog 70 #[.int .i64 n, .int .i64 m] w fun e w' => e = .returned (.int .i64 (modulo n m)) ∧ w' = w := by
  have h1 := tmod_small (n := n) (m := m) (by omega) hn
  have e1 : IntKind.i64.wrap (n.tmod m) = n.tmod m := wrap_small (by have := h1.1; omega) (by have := h1.2; omega)
  have e2 : IntKind.i64.wrap (n.tmod m + m) = n.tmod m + m := wrap_small (by have := h1.1; omega) (by have := h1.2; omega)
  have h3 : m ≠ 0 := by omega
  have E3 : Hid (IntKind.i64.wrap ((n.tmod m + m).tmod m) = (n.tmod m + m).tmod m) := hide (by
    have b1 := h1.1
    have b2 := h1.2
    have := Int.tmod_lt_of_pos (n.tmod m + m) (show 0 < m by omega)
    have := Int.lt_tmod_of_pos (n.tmod m + m) (show 0 < m by omega)
    exact wrap_small (by omega) (by omega))
  have e3 := E3.out
  have M := hide (show modulo n m = (n.tmod m + m).tmod m from rfl)
  clear h1 E3
  go_enter Tryz.func70, Tryz.ntmps70
  go_wp2_with fail
  go_ret
  refine ⟨?_, rfl⟩
  rw [M.out]
  simp

set_option maxHeartbeats 8000000 in
theorem holdsRef {w : World} {x : Inv} {s t : Value} {row : List Int} (hs : IntsW w s x.set) (ht : IntsW w t row) (hk : 1 ≤ x.k ∧ x.k ≤ 11) (ha : 0 ≤ x.a ∧ x.a < row.length) (hb : 0 ≤ x.b ∧ x.b < row.length)
    (hp : Plain x.K ∧ Plain x.M) (hr : AllPlain row) (hm : x.k = 6 → 2 ≤ x.M) : Calls Tryz.prog 37 #[vInv x s, t] w (TellsB (Holds x row) w) := by
  obtain ⟨k, a, b, K, M, l⟩ := x
  dsimp only at hs hk ha hb hp hm
  obtain ⟨i, rfl⟩ := Int.eq_ofNat_of_zero_le ha.1
  obtain ⟨j, rfl⟩ := Int.eq_ofNat_of_zero_le hb.1
  have hi : i < row.length := by omega
  have hj : j < row.length := by omega
  have PX : Hid (Plain row[i]) := hide (hr _ (List.getElem_mem hi))
  have PY : Hid (Plain row[j]) := hide (hr _ (List.getElem_mem hj))
  have HP := hide hp
  have HM := hide hm
  clear hp hr hm ha hb
  have hs0 := hs
  have ht0 := ht
  obtain ⟨os, cs, rfl, hls, _⟩ := hs
  obtain ⟨ot, ct, rfl, hlt, _⟩ := ht
  obtain ⟨b1, b3⟩ := one_box w ⟨k, i, j, K, M, l⟩ (.slice os l.length cs) 31
  unfold vInv
  unfold cInv at *
  go_enter Tryz.func37, Tryz.ntmps37
  go_upto_region 1 with (fail)
  dsimp only at b1 b3
  generalize w.alloc (.cells #[.int .u8 k, .int .i64 i, .int .i64 j, .int .i64 K, .int .i64 M, .slice os l.length cs] 31) = w0 at *
  have hs1 := intsW_below hs0 b3
  have ht1 := intsW_below ht0 b3
  have HB := hide b3
  clear b3 hs0 ht0
  obtain ⟨p0, p1, p2, p3, p4, p5⟩ := b1
  dsimp only at p0 p1 p2 p3 p4 p5
  obtain ⟨ot', ct', he, _, ht⟩ := ht1
  obtain ⟨rfl, rfl⟩ : ot = ot' ∧ ct = ct' := by simpa using he
  obtain ⟨os', cs', he2, _, hs⟩ := hs1
  obtain ⟨rfl, rfl⟩ : os = os' ∧ cs = cs' := by simpa using he2
  clear he he2
  obtain ⟨r1, o1, rfl, f1⟩ := int_cell ht hi
  obtain ⟨r2, o2, he, f2⟩ := int_cell ht hj
  simp only [Option.some.injEq, Addr.mk.injEq] at he
  obtain ⟨rfl, rfl, _⟩ := he
  clear ht
  have hi1 : (i : Int) < (row.length : Int) := by omega
  have hj1 : (j : Int) < (row.length : Int) := by omega
  have EX : Hid (at_ row (i : Int) = row[i]) := hide (at_get hi)
  have EY : Hid (at_ row (j : Int) = row[j]) := hide (at_get hj)
  generalize row[i] = X at *
  generalize row[j] = Y at *
  obtain ⟨h1, h11⟩ := hk
  have hc : k = 1 ∨ k = 2 ∨ k = 3 ∨ k = 4 ∨ k = 5 ∨ k = 6 ∨ k = 7 ∨ k = 8 ∨ k = 9 ∨ k = 10 ∨ k = 11 := by omega
  clear h1 h11
  rcases hc with rfl | rfl | rfl | rfl | rfl | rfl | rfl | rfl | rfl | rfl | rfl
  · go_wp2_with fail
    go_quiet (fail)
    go_wp2_with fail
    go_ret
    refine ⟨_, rfl, ?_, HB.out.trans (belowN _ _ _)⟩
    simp [Holds, EX.out, EY.out]
  · go_wp2_with fail
    go_quiet (fail)
    go_wp2_with fail
    go_loopw [7] (fun v wr => ∃ (k : Nat) (n : Nat), k ≤ l.length ∧ v = .int .i64 k ∧ X ∉ l.take k ∧ wr = w0.drewN n) (fun v _ => l.length - (intOf v).toNat)
    case atStart => exact ⟨0, _, Nat.zero_le _, rfl, by simp, rfl⟩
    case round =>
      obtain ⟨k, nd, hk, rfl, hn, rfl⟩ := hrel
      have HN := hide hn
      clear hn
      by_cases hq : k < l.length
      · obtain ⟨r3, o3, rfl, f3⟩ := int_cell hs hq
        have hi3 : (k : Int) < (l.length : Int) := by omega
        clear hs
        by_cases he : l[k] = X
        · have eb : (l[k] == X) = true := by simp [he]
          have HE := hide he
          clear he
          go_wp2_with fail
          go_ret
          refine ⟨_, rfl, ?_, HB.out.trans (belowN _ _ _)⟩
          have h1 : X ∈ l := by rw [← HE.out]; exact List.getElem_mem hq
          simp [Holds, EX.out, h1]
        · have eb : (l[k] == X) = false := by simpa using he
          clear he
          have HQ := hide (not_next HN.out hq eb)
          go_wp2_with fail
          go_roundw
          case rel => exact ⟨k + 1, _, by omega, by go_num, HQ.out, rfl⟩
          case measure => simp [intOf]; omega
      · go_wp2_with fail
        go_ret
        refine ⟨_, rfl, ?_, HB.out.trans (belowN _ _ _)⟩
        have h1 : X ∉ l := by
          have := HN.out
          rwa [List.take_of_length_le (by omega)] at this
        simp [Holds, EX.out, h1]
  · go_wp2_with fail
    go_quiet (fail)
    go_wp2_with fail
    go_ret
    refine ⟨_, rfl, ?_, HB.out.trans (belowN _ _ _)⟩
    simp [Holds, EX.out, EY.out]
  · go_wp2_with fail
    go_quiet (fail)
    go_wp2_with fail
    go_ret
    refine ⟨_, rfl, ?_, HB.out.trans (belowN _ _ _)⟩
    simp [Holds, EX.out, EY.out]
  · go_wp2_with fail
    go_quiet (fail)
    go_wp2_with fail
    go_ret
    refine ⟨_, rfl, ?_, HB.out.trans (belowN _ _ _)⟩
    simp [Holds, EX.out, EY.out]
  · have h2 := hide (HM.out rfl)
    have h3 : Hid (M ≤ 2147483647) := hide HP.out.2.2
    go_wp2_with fail
    go_quiet (fail)
    go_wp2_with fail
    go_region_with (first
      | (go_at_call 70
         with_reducible refine (moduloRef PX.out h2.out h3.out).mono ?_
         rintro e w1 ⟨rfl, hw⟩
         rw [hw])
      | fail)
    all_goals
      go_wp2_with fail
      go_ret
      refine ⟨_, rfl, ?_, HB.out.trans ((belowN w.heap.size _ _).trans ((Below.refl _ _).drew))⟩
      simp [Holds, EX.out]
  · go_wp2_with fail
    go_quiet (fail)
    go_wp2_with fail
    go_ret
    refine ⟨_, rfl, ?_, HB.out.trans (belowN _ _ _)⟩
    simp [Holds, EX.out, EY.out]
  · go_wp2_with fail
    go_quiet (fail)
    go_wp2_with fail
    go_ret
    refine ⟨_, rfl, ?_, HB.out.trans (belowN _ _ _)⟩
    simp [Holds, EX.out, EY.out]
  · go_wp2_with fail
    go_quiet (fail)
    go_wp2_with fail
    go_ret
    refine ⟨_, rfl, ?_, HB.out.trans (belowN _ _ _)⟩
    simp [Holds, EX.out, EY.out]
  · go_wp2_with fail
    go_quiet (fail)
    go_wp2_with fail
    go_ret
    refine ⟨_, rfl, ?_, HB.out.trans (belowN _ _ _)⟩
    simp [Holds, EX.out, EY.out]
  · have hm := mul_plain HP.out.1 PX.out
    have hM := HP.out.2
    have e1 : IntKind.i64.wrap (K * X) = K * X := wrap_small (by omega) (by omega)
    have e2 : IntKind.i64.wrap (K * X + M) = K * X + M := wrap_small (by have := hM.1; omega) (by have := hM.2; omega)
    clear hm hM
    go_wp2_with fail
    go_quiet (fail)
    go_wp2_with fail
    go_ret
    refine ⟨_, rfl, ?_, HB.out.trans (belowN _ _ _)⟩
    simp [Holds, EX.out, EY.out]
end Go.Proofs.YtdfjjmibhnniiaaGreatDoor.Le

set_option maxRecDepth 100000
set_option linter.unusedSimpArgs false
namespace Go.Proofs.YtdfjjmibhnniiaaGreatDoor.Le
open Go Go.Ms Go.Pg Go.Le Go.ChangeShapes Go.WideShapes Go.ChangeAt Go.RowKit Go.Deep

open Classical in
theorem err_zero {x : Inv} {n : Int} (h : err x n = 0) : (1 ≤ n ∧ n ≤ 8) ∧ (1 ≤ x.k ∧ x.k ≤ 11) ∧ VarsOK x n ∧ PlainOK x ∧ NumsOK x ∧ x = bare x := by
  unfold err at h
  by_cases c1 : n < 1
  · rw [if_pos c1] at h; simp at h
  rw [if_neg c1] at h
  by_cases c2 : 8 < n
  · rw [if_pos c2] at h; simp at h
  rw [if_neg c2] at h
  by_cases c3 : 1 ≤ x.k ∧ x.k ≤ 11
  · rw [if_neg (not_not_intro c3)] at h
    by_cases c4 : VarsOK x n
    · rw [if_neg (not_not_intro c4)] at h
      by_cases c5 : PlainOK x
      · rw [if_neg (not_not_intro c5)] at h
        by_cases c6 : NumsOK x
        · rw [if_neg (not_not_intro c6)] at h
          by_cases c7 : x = bare x
          · exact ⟨by omega, c3, c4, c5, c6, c7⟩
          · rw [if_pos c7] at h; simp at h
        · rw [if_pos c6] at h; simp at h
      · rw [if_pos c5] at h; simp at h
    · rw [if_pos c4] at h; simp at h
  · rw [if_pos c3] at h; simp at h
theorem b_in {x : Inv} {n : Int} (h : err x n = 0) : 0 ≤ x.b ∧ x.b < n := by
  obtain ⟨h1, _, hv, _, _, hb⟩ := err_zero h
  by_cases q : 7 ≤ x.k
  · exact hv.2.2.1 q
  · have : x.b = 0 := by rw [hb]; unfold bare; exact if_neg q
    omega

open Classical in
noncomputable def rowErr (x : Inv) (row : List Int) : Int := if err x row.length = 0 then (if AllPlain row then 0 else 3) else err x row.length
def Answers (x : Inv) (row : List Int) (w : World) (e : Ending) (w' : World) : Prop :=
  ∃ r, e = .returned (.tuple #[.bool r, .int .i64 (rowErr x row)]) ∧ (if rowErr x row = 0 then (r = true ↔ Holds x row) else r = false) ∧ Below w.heap.size w w'

theorem check_at {w : World} {x : Inv} {s : Value} {n : Int} (hs : IntsW w s x.set) : Calls Tryz.prog 11 #[.agg #[.int .u8 x.k, .int .i64 x.a, .int .i64 x.b, .int .i64 x.K, .int .i64 x.M, s], .int .i64 n] w fun e w' => e = .returned (.int .i64 (err x n)) ∧ Below w.heap.size w w' := checkRef hs
theorem holds_at {w : World} {x : Inv} {s t : Value} {row : List Int} (hs : IntsW w s x.set) (ht : IntsW w t row) (he : err x row.length = 0) (hr : AllPlain row) :
    Calls Tryz.prog 37 #[.agg #[.int .u8 x.k, .int .i64 x.a, .int .i64 x.b, .int .i64 x.K, .int .i64 x.M, s], t] w (TellsB (Holds x row) w) := by
  obtain ⟨h1, hk, hv, hp, hn, hb⟩ := err_zero he
  exact holdsRef hs ht hk ⟨hv.1, hv.2.1⟩ (b_in he) ⟨hp.1, hp.2.1⟩ hr fun q => (hn.2 q).1

set_option maxHeartbeats 4000000 in
theorem rowRef {w : World} {x : Inv} {s t : Value} {row : List Int} (hs : IntsW w s x.set) (ht : IntsW w t row) : Calls Tryz.prog 13 #[vInv x s, t] w (Answers x row w) := by
  have hs0 := hs
  have ht0 := ht
  obtain ⟨os, cs, rfl, hls, _⟩ := hs
  obtain ⟨ot, ct, rfl, hlt, _⟩ := ht
  obtain ⟨b1, b3⟩ := one_box w x (.slice os x.set.length cs) 31
  unfold vInv
  unfold cInv at *
  go_enter Tryz.func13, Tryz.ntmps13
  go_upto_region 1 with (fail)
  generalize w.alloc (.cells #[.int .u8 x.k, .int .i64 x.a, .int .i64 x.b, .int .i64 x.K, .int .i64 x.M, .slice os x.set.length cs] 31) = w0 at *
  have I0 := hide (intsW_below hs0 b3)
  have R0 := hide (intsW_below ht0 b3)
  have hL : BoxL w0 w.heap.size x os cs := ⟨b1, I0.out⟩
  have L := hide hL
  have HB := hide b3
  clear b3 hs0 ht0 hL
  obtain ⟨p0, p1, p2, p3, p4, p5⟩ := b1
  by_cases he : err x row.length = 0
  · have EZ := hide he
    have h0 : ((0 : Int) != 0) = false := by simp
    go_wp2_with (first
      | (go_at_call 11
         with_reducible refine (check_at (n := row.length) I0.out).mono ?_
         rintro e w1 ⟨rfl, hB⟩
         have L1 := hide (L.out.below hB)
         have R1 := hide (intsW_below R0.out hB)
         have B1 := hide (below_up HB.out hB)
         clear hB p0 p1 p2 p3 p4 p5
         obtain ⟨p0, p1, p2, p3, p4, p5⟩ := L1.out.1
         rw [EZ.out])
      | fail)
    clear he
    have I1 : Hid (IntsW w1 (.slice os x.set.length cs) x.set) := hide L1.out.2
    go_loopw [7] (fun v wr => ∃ (k : Nat) (n : Nat), k ≤ row.length ∧ v = .int .i64 k ∧ AllPlain (row.take k) ∧ wr = w1.drewN n) (fun v _ => row.length - (intOf v).toNat)
    case atStart => exact ⟨0, 0, Nat.zero_le _, rfl, by simp [AllPlain], rfl⟩
    case round =>
      obtain ⟨k, nd, hk, rfl, hp, rfl⟩ := hrel
      have HP := hide hp
      clear hp
      by_cases hq : k < row.length
      · obtain ⟨_, _, he, _, hc⟩ := R1.out
        obtain ⟨rfl, rfl⟩ : ot = _ ∧ ct = _ := by simpa using he
        clear he
        obtain ⟨r3, o3, rfl, f3⟩ := int_cell hc hq
        clear hc
        have hi3 : (k : Int) < (row.length : Int) := by omega
        by_cases hpl : Plain row[k]
        · have PL := hide hpl
          clear hpl
          go_wp2_with (first
            | (go_at_call 36
               with_reducible refine (plainRef (n := row[k])).mono ?_
               intro e w2 h2
               obtain ⟨rfl, n2, rfl⟩ := tells_yes h2 PL.out
               clear h2)
            | fail)
          go_roundw
          case rel => exact ⟨k + 1, _, by omega, by go_num, plain_next HP.out hq PL.out, rfl⟩
          case measure => simp [intOf]; omega
        · have PL := hide hpl
          clear hpl
          go_wp2_with (first
            | (go_at_call 36
               with_reducible refine (plainRef (n := row[k])).mono ?_
               intro e w2 h2
               obtain ⟨rfl, n2, rfl⟩ := tells_no h2 PL.out
               clear h2)
            | fail)
          refine bodyPost_ret (v := .tuple #[.bool false, .int .i64 3]) (by simp [results, Tryz.results13, go_sem]) rfl ?_
          have h1 : rowErr x row = 3 := by
            unfold rowErr
            rw [if_pos EZ.out, if_neg fun q => PL.out (q _ (List.getElem_mem hq))]
          refine ⟨false, by rw [h1], by rw [h1, if_neg (by omega)], ?_⟩
          exact B1.out.trans (belowN _ _ _)
      · have ha : Hid (AllPlain row) := hide (by
          have := HP.out
          rwa [List.take_of_length_le (by omega)] at this)
        have h1 : Hid (rowErr x row = 0) := hide (by
          unfold rowErr
          rw [if_pos EZ.out, if_pos ha.out])
        go_wp2_with (first
          | (go_at_call 37
             with_reducible refine (holds_at (intsW_drewN I1.out _) (intsW_drewN R1.out _) EZ.out ha.out).mono ?_
             rintro e w2 ⟨r, rfl, hr, hB⟩
             have HR := hide hr
             have B2 := hide (below_up (B1.out.trans (belowN _ _ _)) hB)
             clear hr hB)
          | fail)
        refine bodyPost_ret (v := .tuple #[.bool r, .int .i64 0]) (by simp [results, Tryz.results13, go_sem]) rfl ?_
        refine ⟨r, by rw [h1.out], by rw [h1.out, if_pos rfl]; exact HR.out, B2.out⟩
  · have ee : (err x row.length != 0) = true := by simpa using he
    have NE := hide he
    clear he
    go_wp2_with (first
      | (go_at_call 11
         with_reducible refine (check_at (n := row.length) I0.out).mono ?_
         rintro e w1 ⟨rfl, hB⟩
         have B1 := hide (below_up HB.out hB)
         clear hB)
      | fail)
    refine bodyPost_ret (v := .tuple #[.bool false, .int .i64 (err x row.length)]) (by simp [results, Tryz.results13, go_sem]) rfl ?_
    have h1 : rowErr x row = err x row.length := if_neg NE.out
    refine ⟨false, by rw [h1], ?_, B1.out⟩
    rw [h1, if_neg NE.out]
end Go.Proofs.YtdfjjmibhnniiaaGreatDoor.Le

