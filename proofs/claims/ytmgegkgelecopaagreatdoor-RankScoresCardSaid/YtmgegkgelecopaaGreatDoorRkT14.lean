import Derived.Test.YtmgegkgelecopaaGreatDoorRkU0
import Derived.Test.YtmgegkgelecopaaGreatDoorRkQ
set_option maxRecDepth 100000
namespace Go.Proofs.YtmgegkgelecopaaGreatDoor.Rk
open Go Go.Ms Go.Pg Go.Rk Go.ChangeShapes Go.WideShapes Go.ChangeAt Go.RowKit Go.Deep

def Sx (w w' : World) (b g : Nat) (y : Fr) : Prop :=
  w'.cell? ⟨g, 0, none⟩ = some (.int .i64 y.1) ∧ w'.cell? ⟨g, 1, none⟩ = some (.int .i64 y.2) ∧ w'.frozen? ⟨g, 0, none⟩ = false ∧ w'.frozen? ⟨g, 1, none⟩ = false ∧
  w'.cell? ⟨b, 0, none⟩ = some (val w' ⟨b, 0, none⟩) ∧ w'.cell? ⟨b, 1, none⟩ = some (val w' ⟨b, 1, none⟩) ∧ w'.frozen? ⟨b, 0, none⟩ = false ∧ w'.frozen? ⟨b, 1, none⟩ = false ∧
  Hid (b < w'.heap.size ∧ g < w'.heap.size ∧ w.heap.size ≤ b ∧ w.heap.size ≤ g ∧ b ≠ g ∧ Below w.heap.size w w')
theorem Sx.step {w w' w'' : World} {b g : Nat} {y : Fr} (k : Sx w w' b g y) (hk : Below w'.heap.size w' w'') : Sx w w'' b g y := by
  obtain ⟨g1, g2, e1, e2, r1, r2, f1, f2, lb, lg, o1, o2, o3, hB⟩ := k
  exact ⟨(hk.cell (p := ⟨g, 0, none⟩) lg).trans g1, (hk.cell (p := ⟨g, 1, none⟩) lg).trans g2, (hk.frozen (p := ⟨g, 0, none⟩) lg).trans e1, (hk.frozen (p := ⟨g, 1, none⟩) lg).trans e2,
    val_of ((hk.cell (p := ⟨b, 0, none⟩) lb).trans r1), val_of ((hk.cell (p := ⟨b, 1, none⟩) lb).trans r2), (hk.frozen (p := ⟨b, 0, none⟩) lb).trans f1, (hk.frozen (p := ⟨b, 1, none⟩) lb).trans f2,
    Nat.lt_of_lt_of_le lb hk.size, Nat.lt_of_lt_of_le lg hk.size, o1, o2, o3, hB.trans (hk.mono hB.size)⟩
theorem Sx.drew {w w' : World} {b g : Nat} {y : Fr} (k : Sx w w' b g y) : Sx w w'.drew b g y := k.step ⟨rfl, rfl, rfl, Nat.le_refl _, fun _ _ => rfl⟩
theorem Sx.putb {w w' : World} {b g : Nat} {y : Fr} (k : Sx w w' b g y) (u v : Value) : Sx w ((w'.setCell ⟨b, 0, none⟩ u).setCell ⟨b, 1, none⟩ v) b g y := by
  obtain ⟨g1, g2, e1, e2, r1, r2, f1, f2, lb, lg, o1, o2, o3, hB⟩ := k
  have o4 := o3.symm
  exact ⟨by go_simp, by go_simp, by go_simp, by go_simp, val_of (v := u) (by go_simp), val_of (v := v) (by go_simp), by go_simp, by go_simp, by simpa using lb, by simpa using lg, o1, o2, o3, (hB.setCell o1 _).setCell o1 _⟩
theorem Sx.putg {w w' : World} {b g : Nat} {y : Fr} (k : Sx w w' b g y) (z : Fr) : Sx w ((w'.setCell ⟨g, 0, none⟩ (.int .i64 z.1)).setCell ⟨g, 1, none⟩ (.int .i64 z.2)) b g z := by
  obtain ⟨g1, g2, e1, e2, r1, r2, f1, f2, lb, lg, o1, o2, o3, hB⟩ := k
  have o4 := o3.symm
  exact ⟨by go_simp, by go_simp, by go_simp, by go_simp, val_of (v := val w' ⟨b, 0, none⟩) (by go_simp), val_of (v := val w' ⟨b, 1, none⟩) (by go_simp), by go_simp, by go_simp, by simpa using lb, by simpa using lg, o1, o2, o3, (hB.setCell o2 _).setCell o2 _⟩
theorem Sx.start {w w0 w1 : World} {b : Nat} {t : TypeId} {y : Fr} (hb : w.heap.size ≤ b) (k : Kept w w0 w1 b (.int .i64 0) (.int .i64 0)) : Sx w (w1.alloc (.cells #[.int .i64 y.1, .int .i64 y.2] t)) b w1.heap.size y := by
  obtain ⟨c0, c1, f0, f1, hz, hB⟩ := k
  have n1 : b ≠ w1.heap.size := by omega
  have n2 := n1.symm
  exact ⟨by go_simp, by go_simp, by go_simp, by go_simp, val_of (v := .int .i64 0) (by go_simp), val_of (v := .int .i64 0) (by go_simp), by go_simp, by go_simp, by simp <;> omega, by simp, hb, Below.size hB, n1, Below.alloc hB (Below.size hB) _⟩
theorem sxK {f : FuncId} {args : Array Value} {V : Value} {w w' : World} {b g : Nat} {y : Fr} (k : Sx w w' b g y) (c : Calls Tryz.prog f args w' fun e w'' => e = .returned V ∧ Below w'.heap.size w' w'') : Calls Tryz.prog f args w' fun e w'' => e = .returned V ∧ Sx w w'' b g y :=
  c.mono fun _ _ ⟨e, q⟩ => ⟨e, k.step q⟩
theorem Sx.s {w w' : World} {b g : Nat} {y : Fr} (k : Sx w w' b g y) : w'.cell? ⟨g, 0, none⟩ = some (.int .i64 y.1) ∧ w'.cell? ⟨g, 1, none⟩ = some (.int .i64 y.2) ∧ w'.cell? ⟨b, 0, none⟩ = some (val w' ⟨b, 0, none⟩) ∧ w'.cell? ⟨b, 1, none⟩ = some (val w' ⟨b, 1, none⟩) ∧ w'.frozen? ⟨b, 0, none⟩ = false ∧ w'.frozen? ⟨b, 1, none⟩ = false ∧ Hid (Sx w w' b g y) := by
  have k2 := k
  obtain ⟨g1, g2, e1, e2, r1, r2, f1, f2, _⟩ := k2
  exact ⟨g1, g2, r1, r2, f1, f2, k⟩

set_option maxHeartbeats 4000000 in
theorem ref10 (h q m r : Int) (hh : 0 ≤ h ∧ h ≤ 64) (hq : 0 ≤ q ∧ q ≤ 64) (hm : 0 ≤ m ∧ m ≤ 64) (hr : 0 ≤ r ∧ r ≤ 64) (w : World) :
    Calls Tryz.prog 43 #[.int .u8 10, tally h q m r] w fun e w' => e = .returned (fr (refOf 10 (countsOf h q m r))) ∧ Below w.heap.size w w' := by
  obtain ⟨h1, h2⟩ := hh
  obtain ⟨q1, q2⟩ := hq
  obtain ⟨m1, m2⟩ := hm
  obtain ⟨r1, r2⟩ := hr
  have K0 := Lib.hid (fun w' => by88 q 1 ⟨by omega, by omega⟩ ⟨by omega, by omega⟩ w')
  have K1 := Lib.hid (fun w' => by88 (18 + q) 10 ⟨by omega, by omega⟩ ⟨by omega, by omega⟩ w')
  have K2 := Lib.hid (fun w' => by88 (2790 + q) 1000 ⟨by omega, by omega⟩ ⟨by omega, by omega⟩ w')
  have K3 := Lib.hid (fun w' => by88 h 1 ⟨by omega, by omega⟩ ⟨by omega, by omega⟩ w')
  have K4 : Hid (∀ y, Ok y → ∀ w', Calls Tryz.prog 90 #[fr (Q h 1), fr y] w' fun e w'' => e = .returned (fr (fminus (Q h 1) y)) ∧ Below w'.heap.size w' w'') := fun y hy w' => less90 (Q h 1) y (Q_bd (by decide) (by decide) ⟨by omega, by omega⟩ ⟨by omega, by omega⟩) hy w'
  have hs : w.heap.size ≤ w.heap.size + 1 := by omega
  have HS0 := Lib.hid hs
  clear hs
  by_cases a1 : q ≤ 2
  · have HV : Hid (refOf 10 (countsOf h q m r) = fminus (Q h 1) (Q q 1)) := by
      show fminus (Q h 1) (if 10 < q then Q (2790 + q) 1000 else if 2 < q then Q (18 + q) 10 else Q q 1) = _
      rw [if_neg (by omega), if_neg (by omega)]
    have HO : Hid (Ok (Q q 1)) := Q_bd (by decide) (by decide) ⟨by omega, by omega⟩ ⟨by omega, by omega⟩
    go_enter Tryz.func43, Tryz.ntmps43
    go_wp2_with fail
    go_quiet (fail)
    have HK := Lib.hid (keptR w (.cells #[.int .i64 h, .int .i64 q, .int .i64 m, .int .i64 r] 33) 23 nq)
    generalize (((w.alloc (.cells #[.int .i64 h, .int .i64 q, .int .i64 m, .int .i64 r] 33)).alloc (.cells #[.int .i64 0, .int .i64 0] 23)).drewN nq) = w0 at *
    go_upto_region 33 with (first
      | (go_at_call 88; (with_reducible refine (K0.out _).mono ?_); rintro e w1 ⟨rfl, hB⟩; have HK := Lib.hid (HK.out.step hB); clear hB; obtain ⟨c0, c1, f0, f1, hz, _⟩ := id HK.out)
      | fail)
    have HB := Lib.hid (Sx.drew (Sx.start (y := Q q 1) (t := 23) HS0.out HK.out))
    clear c0 c1 f0 f1 hz
    generalize w1.alloc (.cells #[.int .i64 (Q q 1).1, .int .i64 (Q q 1).2] 23) = w2 at *
    generalize w1.heap.size = g at *
    generalize Q q 1 = y at *
    clear a1 h1 h2 q1 q2 m1 m2 r1 r2
    go_region_held (fun w' => w'.cell? ⟨g, 0, none⟩ = some (.int .i64 y.1) ∧ w'.cell? ⟨g, 1, none⟩ = some (.int .i64 y.2) ∧ w'.cell? ⟨w.heap.size + 1, 0, none⟩ = some (val w' ⟨w.heap.size + 1, 0, none⟩) ∧ w'.cell? ⟨w.heap.size + 1, 1, none⟩ = some (val w' ⟨w.heap.size + 1, 1, none⟩) ∧ w'.frozen? ⟨w.heap.size + 1, 0, none⟩ = false ∧ w'.frozen? ⟨w.heap.size + 1, 1, none⟩ = false ∧ Hid (Sx w w' (w.heap.size + 1) g y))
      (first | (with_reducible exact Sx.s HB.out) | (with_reducible exact Sx.s HS.out) | (with_reducible exact Sx.s (Sx.putb HS.out _ _)))
      (first
        | (go_at_call 88; with_reducible refine (sxK HB.out (K3.out _)).mono ?_; rintro e w4 ⟨rfl, hS⟩; have HS := Lib.hid hS; clear hS)
        | (go_at_call 90; with_reducible refine (sxK HS.out (K4.out _ HO.out _)).mono ?_; rintro e w4 ⟨rfl, hS⟩; have HS := Lib.hid hS; clear hS))
    all_goals
      go_wp2_with fail
      obtain ⟨_, _, _, _, r1, r2, _, _, lb, lg, o1, o2, o3, hB⟩ := HS.out
      refine bodyPost_ret (v := fr (fminus (Q h 1) y)) (by simp [results, Tryz.results43, go_sem, r1, r2]) rfl ⟨by rw [HV.out], (hB.setCell o1 _).setCell o1 _⟩
  · by_cases a2 : q ≤ 10
    · have HV : Hid (refOf 10 (countsOf h q m r) = fminus (Q h 1) (Q (18 + q) 10)) := by
        show fminus (Q h 1) (if 10 < q then Q (2790 + q) 1000 else if 2 < q then Q (18 + q) 10 else Q q 1) = _
        rw [if_neg (by omega), if_pos (by omega)]
      have HO : Hid (Ok (Q (18 + q) 10)) := Q_bd (by decide) (by decide) ⟨by omega, by omega⟩ ⟨by omega, by omega⟩
      go_enter Tryz.func43, Tryz.ntmps43
      go_wp2_with fail
      go_quiet (fail)
      have HK := Lib.hid (keptR w (.cells #[.int .i64 h, .int .i64 q, .int .i64 m, .int .i64 r] 33) 23 nq)
      generalize (((w.alloc (.cells #[.int .i64 h, .int .i64 q, .int .i64 m, .int .i64 r] 33)).alloc (.cells #[.int .i64 0, .int .i64 0] 23)).drewN nq) = w0 at *
      go_upto_region 33 with (first
        | (go_at_call 88; (with_reducible refine (K0.out _).mono ?_); rintro e w1 ⟨rfl, hB⟩; have HK := Lib.hid (HK.out.step hB); clear hB; obtain ⟨c0, c1, f0, f1, hz, _⟩ := id HK.out)
        | (go_at_call 88; (with_reducible refine (sxK (Sx.start (y := Q q 1) (t := 23) HS0.out HK.out) (K1.out _)).mono ?_); rintro e w2 ⟨rfl, hX⟩; have HX := Lib.hid hX; obtain ⟨_, _, _, _, _, _, _, _, _⟩ := hX)
        | fail)
      have HB := Lib.hid (Sx.drew (Sx.putg HX.out (Q (18 + q) 10)))
      generalize (w2.setCell ⟨w1.heap.size, 0, none⟩ (.int .i64 (Q (18 + q) 10).1)).setCell ⟨w1.heap.size, 1, none⟩ (.int .i64 (Q (18 + q) 10).2) = w5 at *
      generalize w1.heap.size = g at *
      generalize Q (18 + q) 10 = y at *
      clear a1 a2 h1 h2 q1 q2 m1 m2 r1 r2
      go_region_held (fun w' => w'.cell? ⟨g, 0, none⟩ = some (.int .i64 y.1) ∧ w'.cell? ⟨g, 1, none⟩ = some (.int .i64 y.2) ∧ w'.cell? ⟨w.heap.size + 1, 0, none⟩ = some (val w' ⟨w.heap.size + 1, 0, none⟩) ∧ w'.cell? ⟨w.heap.size + 1, 1, none⟩ = some (val w' ⟨w.heap.size + 1, 1, none⟩) ∧ w'.frozen? ⟨w.heap.size + 1, 0, none⟩ = false ∧ w'.frozen? ⟨w.heap.size + 1, 1, none⟩ = false ∧ Hid (Sx w w' (w.heap.size + 1) g y))
        (first | (with_reducible exact Sx.s HB.out) | (with_reducible exact Sx.s HS.out) | (with_reducible exact Sx.s (Sx.putb HS.out _ _)))
        (first
          | (go_at_call 88; with_reducible refine (sxK HB.out (K3.out _)).mono ?_; rintro e w4 ⟨rfl, hS⟩; have HS := Lib.hid hS; clear hS)
          | (go_at_call 90; with_reducible refine (sxK HS.out (K4.out _ HO.out _)).mono ?_; rintro e w4 ⟨rfl, hS⟩; have HS := Lib.hid hS; clear hS))
      all_goals
        go_wp2_with fail
        obtain ⟨_, _, _, _, r1, r2, _, _, lb, lg, o1, o2, o3, hB⟩ := HS.out
        refine bodyPost_ret (v := fr (fminus (Q h 1) y)) (by simp [results, Tryz.results43, go_sem, r1, r2]) rfl ⟨by rw [HV.out], (hB.setCell o1 _).setCell o1 _⟩
    · have HV : Hid (refOf 10 (countsOf h q m r) = fminus (Q h 1) (Q (2790 + q) 1000)) := by
        show fminus (Q h 1) (if 10 < q then Q (2790 + q) 1000 else if 2 < q then Q (18 + q) 10 else Q q 1) = _
        rw [if_pos (by omega)]
      have HO : Hid (Ok (Q (2790 + q) 1000)) := Q_bd (by decide) (by decide) ⟨by omega, by omega⟩ ⟨by omega, by omega⟩
      go_enter Tryz.func43, Tryz.ntmps43
      go_wp2_with fail
      go_quiet (fail)
      have HK := Lib.hid (keptR w (.cells #[.int .i64 h, .int .i64 q, .int .i64 m, .int .i64 r] 33) 23 nq)
      generalize (((w.alloc (.cells #[.int .i64 h, .int .i64 q, .int .i64 m, .int .i64 r] 33)).alloc (.cells #[.int .i64 0, .int .i64 0] 23)).drewN nq) = w0 at *
      go_upto_region 33 with (first
        | (go_at_call 88; (with_reducible refine (K0.out _).mono ?_); rintro e w1 ⟨rfl, hB⟩; have HK := Lib.hid (HK.out.step hB); clear hB; obtain ⟨c0, c1, f0, f1, hz, _⟩ := id HK.out)
        | (go_at_call 88; (with_reducible refine (sxK (Sx.start (y := Q q 1) (t := 23) HS0.out HK.out) (K1.out _)).mono ?_); rintro e w2 ⟨rfl, hX⟩; have HX := Lib.hid hX; obtain ⟨_, _, _, _, _, _, _, _, _⟩ := hX)
        | (go_at_call 88; (with_reducible refine (sxK (Sx.putg HX.out (Q (18 + q) 10)) (K2.out _)).mono ?_); rintro e w3 ⟨rfl, hY⟩; have HY := Lib.hid hY; obtain ⟨_, _, _, _, _, _, _, _, _⟩ := hY)
        | fail)
      have HB := Lib.hid (Sx.drew (Sx.putg HY.out (Q (2790 + q) 1000)))
      generalize (w3.setCell ⟨w1.heap.size, 0, none⟩ (.int .i64 (Q (2790 + q) 1000).1)).setCell ⟨w1.heap.size, 1, none⟩ (.int .i64 (Q (2790 + q) 1000).2) = w5 at *
      generalize w1.heap.size = g at *
      generalize Q (2790 + q) 1000 = y at *
      clear a1 a2 h1 h2 q1 q2 m1 m2 r1 r2
      go_region_held (fun w' => w'.cell? ⟨g, 0, none⟩ = some (.int .i64 y.1) ∧ w'.cell? ⟨g, 1, none⟩ = some (.int .i64 y.2) ∧ w'.cell? ⟨w.heap.size + 1, 0, none⟩ = some (val w' ⟨w.heap.size + 1, 0, none⟩) ∧ w'.cell? ⟨w.heap.size + 1, 1, none⟩ = some (val w' ⟨w.heap.size + 1, 1, none⟩) ∧ w'.frozen? ⟨w.heap.size + 1, 0, none⟩ = false ∧ w'.frozen? ⟨w.heap.size + 1, 1, none⟩ = false ∧ Hid (Sx w w' (w.heap.size + 1) g y))
        (first | (with_reducible exact Sx.s HB.out) | (with_reducible exact Sx.s HS.out) | (with_reducible exact Sx.s (Sx.putb HS.out _ _)))
        (first
          | (go_at_call 88; with_reducible refine (sxK HB.out (K3.out _)).mono ?_; rintro e w4 ⟨rfl, hS⟩; have HS := Lib.hid hS; clear hS)
          | (go_at_call 90; with_reducible refine (sxK HS.out (K4.out _ HO.out _)).mono ?_; rintro e w4 ⟨rfl, hS⟩; have HS := Lib.hid hS; clear hS))
      all_goals
        go_wp2_with fail
        obtain ⟨_, _, _, _, r1, r2, _, _, lb, lg, o1, o2, o3, hB⟩ := HS.out
        refine bodyPost_ret (v := fr (fminus (Q h 1) y)) (by simp [results, Tryz.results43, go_sem, r1, r2]) rfl ⟨by rw [HV.out], (hB.setCell o1 _).setCell o1 _⟩
end Go.Proofs.YtmgegkgelecopaaGreatDoor.Rk

set_option maxRecDepth 100000
namespace Go.Proofs.YtmgegkgelecopaaGreatDoor.Rk
open Go Go.Ms Go.Pg Go.Rk Go.ChangeShapes Go.WideShapes Go.ChangeAt Go.RowKit Go.Deep

set_option maxHeartbeats 4000000 in
theorem ref11 (h q m r : Int) (hh : 0 ≤ h ∧ h ≤ 64) (hq : 0 ≤ q ∧ q ≤ 64) (hm : 0 ≤ m ∧ m ≤ 64) (hr : 0 ≤ r ∧ r ≤ 64) (w : World) :
    Calls Tryz.prog 43 #[.int .u8 11, tally h q m r] w fun e w' => e = .returned (fr (refOf 11 (countsOf h q m r))) ∧ Below w.heap.size w w' := by
  obtain ⟨h1, h2⟩ := hh
  obtain ⟨q1, q2⟩ := hq
  obtain ⟨m1, m2⟩ := hm
  obtain ⟨r1, r2⟩ := hr
  have K0 := Lib.hid (fun w' => by88 h (h + m + (q + r)) ⟨by omega, by omega⟩ ⟨by omega, by omega⟩ w')
  have hB := two w (.cells #[.int .i64 h, .int .i64 q, .int .i64 m, .int .i64 r] 33) (.cells #[.int .i64 0, .int .i64 0] 23)
  go_enter Tryz.func43, Tryz.ntmps43
  go_wp2_with fail
  go_quiet (fail)
  have HK := Lib.hid (keptR w (.cells #[.int .i64 h, .int .i64 q, .int .i64 m, .int .i64 r] 33) 23 nq)
  clear hB
  generalize (((w.alloc (.cells #[.int .i64 h, .int .i64 q, .int .i64 m, .int .i64 r] 33)).alloc (.cells #[.int .i64 0, .int .i64 0] 23)).drewN nq) = w0 at *
  go_wp2_with (first
    | (go_at_call 88; (with_reducible refine (K0.out _).mono ?_); rintro e w1 ⟨rfl, hB⟩; have HK := Lib.hid (HK.out.step hB); clear hB; obtain ⟨c0, c1, f0, f1, hz, _⟩ := id HK.out)
    | fail)
  refine bodyPost_ret (v := fr (Q h ((h + m) + (q + r)))) (by simp [results, Tryz.results43, go_sem, c0, c1]) rfl ⟨rfl, ((HK.out.2.2.2.2.2.out.setCell (show w.heap.size ≤ w.heap.size + 1 by omega) _).setCell (show w.heap.size ≤ w.heap.size + 1 by omega) _)⟩
end Go.Proofs.YtmgegkgelecopaaGreatDoor.Rk

set_option maxRecDepth 100000
namespace Go.Proofs.YtmgegkgelecopaaGreatDoor.Rk
open Go Go.Ms Go.Pg Go.Rk Go.ChangeShapes Go.WideShapes Go.ChangeAt Go.RowKit Go.Deep

set_option maxHeartbeats 4000000 in
theorem ref12 (h q m r : Int) (hh : 0 ≤ h ∧ h ≤ 64) (hq : 0 ≤ q ∧ q ≤ 64) (hm : 0 ≤ m ∧ m ≤ 64) (hr : 0 ≤ r ∧ r ≤ 64) (w : World) :
    Calls Tryz.prog 43 #[.int .u8 12, tally h q m r] w fun e w' => e = .returned (fr (refOf 12 (countsOf h q m r))) ∧ Below w.heap.size w w' := by
  obtain ⟨h1, h2⟩ := hh
  obtain ⟨q1, q2⟩ := hq
  obtain ⟨m1, m2⟩ := hm
  obtain ⟨r1, r2⟩ := hr
  have K0 := Lib.hid (fun w' => by88 (h + r) (h + m + (q + r)) ⟨by omega, by omega⟩ ⟨by omega, by omega⟩ w')
  have hB := two w (.cells #[.int .i64 h, .int .i64 q, .int .i64 m, .int .i64 r] 33) (.cells #[.int .i64 0, .int .i64 0] 23)
  go_enter Tryz.func43, Tryz.ntmps43
  go_wp2_with fail
  go_quiet (fail)
  have HK := Lib.hid (keptR w (.cells #[.int .i64 h, .int .i64 q, .int .i64 m, .int .i64 r] 33) 23 nq)
  clear hB
  generalize (((w.alloc (.cells #[.int .i64 h, .int .i64 q, .int .i64 m, .int .i64 r] 33)).alloc (.cells #[.int .i64 0, .int .i64 0] 23)).drewN nq) = w0 at *
  go_wp2_with (first
    | (go_at_call 88; (with_reducible refine (K0.out _).mono ?_); rintro e w1 ⟨rfl, hB⟩; have HK := Lib.hid (HK.out.step hB); clear hB; obtain ⟨c0, c1, f0, f1, hz, _⟩ := id HK.out)
    | fail)
  refine bodyPost_ret (v := fr (Q (h + r) ((h + m) + (q + r)))) (by simp [results, Tryz.results43, go_sem, c0, c1]) rfl ⟨rfl, ((HK.out.2.2.2.2.2.out.setCell (show w.heap.size ≤ w.heap.size + 1 by omega) _).setCell (show w.heap.size ≤ w.heap.size + 1 by omega) _)⟩
end Go.Proofs.YtmgegkgelecopaaGreatDoor.Rk

set_option maxRecDepth 100000
namespace Go.Proofs.YtmgegkgelecopaaGreatDoor.Rk
open Go Go.Ms Go.Pg Go.Rk Go.ChangeShapes Go.WideShapes Go.ChangeAt Go.RowKit Go.Deep

set_option maxHeartbeats 4000000 in
theorem ref13 (h q m r : Int) (hh : 0 ≤ h ∧ h ≤ 64) (hq : 0 ≤ q ∧ q ≤ 64) (hm : 0 ≤ m ∧ m ≤ 64) (hr : 0 ≤ r ∧ r ≤ 64) (w : World) :
    Calls Tryz.prog 43 #[.int .u8 13, tally h q m r] w fun e w' => e = .returned (fr (refOf 13 (countsOf h q m r))) ∧ Below w.heap.size w w' := by
  obtain ⟨h1, h2⟩ := hh
  obtain ⟨q1, q2⟩ := hq
  obtain ⟨m1, m2⟩ := hm
  obtain ⟨r1, r2⟩ := hr
  have K0 := Lib.hid (fun w' => by88 h 1 ⟨by omega, by omega⟩ ⟨by omega, by omega⟩ w')
  have K1 := Lib.hid (fun w' => by88 h (2 * q + h) ⟨by omega, by omega⟩ ⟨by omega, by omega⟩ w')
  have K2 := Lib.hid (fun w' => plus89 (Q h 1) (Q h (2 * q + h)) (Q_bd (by decide) (by decide) ⟨by omega, by omega⟩ ⟨by omega, by omega⟩) (Q_bd (by decide) (by decide) ⟨by omega, by omega⟩ ⟨by omega, by omega⟩) w')
  have hB := two w (.cells #[.int .i64 h, .int .i64 q, .int .i64 m, .int .i64 r] 33) (.cells #[.int .i64 0, .int .i64 0] 23)
  go_enter Tryz.func43, Tryz.ntmps43
  go_wp2_with fail
  go_quiet (fail)
  have HK := Lib.hid (keptR w (.cells #[.int .i64 h, .int .i64 q, .int .i64 m, .int .i64 r] 33) 23 nq)
  clear hB
  generalize (((w.alloc (.cells #[.int .i64 h, .int .i64 q, .int .i64 m, .int .i64 r] 33)).alloc (.cells #[.int .i64 0, .int .i64 0] 23)).drewN nq) = w0 at *
  go_wp2_with (first
    | (go_at_call 88; (with_reducible refine (K0.out _).mono ?_); rintro e w1 ⟨rfl, hB⟩; have HK := Lib.hid (HK.out.step hB); clear hB; obtain ⟨c0, c1, f0, f1, hz, _⟩ := id HK.out)
    | (go_at_call 88; (with_reducible refine (K1.out _).mono ?_); rintro e w1 ⟨rfl, hB⟩; have HK := Lib.hid (HK.out.step hB); clear hB; obtain ⟨c0, c1, f0, f1, hz, _⟩ := id HK.out)
    | (go_at_call 89; (with_reducible refine (K2.out _).mono ?_); rintro e w1 ⟨rfl, hB⟩; have HK := Lib.hid (HK.out.step hB); clear hB; obtain ⟨c0, c1, f0, f1, hz, _⟩ := id HK.out)
    | fail)
  refine bodyPost_ret (v := fr (fplus (Q h 1) (Q h (2 * q + h)))) (by simp [results, Tryz.results43, go_sem, c0, c1]) rfl ⟨rfl, ((HK.out.2.2.2.2.2.out.setCell (show w.heap.size ≤ w.heap.size + 1 by omega) _).setCell (show w.heap.size ≤ w.heap.size + 1 by omega) _)⟩
end Go.Proofs.YtmgegkgelecopaaGreatDoor.Rk

set_option maxRecDepth 100000
namespace Go.Proofs.YtmgegkgelecopaaGreatDoor.Rk
open Go Go.Ms Go.Pg Go.Rk Go.ChangeShapes Go.WideShapes Go.ChangeAt Go.RowKit Go.Deep

set_option maxHeartbeats 4000000 in
theorem ref14 (h q m r : Int) (hh : 0 ≤ h ∧ h ≤ 64) (hq : 0 ≤ q ∧ q ≤ 64) (hm : 0 ≤ m ∧ m ≤ 64) (hr : 0 ≤ r ∧ r ≤ 64) (w : World) :
    Calls Tryz.prog 43 #[.int .u8 14, tally h q m r] w fun e w' => e = .returned (fr (refOf 14 (countsOf h q m r))) ∧ Below w.heap.size w w' := by
  obtain ⟨h1, h2⟩ := hh
  obtain ⟨q1, q2⟩ := hq
  obtain ⟨m1, m2⟩ := hm
  obtain ⟨r1, r2⟩ := hr
  have b1 := mul_bd (a := h) (b := h) (A := 64) (B := 64) ⟨by omega, by omega⟩ ⟨by omega, by omega⟩
  have b2 := mul_bd (a := h) (b := (h + m + q)) (A := 64) (B := 192) ⟨by omega, by omega⟩ ⟨by omega, by omega⟩
  have b3 := mul_bd (a := (10000 * m)) (b := q) (A := 640000) (B := 64) ⟨by omega, by omega⟩ ⟨by omega, by omega⟩
  have K0 := Lib.hid (fun w' => by88 (h * h) (h * (h + m + q) + 10000 * m * q) ⟨by omega, by omega⟩ ⟨by omega, by omega⟩ w')
  have hB := two w (.cells #[.int .i64 h, .int .i64 q, .int .i64 m, .int .i64 r] 33) (.cells #[.int .i64 0, .int .i64 0] 23)
  go_enter Tryz.func43, Tryz.ntmps43
  go_wp2_with fail
  go_quiet (fail)
  have HK := Lib.hid (keptR w (.cells #[.int .i64 h, .int .i64 q, .int .i64 m, .int .i64 r] 33) 23 nq)
  clear hB
  generalize (((w.alloc (.cells #[.int .i64 h, .int .i64 q, .int .i64 m, .int .i64 r] 33)).alloc (.cells #[.int .i64 0, .int .i64 0] 23)).drewN nq) = w0 at *
  go_wp2_with (first
    | (go_at_call 88; (with_reducible refine (K0.out _).mono ?_); rintro e w1 ⟨rfl, hB⟩; have HK := Lib.hid (HK.out.step hB); clear hB; obtain ⟨c0, c1, f0, f1, hz, _⟩ := id HK.out)
    | fail)
  refine bodyPost_ret (v := fr (Q (h * h) (h * ((h + m) + q) + 10000 * m * q))) (by simp [results, Tryz.results43, go_sem, c0, c1]) rfl ⟨rfl, ((HK.out.2.2.2.2.2.out.setCell (show w.heap.size ≤ w.heap.size + 1 by omega) _).setCell (show w.heap.size ≤ w.heap.size + 1 by omega) _)⟩
end Go.Proofs.YtmgegkgelecopaaGreatDoor.Rk

