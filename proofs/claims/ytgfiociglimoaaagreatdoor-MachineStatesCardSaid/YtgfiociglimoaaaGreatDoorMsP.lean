import Derived.Test.YtgfiociglimoaaaGreatDoorMsO
import Derived.Test.YtgfiociglimoaaaGreatDoorMsL
set_option maxRecDepth 100000
namespace Go.Proofs.YtgfiociglimoaaaGreatDoor.Ms
open Go Go.Ms Go.Il Go.Pg Go.ChangeShapes Go.WideShapes Go.ChangeAt Go.RowKit Go.Deep

set_option maxHeartbeats 40000000 in
theorem codeSame {a b : St} {ca cb : List Value} {w : World} (ha : StAt w ca a) (hb : StAt w cb b) : Calls Tryz.prog 11 #[.agg ca.toArray, .agg cb.toArray] w (Says w a b) := by
  obtain ⟨vt, vo, l', rfl, h1, h2, _, _, _, vu, rfl, h3, _⟩ := ha
  obtain ⟨xt, xo, m', rfl, k1, k2, _, _, _, xu, rfl, k3, _⟩ := hb
  obtain ⟨o1, c1, rfl⟩ := h1.slice
  obtain ⟨o2, c2, rfl⟩ := h2.slice
  obtain ⟨o3, c3, rfl⟩ := h3.slice
  obtain ⟨u1, d1, rfl⟩ := k1.slice
  obtain ⟨u2, d2, rfl⟩ := k2.slice
  obtain ⟨u3, d3, rfl⟩ := k3.slice
  have H1 := hide h1
  have H2 := hide h2
  have H3 := hide h3
  have K1 := hide k1
  have K2 := hide k2
  have K3 := hide k3
  clear h1 h2 h3 k1 k2 k3
  go_enter Tryz.func11, Tryz.ntmps11
  go_wp2_with (first
    | (go_at_call 21
       (
         refine (equalThreads (H1.out.below ThAt.keeps (two _ _ _)) (K1.out.below ThAt.keeps (two _ _ _))).mono ?_
         rintro e w1 ⟨r1, rfl, hr1, hB1⟩
         have R1 := hide hr1
         have p := fun j => (boxes hB1 j).1
         have q := fun j => (boxes hB1 j).2
         have p1 := p 1
         have p2 := p 2
         have p3 := p 3
         have p4 := p 4
         have p5 := p 5
         have p6 := p 6
         have p7 := p 7
         have p8 := p 8
         have p9 := p 9
         have p10 := p 10
         have p11 := p 11
         have q1 := q 1
         have q2 := q 2
         have q3 := q 3
         have q4 := q 4
         have q5 := q 5
         have q6 := q 6
         have q7 := q 7
         have q8 := q 8
         have q9 := q 9
         have q10 := q 10
         have q11 := q 11
         have U1 := hide (up hB1)
         clear hB1 hr1 p q))
    | (go_at_call 23
       (
         refine (equalObjects (H2.out.below ObAt.keeps U1.out) (K2.out.below ObAt.keeps U1.out)).mono ?_
         rintro e w2 ⟨r2, rfl, hr2, hB2⟩
         have R2 := hide hr2
         replace p2 := cell_below hB2 p2
         replace p3 := cell_below hB2 p3
         replace p4 := cell_below hB2 p4
         replace p5 := cell_below hB2 p5
         replace p6 := cell_below hB2 p6
         replace p7 := cell_below hB2 p7
         replace p8 := cell_below hB2 p8
         replace p9 := cell_below hB2 p9
         replace p10 := cell_below hB2 p10
         replace p11 := cell_below hB2 p11
         replace q2 := cell_below hB2 q2
         replace q3 := cell_below hB2 q3
         replace q4 := cell_below hB2 q4
         replace q5 := cell_below hB2 q5
         replace q6 := cell_below hB2 q6
         replace q7 := cell_below hB2 q7
         replace q8 := cell_below hB2 q8
         replace q9 := cell_below hB2 q9
         replace q10 := cell_below hB2 q10
         replace q11 := cell_below hB2 q11
         have U2 : Hid (Below w.heap.size w w2) := U1.out.trans (hB2.mono U1.out.size)
         clear hB2 hr2 p1 q1))
    | (go_at_call 25
       (
         refine (sameOutcome _ a.outcome b.outcome _ _ (H3.out.below (NumAt.keeps _) U2.out) (K3.out.below (NumAt.keeps _) U2.out)).mono ?_
         rintro e w3 ⟨r3, rfl, hr3, hB3⟩
         have R3 := hide hr3
         have U3 : Hid (Below w.heap.size w w3) := U2.out.trans (hB3.mono U2.out.size)
         clear hB3 hr3 p2 p3 p4 p5 p6 p7 p8 p9 p10 p11 q2 q3 q4 q5 q6 q7 q8 q9 q10 q11))
    | fail)
  all_goals go_ret
  · have e1 : r1 = true := by assumption
    have e2 : r2 = true := by assumption
    have e3 : a.inputs = b.inputs := by assumption
    have e4 : a.clocks = b.clocks := by assumption
    have e5 : a.frames = b.frames := by assumption
    exact ⟨r3, rfl, ⟨fun h => st_eq.2 ⟨R1.out.1 e1, R2.out.1 e2, e3, e4, e5, R3.out.1 h⟩, fun h => R3.out.2 (congrArg St.outcome h)⟩, U3.out⟩
  · have g : ¬ a.frames = b.frames := by assumption
    exact ⟨false, rfl, ⟨fun h => by simp at h, fun h => absurd (congrArg St.frames h) g⟩, U2.out⟩
  · have g : ¬ a.clocks = b.clocks := by assumption
    exact ⟨false, rfl, ⟨fun h => by simp at h, fun h => absurd (congrArg St.clocks h) g⟩, U2.out⟩
  · have g : ¬ a.inputs = b.inputs := by assumption
    exact ⟨false, rfl, ⟨fun h => by simp at h, fun h => absurd (congrArg St.inputs h) g⟩, U2.out⟩
  · have g : ¬ r2 = true := by assumption
    exact ⟨false, rfl, ⟨fun h => by simp at h, fun h => absurd (R2.out.2 (congrArg St.objects h)) g⟩, U2.out⟩
  · have g : ¬ r1 = true := by assumption
    exact ⟨false, rfl, ⟨fun h => by simp at h, fun h => absurd (R1.out.2 (congrArg St.threads h)) g⟩, U1.out⟩

set_option maxHeartbeats 4000000 in
theorem refSum {s : St} {cells : List Value} {w : World} (h : StAt w cells s) (hp : (ser s).length ≤ 90000) : Calls Tryz.prog 10 #[.agg cells.toArray] w fun e w' => e = .returned (.int .u64 (fnv (stBytes s))) ∧ Below w.heap.size w w' := by
  have HP := hide hp
  obtain ⟨ta, tc, oa, oc, ua, uc, rfl⟩ := h.form
  have H := hide h
  have hb := hide (bytes_len hp)
  clear h hp
  go_enter Tryz.func10, Tryz.ntmps10
  go_wp2_with (first
    | (go_at_call 8
       (
         (with_reducible refine (refBytes (H.out.below (one w _)) HP.out).mono ?_)
         rintro e w1 ⟨v, rfl, hv, hb1⟩
         have HR := hide (ReadsB.of hv hb.out (stBytes_byte s))
         have HB1 := hide ((one w _).trans (hb1.mono (one w _).size))
         clear hv hb1))
    | (go_at_call 20
       (
         (with_reducible refine (fnvRef HR.out).mono ?_)
         rintro e w2 ⟨rfl, rfl⟩))
    | fail)
  go_ret
  exact ⟨rfl, HB1.out⟩
end Go.Proofs.YtgfiociglimoaaaGreatDoor.Ms
