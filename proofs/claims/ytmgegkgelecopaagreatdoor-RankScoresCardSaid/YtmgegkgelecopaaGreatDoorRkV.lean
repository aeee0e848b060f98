import Derived.Test.YtmgegkgelecopaaGreatDoorRkU0
set_option maxRecDepth 100000
namespace Go.Proofs.YtmgegkgelecopaaGreatDoor.Rk
open Go Go.Ms Go.Pg Go.Rk Go.ChangeShapes Go.WideShapes Go.ChangeAt Go.RowKit Go.Deep

/-! What the code makes of the counts is what the specification makes of them. -/
theorem over_whole (a b : Int) : fover (a, 1) (b, 1) = Q a b := by
  show Q (a * 1) (1 * b) = Q a b
  rw [Int.mul_one, Int.one_mul]
theorem m64 {n : Int} (h : -1000000000000000000 ≤ n ∧ n ≤ 1000000000000000000) : M64 n := ⟨by omega, by omega⟩
theorem damp_ref {q : Int} (h1 : 0 ≤ q) (h2 : q ≤ 64) : (if q ≤ 2 then ((q, 1) : Fr) else if q ≤ 10 then fplus (2, 1) (Q (q - 2) 10) else fplus (Q 28 10) (Q (q - 10) 1000)) = (if 10 < q then Q (2790 + q) 1000 else if 2 < q then Q (18 + q) 10 else Q q 1) := by
  have one : ∀ {n d : Int}, (-20000 ≤ n ∧ n ≤ 20000) → (0 < d ∧ d ≤ 20000) → M64 n ∧ M64 d := fun hn hd => ⟨⟨by omega, by omega⟩, ⟨by omega, by omega⟩⟩
  by_cases a : q ≤ 2
  · rw [if_pos a, if_neg (by omega), if_neg (by omega), Q_one ⟨by omega, by omega⟩]
  · by_cases b : q ≤ 10
    · rw [if_neg a, if_pos b, if_neg (by omega), if_pos (by omega)]
      have m := one (n := q - 2) (d := 10) ⟨by omega, by omega⟩ ⟨by omega, by omega⟩
      have c := q_cross m.1 m.2 (by omega)
      have bd := Q_bd (k := 64) (n := q - 2) (d := 10) (by decide) (by decide) ⟨by omega, by omega⟩ ⟨by omega, by omega⟩
      obtain ⟨y1, y2, y3, y4⟩ := bd
      show Q (2 * qD (q - 2) 10 + qN (q - 2) 10 * 1) (1 * qD (q - 2) 10) = Q (18 + q) 10
      have y1 : -64 ≤ qN (q - 2) 10 := y1
      have y2 : qN (q - 2) 10 ≤ 64 := y2
      have y3 : 1 ≤ qD (q - 2) 10 := y3
      have y4 : qD (q - 2) 10 ≤ 64 := y4
      generalize qN (q - 2) 10 = N at *
      generalize qD (q - 2) 10 = D at *
      refine q_ext (m64 ⟨by omega, by omega⟩) (m64 ⟨by omega, by omega⟩) (m64 ⟨by omega, by omega⟩) (m64 ⟨by omega, by omega⟩) (by omega) (by omega) ?_
      grind
    · rw [if_neg a, if_neg b, if_pos (by omega)]
      have m := one (n := q - 10) (d := 1000) ⟨by omega, by omega⟩ ⟨by omega, by omega⟩
      have c := q_cross m.1 m.2 (by omega)
      have m' := one (n := 28) (d := 10) ⟨by omega, by omega⟩ ⟨by omega, by omega⟩
      have c' := q_cross m'.1 m'.2 (by omega)
      have bd := Q_bd (k := 1000) (n := q - 10) (d := 1000) (by decide) (by decide) ⟨by omega, by omega⟩ ⟨by omega, by omega⟩
      have bd' := Q_bd (k := 1000) (n := 28) (d := 10) (by decide) (by decide) ⟨by omega, by omega⟩ ⟨by omega, by omega⟩
      obtain ⟨y1, y2, y3, y4⟩ := bd
      obtain ⟨z1, z2, z3, z4⟩ := bd'
      show Q (qN 28 10 * qD (q - 10) 1000 + qN (q - 10) 1000 * qD 28 10) (qD 28 10 * qD (q - 10) 1000) = Q (2790 + q) 1000
      have y1 : -1000 ≤ qN (q - 10) 1000 := y1
      have y2 : qN (q - 10) 1000 ≤ 1000 := y2
      have y3 : 1 ≤ qD (q - 10) 1000 := y3
      have y4 : qD (q - 10) 1000 ≤ 1000 := y4
      have z1 : -1000 ≤ qN 28 10 := z1
      have z2 : qN 28 10 ≤ 1000 := z2
      have z3 : 1 ≤ qD 28 10 := z3
      have z4 : qD 28 10 ≤ 1000 := z4
      generalize qN (q - 10) 1000 = N at *
      generalize qD (q - 10) 1000 = D at *
      generalize qN 28 10 = A at *
      generalize qD 28 10 = B at *
      have p1 := mul_bd (a := A) (b := D) (A := 1000) (B := 1000) ⟨z1, z2⟩ ⟨by omega, y4⟩
      have p2 := mul_bd (a := N) (b := B) (A := 1000) (B := 1000) ⟨y1, y2⟩ ⟨by omega, z4⟩
      have p3 := mul_bd (a := B) (b := D) (A := 1000) (B := 1000) ⟨by omega, z4⟩ ⟨by omega, y4⟩
      have p4 : 0 < B * D := Int.mul_pos (by omega) (by omega)
      refine q_ext (m64 ⟨by omega, by omega⟩) (m64 ⟨by omega, by omega⟩) (m64 ⟨by omega, by omega⟩) (m64 ⟨by omega, by omega⟩) p4 (by omega) ?_
      grind
theorem gp_ref {h q : Int} (hh : 0 ≤ h ∧ h ≤ 64) (hq : 0 ≤ q ∧ q ≤ 64) : ftimes (h, 1) (fplus (1, 1) (Q 1 (2 * q + h))) = fplus (h, 1) (Q h (2 * q + h)) := by
  by_cases z : 2 * q + h = 0
  · obtain rfl : h = 0 := by omega
    obtain rfl : q = 0 := by omega
    decide
  · have zp : 0 < 2 * q + h := by omega
    have zl : 2 * q + h ≤ 192 := by omega
    generalize 2 * q + h = s at *
    have bd := Q_bd (k := 192) (n := 1) (d := s) (by decide) (by decide) ⟨by omega, by omega⟩ ⟨by omega, by omega⟩
    have bd' := Q_bd (k := 192) (n := h) (d := s) (by decide) (by decide) ⟨by omega, by omega⟩ ⟨by omega, by omega⟩
    have c := q_cross (n := 1) (d := s) ⟨by omega, by omega⟩ ⟨by omega, by omega⟩ zp
    have c' := q_cross (n := h) (d := s) ⟨by omega, by omega⟩ ⟨by omega, by omega⟩ zp
    obtain ⟨y1, y2, y3, y4⟩ := bd
    obtain ⟨z1, z2, z3, z4⟩ := bd'
    have y1 : -192 ≤ qN 1 s := y1
    have y2 : qN 1 s ≤ 192 := y2
    have y3 : 1 ≤ qD 1 s := y3
    have y4 : qD 1 s ≤ 192 := y4
    have z1 : -192 ≤ qN h s := z1
    have z2 : qN h s ≤ 192 := z2
    have z3 : 1 ≤ qD h s := z3
    have z4 : qD h s ≤ 192 := z4
    show Q (h * qN (1 * qD 1 s + qN 1 s * 1) (1 * qD 1 s)) (1 * qD (1 * qD 1 s + qN 1 s * 1) (1 * qD 1 s)) = Q (h * qD h s + qN h s * 1) (1 * qD h s)
    generalize qN 1 s = N at *
    generalize qD 1 s = D at *
    generalize qN h s = A at *
    generalize qD h s = B at *
    have e := q_cross (n := 1 * D + N * 1) (d := 1 * D) ⟨by omega, by omega⟩ ⟨by omega, by omega⟩ (by omega)
    have be := Q_bd (k := 400) (n := 1 * D + N * 1) (d := 1 * D) (by decide) (by decide) ⟨by omega, by omega⟩ ⟨by omega, by omega⟩
    obtain ⟨x1, x2, x3, x4⟩ := be
    have x1 : -400 ≤ qN (1 * D + N * 1) (1 * D) := x1
    have x2 : qN (1 * D + N * 1) (1 * D) ≤ 400 := x2
    have x3 : 1 ≤ qD (1 * D + N * 1) (1 * D) := x3
    have x4 : qD (1 * D + N * 1) (1 * D) ≤ 400 := x4
    generalize qN (1 * D + N * 1) (1 * D) = U at *
    generalize qD (1 * D + N * 1) (1 * D) = V at *
    have p1 := mul_bd (a := h) (b := U) (A := 64) (B := 400) ⟨by omega, by omega⟩ ⟨x1, x2⟩
    have p2 := mul_bd (a := h) (b := B) (A := 64) (B := 192) ⟨by omega, by omega⟩ ⟨by omega, z4⟩
    refine q_ext (m64 ⟨by omega, by omega⟩) (m64 ⟨by omega, by omega⟩) (m64 ⟨by omega, by omega⟩) (m64 ⟨by omega, by omega⟩) (by omega) (by omega) ?_
    have k : (s * D) * (h * U * (1 * B)) = (s * D) * ((h * B + A * 1) * (1 * V)) := by grind
    exact Int.eq_of_mul_eq_mul_left (by have := Int.mul_pos zp (by omega : 0 < D); omega) k

theorem score_ref (f : Nat) (x : Cn) (hx : Small x) : scoreOf f x = refOf f x := by
  obtain ⟨⟨h1, h2⟩, ⟨q1, q2⟩, ⟨m1, m2⟩, ⟨r1, r2⟩, ⟨f1, f2⟩, ⟨p1, p2⟩⟩ := hx
  have hone : Q x.h 1 = (x.h, 1) := Q_one ⟨by omega, by omega⟩
  unfold scoreOf refOf
  split
  · rfl
  · exact over_whole _ _
  · exact over_whole _ _
  · exact over_whole _ _
  · show _ = fover (fplus (Q x.h x.f) (Q x.h (x.h + x.q))) (Q 2 1)
    rw [show Q 2 1 = (2, 1) by decide]
  · unfold stray
    split
    · rw [show Q 1 2 = (1, 2) by decide]
      show Q (x.h * x.h * 2) (1 * 1) = Q (2 * x.h * x.h) 1
      have e : x.h * x.h * 2 = 2 * x.h * x.h := by grind
      rw [e]
      rfl
    · exact over_whole _ _
  · show _ = fminus (Q x.h 1) (Q x.q (x.p + 1))
    rw [hone]
  · exact over_whole _ _
  · show _ = ((if (fminus (Q x.h x.f) (Q x.q x.p)).1 < 0 then -(fminus (Q x.h x.f) (Q x.q x.p)).1 else (fminus (Q x.h x.f) (Q x.q x.p)).1), (fminus (Q x.h x.f) (Q x.q x.p)).2)
    unfold fgap
    generalize fminus (Q x.h x.f) (Q x.q x.p) = d
    by_cases k : d.1 < 0
    · rw [if_pos k, if_neg (by omega)]
    · rw [if_neg k, if_pos (by omega)]
  · show _ = fminus (Q x.h 1) (if 10 < x.q then Q (2790 + x.q) 1000 else if 2 < x.q then Q (18 + x.q) 10 else Q x.q 1)
    rw [hone]
    unfold damp
    rw [damp_ref q1 q2]
  · exact over_whole _ _
  · exact over_whole _ _
  · show _ = fplus (Q x.h 1) (Q x.h (2 * x.q + x.h))
    rw [hone]
    exact gp_ref ⟨h1, h2⟩ ⟨q1, q2⟩
  · exact over_whole _ _
  · rename_i n1 n2 n3 n4 n5 n6 n7 n8 n9 n10 n11 n12 n13 n14
    split <;> first | rfl | contradiction
end Go.Proofs.YtmgegkgelecopaaGreatDoor.Rk
