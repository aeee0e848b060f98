import Derived.Test.YtmgegkgelecopaaGreatDoorRkJ2
import Derived.Test.YtmgegkgelecopaaGreatDoorRkQ
set_option maxRecDepth 100000
namespace Go.Proofs.YtmgegkgelecopaaGreatDoor.Rk
open Go Go.Ms Go.Pg Go.Rk Go.ChangeShapes Go.WideShapes Go.ChangeAt Go.RowKit Go.Deep

/-! The specification's own arithmetic of fractions. -/
theorem neg_ok {k : Int} {a : Fr} (h : Bd k a) : Bd k (-a.1, a.2) := ⟨by have := h.2.1; show -k ≤ -a.1; omega, by have := h.1; show -a.1 ≤ k; omega, h.2.2.1, h.2.2.2⟩
theorem frE_zero (n : Int) : frE n 0 = 1 := if_pos rfl

theorem by88 (n d : Int) (hn : M64 n) (hd : M64 d) (w : World) : Calls Tryz.prog 88 #[.int .i64 n, .int .i64 d] w fun e w' => e = .returned (fr (Q n d)) ∧ Below w.heap.size w w' := by
  have mn : I64 n := ⟨by have := hn.1; omega, hn.2⟩
  have md : I64 d := ⟨by have := hd.1; omega, hd.2⟩
  by_cases h0 : d = 0
  · subst h0
    have e0 := frE_zero n
    go_enter Tryz.func88, Tryz.ntmps88
    go_wp2_with (first | (go_at_call 10; refine (fraction10 n 0 mn md _).mono ?_; rintro e w1 ⟨rfl, hB⟩; obtain ⟨c0, c1, f0, f1, hz, HB⟩ := kept (Below.refl w.heap.size w) hB; clear hB) | fail)
    have hle := Nat.le_of_lt hz
    refine bodyPost_ret (v := .agg #[.int .i64 0, .int .i64 1]) (by simp [results, Tryz.results88, go_sem, c0, c1, hz]) rfl ⟨?_, ?_⟩
    · unfold Q qN qD
      rw [if_pos rfl, if_pos rfl]
    · first
        | exact ((HB.out.setCell (Nat.le_refl _) _).setCell (Nat.le_refl _) _).alloc (by simpa using hle) _
        | exact ((HB.out.alloc hle _).setCell (Nat.le_refl _) _).setCell (Nat.le_refl _) _
  · have e0 := frE_ok hn hd h0
    go_enter Tryz.func88, Tryz.ntmps88
    go_wp2_with (first | (go_at_call 10; refine (fraction10 n d mn md _).mono ?_; rintro e w1 ⟨rfl, hB⟩; obtain ⟨c0, c1, f0, f1, hz, HB⟩ := kept (Below.refl w.heap.size w) hB; clear hB) | fail)
    have hle := Nat.le_of_lt hz
    refine bodyPost_ret (v := .agg #[.int .i64 (frN n d), .int .i64 (frD n d)]) (by simp [results, Tryz.results88, go_sem, c0, c1, hz]) rfl ⟨?_, ?_⟩
    · unfold Q qN qD
      rw [if_neg h0, if_neg h0]
    · first
        | exact ((HB.out.setCell (Nat.le_refl _) _).setCell (Nat.le_refl _) _).alloc (by simpa using hle) _
        | exact ((HB.out.alloc hle _).setCell (Nat.le_refl _) _).setCell (Nat.le_refl _) _

set_option maxHeartbeats 1000000 in
theorem plus89 (a b : Fr) (ha : Ok a) (hb : Ok b) (w : World) : Calls Tryz.prog 89 #[fr a, fr b] w fun e w' => e = .returned (fr (fplus a b)) ∧ Below w.heap.size w w' := by
  obtain ⟨a1, a2⟩ := a
  obtain ⟨b1, b2⟩ := b
  obtain ⟨x1, x2, x3, x4⟩ := ha
  obtain ⟨y1, y2, y3, y4⟩ := hb
  obtain ⟨m1, m2⟩ := ok_mul (a := a1) (b := b2) ⟨x1, x2⟩ ⟨by simp at y3; omega, y4⟩
  obtain ⟨m3, m4⟩ := ok_mul (a := b1) (b := a2) ⟨y1, y2⟩ ⟨by simp at x3; omega, x4⟩
  obtain ⟨m5, m6⟩ := ok_mul (a := a2) (b := b2) ⟨by simp at x3; omega, x4⟩ ⟨by simp at y3; omega, y4⟩
  have hpos : 0 < a2 * b2 := Int.mul_pos (by simp at x3; omega) (by simp at y3; omega)
  have HQ : Hid (Q (a1 * b2 + b1 * a2) (a2 * b2) = (frN (a1 * b2 + b1 * a2) (a2 * b2), frD (a1 * b2 + b1 * a2) (a2 * b2))) := by
    show (_, _) = _
    unfold qN qD
    rw [if_neg (by omega), if_neg (by omega)]
  clear x1 x2 x3 x4 y1 y2 y3 y4
  go_enter Tryz.func89, Tryz.ntmps89
  go_wp2_with (first | (go_at_call 10; refine (fraction10 (a1 * b2 + b1 * a2) (a2 * b2) ⟨by omega, by omega⟩ ⟨by omega, by omega⟩ _).mono ?_; rintro e w1 ⟨rfl, hB⟩; obtain ⟨c0, c1, f0, f1, hz, HB⟩ := kept3 hB; clear hB) | fail)
  have hle := Nat.le_of_lt hz
  refine bodyPost_ret (v := .agg #[.int .i64 (frN (a1 * b2 + b1 * a2) (a2 * b2)), .int .i64 (frD (a1 * b2 + b1 * a2) (a2 * b2))]) (by simp [results, Tryz.results89, go_sem, c0, c1, hz]) rfl ⟨?_, ?_⟩
  · show _ = Ending.returned (fr (Q (a1 * b2 + b1 * a2) (a2 * b2)))
    rw [HQ.out]
  · first
      | exact ((HB.out.setCell (show w.heap.size ≤ w.heap.size + 1 + 1 by omega) _).setCell (show w.heap.size ≤ w.heap.size + 1 + 1 by omega) _).alloc (by simp; omega) _
      | exact ((HB.out.alloc (by omega) _).setCell (show w.heap.size ≤ w.heap.size + 1 + 1 by omega) _).setCell (show w.heap.size ≤ w.heap.size + 1 + 1 by omega) _

set_option maxHeartbeats 1000000 in
theorem less90 (a b : Fr) (ha : Ok a) (hb : Ok b) (w : World) : Calls Tryz.prog 90 #[fr a, fr b] w fun e w' => e = .returned (fr (fminus a b)) ∧ Below w.heap.size w w' := by
  obtain ⟨a1, a2⟩ := a
  obtain ⟨b1, b2⟩ := b
  have HK := Lib.hid (fun w' => plus89 (a1, a2) (-b1, b2) ha ⟨by have := hb.2.1; simp at this ⊢; omega, by have := hb.1; simp at this ⊢; omega, hb.2.2.1, hb.2.2.2⟩ w')
  obtain ⟨y1, y2, y3, y4⟩ := hb
  simp only at y1 y2
  clear y3 y4 ha
  go_enter Tryz.func90, Tryz.ntmps90
  go_wp2_with (first | (go_at_call 89; refine (HK.out _).mono ?_; rintro e w1 ⟨rfl, hB⟩; obtain ⟨c0, c1, f0, f1, hz, HB⟩ := kept3 hB; clear hB) | fail)
  exact bodyPost_ret (v := fr (fplus (a1, a2) (-b1, b2))) (by simp [results, Tryz.results90, go_sem, c0, c1]) rfl ⟨rfl, (HB.out.setCell (show w.heap.size ≤ w.heap.size + 1 + 1 by omega) _).setCell (show w.heap.size ≤ w.heap.size + 1 + 1 by omega) _⟩

set_option maxHeartbeats 1000000 in
theorem over87 (a b : Fr) (ha : Ok a) (hb : Ok b) (w : World) : Calls Tryz.prog 87 #[fr a, fr b] w fun e w' => e = .returned (fr (fover a b)) ∧ Below w.heap.size w w' := by
  obtain ⟨a1, a2⟩ := a
  obtain ⟨b1, b2⟩ := b
  obtain ⟨x1, x2, x3, x4⟩ := ha
  obtain ⟨y1, y2, y3, y4⟩ := hb
  obtain ⟨m1, m2⟩ := ok_mul (a := a1) (b := b2) ⟨x1, x2⟩ ⟨by simp at y3; omega, y4⟩
  obtain ⟨m3, m4⟩ := ok_mul (a := a2) (b := b1) ⟨by simp at x3; omega, x4⟩ ⟨y1, y2⟩
  clear x1 x2 x3 x4 y1 y2 y3 y4
  by_cases h0 : a2 * b1 = 0
  · have e0 : frE (a1 * b2) (a2 * b1) = 1 := if_pos h0
    have HQ : Hid (Q (a1 * b2) (a2 * b1) = (0, 1)) := by
      show (_, _) = _
      unfold qN qD
      rw [if_pos h0, if_pos h0]
    clear h0
    go_enter Tryz.func87, Tryz.ntmps87
    go_wp2_with (first | (go_at_call 10; refine (fraction10 (a1 * b2) (a2 * b1) ⟨by omega, by omega⟩ ⟨by omega, by omega⟩ _).mono ?_; rintro e w1 ⟨rfl, hB⟩; obtain ⟨c0, c1, f0, f1, hz, HB⟩ := kept3 hB; clear hB) | fail)
    have hle := Nat.le_of_lt hz
    refine bodyPost_ret (v := .agg #[.int .i64 0, .int .i64 1]) (by simp [results, Tryz.results87, go_sem, c0, c1, hz]) rfl ⟨?_, ?_⟩
    · show _ = Ending.returned (fr (Q (a1 * b2) (a2 * b1)))
      rw [HQ.out]
    · first
        | exact ((HB.out.setCell (show w.heap.size ≤ w.heap.size + 1 + 1 by omega) _).setCell (show w.heap.size ≤ w.heap.size + 1 + 1 by omega) _).alloc (by simp; omega) _
        | exact ((HB.out.alloc (by omega) _).setCell (show w.heap.size ≤ w.heap.size + 1 + 1 by omega) _).setCell (show w.heap.size ≤ w.heap.size + 1 + 1 by omega) _
  · have e0 : frE (a1 * b2) (a2 * b1) = 0 := frE_ok ⟨by omega, by omega⟩ ⟨by omega, by omega⟩ h0
    have HQ : Hid (Q (a1 * b2) (a2 * b1) = (frN (a1 * b2) (a2 * b1), frD (a1 * b2) (a2 * b1))) := by
      show (_, _) = _
      unfold qN qD
      rw [if_neg h0, if_neg h0]
    clear h0
    go_enter Tryz.func87, Tryz.ntmps87
    go_wp2_with (first | (go_at_call 10; refine (fraction10 (a1 * b2) (a2 * b1) ⟨by omega, by omega⟩ ⟨by omega, by omega⟩ _).mono ?_; rintro e w1 ⟨rfl, hB⟩; obtain ⟨c0, c1, f0, f1, hz, HB⟩ := kept3 hB; clear hB) | fail)
    have hle := Nat.le_of_lt hz
    refine bodyPost_ret (v := .agg #[.int .i64 (frN (a1 * b2) (a2 * b1)), .int .i64 (frD (a1 * b2) (a2 * b1))]) (by simp [results, Tryz.results87, go_sem, c0, c1, hz]) rfl ⟨?_, ?_⟩
    · show _ = Ending.returned (fr (Q (a1 * b2) (a2 * b1)))
      rw [HQ.out]
    · first
        | exact ((HB.out.setCell (show w.heap.size ≤ w.heap.size + 1 + 1 by omega) _).setCell (show w.heap.size ≤ w.heap.size + 1 + 1 by omega) _).alloc (by simp; omega) _
        | exact ((HB.out.alloc (by omega) _).setCell (show w.heap.size ≤ w.heap.size + 1 + 1 by omega) _).setCell (show w.heap.size ≤ w.heap.size + 1 + 1 by omega) _
end Go.Proofs.YtmgegkgelecopaaGreatDoor.Rk

set_option maxRecDepth 100000
namespace Go.Proofs.YtmgegkgelecopaaGreatDoor.Rk
open Go Go.Ms Go.Pg Go.Rk Go.ChangeShapes Go.WideShapes Go.ChangeAt Go.RowKit Go.Deep

def refOf (f : Nat) (x : Cn) : Fr :=
  match f with
  | 1 => fover (Q x.h x.f) (fplus (Q x.h x.f) (Q x.q x.p))
  | 2 => Q (x.h * x.h) (x.f * (x.h + x.q))
  | 3 => Q x.h (x.f + x.q)
  | 4 => Q (2 * x.h) (x.f + x.h + x.q)
  | 5 => fover (fplus (Q x.h x.f) (Q x.h (x.h + x.q))) (Q 2 1)
  | 6 => if x.q + x.m = 0 then Q (2 * x.h * x.h) 1 else Q (x.h * x.h) (x.q + x.m)
  | 7 => fminus (Q x.h 1) (Q x.q (x.p + 1))
  | 8 => Q x.h (x.h + x.q)
  | 9 => ((if (fminus (Q x.h x.f) (Q x.q x.p)).1 < 0 then -(fminus (Q x.h x.f) (Q x.q x.p)).1 else (fminus (Q x.h x.f) (Q x.q x.p)).1), (fminus (Q x.h x.f) (Q x.q x.p)).2)
  | 10 => fminus (Q x.h 1) (if 10 < x.q then Q (2790 + x.q) 1000 else if 2 < x.q then Q (18 + x.q) 10 else Q x.q 1)
  | 11 => Q x.h (x.f + x.p)
  | 12 => Q (x.h + x.r) (x.f + x.p)
  | 13 => fplus (Q x.h 1) (Q x.h (2 * x.q + x.h))
  | 14 => Q (x.h * x.h) (x.h * (x.f + x.q) + 10000 * x.m * x.q)
  | _ => (0, 0)
end Go.Proofs.YtmgegkgelecopaaGreatDoor.Rk

