import Derived.Test.YtinllamocplgjaaNoP
set_option maxRecDepth 100000
namespace Go.Proofs.Ytinllamocplgjaa.No
open Go Go.Ms Go.Pg Go.Rc Go.No Go.ChangeShapes Go.WideShapes Go.ChangeAt Go.RowKit Go.Deep Go.Shelf Go.Proofs.Ytinllamocplgjaa.Rc

theorem own_le {B : Nat} {w : World} {oa : Option Addr} {n cap : Nat} {l : List Pick} (h : OwnP B w (.slice oa n cap) l) : n ≤ cap := by
  have hl : n = l.length := by
    obtain ⟨oa', cap', e⟩ := h.form
    injection e
  rcases h.2 with ⟨e, e0⟩ | ⟨g, cap2, cur, e, _, _, hc, _⟩
  · omega
  · injection e with _ _ e3
    omega

set_option maxHeartbeats 8000000 in
theorem joinOut {w : World} {v : Value} {l : List Pick} {z : Int} (h : Picks w v l) (hl : l.length ≤ 100000) (h0 : err 65536 l = 0) (hz : ¬ (0 ≤ z ∧ z < (norm l).length)) :
    Calls Try.prog 16 #[v, .int .i64 z] w fun e w' => (∃ v', e = .returned (.tuple #[v', .int .i64 7])) ∧ Below w.heap.size w w' := by
  have HW := hide h
  have HZ := hide h0
  have D : Hid (decide (0 ≤ z ∧ z < ((norm l).length : Int)) = false) := decide_eq_false hz
  obtain ⟨oa0, ca0, rfl, _, _⟩ := h
  clear h0 hz
  go_enter Try.func16, Try.ntmps16
  go_wp2_with (first
    | (go_at_call 12
       (with_reducible refine (normalProg HW.out hl).mono ?_)
       rintro e w1 hN
       obtain ⟨oa, cap, rfl, hB1, hO1⟩ := zero_normal hN HZ.out
       have HB1 := hide hB1
       clear hN hB1 hO1)
    | (go_at_call 29
       (with_reducible refine (isNum D.out).mono ?_)
       rintro e _ ⟨rfl, rfl⟩)
    | fail)
  go_ret2
  exact ⟨⟨_, rfl⟩, HB1.out⟩

set_option maxHeartbeats 8000000 in
theorem joinGone {w : World} {v : Value} {l : List Pick} {a : Nat} (h : Picks w v l) (hl : l.length ≤ 100000) (h0 : err 65536 l = 0) (ha : a < (norm l).length) (hg : gone (norm l) a = true) :
    Calls Try.prog 16 #[v, .int .i64 a] w fun e w' => (∃ v', e = .returned (.tuple #[v', .int .i64 7])) ∧ Below w.heap.size w w' := by
  have HW := hide h
  have HZ := hide h0
  have HA := hide ha
  have D : Hid (decide (0 ≤ (a : Int) ∧ (a : Int) < ((norm l).length : Int)) = true) := decide_eq_true (by omega)
  have G : Hid (decide ((a : Int) < later (norm l) a) = false) := by
    unfold gone at hg
    exact hide (by simpa using hg)
  obtain ⟨oa0, ca0, rfl, _, _⟩ := h
  clear h0 ha hg
  go_enter Try.func16, Try.ntmps16
  go_wp2_with (first
    | (go_at_call 12
       (with_reducible refine (normalProg HW.out hl).mono ?_)
       rintro e w1 hN
       obtain ⟨oa, cap, rfl, hB1, hO1⟩ := zero_normal hN HZ.out
       have HB1 := hide hB1
       have HP1 := hide (norm_row hO1 HZ.out hl)
       clear hN hB1 hO1)
    | (go_at_call 29
       (with_reducible refine (isNum D.out).mono ?_)
       rintro e _ ⟨rfl, rfl⟩)
    | (go_at_call 34
       (with_reducible refine (isPreemption HP1.out a HA.out).mono ?_)
       rintro e _ ⟨he, nd, rfl⟩
       rw [G.out] at he
       subst he)
    | fail)
  go_ret2
  exact ⟨⟨_, rfl⟩, HB1.out.trans (belowN _ _ _)⟩

set_option maxHeartbeats 8000000 in
theorem joinSome {w : World} {v : Value} {l : List Pick} {a n : Nat} (h : Picks w v l) (hl : l.length ≤ 100000) (h0 : err 65536 l = 0) (ha : a < (norm l).length) (hg : later (norm l) a = n) (han : a < n) (hn : n < (norm l).length) :
    Calls Try.prog 16 #[v, .int .i64 a] w fun e w' => ∃ oa cap, e = .returned (.tuple #[.slice oa (norm (moved (norm l) a n)).length cap, .int .i64 0]) ∧ Below w.heap.size w w' ∧ OwnP w.heap.size w' (.slice oa (norm (moved (norm l) a n)).length cap) (norm (moved (norm l) a n)) := by
  have HW := hide h
  have HZ := hide h0
  have HA := hide ha
  have D : Hid (decide (0 ≤ (a : Int) ∧ (a : Int) < ((norm l).length : Int)) = true) := decide_eq_true (by omega)
  have G : Hid (decide ((a : Int) < later (norm l) a) = true) := hide (decide_eq_true (by omega))
  have HJ : Hid (later (norm l) a = n ∧ a < n ∧ n < (norm l).length ∧ err 65536 (norm l) = 0 ∧ (norm l).length ≤ 100000) := hide ⟨hg, han, hn, norm_err h0, Nat.le_trans (norm_length l) hl⟩
  obtain ⟨oa0, ca0, rfl, _, _⟩ := h
  clear h0 ha hg han hn
  go_enter Try.func16, Try.ntmps16
  go_wp2_with (first
    | (go_at_call 12
       (with_reducible refine (normalProg HW.out hl).mono ?_)
       rintro e w1 hN
       obtain ⟨oa, cap, rfl, hB1, hO1⟩ := zero_normal hN HZ.out
       have HB1 := hide hB1
       have HP1 := hide (norm_row hO1 HZ.out hl)
       have HC1 := hide (own_le hO1)
       clear hN hB1 hO1)
    | (go_at_call 29
       (with_reducible refine (isNum D.out).mono ?_)
       rintro e _ ⟨rfl, rfl⟩)
    | (go_at_call 34
       (with_reducible refine (isPreemption HP1.out a HA.out).mono ?_)
       rintro e _ ⟨he, nd, rfl⟩
       rw [G.out] at he
       subst he)
    | (go_at_call 35
       (with_reducible refine (joinedProg (picks_drewN HP1.out _) HC1.out HJ.out.2.2.2.2 HJ.out.2.2.2.1 HA.out HJ.out.1 HJ.out.2.1 HJ.out.2.2.1).mono ?_)
       rintro e w3 ⟨u3, rfl, hB3, hO3⟩
       obtain ⟨oa3, cap3, rfl⟩ := hO3.form
       have HB3 := hide (((belowN _ _ _).trans hB3).mono HB1.out.size)
       have HO3 := hide (own_base hO3 HB1.out.size)
       clear hB3 hO3)
    | fail)
  go_ret2
  exact ⟨_, _, rfl, HB1.out.trans HB3.out, HO3.out⟩
end Go.Proofs.Ytinllamocplgjaa.No
