import Derived.Test.YtinllamocplgjaaRcB
set_option maxRecDepth 100000
namespace Go.Proofs.Ytinllamocplgjaa.Rc
open Go Go.Ms Go.Il Go.Pg Go.Rc Go.ChangeShapes Go.WideShapes Go.ChangeAt Go.RowKit Go.Deep

theorem EI : IntElem Try.prog 22 3 .i64 8 := IntElem.mk Try.underlying22 (by kernel_rfl)
theorem one (w : World) (x : Obj) : Below w.heap.size w (w.alloc x) := (Below.refl _ w).alloc (Nat.le_refl _) x
theorem own_empty (w : World) {B : Nat} (hB : B ≤ w.heap.size) (c : Array Value) (hc : c.size = 0) : Il.Own 3 .i64 B (w.alloc (.cells c 3)) (.slice (some ⟨w.heap.size, 0, none⟩) 0 0) [] := by
  refine ⟨rfl, .inr ⟨w.heap.size, 0, c, rfl, hB, new_block w _, Nat.le_refl _, by simp [maxLen], by simp [hc], ?_⟩⟩
  simp

theorem own_row {w : World} {B : Nat} {v : Value} {l : List Int} (h : Il.Own 3 .i64 B w v l) (hw : ∀ x ∈ l, WfI .i64 x) (hl : l.length ≤ 140737488351232) : RowAt 1 (NumAt .i64) w v l := by
  obtain ⟨oa, cap, rfl, hc⟩ := h.at
  refine ⟨oa, cap, rfl, hl, fun i hi => ?_⟩
  obtain ⟨g, e, hcell⟩ := hc i hi
  exact ⟨g, 0, e, by simpa using hcell, hw _ (List.getElem_mem hi)⟩
theorem row_wf {w : World} {v : Value} {l : List Int} (h : RowAt 1 (NumAt .i64) w v l) : ∀ x ∈ l, WfI .i64 x := by
  obtain ⟨oa, cap, _, _, hc⟩ := h
  intro x hx
  obtain ⟨i, hi, rfl⟩ := List.getElem_of_mem hx
  obtain ⟨b, o, _, hP⟩ := hc i hi
  exact hP.2

set_option maxHeartbeats 4000000 in
theorem clone {w : World} {v : Value} {l : List Int} (h : RowAt 1 (NumAt .i64) w v l) (hl : l.length ≤ 1000000) :
    Calls Try.prog 26 #[v] w fun e w' => ∃ v', e = .returned v' ∧ Below w.heap.size w w' ∧ Il.Own 3 .i64 w.heap.size w' v' l := by
  have HR := hide h
  obtain ⟨oa, cap, rfl, hla, ha⟩ := h
  have H0 : Hid (oa = none → l = []) := fun e => by
    subst e
    cases l with
    | nil => rfl
    | cons x l =>
      obtain ⟨b, o, e, _⟩ := ha 0 (by simp)
      cases e
  clear ha
  go_enter Try.func26, Try.ntmps26
  rcases oa with _ | ad
  · have he : ∀ w : World, (binOp .eql 22 (.slice none l.length cap) (.slice none 0 0)).run Try.prog w = .ok (.bool true) w := fun _ => rfl
    go_wp2_with fail
    go_ret
    have e := H0.out (by first | rfl | trivial)
    subst e
    exact ⟨_, rfl, Below.refl _ _, Own.nil _ _ _ _⟩
  · have he : ∀ w : World, (binOp .eql 22 (.slice (some ad) l.length cap) (.slice none 0 0)).run Try.prog w = .ok (.bool false) w := fun _ => rfl
    go_wp2_with (first
      | (at_builtin
         (refine wpl_pushRow EI (by decide) rfl (.tmp 5) (.tmp 6) rfl (own_empty w (Nat.le_refl _) _ rfl) HR.out ((Below.refl _ w).alloc (Nat.le_refl _) _) (by simp) rfl rfl (by simp; omega) ?_
          intro v1 w1 ho1 hs1
          have HO1 : Hid (Il.Own 3 .i64 w.heap.size w1 v1 l) := ho1
          have HS1 : Hid (Below w.heap.size w w1) := (one w _).trans hs1.below
          clear ho1 hs1))
      | fail)
    go_ret
    exact ⟨_, rfl, HS1.out, HO1.out⟩
end Go.Proofs.Ytinllamocplgjaa.Rc
