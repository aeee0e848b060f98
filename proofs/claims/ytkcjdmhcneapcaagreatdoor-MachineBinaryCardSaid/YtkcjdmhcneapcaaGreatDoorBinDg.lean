import Derived.Test.YtkcjdmhcneapcaaGreatDoorBinA
set_option maxRecDepth 100000
namespace Go.Proofs.YtkcjdmhcneapcaaGreatDoor.Bin
open Go.ChangeShapes Go.WideShapes Go.ChangeAt Go.RowKit

set_option maxHeartbeats 8000000 in
set_option linter.unusedSimpArgs false in
theorem law3z (na : Int) : Law 3 0 na 0 0 := by
  intro w x hx hl
  go_enter Tryz.func3, Tryz.ntmps3
  go_wp2_with (first | (go_at_call 7; refine (hl _ ?_).mono ?_; rotate_left; rintro e w' ⟨rfl, hB⟩) | go_in)
  all_goals first
    | (go_returns; first
      | (exact ⟨rfl, Below.trans (by go_grown) (Below.mono hB (by go_size))⟩)
      | (exfalso; simp_all; done)
      | (exfalso; simp_all; omega)
      | (exfalso; subst_vars; simp_all; done)
      | (exfalso; subst_vars; simp_all [wrap64]; done))
    | (have h0 : 0 < w.heap.size := (Array.getElem?_eq_some_iff.1 hx).1
       repeat rw [Below.heap_alloc _ _ _ (by simp only [World.size_alloc]; omega)]
       first | exact hx | (rw [Below.heap_alloc _ _ _ h0]; exact hx))
    | (exfalso; simp_all; done)
    | (exfalso; subst_vars; simp_all; done)
    | (exfalso; subst_vars; simp_all [wrap64]; done)

set_option maxHeartbeats 8000000 in
set_option linter.unusedSimpArgs false in
theorem law3m (na : Int) : Law 3 0 na 0 (-1) := by
  intro w x hx hl
  go_enter Tryz.func3, Tryz.ntmps3
  go_wp2_with (first | (go_at_call 7; refine (hl _ ?_).mono ?_; rotate_left; rintro e w' ⟨rfl, hB⟩) | go_in)
  all_goals first
    | (go_returns; first
      | (exact ⟨rfl, Below.trans (by go_grown) (Below.mono hB (by go_size))⟩)
      | (exfalso; simp_all; done)
      | (exfalso; simp_all; omega)
      | (exfalso; subst_vars; simp_all; done)
      | (exfalso; subst_vars; simp_all [wrap64]; done))
    | (have h0 : 0 < w.heap.size := (Array.getElem?_eq_some_iff.1 hx).1
       repeat rw [Below.heap_alloc _ _ _ (by simp only [World.size_alloc]; omega)]
       first | exact hx | (rw [Below.heap_alloc _ _ _ h0]; exact hx))
    | (exfalso; simp_all; done)
    | (exfalso; subst_vars; simp_all; done)
    | (exfalso; subst_vars; simp_all [wrap64]; done)

set_option maxHeartbeats 8000000 in
set_option linter.unusedSimpArgs false in
theorem law3a (na nb : Int) (hy : nb ≠ 0) (hy1 : nb ≠ -1) : Law 3 0 na 0 nb := by
  intro w x hx hl
  go_enter Tryz.func3, Tryz.ntmps3
  go_wp2_with (first | (go_at_call 7; refine (hl _ ?_).mono ?_; rotate_left; rintro e w' ⟨rfl, hB⟩) | go_in)
  all_goals first
    | (go_returns; first
      | (exact ⟨rfl, Below.trans (by go_grown) (Below.mono hB (by go_size))⟩)
      | (exfalso; simp_all; done)
      | (exfalso; simp_all; omega)
      | (exfalso; subst_vars; simp_all; done)
      | (exfalso; subst_vars; simp_all [wrap64]; done))
    | (have h0 : 0 < w.heap.size := (Array.getElem?_eq_some_iff.1 hx).1
       repeat rw [Below.heap_alloc _ _ _ (by simp only [World.size_alloc]; omega)]
       first | exact hx | (rw [Below.heap_alloc _ _ _ h0]; exact hx))
    | (exfalso; simp_all; done)
    | (exfalso; subst_vars; simp_all; done)
    | (exfalso; subst_vars; simp_all [wrap64]; done)

set_option maxHeartbeats 8000000 in
set_option linter.unusedSimpArgs false in
theorem law3b (na kb nb : Int) (hk : kb ≠ 0) (hk2 : (0 : Int) ≠ kb) : Law 3 0 na kb nb := by
  intro w x hx hl
  go_enter Tryz.func3, Tryz.ntmps3
  go_wp2_with (first | (go_at_call 7; refine (hl _ ?_).mono ?_; rotate_left; rintro e w' ⟨rfl, hB⟩) | go_in)
  all_goals first
    | (go_returns; first
      | (exact ⟨rfl, Below.trans (by go_grown) (Below.mono hB (by go_size))⟩)
      | (exfalso; simp_all; done)
      | (exfalso; simp_all; omega)
      | (exfalso; subst_vars; simp_all; done)
      | (exfalso; subst_vars; simp_all [wrap64]; done))
    | (have h0 : 0 < w.heap.size := (Array.getElem?_eq_some_iff.1 hx).1
       repeat rw [Below.heap_alloc _ _ _ (by simp only [World.size_alloc]; omega)]
       first | exact hx | (rw [Below.heap_alloc _ _ _ h0]; exact hx))
    | (exfalso; simp_all; done)
    | (exfalso; subst_vars; simp_all; done)
    | (exfalso; subst_vars; simp_all [wrap64]; done)

set_option maxHeartbeats 8000000 in
set_option linter.unusedSimpArgs false in
theorem law3c (ka na kb nb : Int) (hk : ka ≠ 0) (hk2 : (0 : Int) ≠ ka) : Law 3 ka na kb nb := by
  intro w x hx hl
  go_enter Tryz.func3, Tryz.ntmps3
  go_wp2_with (first | (go_at_call 7; refine (hl _ ?_).mono ?_; rotate_left; rintro e w' ⟨rfl, hB⟩) | go_in)
  all_goals first
    | (go_returns; first
      | (exact ⟨rfl, Below.trans (by go_grown) (Below.mono hB (by go_size))⟩)
      | (exfalso; simp_all; done)
      | (exfalso; simp_all; omega)
      | (exfalso; subst_vars; simp_all; done)
      | (exfalso; subst_vars; simp_all [wrap64]; done))
    | (have h0 : 0 < w.heap.size := (Array.getElem?_eq_some_iff.1 hx).1
       repeat rw [Below.heap_alloc _ _ _ (by simp only [World.size_alloc]; omega)]
       first | exact hx | (rw [Below.heap_alloc _ _ _ h0]; exact hx))
    | (exfalso; simp_all; done)
    | (exfalso; subst_vars; simp_all; done)
    | (exfalso; subst_vars; simp_all [wrap64]; done)

theorem law3 (ka na kb nb : Int) : Law 3 ka na kb nb := by
  by_cases h : ka = 0
  · subst h
    by_cases h2 : kb = 0
    · subst h2
      by_cases h3 : nb = 0
      · subst h3; exact law3z na
      · by_cases h4 : nb = -1
        · subst h4; exact law3m na
        · exact law3a na nb h3 h4
    · exact law3b na kb nb h2 (Ne.symm h2)
  · exact law3c ka na kb nb h (Ne.symm h)
end Go.Proofs.YtkcjdmhcneapcaaGreatDoor.Bin
