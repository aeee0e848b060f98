import Derived.Test.YtkcjdmhcneapcaaGreatDoorBinA
set_option maxRecDepth 100000
namespace Go.Proofs.YtkcjdmhcneapcaaGreatDoor.Bin
open Go.ChangeShapes Go.WideShapes Go.ChangeAt Go.RowKit

set_option maxHeartbeats 8000000 in
set_option linter.unusedSimpArgs false in
theorem law4 (ka na kb nb : Int) : Law 4 ka na kb nb := by
  intro w x hx hl
  go_enter Tryz.func3, Tryz.ntmps3
  go_wp2_with (first | (go_at_call 7; refine (hl _ ?_).mono ?_; rotate_left; rintro e w' ⟨rfl, hB⟩) | go_in)
  all_goals first
    | (go_returns; first
      | (exact ⟨rfl, Below.trans (by go_grown) (Below.mono hB (by go_size))⟩)
      | (exfalso; simp_all; done)
      | (exfalso; simp_all; omega)
      | (exfalso; subst_vars; simp_all; done)
      | (exfalso; subst_vars; simp_all [wrap64]; done))
    | (have h0 : 0 < w.heap.size := (Array.getElem?_eq_some_iff.1 hx).1
       repeat rw [Below.heap_alloc _ _ _ (by simp only [World.size_alloc]; omega)]
       first | exact hx | (rw [Below.heap_alloc _ _ _ h0]; exact hx))
    | (exfalso; simp_all; done)
    | (exfalso; subst_vars; simp_all; done)
    | (exfalso; subst_vars; simp_all [wrap64]; done)

set_option maxHeartbeats 8000000 in
set_option linter.unusedSimpArgs false in
theorem law6 (ka na kb nb : Int) : Law 6 ka na kb nb := by
  intro w x hx hl
  go_enter Tryz.func3, Tryz.ntmps3
  go_wp2_with (first | (go_at_call 7; refine (hl _ ?_).mono ?_; rotate_left; rintro e w' ⟨rfl, hB⟩) | go_in)
  all_goals first
    | (go_returns; first
      | (exact ⟨rfl, Below.trans (by go_grown) (Below.mono hB (by go_size))⟩)
      | (exfalso; simp_all; done)
      | (exfalso; simp_all; omega)
      | (exfalso; subst_vars; simp_all; done)
      | (exfalso; subst_vars; simp_all [wrap64]; done))
    | (have h0 : 0 < w.heap.size := (Array.getElem?_eq_some_iff.1 hx).1
       repeat rw [Below.heap_alloc _ _ _ (by simp only [World.size_alloc]; omega)]
       first | exact hx | (rw [Below.heap_alloc _ _ _ h0]; exact hx))
    | (exfalso; simp_all; done)
    | (exfalso; subst_vars; simp_all; done)
    | (exfalso; subst_vars; simp_all [wrap64]; done)

set_option maxHeartbeats 8000000 in
set_option linter.unusedSimpArgs false in
theorem law8 (ka na kb nb : Int) : Law 8 ka na kb nb := by
  intro w x hx hl
  go_enter Tryz.func3, Tryz.ntmps3
  go_wp2_with (first | (go_at_call 7; refine (hl _ ?_).mono ?_; rotate_left; rintro e w' ⟨rfl, hB⟩) | go_in)
  all_goals first
    | (go_returns; first
      | (exact ⟨rfl, Below.trans (by go_grown) (Below.mono hB (by go_size))⟩)
      | (exfalso; simp_all; done)
      | (exfalso; simp_all; omega)
      | (exfalso; subst_vars; simp_all; done)
      | (exfalso; subst_vars; simp_all [wrap64]; done))
    | (have h0 : 0 < w.heap.size := (Array.getElem?_eq_some_iff.1 hx).1
       repeat rw [Below.heap_alloc _ _ _ (by simp only [World.size_alloc]; omega)]
       first | exact hx | (rw [Below.heap_alloc _ _ _ h0]; exact hx))
    | (exfalso; simp_all; done)
    | (exfalso; subst_vars; simp_all; done)
    | (exfalso; subst_vars; simp_all [wrap64]; done)
end Go.Proofs.YtkcjdmhcneapcaaGreatDoor.Bin
