import Derived.Test.YtdpgcoicbagflaaBiP
set_option maxRecDepth 100000
set_option linter.unusedSimpArgs false
set_option linter.unusedVariables false
namespace Go.Proofs.Ytdpgcoicbagflaa.Bi
open Go Go.Ms Go.Pg Go.Bi Go.ChangeShapes Go.WideShapes Go.ChangeAt Go.RowKit Go.Deep

set_option maxHeartbeats 4000000 in
theorem beginRef {w : World} {an : Value} {l : List Int} (h : Vs w w.heap.size an l) (hl : l.length ≤ 4096) :
    Calls Try.prog 29 #[an] w fun e w' => e = .returned (.tuple #[.pointer (some ⟨w.heap.size, 0, none⟩), .bool true]) ∧ Below w.heap.size w w' ∧ w'.heap.size = w.heap.size + 1 ∧ Play w' w.heap.size l 0 false nilV := by
  have HV := hide h
  obtain ⟨oa, cap, rfl, -, -, -⟩ := h
  have t1 : decide ((l.length : Int) ≤ 4096) = true := decide_eq_true (by omega)
  have t2 : decide (l.length ≤ 4096) = true := decide_eq_true hl
  go_enter Try.func29, Try.ntmps29
  go_wp2_with fail
  go_ret2
  exact ⟨rfl, (Below.refl _ _).alloc (Nat.le_refl _) _, by simp, _, new_block w _, vs_wide HV.out ((Below.refl _ _).alloc (Nat.le_refl _) _) (Nat.le_refl _)⟩

set_option maxHeartbeats 4000000 in
theorem endStop {w : World} {g u : Nat} {l : List Int} {e0 : Int} {ow : Option Addr} {nw cw : Nat} {kept pass : Value} (h : Play w g l u true (.slice ow nw cw)) :
    Calls Try.prog 31 #[.pointer (some ⟨g, 0, none⟩), .int .i64 e0, kept, pass] w fun e w' => e = .returned (.tuple #[questV false (.slice ow nw cw) nilV nilV, .int .i64 0]) ∧ Below w.heap.size w w' := by
  obtain ⟨an, hb, hv⟩ := h
  have hg := block_lt hb
  have c4 : w.cell? ⟨g, 4, none⟩ = some (.bool true) := cell_of hb 4
  have c5 : w.cell? ⟨g, 5, none⟩ = some (.slice ow nw cw) := cell_of hb 5
  clear hb hv
  go_enter Try.func31, Try.ntmps31
  go_wp2_with fail
  refine bodyPost_ret (v := .tuple #[questV false (.slice ow nw cw) nilV nilV, .int .i64 0]) (by simp [results, Try.results31, go_sem]) rfl ?_
  exact ⟨rfl, (Below.refl _ _).alloc (Nat.le_refl _) _⟩

set_option maxHeartbeats 4000000 in
theorem endErr {w : World} {g u : Nat} {l : List Int} {e0 : Int} {x : Value} {kept pass : Value} (h : Play w g l u false x) (he : e0 ≠ 0) :
    Calls Try.prog 31 #[.pointer (some ⟨g, 0, none⟩), .int .i64 e0, kept, pass] w fun e w' => e = .returned (.tuple #[questV false nilV nilV nilV, .int .i64 e0]) ∧ Below w.heap.size w w' := by
  obtain ⟨an, hb, hv⟩ := h
  have hg := block_lt hb
  have c4 : w.cell? ⟨g, 4, none⟩ = some (.bool false) := cell_of hb 4
  have t : (e0 == (0 : Int)) = false := beq_false_of_ne he
  clear hb hv he
  go_enter Try.func31, Try.ntmps31
  go_wp2_with fail
  refine bodyPost_ret (v := .tuple #[questV false nilV nilV nilV, .int .i64 e0]) (by simp [results, Try.results31, go_sem]) rfl ?_
  exact ⟨rfl, (Below.refl _ _).alloc (Nat.le_refl _) _⟩

set_option maxHeartbeats 4000000 in
theorem endDone {w : World} {g u : Nat} {l : List Int} {x : Value} {ok : Option Addr} {nk ck : Nat} (h : Play w g l u false x) (hu : u ≤ l.length) :
    Calls Try.prog 31 #[.pointer (some ⟨g, 0, none⟩), .int .i64 0, .slice ok nk ck, nilV] w fun e w' =>
      e = .returned (.tuple (if u < l.length then #[questV false nilV nilV nilV, .int .i64 8] else #[questV true nilV (.slice ok nk ck) nilV, .int .i64 0])) ∧ Below w.heap.size w w' := by
  obtain ⟨an, hb, hv⟩ := h
  have hg := block_lt hb
  obtain ⟨oa, cap, rfl, hlc, hl, -⟩ := hv
  have c0 : w.cell? ⟨g, 0, none⟩ = some (.slice oa l.length cap) := cell_of hb 0
  have c1 : w.cell? ⟨g, 1, none⟩ = some (.int .i64 (u : Int)) := cell_of hb 1
  have c4 : w.cell? ⟨g, 4, none⟩ = some (.bool false) := cell_of hb 4
  clear hb
  by_cases hlt : u < l.length
  · have t1 : decide ((u : Int) < (l.length : Int)) = true := decide_eq_true (by omega)
    have t2 : decide (u < l.length) = true := decide_eq_true hlt
    have HLT := hide hlt
    clear hlt
    go_enter Try.func31, Try.ntmps31
    go_wp2_with fail
    go_quiet (fail)
    go_wp2_with fail
    refine bodyPost_ret (v := .tuple #[questV false nilV nilV nilV, .int .i64 8]) (by simp [results, Try.results31, go_sem]) rfl ?_
    have hA := (Below.refl w.heap.size w).alloc (Nat.le_refl _) (boxQ false nilV nilV nilV)
    have hB := hA.trans (belowN w.heap.size _ nq)
    first
      | exact ⟨rfl, putQ_below hB (Nat.le_refl _)⟩
      | exact ⟨rfl, hB⟩
      | exact ⟨rfl, hA⟩
  · have t1 : decide ((u : Int) < (l.length : Int)) = false := decide_eq_false (by omega)
    have t2 : decide (u < l.length) = false := decide_eq_false hlt
    have HLT := hide hlt
    clear hlt
    go_enter Try.func31, Try.ntmps31
    go_wp2_with fail
    go_quiet (fail)
    go_wp2_with fail
    refine bodyPost_ret (v := .tuple #[questV true nilV (.slice ok nk ck) nilV, .int .i64 0]) (by simp [results, Try.results31, go_sem]) rfl ?_
    have hA := (Below.refl w.heap.size w).alloc (Nat.le_refl _) (boxQ false nilV nilV nilV)
    have hB := hA.trans (belowN w.heap.size _ nq)
    first
      | exact ⟨rfl, putQ_below hB (Nat.le_refl _)⟩
      | exact ⟨rfl, hB⟩
      | exact ⟨rfl, hA⟩
end Go.Proofs.Ytdpgcoicbagflaa.Bi
