import Derived.Test.YtinllamocplgjaaNoQ
import Derived.Test.YtinllamocplgjaaNoS
import Derived.BigQuiet
import Derived.ChangeKeysEq
set_option maxRecDepth 100000
namespace Go.Proofs.Ytinllamocplgjaa.No
open Go Go.Ms Go.Pg Go.Rc Go.No Go.ChangeShapes Go.WideShapes Go.ChangeAt Go.RowKit Go.Deep Go.Shelf Go.Proofs.Ytinllamocplgjaa.Rc

def Runs : Prop := ∀ w : World, Calls Try.prog 10 #[] w fun e w' => e = .returned (.bool true) ∧ Below w.heap.size w w'
theorem runsAt (h : Runs) (w : World) : Calls Try.prog 10 #[] w fun e w' => e = .returned (.bool true) ∧ Below w.heap.size w w' := h w

set_option maxHeartbeats 8000000 in
theorem lawBig {w : World} {oa : Option Addr} {cap : Nat} {l : List Pick} {z : Int} (hl : 30 < l.length) (hA : Runs) :
    Calls Try.prog 4 #[.slice oa l.length cap, .int .i64 z] w fun e w' => e = .returned (.bool true) ∧ Below w.heap.size w w' := by
  have HA := hide hA
  have h1 : (30 : Int) < (l.length : Int) := by omega
  clear hA
  go_enter Try.func4, Try.ntmps4
  go_wp2_with (first
    | (go_at_call 10
       (with_reducible refine (runsAt HA.out _).mono ?_)
       rintro e w1 ⟨rfl, hB⟩
       have HB := hide hB
       clear hB)
    | fail)
  go_ret
  exact ⟨rfl, HB.out⟩

theorem err_cases (l : List Pick) (s : Int) : err s l = 0 ∨ err s l = 1 ∨ err s l = 3 := by
  induction l generalizing s with
  | nil => simp [err]
  | cons p l ih =>
    simp only [err]
    split
    · simp
    · split
      · simp
      · exact ih _
theorem bad_normal {w w1 : World} {l : List Pick} {e : Ending} (h : Normal w l e w1) (h0 : err 65536 l ≠ 0) : e = .returned (.tuple #[.slice none 0 0, .int .i64 (err 65536 l)]) ∧ Below w.heap.size w w1 := by
  obtain ⟨v', rfl, hB, _, hn⟩ := h
  rw [hn h0]
  exact ⟨rfl, hB⟩

set_option maxHeartbeats 8000000 in
theorem lawBad {w : World} {v : Value} {l : List Pick} {z : Int} (h : Picks w v l) (hl : l.length ≤ 30) (h0 : err 65536 l ≠ 0) (hA : Runs) :
    Calls Try.prog 4 #[v, .int .i64 z] w fun e w' => e = .returned (.bool true) ∧ Below w.heap.size w w' := by
  have HW := hide h
  have HA := hide hA
  have HZ := hide h0
  have HL : Hid (l.length ≤ 100000) := hide (by omega)
  obtain ⟨oa0, ca0, rfl, _, _⟩ := h
  have h1 : (l.length : Int) ≤ 30 := by omega
  clear hA h0
  have hx : (err 65536 l != 0) = true := by simpa using HZ.out
  go_enter Try.func4, Try.ntmps4
  go_wp2_with (first
    | (go_at_call 11
       (with_reducible refine (normalRef HW.out HL.out).mono ?_)
       rintro e w1 hN
       obtain ⟨rfl, hB1⟩ := bad_normal hN HZ.out
       have HB1 := hide hB1
       clear hN hB1)
    | (go_at_call 12
       (with_reducible refine (normalProg (picks_below HW.out HB1.out) HL.out).mono ?_)
       rintro e w2 hN
       obtain ⟨rfl, hB2⟩ := bad_normal hN HZ.out
       have HB2 := hide hB2
       clear hN hB2)
    | (go_at_call 10
       (with_reducible refine (runsAt HA.out _).mono ?_)
       rintro e w3 ⟨rfl, hB⟩
       have HB3 := hide hB
       clear hB)
    | fail)
  go_ret
  exact ⟨rfl, HB1.out.trans ((HB2.out.mono HB1.out.size).trans (HB3.out.mono (Nat.le_trans HB1.out.size HB2.out.size)))⟩

theorem oneEq (x : Int) (d : Nat) (w : World) : (Op.equalIn (d + 1) 3 (.int .i64 x) (.int .i64 x)).run Try.prog w = .ok true w := by
  simp [Op.equalIn, run_underlying Try.underlying3]
theorem allEq (x0 x1 x2 x3 x4 x5 x6 x7 : Int) (w : World) : (Op.equalIn 10000 33 (.agg #[.int .i64 x0, .int .i64 x1, .int .i64 x2, .int .i64 x3, .int .i64 x4, .int .i64 x5, .int .i64 x6, .int .i64 x7]) (.agg #[.int .i64 x0, .int .i64 x1, .int .i64 x2, .int .i64 x3, .int .i64 x4, .int .i64 x5, .int .i64 x6, .int .i64 x7])).run Try.prog w = .ok true w := by
  obtain ⟨i0, hi, _⟩ := Option.map_eq_some_iff.1 (show (Try.prog.info? 3).map (fun i => i.size) = some 1 by kernel_rfl)
  rw [run_equalIn_array (w := w) 9999 _ _ Try.underlying33 hi]
  have hc : Try.prog.cellsOf 3 = 1 := by kernel_rfl
  rw [hc, show List.range 8 = [0, 1, 2, 3, 4, 5, 6, 7] from rfl]
  simp only [Op.eqItems]
  go_simp
theorem eqSteps (x0 x1 x2 x3 x4 x5 x6 x7 : Int) (w : World) : (binOp .eql 33 (.agg #[.int .i64 x0, .int .i64 x1, .int .i64 x2, .int .i64 x3, .int .i64 x4, .int .i64 x5, .int .i64 x6, .int .i64 x7]) (.agg #[.int .i64 x0, .int .i64 x1, .int .i64 x2, .int .i64 x3, .int .i64 x4, .int .i64 x5, .int .i64 x6, .int .i64 x7])).run Try.prog w = .ok (.bool true) w := by
  have h := allEq x0 x1 x2 x3 x4 x5 x6 x7 w
  go_simp
theorem neqSteps (x0 x1 x2 x3 x4 x5 x6 x7 : Int) (w : World) : (binOp .neq 33 (.agg #[.int .i64 x0, .int .i64 x1, .int .i64 x2, .int .i64 x3, .int .i64 x4, .int .i64 x5, .int .i64 x6, .int .i64 x7]) (.agg #[.int .i64 x0, .int .i64 x1, .int .i64 x2, .int .i64 x3, .int .i64 x4, .int .i64 x5, .int .i64 x6, .int .i64 x7])).run Try.prog w = .ok (.bool false) w := by
  have h := allEq x0 x1 x2 x3 x4 x5 x6 x7 w
  go_simp
theorem eqV (l : List Pick) (w : World) : (binOp .eql 33 (.agg (stepsV l)) (.agg (stepsV l))).run Try.prog w = .ok (.bool true) w := eqSteps ..
theorem neqV (l : List Pick) (w : World) : (binOp .neq 33 (.agg (stepsV l)) (.agg (stepsV l))).run Try.prog w = .ok (.bool false) w := neqSteps ..
end Go.Proofs.Ytinllamocplgjaa.No
