import Derived.Test.YtdpgcoicbagflaaBeB
set_option maxRecDepth 100000
set_option linter.unusedSimpArgs false
set_option linter.unusedVariables false
namespace Go.Proofs.Ytdpgcoicbagflaa.Be
open Go Go.Ms Go.Pg Go.Bi Go.Be Go.ChangeShapes Go.WideShapes Go.ChangeAt Go.RowKit Go.Deep Go.Proofs.Ytdpgcoicbagflaa.Bi

def kof (ks : List Nat) : Nat → Nat := fun u => ks.getD u 0
def Kinds (w : World) (b o : Nat) (ks : List Nat) : Prop := ∀ i, i < ks.length → w.cell? ⟨b, o + i, none⟩ = some (.int .u8 (kof ks i : Nat)) ∧ kof ks i < 256
theorem kinds_old {w w' : World} {b o : Nat} {ks : List Nat} (h : Kinds w b o ks) (hB : Below w.heap.size w w') : Kinds w' b o ks := fun i hi => ⟨cell_old hB (h i hi).1, (h i hi).2⟩
theorem kinds_zero {w : World} {b o : Nat} {ks : List Nat} (h : Kinds w b o ks) (h0 : 0 < ks.length) : w.cell? ⟨b, o, none⟩ = some (.int .u8 (kof ks 0 : Nat)) := (h 0 h0).1
theorem ne_true {x y : Int} (h : x ≠ y) : (x != y) = true := by simp [h]
theorem ne_false {x y : Int} (h : x = y) : (x != y) = false := by simp [h]
theorem eq_false {x y : Int} (h : x ≠ y) : (x == y) = false := beq_false_of_ne h
theorem eq_true {x y : Int} (h : x = y) : (x == y) = true := by simp [h]
abbrev rowN (As : List Nat) : Obj := .cells (As.map fun x : Nat => Value.int .i64 (x : Int)).toArray 3 (0, 0)
theorem made_zero (n : Nat) : madeCells #[.int .i64 0] (n * 1) = ((List.replicate n 0).map fun x : Nat => Value.int .i64 (x : Int)).toArray := by
  apply Array.ext
  · simp [madeCells]
  · intro i h1 h2
    simp [madeCells, Nat.mod_one]
theorem make24 (n : Nat) (hn : n ≤ 1000) (W : World) : (Instr.makeSlice 24 (.int .i64 (n : Int)) (.int .i64 (n : Int))).run Try.prog W = .ok (.slice (some ⟨W.heap.size, 0, none⟩) n n) (W.alloc (rowN (List.replicate n 0))) := by
  have g : (Try.prog.info? 3).map (fun i => (i.size, i.bytes, i.zero.map fun z => z.cells)) = some (1, 8, some #[.int .i64 0]) := by kernel_rfl
  cases hi : Try.prog.info? 3 with
  | none => rw [hi] at g; cases g
  | some i =>
    rw [hi] at g
    simp only [Option.map_some, Option.some.injEq, Prod.mk.injEq] at g
    obtain ⟨g1, g2, g3⟩ := g
    cases hz : i.zero with
    | none => rw [hz] at g3; cases g3
    | some z =>
      rw [hz] at g3
      simp only [Option.map_some, Option.some.injEq] at g3
      have h := run_make (P := Try.prog) W 24 3 i z Try.underlying24 hi hz .i64 .i64 n n (by omega) (by omega) (by rw [g2]; omega) (by omega)
      rw [g3, g1, Int.toNat_natCast, made_zero] at h
      exact h
theorem rowN_cell {w : World} {b v : Nat} {As : List Nat} (h : w.heap[b]? = some (rowN As)) (hv : v < As.length) : w.cell? ⟨b, v, none⟩ = some (.int .i64 ((As.getD v 0 : Nat) : Int)) := by
  rw [cell_of h v]
  simp [hv]
theorem rowN_set {w : World} {b v x : Nat} {As : List Nat} (h : w.heap[b]? = some (rowN As)) (hv : v < As.length) : (w.setCell ⟨b, v, none⟩ (.int .i64 (x : Int))).heap[b]? = some (rowN (As.set v x)) := by
  refine (heap_setCell_same _ b v _ 3 (.int .i64 (x : Int)) h).trans ?_
  simp [rowN, List.map_set]
theorem vs_own {w : World} {B : Nat} {v : Value} {l : List Int} (h : Go.Il.Own 33 .u8 B w v l) (hl : l.length ≤ 5000) : Vs w w.heap.size v l := by
  obtain ⟨oa, cap, rfl, hc⟩ := h.at
  rcases h.2 with ⟨e, h0⟩ | ⟨g, cap', cur, e, hb, hh, hnc, hcap, hr⟩
  · injection e with e1 e2 e3
    refine ⟨oa, cap, rfl, by omega, hl, fun i hi => by omega⟩
  · injection e with e1 e2 e3
    subst e1 e3
    refine ⟨_, _, rfl, hnc, hl, fun i hi => ?_⟩
    obtain ⟨g', e, hcell⟩ := hc i hi
    injection e with e
    injection e with e _
    subst e
    exact ⟨g, 0, rfl, block_lt hh, by simpa using hcell⟩

theorem own_one {e : TypeId} {k : IntKind} {B : Nat} {w : World} {s : Value} {x : Int} (h : Go.Il.Own e k B w s [x]) : ∃ b cap, s = .slice (some ⟨b, 0, none⟩) 1 cap ∧ B ≤ b ∧ w.cell? ⟨b, 0, none⟩ = some (.int k x) := by
  obtain ⟨os, cs, rfl, hc⟩ := h.at
  obtain ⟨b, rfl, hx⟩ := hc 0 (by simp)
  exact ⟨b, cs, rfl, (World.ownsRow.lt h b rfl).1, by simpa using hx⟩
set_option maxHeartbeats 4000000 in
theorem lawSmall {w : World} {z : Int} {oa : Option Addr} {n cap : Nat} (h : n < 2 ∨ 40 < n) (hA : Runs) : Yes 4 w #[.slice oa n cap, .int .i64 z] := by
  unfold Yes
  unfold Runs at hA
  by_cases c1 : n < 2
  · have t1 : decide ((n : Int) < 2) = true := decide_eq_true (by omega)
    have t2 : decide (n < 2) = true := decide_eq_true c1
    clear h c1
    go_enter Try.func4, Try.ntmps4
    go_wp2_with fail
    (with_reducible refine (hA _).mono ?_)
    rintro e w' ⟨rfl, hB⟩
    go_wp2_with fail
    go_ret
    exact ⟨rfl, hB⟩
  · have t1 : decide ((n : Int) < 2) = false := decide_eq_false (by omega)
    have t2 : decide (n < 2) = false := decide_eq_false c1
    have t3 : decide ((40 : Int) < (n : Int)) = true := decide_eq_true (by omega)
    have t4 : decide (40 < n) = true := decide_eq_true (by omega)
    clear h c1
    go_enter Try.func4, Try.ntmps4
    go_wp2_with fail
    (with_reducible refine (hA _).mono ?_)
    rintro e w' ⟨rfl, hB⟩
    go_wp2_with fail
    go_ret
    exact ⟨rfl, hB⟩
end Go.Proofs.Ytdpgcoicbagflaa.Be
