import Derived.Test.YtdfjjmibhnniiaaGreatDoorLeL
import Derived.Test.YtdfjjmibhnniiaaGreatDoorLeK
import Derived.Test.YtdfjjmibhnniiaaGreatDoorLeH
import Derived.Deep.RegionHeld3
set_option maxRecDepth 100000
set_option linter.unusedSimpArgs false
set_option linter.unusedVariables false
namespace Go.Proofs.YtdfjjmibhnniiaaGreatDoor.Le
open Go Go.Ms Go.Pg Go.Le Go.ChangeShapes Go.WideShapes Go.ChangeAt Go.RowKit Go.Deep

open Classical in
theorem errC_low {x : Inv} {n : Int} (h1 : n < 1) : err x n = 1 := by unfold err; rw [if_pos h1]
open Classical in
theorem errC_high {x : Inv} {n : Int} (h8 : 8 < n) : err x n = 3 := by unfold err; rw [if_neg (by omega), if_pos h8]
open Classical in
theorem errC_kind {x : Inv} {n : Int} (h1 : 1 ≤ n) (h8 : n ≤ 8) (hk : ¬ (1 ≤ x.k ∧ x.k ≤ 11)) : err x n = 1 := by unfold err; rw [if_neg (by omega), if_neg (by omega), if_pos hk]
open Classical in
theorem errC_vars {x : Inv} {n : Int} (h1 : 1 ≤ n) (h8 : n ≤ 8) (hk : 1 ≤ x.k ∧ x.k ≤ 11) (hv : ¬ VarsOK x n) : err x n = 1 := by unfold err; rw [if_neg (by omega), if_neg (by omega), if_neg (not_not_intro hk), if_pos hv]
open Classical in
theorem errC_plain {x : Inv} {n : Int} (h1 : 1 ≤ n) (h8 : n ≤ 8) (hk : 1 ≤ x.k ∧ x.k ≤ 11) (hv : VarsOK x n) (hp : ¬ PlainOK x) : err x n = 3 := by unfold err; rw [if_neg (by omega), if_neg (by omega), if_neg (not_not_intro hk), if_neg (not_not_intro hv), if_pos hp]
open Classical in
theorem errC_nums {x : Inv} {n : Int} (h1 : 1 ≤ n) (h8 : n ≤ 8) (hk : 1 ≤ x.k ∧ x.k ≤ 11) (hv : VarsOK x n) (hp : PlainOK x) (hn : ¬ NumsOK x) : err x n = 1 := by unfold err; rw [if_neg (by omega), if_neg (by omega), if_neg (not_not_intro hk), if_neg (not_not_intro hv), if_neg (not_not_intro hp), if_pos hn]
open Classical in
theorem errC_bare {x : Inv} {n : Int} (h1 : 1 ≤ n) (h8 : n ≤ 8) (hk : 1 ≤ x.k ∧ x.k ≤ 11) (hv : VarsOK x n) (hp : PlainOK x) (hn : NumsOK x) (hb : ¬ x = bare x) : err x n = 1 := by unfold err; rw [if_neg (by omega), if_neg (by omega), if_neg (not_not_intro hk), if_neg (not_not_intro hv), if_neg (not_not_intro hp), if_neg (not_not_intro hn), if_pos hb]
open Classical in
theorem errC_ok {x : Inv} {n : Int} (h1 : 1 ≤ n) (h8 : n ≤ 8) (hk : 1 ≤ x.k ∧ x.k ≤ 11) (hv : VarsOK x n) (hp : PlainOK x) (hn : NumsOK x) (hb : x = bare x) : err x n = 0 := by unfold err; rw [if_neg (by omega), if_neg (by omega), if_neg (not_not_intro hk), if_neg (not_not_intro hv), if_neg (not_not_intro hp), if_neg (not_not_intro hn), if_neg (not_not_intro hb)]
theorem tellsB_yes {p : Prop} {w w' : World} {e : Ending} (h : TellsB p w e w') (hp : p) : e = .returned (.bool true) ∧ Below w.heap.size w w' := by
  obtain ⟨r, rfl, hr, hn⟩ := h
  rw [hr.2 hp]
  exact ⟨rfl, hn⟩
theorem tellsB_no {p : Prop} {w w' : World} {e : Ending} (h : TellsB p w e w') (hp : ¬ p) : e = .returned (.bool false) ∧ Below w.heap.size w w' := by
  obtain ⟨r, rfl, hr, hn⟩ := h
  cases r with
  | true => exact absurd (hr.1 rfl) hp
  | false => exact ⟨rfl, hn⟩
theorem empty_ints {w : World} : IntsW w (.slice none 0 0) [] := ⟨none, 0, rfl, by simp, fun i h => absurd h (by simp)⟩
def Claimed (x : Inv) (s : Value) (n : Int) (w : World) (e : Ending) (w' : World) : Prop := ∃ v, e = .returned (.tuple #[v, .int .i64 (err x n)]) ∧ (err x n = 0 → v = claimV x s) ∧ Below w.heap.size w w'
theorem Claimed.bad {x : Inv} {s : Value} {n z : Int} {w w' : World} (h : err x n = z) (hz : ¬ z = 0) (hB : Below w.heap.size w w') : Claimed x s n w (.returned (.tuple #[.nilIface, .int .i64 z])) w' :=
  ⟨_, by rw [h], fun q => absurd (h.symm.trans q) hz, hB⟩
theorem takeAt {P : Program} {ops : Array Oper} {Q : Exit → Act → World → Prop} {md : Region.Mode} {S : World → Prop} {i : Nat} {oi : Oper} {d : Option Tmp} {v : Value} {fuel : Nat} {listed : Array Bool} {a : Act} {w : World} (hi : ops[i]? = some oi) (hd : oi.dst = d)
    (hs : Region.noSelect ops = true) (hf : Region.free md ops listed i = true) (hr : (Region.ready md ops listed).contains i = true)
    (hQ : ∀ c a w, Q (.panic c) (a.put d v) w → Q (.panic c) a w) (hy : YieldsIf P ops S oi v a) (hS : S w)
    (h : wpAnyH P md ops Q S fuel (listed.setIfInBounds i true) (a.put d v) w) : wpAnyH P md ops Q S (fuel + 1) listed a w := by
  subst hd
  exact wpAnyH_take hi hs hf hr hQ hy hS h
def St (w : World) (x : Inv) (s : Value) (w' : World) : Prop := BoxI w' w.heap.size x s ∧ IntsW w' s x.set ∧ Below w.heap.size w w'
theorem stStep {w w' w'' : World} {x : Inv} {s : Value} (h : Hid (St w x s w')) (hB : Below w'.heap.size w' w'') : St w x s w'' := ⟨h.1.below hB, intsW_below h.2.1 hB, below_up h.2.2 hB⟩
theorem stInts {w w' : World} {x : Inv} {s : Value} (h : Hid (St w x s w')) : IntsW w' s x.set := h.2.1
theorem stDrew {w w' : World} {x : Inv} {s : Value} (h : St w x s w') (n : Nat) : St w x s (w'.drewN n) := stStep h (belowN _ _ n)
theorem stDrewn {w w' : World} {x : Inv} {s : Value} (h : St w x s w') : St w x s w'.drew := stStep h ((Below.refl _ _).drew)
theorem stOf {w w' : World} {x : Inv} {s : Value} (h : St w x s w') : w'.cell? ⟨w.heap.size, 0, none⟩ = some (.int .u8 x.k) ∧ w'.cell? ⟨w.heap.size, 1, none⟩ = some (.int .i64 x.a) ∧ w'.cell? ⟨w.heap.size, 2, none⟩ = some (.int .i64 x.b) ∧
    w'.cell? ⟨w.heap.size, 3, none⟩ = some (.int .i64 x.K) ∧ w'.cell? ⟨w.heap.size, 4, none⟩ = some (.int .i64 x.M) ∧ w'.cell? ⟨w.heap.size, 5, none⟩ = some s ∧ Hid (St w x s w') :=
  ⟨h.1.1, h.1.2.1, h.1.2.2.1, h.1.2.2.2.1, h.1.2.2.2.2.1, h.1.2.2.2.2.2, h⟩
theorem claimV_none {k a b K M : Int} {l : List Int} {s : Value} (h : ¬ (1 ≤ k ∧ k ≤ 11)) : claimV ⟨k, a, b, K, M, l⟩ s = .nilIface := by
  have n1 : ¬ k = 1 := by omega
  have n2 : ¬ k = 2 := by omega
  have n3 : ¬ k = 3 := by omega
  have n4 : ¬ k = 4 := by omega
  have n5 : ¬ k = 5 := by omega
  have n6 : ¬ k = 6 := by omega
  have n7 : ¬ k = 7 := by omega
  have n8 : ¬ k = 8 := by omega
  have n9 : ¬ k = 9 := by omega
  have n10 : ¬ k = 10 := by omega
  have n11 : ¬ k = 11 := by omega
  simp [claimV, n1, n2, n3, n4, n5, n6, n7, n8, n9, n10, n11]
end Go.Proofs.YtdfjjmibhnniiaaGreatDoor.Le
