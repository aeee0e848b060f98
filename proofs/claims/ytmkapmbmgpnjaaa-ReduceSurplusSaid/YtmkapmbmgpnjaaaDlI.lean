import Derived.Test.YtmkapmbmgpnjaaaDlH
import Derived.Test.YtmkapmbmgpnjaaaDcH
import Derived.Test.YtmkapmbmgpnjaaaDsN
set_option maxRecDepth 100000
set_option linter.unusedSimpArgs false
set_option linter.unusedVariables false
namespace Go.Proofs.Ytmkapmbmgpnjaaa.Se
open Go Go.Ms Go.Pg Go.Bi Go.Se Go.ChangeShapes Go.WideShapes Go.ChangeAt Go.RowKit Go.Deep Go.Proofs.Ytmkapmbmgpnjaaa.Bi

/-! The law ReduceMinimal: what it asks. -/
theorem among_list {k : List Nat} (hs : k.Pairwise (· < ·)) (hl : ∀ i ∈ k, i < 256) : upTo (memQ (ofP (among k))) 256 = k.map Int.ofNat := by
  refine sortedZ_ext (upTo_sorted _ _) ?_ fun z => ?_
  · rw [List.pairwise_map]
    exact hs.imp fun h => by simpa using h
  rw [mem_upTo, List.mem_map]
  constructor
  · rintro ⟨i, h1, h2, h3⟩
    rw [mem_of _ h1] at h2
    unfold among at h2
    exact ⟨i, of_decide_eq_true h2, h3.symm⟩
  · rintro ⟨i, hi, rfl⟩
    exact ⟨i, hl i hi, by rw [mem_of _ (hl i hi)]; unfold among; exact decide_eq_true hi, rfl⟩
theorem minus_rest {k : List Nat} {x : Nat} : minus (k.map Int.ofNat) [(x : Int)] = (restOf k [x]).map Int.ofNat := by
  unfold minus restOf
  rw [List.filter_map]
  congr 1
  exact List.filter_congr fun i _ => by
    simp
    exact Int.natCast_inj
def Least (o : Q4 → Int) (n : Nat) (t : Tr) : Prop :=
  (o (allQ n) = 2 ∧ ∃ k : List Nat, leaf o t [] = .fin (k.map Int.ofNat) [] [] ∧ k.Pairwise (· < ·) ∧ (∀ i ∈ k, i < n) ∧ o (ofP (among k)) = 2 ∧ ∀ i ∈ k, o (ofP (among (restOf k [i]))) ≠ 2) ∨ (o (allQ n) ≠ 2 ∧ leaf o t [] = .err 7)
theorem few {o : Q4 → Int} {n : Nat} {t : Tr} (hn : n ≤ 12) (h : Asks (LowQ n) t) : (trace o t []).length ≤ 4096 :=
  Nat.le_trans (small_few (n := n) (by omega) (trace_nodup (o := o) (t := t) (T := [])).1 (trace_asks h)) (Nat.le_trans (Nat.pow_le_pow_right (by decide) hn) (by decide))
end Go.Proofs.Ytmkapmbmgpnjaaa.Se
