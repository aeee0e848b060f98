import Derived.Test.YtmkapmbmgpnjaaaDlA
set_option maxRecDepth 100000
namespace Go.Proofs.Ytmkapmbmgpnjaaa.Se
open Go Go.Ms Go.Pg Go.Bi Go.Se Go.ChangeShapes Go.WideShapes Go.ChangeAt Go.RowKit Go.Deep Go.Proofs.Ytmkapmbmgpnjaaa.Bi

/-! The minimization of a set of changes, as a tree. -/
def descT (S : List Nat → List (List Nat)) : Nat → List Nat → Tr
  | 0, _ => .fin [] []
  | f + 1, l => scanT (S l) fun
    | some r => descT S f r
    | none => .fin (l.map Int.ofNat) []
def changesT (S : List Nat → List (List Nat)) (n : Nat) : Tr := .ask (allQ n) fun v => if v = 2 then descT S 300 (List.range n) else .err 7
structure Shrinks (n : Nat) (S : List Nat → List (List Nat)) : Prop where
  sub : ∀ l q, q ∈ S l → q.Sublist l
  less : ∀ l q, (∀ i ∈ l, i < n) → q ∈ S l → q.length < l.length
theorem desc_leaf {S : List Nat → List (List Nat)} {o : Q4 → Int} {n : Nat} (hS : Shrinks n S) {r : List Int} : ∀ {f : Nat} {l : List Nat}, l.Pairwise (· < ·) → (∀ i ∈ l, i < n) → o (ofP (among l)) = 2 → l.length < f →
    ∃ k : List Nat, leaf o (descT S f l) r = .fin (k.map Int.ofNat) [] r ∧ k.Pairwise (· < ·) ∧ (∀ i ∈ k, i < n) ∧ o (ofP (among k)) = 2 ∧ ∀ q ∈ S k, o (ofP (among q)) ≠ 2
  | 0, _, _, _, _, h => absurd h (by omega)
  | f + 1, l, hs, hl, ho, hf => by
    rw [descT]
    rcases leaf_scan (o := o) (r := r) (f := fun
      | some r => descT S f r
      | none => .fin (l.map Int.ofNat) []) (S l) with ⟨q, hq, h1, h2⟩ | ⟨h1, h2⟩
    · rw [h2]
      have hsub := hS.sub l q hq
      exact desc_leaf hS (hs.sublist hsub) (fun j hj => hl j (hsub.subset hj)) h1 (by have := hS.less l q hl hq; omega)
    · rw [h2]
      exact ⟨l, rfl, hs, hl, ho, fun q hq => h1 q hq⟩
theorem changes_leaf {S : List Nat → List (List Nat)} {o : Q4 → Int} {n : Nat} (hS : Shrinks n S) (hn : n ≤ 256) (r : List Int) :
    (o (allQ n) = 2 ∧ ∃ k : List Nat, leaf o (changesT S n) r = .fin (k.map Int.ofNat) [] r ∧ k.Pairwise (· < ·) ∧ (∀ i ∈ k, i < n) ∧ o (ofP (among k)) = 2 ∧ ∀ q ∈ S k, o (ofP (among q)) ≠ 2) ∨
    (o (allQ n) ≠ 2 ∧ leaf o (changesT S n) r = .err 7) := by
  by_cases h : o (allQ n) = 2
  · refine .inl ⟨h, ?_⟩
    have e : ofP (among (List.range n)) = allQ n := by
      unfold allQ
      congr 1
      funext i
      simp [among]
    rw [changesT, leaf, if_pos h]
    exact desc_leaf hS List.pairwise_lt_range (fun i hi => List.mem_range.1 hi) (by rw [e]; exact h) (by rw [List.length_range]; omega)
  · exact .inr ⟨h, by rw [changesT, leaf, if_neg h, leaf]⟩
theorem asks_desc {n : Nat} {S : List Nat → List (List Nat)} (hS : Shrinks n S) : ∀ {f : Nat} {l : List Nat}, (∀ i ∈ l, i < n) → Asks (LowQ n) (descT S f l)
  | 0, _, _ => .fin _ _
  | f + 1, l, h => by
    rw [descT]
    have hq : ∀ q ∈ S l, ∀ i ∈ q, i < n := fun q hq i hi => h i ((hS.sub l q hq).subset hi)
    exact asks_scan hq (fun q hq' => asks_desc hS (hq q hq')) (.fin _ _)
theorem asks_changes {n : Nat} {S : List Nat → List (List Nat)} (hS : Shrinks n S) : Asks (LowQ n) (changesT S n) := .ask small_all fun v => by
  split
  · exact asks_desc hS fun i hi => List.mem_range.1 hi
  · exact .err _

/-! What is left without a change, by a table of closures. -/
def stayA (A : List Q4) (c : Nat) (l : List Nat) : List Nat := l.filter fun i => !memQ (A.getD i zeroQ) c
def smallerA (A : List Q4) (l : List Nat) : List (List Nat) := l.map fun c => stayA A c l
theorem shrinksA {n : Nat} {A : List Q4} (h : ∀ i, i < n → memQ (A.getD i zeroQ) i = true) : Shrinks n (smallerA A) where
  sub l q hq := by
    obtain ⟨c, _, rfl⟩ := List.mem_map.1 hq
    exact List.filter_sublist
  less l q hl hq := by
    obtain ⟨c, hc, rfl⟩ := List.mem_map.1 hq
    unfold stayA
    rcases Nat.lt_or_ge (l.filter fun i => !memQ (A.getD i zeroQ) c).length l.length with h1 | h1
    · exact h1
    · have e := (List.filter_sublist (l := l) (p := fun i => !memQ (A.getD i zeroQ) c)).eq_of_length_le h1
      have h2 : c ∈ l.filter fun i => !memQ (A.getD i zeroQ) c := by rw [e]; exact hc
      have h3 := (List.mem_filter.1 h2).2
      rw [h c (hl c hc)] at h3
      cases h3
def singles (n : Nat) : List Q4 := (List.range n).map fun i => ofP (among [i])
theorem singles_get {n i : Nat} (h : i < n) : (singles n).getD i zeroQ = ofP (among [i]) := by
  unfold singles
  rw [List.getD_eq_getElem?_getD, List.getElem?_map, List.getElem?_range h]
  rfl
theorem singles_mem {n i c : Nat} (h : i < n) (hc : c < 256) : memQ ((singles n).getD i zeroQ) c = decide (c = i) := by
  rw [singles_get h, mem_of _ hc]
  simp [among]
theorem shrinks_singles {n : Nat} (hn : n ≤ 256) : Shrinks n (smallerA (singles n)) := shrinksA fun i hi => by rw [singles_mem hi (by omega)]; simp
theorem stay_singles {n c : Nat} {l : List Nat} (hl : ∀ i ∈ l, i < n) (hc : c < 256) : stayA (singles n) c l = restOf l [c] := by
  unfold stayA restOf
  apply List.filter_congr
  intro i hi
  rw [singles_mem (hl i hi) hc]
  simp [eq_comm]
abbrev changesN (n : Nat) : Tr := changesT (smallerA (singles n)) n
theorem changesN_leaf {o : Q4 → Int} {n : Nat} (hn : n ≤ 256) (r : List Int) :
    (o (allQ n) = 2 ∧ ∃ k : List Nat, leaf o (changesN n) r = .fin (k.map Int.ofNat) [] r ∧ k.Pairwise (· < ·) ∧ (∀ i ∈ k, i < n) ∧ o (ofP (among k)) = 2 ∧ ∀ i ∈ k, o (ofP (among (restOf k [i]))) ≠ 2) ∨
    (o (allQ n) ≠ 2 ∧ leaf o (changesN n) r = .err 7) := by
  rcases changes_leaf (shrinks_singles hn) hn r with ⟨h, k, h1, h2, h3, h4, h5⟩ | h
  · exact .inl ⟨h, k, h1, h2, h3, h4, fun i hi => by
      rw [← stay_singles h3 (by have := h3 i hi; omega)]
      exact h5 _ (List.mem_map.2 ⟨i, hi, rfl⟩)⟩
  · exact .inr h
theorem asks_changesN {n : Nat} (hn : n ≤ 256) : Asks (LowQ n) (changesN n) := asks_changes (shrinks_singles hn)
end Go.Proofs.Ytmkapmbmgpnjaaa.Se
