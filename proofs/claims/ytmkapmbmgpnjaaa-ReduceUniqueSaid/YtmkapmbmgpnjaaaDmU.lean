import Derived.Test.YtmkapmbmgpnjaaaDlI
set_option maxRecDepth 100000
namespace Go.Proofs.Ytmkapmbmgpnjaaa.Se
open Go Go.Ms Go.Pg Go.Bi Go.Se Go.ChangeShapes Go.WideShapes Go.ChangeAt Go.RowKit Go.Deep Go.Proofs.Ytmkapmbmgpnjaaa.Bi

/-! An oracle that fails just on what contains a set: the least set that fails is that set. -/
abbrev only (s : List Int) : Orc := ⟨[s], [], 0, 0⟩
theorem say_only (s l : List Int) : say (only s) l = if (minus s l).isEmpty then 2 else 1 := by
  unfold say holdsOne
  rw [if_neg (by simp)]
  simp
theorem minus_none {s l : List Int} : (minus s l).isEmpty = true ↔ ∀ x ∈ s, x ∈ l := by
  rw [List.isEmpty_iff]
  unfold minus
  rw [List.filter_eq_nil_iff]
  constructor
  · intro h x hx
    have := h x hx
    simpa using this
  · intro h x hx
    have := h x hx
    simpa using this
theorem ora_only {s : List Int} {k : List Nat} (hs : k.Pairwise (· < ·)) (hl : ∀ i ∈ k, i < 256) : ora (only s) (ofP (among k)) = 2 ↔ ∀ x ∈ s, x ∈ k.map Int.ofNat := by
  unfold ora
  rw [among_list hs hl, say_only, ← minus_none]
  split <;> rename_i h
  · simp [h]
  · simp [h]
theorem sorted_same : ∀ {a b : List Nat}, a.Pairwise (· < ·) → b.Pairwise (· < ·) → (∀ x, x ∈ a ↔ x ∈ b) → a = b
  | [], [], _, _, _ => rfl
  | [], y :: b, _, _, h => absurd ((h y).2 (by simp)) (by simp)
  | x :: a, [], _, _, h => absurd ((h x).1 (by simp)) (by simp)
  | x :: a, y :: b, ha, hb, h => by
    obtain ⟨ha1, ha2⟩ := List.pairwise_cons.1 ha
    obtain ⟨hb1, hb2⟩ := List.pairwise_cons.1 hb
    have e : x = y := by
      rcases List.mem_cons.1 ((h x).1 (by simp)) with e | e
      · exact e
      · rcases List.mem_cons.1 ((h y).2 (by simp)) with f | f
        · exact f.symm
        · have := hb1 _ e; have := ha1 _ f; omega
    subst e
    rw [sorted_same ha2 hb2 fun z => ?_]
    constructor
    · intro hz
      rcases List.mem_cons.1 ((h z).1 (List.mem_cons_of_mem _ hz)) with q | q
      · have := ha1 z hz; omega
      · exact q
    · intro hz
      rcases List.mem_cons.1 ((h z).2 (List.mem_cons_of_mem _ hz)) with q | q
      · have := hb1 z hz; omega
      · exact q
theorem set_nat {s : List Int} {n : Nat} (h : IsSet s (n : Int)) : ∃ d : List Nat, s = d.map Int.ofNat ∧ d.Pairwise (· < ·) ∧ ∀ i ∈ d, i < n := by
  refine ⟨s.map Int.toNat, ?_, ?_, fun i hi => ?_⟩
  · rw [List.map_map]
    have e : s.map (Int.ofNat ∘ Int.toNat) = s.map id := List.map_congr_left fun x hx => by
      obtain ⟨i, hi, rfl⟩ := List.getElem_of_mem hx
      have := (h i hi hi).1.1
      simp
      omega
    rw [e, List.map_id]
  · rw [List.pairwise_map, List.pairwise_iff_getElem]
    intro i j hi hj hij
    have hk : ∀ k (hk : i + k + 1 < s.length), s[i] < s[i + k + 1] := by
      intro k
      induction k with
      | zero => intro hk; exact (h (i + 1) hk hk).2 i hi rfl
      | succ k ih =>
        intro hk
        have h1 := ih (by omega)
        have h2 := (h (i + k + 1 + 1) hk hk).2 (i + k + 1) (by omega) rfl
        exact Int.lt_trans h1 h2
    obtain ⟨k, rfl⟩ : ∃ k, j = i + k + 1 := ⟨j - i - 1, by omega⟩
    have h1 := hk k hj
    have h2 := (h i hi hi).1.1
    omega
  · obtain ⟨x, hx, rfl⟩ := List.mem_map.1 hi
    obtain ⟨j, hj, rfl⟩ := List.getElem_of_mem hx
    have := (h j hj hj).1
    omega
theorem only_leaf {s : List Int} {n : Nat} {t : Tr} (hn : n ≤ 256) (hs : IsSet s (n : Int)) (h : Least (ora (only s)) n t) : leaf (ora (only s)) t [] = .fin s [] [] := by
  obtain ⟨d, rfl, hd, hl⟩ := set_nat hs
  have hl2 : ∀ i ∈ d, i < 256 := fun i hi => Nat.lt_of_lt_of_le (hl i hi) hn
  rcases h with ⟨-, k, h1, h2, h3, h4, h5⟩ | ⟨h1, -⟩
  · have h3' : ∀ i ∈ k, i < 256 := fun i hi => Nat.lt_of_lt_of_le (h3 i hi) hn
    have h6 := (ora_only h2 h3').1 h4
    have e : k = d := sorted_same h2 hd fun x => by
      constructor
      · intro hx
        apply Decidable.byContradiction
        intro hc
        refine h5 x hx ((ora_only (h2.filter _) fun j hj => h3' j (rest_mem.1 hj).1).2 fun y hy => ?_)
        obtain ⟨z, hz, rfl⟩ := List.mem_map.1 hy
        obtain ⟨u, hu, e⟩ := List.mem_map.1 (h6 _ hy)
        have e : u = z := Int.ofNat.inj e
        subst e
        exact List.mem_map.2 ⟨u, rest_mem.2 ⟨hu, by simp; intro q; subst q; exact hc hz⟩, rfl⟩
      · intro hx
        obtain ⟨u, hu, e⟩ := List.mem_map.1 (h6 _ (List.mem_map.2 ⟨x, hx, rfl⟩))
        have e : u = x := Int.ofNat.inj e
        exact e ▸ hu
    rw [h1, e]
  · refine absurd ?_ h1
    have e : allQ n = ofP (among (List.range n)) := by
      unfold allQ
      congr 1
      funext i
      simp [among]
    rw [e]
    exact (ora_only List.pairwise_lt_range fun i hi => by have := List.mem_range.1 hi; omega).2 fun x hx => by
      obtain ⟨u, hu, rfl⟩ := List.mem_map.1 hx
      exact List.mem_map.2 ⟨u, List.mem_range.2 (hl u hu), rfl⟩
end Go.Proofs.Ytmkapmbmgpnjaaa.Se
