import Derived.Test.YtinllamocplgjaaRcA
set_option maxRecDepth 100000
namespace Go.Cl

/-! Sets of numbers as masks; closures. -/
theorem snoc_rec {α : Type} {C : List α → Prop} (h0 : C []) (h : ∀ l p, C l → C (l ++ [p])) : ∀ l, C l := by
  intro l
  generalize hn : l.length = n
  induction n generalizing l with
  | zero => rw [List.length_eq_zero_iff.1 hn]; exact h0
  | succ n ih =>
    rcases List.eq_nil_or_concat l with rfl | ⟨m, q, rfl⟩
    · simp at hn
    · rw [List.concat_eq_append] at *
      exact h m q (ih m (by simpa using hn))
def maskOf (xs : List Nat) : Nat := xs.foldl (fun a n => a ||| 2 ^ n) 0
theorem mask_snoc (xs : List Nat) (n : Nat) : maskOf (xs ++ [n]) = maskOf xs ||| 2 ^ n := by simp [maskOf]
theorem testBit_mask (b : Nat) : ∀ xs : List Nat, ((maskOf xs).testBit b = true ↔ b ∈ xs) := by
  refine snoc_rec (by simp [maskOf]) fun l p ih => ?_
  rw [mask_snoc, Nat.testBit_or, Nat.testBit_two_pow, Bool.or_eq_true, ih]
  simp [eq_comm]
def uni (A : List Nat) (xs : List Nat) : Nat := xs.foldl (fun s n => s ||| A.getD n 0) 0
theorem uni_snoc (A xs : List Nat) (n : Nat) : uni A (xs ++ [n]) = uni A xs ||| A.getD n 0 := by simp [uni]
theorem testBit_uni (A : List Nat) (b : Nat) : ∀ xs : List Nat, ((uni A xs).testBit b = true ↔ ∃ n ∈ xs, (A.getD n 0).testBit b = true) := by
  refine snoc_rec (by simp [uni]) fun l p ih => ?_
  rw [uni_snoc, Nat.testBit_or, Bool.or_eq_true, ih]
  constructor
  · rintro (⟨n, h1, h2⟩ | h)
    · exact ⟨n, List.mem_append_left _ h1, h2⟩
    · exact ⟨p, by simp, h⟩
  · rintro ⟨n, h1, h2⟩
    rcases List.mem_append.1 h1 with h1 | h1
    · exact .inl ⟨n, h1, h2⟩
    · simp at h1
      subst h1
      exact .inr h2
def stay (A : List Nat) (i : Nat) (xs : List Nat) : Nat := maskOf (xs.filter fun n => !(A.getD n 0).testBit i)
theorem stay_snoc (A : List Nat) (i : Nat) (xs : List Nat) (n : Nat) : stay A i (xs ++ [n]) = if (A.getD n 0).testBit i = true then stay A i xs else stay A i xs ||| 2 ^ n := by
  unfold stay
  rw [List.filter_append]
  by_cases h : (A.getD n 0).testBit i = true
  · rw [if_pos h]
    have : [n].filter (fun n => !(A.getD n 0).testBit i) = [] := by simp only [List.filter_cons, h, Bool.not_true, Bool.false_eq_true, if_false, List.filter_nil]
    rw [this, List.append_nil]
  · rw [if_neg h]
    have : [n].filter (fun n => !(A.getD n 0).testBit i) = [n] := by simpa using h
    rw [this, mask_snoc]
theorem testBit_stay {A : List Nat} {i b : Nat} {xs : List Nat} : (stay A i xs).testBit b = true ↔ b ∈ xs ∧ ¬ (A.getD b 0).testBit i = true := by
  unfold stay
  rw [testBit_mask, List.mem_filter]
  simp
def bitsOf (x : Nat) : List Nat := (List.range 256).filter fun n => x.testBit n
theorem mem_bits {x n : Nat} : n ∈ bitsOf x ↔ n < 256 ∧ x.testBit n = true := by simp [bitsOf]
theorem bits_sorted (x : Nat) : (bitsOf x).Pairwise (· < ·) := List.Pairwise.filter _ List.pairwise_lt_range
theorem lt_of_bits {x N : Nat} (h : ∀ b, x.testBit b = true → b < N) : x < 2 ^ N :=
  Nat.lt_pow_two_of_testBit x fun i hi => by
    cases hb : x.testBit i with
    | false => rfl
    | true => have := h i hb; omega
theorem bits_eq {x y : Nat} (h : ∀ b, x.testBit b = true ↔ y.testBit b = true) : x = y :=
  Nat.eq_of_testBit_eq fun i => by
    have := h i
    cases hx : x.testBit i <;> cases hy : y.testBit i <;> simp_all
theorem length_bits (x : Nat) : (bitsOf x).length ≤ 256 := by
  have := List.length_filter_le (fun n => x.testBit n) (List.range 256)
  simpa [bitsOf] using this

structure Clos (need : Nat → Nat → Prop) (N : Nat) (A : List Nat) : Prop where
  len : A.length = N
  low : ∀ n b, (A.getD n 0).testBit b = true → b < N
  own : ∀ n, n < N → (A.getD n 0).testBit n = true
  has : ∀ n m, n < N → need n m → (A.getD n 0).testBit m = true
  least : ∀ C : Nat → Prop, (∀ a b, a < N → C a → need a b → C b) → ∀ n, n < N → C n → ∀ b, (A.getD n 0).testBit b = true → C b
def Thru (N k : Nat) (A : List Nat) : Prop := ∀ n t b, n < N → t < k → (A.getD n 0).testBit t = true → (A.getD t 0).testBit b = true → (A.getD n 0).testBit b = true
def upd (A : List Nat) (k j : Nat) : List Nat := A.mapIdx fun n x => if n < j ∧ x.testBit k = true then x ||| A.getD k 0 else x
theorem upd_length (A : List Nat) (k j : Nat) : (upd A k j).length = A.length := by simp [upd]
theorem upd_get (A : List Nat) (k j n : Nat) : (upd A k j).getD n 0 = if n < j ∧ (A.getD n 0).testBit k = true then A.getD n 0 ||| A.getD k 0 else A.getD n 0 := by
  unfold upd
  rw [List.getD_eq_getElem?_getD, List.getElem?_mapIdx]
  cases h : A[n]? with
  | none => simp [List.getD_eq_getElem?_getD, h]
  | some x => simp [List.getD_eq_getElem?_getD, h]
theorem ext_getD {A B : List Nat} (hl : A.length = B.length) (h : ∀ n, A.getD n 0 = B.getD n 0) : A = B := by
  apply List.ext_getElem hl
  intro n h1 h2
  have := h n
  rwa [List.getD_eq_getElem?_getD, List.getD_eq_getElem?_getD, List.getElem?_eq_getElem h1, List.getElem?_eq_getElem h2] at this
theorem upd_zero (A : List Nat) (k : Nat) : upd A k 0 = A := ext_getD (upd_length ..) fun n => by rw [upd_get]; simp
theorem upd_at (A : List Nat) (k j : Nat) : (upd A k j).getD j 0 = A.getD j 0 := by rw [upd_get]; simp
theorem upd_k (A : List Nat) (k j : Nat) : (upd A k j).getD k 0 = A.getD k 0 := by
  rw [upd_get]
  split
  · exact Nat.or_self _
  · rfl
theorem set_getD (A : List Nat) (j x n : Nat) (hj : j < A.length) : (A.set j x).getD n 0 = if n = j then x else A.getD n 0 := by
  rw [List.getD_eq_getElem?_getD, List.getElem?_set]
  by_cases h : j = n
  · subst h
    simp [hj]
  · rw [if_neg h, if_neg (fun e => h e.symm), List.getD_eq_getElem?_getD]
theorem upd_yes {A : List Nat} {k j : Nat} (hj : j < A.length) (h : (A.getD j 0).testBit k = true) : (upd A k j).set j (A.getD j 0 ||| A.getD k 0) = upd A k (j + 1) :=
  ext_getD (by simp [upd_length]) fun n => by
    rw [set_getD _ _ _ _ (by rw [upd_length]; exact hj), upd_get, upd_get]
    by_cases e : n = j
    · subst e
      rw [if_pos rfl, if_pos ⟨by omega, h⟩]
    · rw [if_neg e]
      have : n < j + 1 ↔ n < j := by omega
      simp only [this]
theorem upd_no {A : List Nat} {k j : Nat} (h : ¬ (A.getD j 0).testBit k = true) : upd A k (j + 1) = upd A k j :=
  ext_getD (by simp [upd_length]) fun n => by
    rw [upd_get, upd_get]
    by_cases e : n = j
    · subst e
      rw [if_neg (fun q => h q.2), if_neg (fun q => h q.2)]
    · have : n < j + 1 ↔ n < j := by omega
      simp only [this]
theorem good_round {need : Nat → Nat → Prop} {N k : Nat} {A : List Nat} (h : Clos need N A) (hk : k < N) : Clos need N (upd A k N) := by
  refine ⟨(upd_length ..).trans h.len, fun n b hb => ?_, fun n hn => ?_, fun n m hn hm => ?_, fun C hC n hn hc b hb => ?_⟩
  · rw [upd_get] at hb
    split at hb
    · rw [Nat.testBit_or, Bool.or_eq_true] at hb
      rcases hb with hb | hb
      · exact h.low n b hb
      · exact h.low k b hb
    · exact h.low n b hb
  · rw [upd_get]
    split
    · rw [Nat.testBit_or, h.own n hn]; rfl
    · exact h.own n hn
  · rw [upd_get]
    split
    · rw [Nat.testBit_or, h.has n m hn hm]; rfl
    · exact h.has n m hn hm
  · rw [upd_get] at hb
    split at hb
    · rename_i q
      rw [Nat.testBit_or, Bool.or_eq_true] at hb
      rcases hb with hb | hb
      · exact h.least C hC n hn hc b hb
      · exact h.least C hC k hk (h.least C hC n hn hc k q.2) b hb
    · exact h.least C hC n hn hc b hb
theorem thru_round {N k : Nat} {A : List Nat} (hT : Thru N k A) (hk : k < N) : Thru N (k + 1) (upd A k N) := by
  intro n t b hn ht hnt htb
  have sub : ∀ b, (A.getD n 0).testBit b = true → ((upd A k N).getD n 0).testBit b = true := fun b hb => by
    rw [upd_get]
    split
    · rw [Nat.testBit_or, hb]; rfl
    · exact hb
  have all : (A.getD n 0).testBit k = true → ∀ b, (A.getD k 0).testBit b = true → ((upd A k N).getD n 0).testBit b = true := fun q b hb => by
    rw [upd_get, if_pos ⟨hn, q⟩, Nat.testBit_or, hb]
    simp
  have inv : ∀ m b, ((upd A k N).getD m 0).testBit b = true → (A.getD m 0).testBit b = true ∨ ((A.getD m 0).testBit k = true ∧ (A.getD k 0).testBit b = true) := fun m b hb => by
    rw [upd_get] at hb
    split at hb
    · rename_i q
      rw [Nat.testBit_or, Bool.or_eq_true] at hb
      rcases hb with hb | hb
      · exact .inl hb
      · exact .inr ⟨q.2, hb⟩
    · exact .inl hb
  have nk : ∀ b, (A.getD k 0).testBit b = true → (A.getD n 0).testBit k = true → ((upd A k N).getD n 0).testBit b = true := fun b hb q => all q b hb
  rcases Nat.lt_or_ge t k with hlt | hge
  · rcases inv n t hnt with h1 | ⟨h1, h2⟩
    · rcases inv t b htb with h3 | ⟨h3, h4⟩
      · exact sub b (hT n t b hn hlt h1 h3)
      · exact nk b h4 (hT n t k hn hlt h1 h3)
    · rcases inv t b htb with h3 | ⟨h3, h4⟩
      · exact nk b (hT k t b hk hlt h2 h3) h1
      · exact nk b h4 h1
  · obtain rfl : t = k := by omega
    have hb2 : (A.getD t 0).testBit b = true := by
      rcases inv t b htb with h3 | ⟨_, h4⟩
      · exact h3
      · exact h4
    rcases inv n t hnt with h1 | ⟨h1, _⟩
    · exact nk b hb2 h1
    · exact nk b hb2 h1
end Go.Cl
