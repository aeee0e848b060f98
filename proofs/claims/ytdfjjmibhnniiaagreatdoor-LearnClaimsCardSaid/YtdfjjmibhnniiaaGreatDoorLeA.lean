import Derived.Test.YtdfjjmibhnniiaaGreatDoorIlB
set_option maxRecDepth 100000
namespace Go.Le

/-! Claims about rows: the mathematics. -/
structure Inv where
  k : Int
  a : Int
  b : Int
  K : Int
  M : Int
  set : List Int
def Plain (n : Int) : Prop := -2147483647 ≤ n ∧ n ≤ 2147483647
def AllPlain (l : List Int) : Prop := ∀ v ∈ l, Plain v
def RisingTo (l : List Int) (k : Nat) : Prop := ∀ i (_ : i < l.length), i < k → ∀ j (_ : j < l.length), i = j + 1 → l[j] < l[i]
def Rising (l : List Int) : Prop := ∀ i (_ : i < l.length), ∀ j (_ : j < l.length), i = j + 1 → l[j] < l[i]
def VarsOK (x : Inv) (n : Int) : Prop := 0 ≤ x.a ∧ x.a < n ∧ (7 ≤ x.k → 0 ≤ x.b ∧ x.b < n) ∧ (x.k = 7 ∨ x.k = 8 → x.a < x.b) ∧ (9 ≤ x.k → x.a ≠ x.b)
def PlainOK (x : Inv) : Prop := Plain x.K ∧ Plain x.M ∧ AllPlain x.set
def NumsOK (x : Inv) : Prop := (x.k = 2 → 2 ≤ x.set.length ∧ x.set.length ≤ 3 ∧ Rising x.set) ∧ (x.k = 6 → 2 ≤ x.M ∧ 0 ≤ x.K ∧ x.K < x.M)
def bare (x : Inv) : Inv where
  k := x.k
  a := x.a
  b := if 7 ≤ x.k then x.b else 0
  K := if x.k = 1 ∨ x.k = 3 ∨ x.k = 4 ∨ x.k = 6 ∨ x.k = 11 then x.K else 0
  M := if x.k = 6 ∨ x.k = 11 then x.M else 0
  set := if x.k = 2 then x.set else []
open Classical in
noncomputable def err (x : Inv) (n : Int) : Int :=
  if n < 1 then 1 else if 8 < n then 3 else if ¬ (1 ≤ x.k ∧ x.k ≤ 11) then 1 else if ¬ VarsOK x n then 1 else if ¬ PlainOK x then 3 else if ¬ NumsOK x then 1 else if ¬ x = bare x then 1 else 0
def at_ (row : List Int) (i : Int) : Int := row.getD i.toNat 0
def modulo (n m : Int) : Int := (n.tmod m + m).tmod m
def Holds (x : Inv) (row : List Int) : Prop :=
  if x.k = 1 then at_ row x.a = x.K
  else if x.k = 2 then at_ row x.a ∈ x.set
  else if x.k = 3 then x.K ≤ at_ row x.a
  else if x.k = 4 then at_ row x.a ≤ x.K
  else if x.k = 5 then at_ row x.a ≠ 0
  else if x.k = 6 then modulo (at_ row x.a) x.M = x.K
  else if x.k = 7 then at_ row x.a = at_ row x.b
  else if x.k = 8 then at_ row x.a ≠ at_ row x.b
  else if x.k = 9 then at_ row x.a < at_ row x.b
  else if x.k = 10 then at_ row x.a ≤ at_ row x.b
  else at_ row x.b = x.K * at_ row x.a + x.M
theorem rising_all {l : List Int} (h : RisingTo l l.length) : Rising l := fun i hi => h i hi hi
theorem rising_next {l : List Int} {k : Nat} (h : RisingTo l k) (hk : k < l.length) (h3 : ∀ j (hj : j < l.length), k = j + 1 → l[j] < l[k]) : RisingTo l (k + 1) := by
  intro i hi hik
  by_cases e : i < k
  · exact h i hi e
  · obtain rfl : i = k := by omega
    exact h3
theorem plain_next {l : List Int} {k : Nat} (h : AllPlain (l.take k)) (hk : k < l.length) (h1 : Plain l[k]) : AllPlain (l.take (k + 1)) := by
  intro v hv
  rw [List.take_succ_eq_append_getElem hk] at hv
  rcases List.mem_append.1 hv with hv | hv
  · exact h v hv
  · simp at hv
    rw [hv]
    exact h1
theorem emod_le_self {n m : Int} (h : 0 ≤ n) (hm : 0 < m) : n % m ≤ n := by
  rcases Int.lt_or_le n m with q | q
  · rw [Int.emod_eq_of_lt h q]
    exact Int.le_refl _
  · have := Int.emod_lt_of_pos n hm
    omega
theorem tmod_small {n m : Int} (hm : 0 < m) (hn : Plain n) : Plain (n.tmod m) := by
  unfold Plain at *
  rcases Int.le_total 0 n with h | h
  · have h1 := Int.tmod_nonneg m h
    have h2 : n.tmod m ≤ n := by
      rw [Int.tmod_eq_emod_of_nonneg h]
      exact emod_le_self h hm
    omega
  · have h1 : (-n).tmod m = -(n.tmod m) := Int.neg_tmod ..
    have h2 := Int.tmod_nonneg m (show 0 ≤ -n by omega)
    have h3 : (-n).tmod m ≤ -n := by
      rw [Int.tmod_eq_emod_of_nonneg (by omega)]
      exact emod_le_self (by omega) hm
    omega
end Go.Le
