import Derived.Calls
namespace Go.Ev

/-- A map from numbers, by their bits. -/
inductive Trie (α : Type) where
  | leaf
  | node (l : Trie α) (v : Option α) (r : Trie α)

namespace Trie
variable {α : Type}

def get : Trie α → Nat → Option α
  | .leaf, _ => none
  | .node l v r, n => if n = 0 then v else if n % 2 = 1 then l.get (n / 2) else r.get (n / 2 - 1)

def left : Trie α → Trie α
  | .leaf => .leaf
  | .node l _ _ => l
def right : Trie α → Trie α
  | .leaf => .leaf
  | .node _ _ r => r
def top : Trie α → Option α
  | .leaf => none
  | .node _ v _ => v

def setF : Nat → Trie α → Nat → α → Trie α
  | 0, t, _, x => .node t.left (some x) t.right
  | k + 1, t, n, x =>
    if n = 0 then .node t.left (some x) t.right
    else if n % 2 = 1 then .node (setF k t.left (n / 2) x) t.top t.right
    else .node t.left t.top (setF k t.right (n / 2 - 1) x)

def set (t : Trie α) (n : Nat) (x : α) : Trie α := setF n t n x

theorem top_node (l : Trie α) (v : Option α) (r : Trie α) : (Trie.node l v r).top = v := rfl
theorem left_node (l : Trie α) (v : Option α) (r : Trie α) : (Trie.node l v r).left = l := rfl
theorem right_node (l : Trie α) (v : Option α) (r : Trie α) : (Trie.node l v r).right = r := rfl

theorem get_node (t : Trie α) (n : Nat) : t.get n = if n = 0 then t.top else if n % 2 = 1 then t.left.get (n / 2) else t.right.get (n / 2 - 1) := by
  cases t with
  | leaf => simp [get, top, left, right]
  | node l v r => simp [get, top, left, right]

theorem get_setF : ∀ (k : Nat) (t : Trie α) (n : Nat) (x : α) (m : Nat), n ≤ k → (setF k t n x).get m = if m = n then some x else t.get m := by
  intro k
  induction k with
  | zero =>
    intro t n x m h
    have hn : n = 0 := by omega
    subst hn
    rw [get_node, get_node t]
    simp only [setF, top_node, left_node, right_node]
    by_cases m0 : m = 0 <;> simp [m0]
  | succ k ih =>
    intro t n x m h
    rw [get_node, get_node t]
    unfold setF
    by_cases e : n = 0
    · subst e
      simp only [if_true, top_node, left_node, right_node]
      by_cases m0 : m = 0 <;> simp [m0]
    · by_cases o : n % 2 = 1
      · simp only [e, o, if_true, if_false, top_node, left_node, right_node]
        rw [ih _ _ _ _ (by omega)]
        by_cases m0 : m = 0
        · simp [m0]; omega
        · by_cases mo : m % 2 = 1
          · simp only [m0, mo, if_true, if_false]
            by_cases q : m = n
            · subst q; simp
            · have : ¬ m / 2 = n / 2 := by omega
              simp [q, this]
          · have : m ≠ n := by intro q; subst q; exact mo o
            simp [m0, mo, this]
      · simp only [e, o, if_false, top_node, left_node, right_node]
        rw [ih _ _ _ _ (by omega)]
        by_cases m0 : m = 0
        · simp [m0]; omega
        · by_cases mo : m % 2 = 1
          · have : m ≠ n := by intro q; subst q; exact o mo
            simp [m0, mo, this]
          · simp only [m0, mo, if_false]
            by_cases q : m = n
            · subst q; simp
            · have : ¬ m / 2 - 1 = n / 2 - 1 := by omega
              simp [q, this]

theorem get_set (t : Trie α) (n : Nat) (x : α) (m : Nat) : (t.set n x).get m = if m = n then some x else t.get m := get_setF n t n x m (Nat.le_refl _)

theorem get_set_self (t : Trie α) (n : Nat) (x : α) : (t.set n x).get n = some x := by rw [get_set, if_pos rfl]
theorem get_set_ne (t : Trie α) {n m : Nat} (x : α) (h : m ≠ n) : (t.set n x).get m = t.get m := by rw [get_set, if_neg h]

end Trie
end Go.Ev
