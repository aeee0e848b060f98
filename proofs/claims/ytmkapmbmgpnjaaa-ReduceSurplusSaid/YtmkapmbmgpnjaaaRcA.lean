import Derived.Test.YtmkapmbmgpnjaaaIlB
set_option maxRecDepth 100000
namespace Go.Rc

/-! A list, cut into chunks. -/
def cut (n c k : Nat) : Nat := k * n / c
def piece (l : List Int) (c k : Nat) : List Int := (l.drop (cut l.length c k)).take (cut l.length c (k + 1) - cut l.length c k)
def pieces (l : List Int) (c k : Nat) : List (List Int) := (List.range k).map (piece l c)
def count (n : Nat) (z : Int) : Nat := min (max z 1).toNat n

theorem cut_zero (n c : Nat) : cut n c 0 = 0 := by simp [cut]
theorem cut_all {n c : Nat} (h : 0 < c) : cut n c c = n := by
  unfold cut
  rw [Nat.mul_comm]
  exact Nat.mul_div_cancel n h
theorem cut_le {n c k : Nat} (h : 0 < c) (hk : k ≤ c) : cut n c k ≤ n := by
  have h1 : cut n c k ≤ cut n c c := Nat.div_le_div_right (Nat.mul_le_mul_right n hk)
  rwa [cut_all h] at h1
theorem cut_mono (n c : Nat) {j k : Nat} (h : j ≤ k) : cut n c j ≤ cut n c k := Nat.div_le_div_right (Nat.mul_le_mul_right n h)
theorem cut_step {n c : Nat} (h : 0 < c) (k : Nat) : cut n c k + n / c ≤ cut n c (k + 1) ∧ cut n c (k + 1) ≤ cut n c k + n / c + 1 := by
  unfold cut
  have e1 := Nat.div_add_mod (k * n) c
  have e2 := Nat.div_add_mod n c
  have e3 := Nat.div_add_mod ((k + 1) * n) c
  have m1 := Nat.mod_lt (k * n) h
  have m2 := Nat.mod_lt n h
  have m3 := Nat.mod_lt ((k + 1) * n) h
  rw [Nat.add_mul, Nat.one_mul] at e3 m3 ⊢
  generalize (k * n) / c = A at *
  generalize n / c = B at *
  generalize (k * n + n) / c = C at *
  generalize k * n % c = x at *
  generalize n % c = y at *
  generalize (k * n + n) % c = z at *
  constructor
  · apply Nat.le_of_not_lt
    intro hlt
    have : c * (C + 1) ≤ c * (A + B) := Nat.mul_le_mul_left c hlt
    rw [Nat.mul_add, Nat.mul_add] at this
    omega
  · apply Nat.le_of_not_lt
    intro hlt
    have : c * (A + B + 1 + 1) ≤ c * C := Nat.mul_le_mul_left c hlt
    rw [Nat.mul_add, Nat.mul_add, Nat.mul_add] at this
    omega
theorem cut_lt {n c k : Nat} (h : 0 < c) (hc : c ≤ n) : cut n c k < cut n c (k + 1) := by
  have := (cut_step (n := n) h k).1
  have := Nat.div_pos hc h
  omega
theorem piece_length (l : List Int) {c k : Nat} (h : 0 < c) (hk : k < c) : (piece l c k).length = cut l.length c (k + 1) - cut l.length c k := by
  unfold piece
  have := cut_le (n := l.length) h (show k + 1 ≤ c from hk)
  simp
  omega
theorem piece_near (l : List Int) {c j k : Nat} (h : 0 < c) (hj : j < c) (hk : k < c) : (piece l c j).length ≤ (piece l c k).length + 1 := by
  rw [piece_length l h hj, piece_length l h hk]
  have := cut_step (n := l.length) h j
  have := cut_step (n := l.length) h k
  omega
theorem piece_pos (l : List Int) {c k : Nat} (h : 0 < c) (hc : c ≤ l.length) (hk : k < c) : 0 < (piece l c k).length := by
  rw [piece_length l h hk]
  have := cut_lt (k := k) h hc
  omega
theorem take_next (l : List Int) (c k : Nat) : l.take (cut l.length c k) ++ piece l c k = l.take (cut l.length c (k + 1)) := by
  unfold piece
  have := cut_mono l.length c (show k ≤ k + 1 by omega)
  rw [show cut l.length c (k + 1) = cut l.length c k + (cut l.length c (k + 1) - cut l.length c k) by omega, List.take_add]
  simp
theorem piece_get (l : List Int) (c k i : Nat) (h : i < (piece l c k).length) : (piece l c k)[i]? = l[cut l.length c k + i]? := by
  unfold piece at *
  simp at h
  simp [h]
theorem pieces_length (l : List Int) (c k : Nat) : (pieces l c k).length = k := by simp [pieces]
theorem pieces_succ (l : List Int) (c k : Nat) : pieces l c (k + 1) = pieces l c k ++ [piece l c k] := by simp [pieces, List.range_succ]
theorem pieces_get (l : List Int) (c k i : Nat) (h : i < (pieces l c k).length) : (pieces l c k)[i] = piece l c i := by simp [pieces]
theorem count_le (n : Nat) (z : Int) : count n z ≤ n := Nat.min_le_right _ _
theorem count_pos {n : Nat} {z : Int} (h : 0 < n) : 0 < count n z := by unfold count; omega
theorem count_int (n : Nat) (z : Int) : ((count n z : Nat) : Int) = min (max z 1) (n : Int) := by unfold count; omega
end Go.Rc
