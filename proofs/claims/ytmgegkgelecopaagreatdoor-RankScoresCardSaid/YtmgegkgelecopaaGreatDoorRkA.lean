/-
  Fractions of two numbers, in plain mathematics: how they compare by products of 128 bits, that this is an order, and what lowest terms are.
-/
namespace Go.Rk

def cmpI (a b : Int) : Int := if a < b then -1 else if b < a then 1 else 0
def qn (n d : Int) : Int := if d ≤ 0 then 0 else n
def qd (d : Int) : Int := if d ≤ 0 then 1 else d
def cmpR (n d m e : Int) : Int := cmpI (qn n d * qd e) (qn m e * qd d)
def sz (n : Int) : Nat := n.natAbs

theorem qd_pos (d : Int) : 0 < qd d := by unfold qd; split <;> omega

theorem cmpI_cases (a b : Int) : (a < b ∧ cmpI a b = -1) ∨ (b < a ∧ cmpI a b = 1) ∨ (a = b ∧ cmpI a b = 0) := by
  unfold cmpI
  by_cases h : a < b
  · exact Or.inl ⟨h, if_pos h⟩
  · by_cases g : b < a
    · exact Or.inr (Or.inl ⟨g, by rw [if_neg h, if_pos g]⟩)
    · exact Or.inr (Or.inr ⟨by omega, by rw [if_neg h, if_neg g]⟩)

theorem cmpI_range (a b : Int) : -1 ≤ cmpI a b ∧ cmpI a b ≤ 1 := by rcases cmpI_cases a b with ⟨_, h⟩ | ⟨_, h⟩ | ⟨_, h⟩ <;> omega
theorem cmpI_anti (a b : Int) : cmpI a b = - cmpI b a := by
  rcases cmpI_cases a b with ⟨h, e⟩ | ⟨h, e⟩ | ⟨h, e⟩ <;> rcases cmpI_cases b a with ⟨g, f⟩ | ⟨g, f⟩ | ⟨g, f⟩ <;> omega
theorem cmpI_self (a : Int) : cmpI a a = 0 := by rcases cmpI_cases a a with ⟨h, e⟩ | ⟨h, e⟩ | ⟨h, e⟩ <;> omega

theorem cmpI_words (x y : Nat) : (if cmpI ((x / 18446744073709551616 : Nat) : Int) ((y / 18446744073709551616 : Nat) : Int) ≠ 0 then cmpI ((x / 18446744073709551616 : Nat) : Int) ((y / 18446744073709551616 : Nat) : Int) else cmpI ((x % 18446744073709551616 : Nat) : Int) ((y % 18446744073709551616 : Nat) : Int)) = cmpI (x : Int) (y : Int) := by
  have hx := Nat.div_add_mod x 18446744073709551616
  have hy := Nat.div_add_mod y 18446744073709551616
  rcases cmpI_cases ((x / 18446744073709551616 : Nat) : Int) ((y / 18446744073709551616 : Nat) : Int) with ⟨h, e⟩ | ⟨h, e⟩ | ⟨h, e⟩
  · rw [if_pos (by omega), e]
    rcases cmpI_cases (x : Int) (y : Int) with ⟨g, f⟩ | ⟨g, f⟩ | ⟨g, f⟩ <;> omega
  · rw [if_pos (by omega), e]
    rcases cmpI_cases (x : Int) (y : Int) with ⟨g, f⟩ | ⟨g, f⟩ | ⟨g, f⟩ <;> omega
  · rw [if_neg (by omega)]
    rcases cmpI_cases ((x % 18446744073709551616 : Nat) : Int) ((y % 18446744073709551616 : Nat) : Int) with ⟨g, f⟩ | ⟨g, f⟩ | ⟨g, f⟩ <;>
      rcases cmpI_cases (x : Int) (y : Int) with ⟨k, l⟩ | ⟨k, l⟩ | ⟨k, l⟩ <;> omega

theorem mul_sign {n d : Int} (hd : 0 < d) : (n < 0 ∧ n * d < 0) ∨ (n = 0 ∧ n * d = 0) ∨ (0 < n ∧ 0 < n * d) := by
  by_cases h : n < 0
  · exact Or.inl ⟨h, Int.mul_neg_of_neg_of_pos h hd⟩
  · by_cases g : n = 0
    · exact Or.inr (Or.inl ⟨g, by rw [g, Int.zero_mul]⟩)
    · exact Or.inr (Or.inr ⟨by omega, Int.mul_pos (by omega) hd⟩)

theorem cmpI_signs {n d m e : Int} (hd : 0 < d) (he : 0 < e) (h : cmpI n 0 ≠ cmpI m 0) : cmpI (cmpI n 0) (cmpI m 0) = cmpI (n * e) (m * d) := by
  have a := mul_sign (n := n) he
  have b := mul_sign (n := m) hd
  generalize n * e = u at *
  generalize m * d = v at *
  rcases cmpI_cases n 0 with ⟨p, e1⟩ | ⟨p, e1⟩ | ⟨p, e1⟩ <;> rcases cmpI_cases m 0 with ⟨q, e2⟩ | ⟨q, e2⟩ | ⟨q, e2⟩ <;> rw [e1, e2] at h ⊢ <;>
    rcases cmpI_cases u v with ⟨g, f⟩ | ⟨g, f⟩ | ⟨g, f⟩ <;> rw [f] <;> first
      | rfl
      | (exfalso; omega)

theorem natAbs_mul_pos {n d : Int} (hd : 0 < d) : ((sz n * d.toNat : Nat) : Int) = (if n < 0 then -(n * d) else n * d) := by
  have h1 : ((d.toNat : Nat) : Int) = d := by omega
  rw [Int.natCast_mul, h1]
  unfold sz
  split
  · have : ((n.natAbs : Nat) : Int) = -n := by omega
    rw [this, Int.neg_mul]
  · have : ((n.natAbs : Nat) : Int) = n := by omega
    rw [this]

theorem cmpI_sizes {n d m e : Int} (hd : 0 < d) (he : 0 < e) (h : cmpI n 0 = cmpI m 0) : cmpI n 0 * cmpI ((sz n * e.toNat : Nat) : Int) ((sz m * d.toNat : Nat) : Int) = cmpI (n * e) (m * d) := by
  rw [natAbs_mul_pos he, natAbs_mul_pos hd]
  have a := mul_sign (n := n) he
  have b := mul_sign (n := m) hd
  generalize n * e = u at *
  generalize m * d = v at *
  rcases cmpI_cases n 0 with ⟨p, e1⟩ | ⟨p, e1⟩ | ⟨p, e1⟩ <;> rcases cmpI_cases m 0 with ⟨q, e2⟩ | ⟨q, e2⟩ | ⟨q, e2⟩ <;> rw [e1, e2] at h <;> first
    | (exfalso; omega)
    | skip
  · rw [e1, if_pos p, if_pos q]
    rcases cmpI_cases (-u) (-v) with ⟨k, l⟩ | ⟨k, l⟩ | ⟨k, l⟩ <;> rcases cmpI_cases u v with ⟨g, f⟩ | ⟨g, f⟩ | ⟨g, f⟩ <;> rw [l, f] <;> omega
  · rw [e1, if_neg (by omega), if_neg (by omega), Int.one_mul]
  · rw [e1, Int.zero_mul]
    rcases cmpI_cases u v with ⟨g, f⟩ | ⟨g, f⟩ | ⟨g, f⟩ <;> rw [f] <;> omega

theorem cmpI_code {n d m e : Int} (hd : 0 < d) (he : 0 < e) :
    (if cmpI (cmpI n 0) (cmpI m 0) ≠ 0 then cmpI (cmpI n 0) (cmpI m 0) else cmpI n 0 * cmpI ((sz n * e.toNat : Nat) : Int) ((sz m * d.toNat : Nat) : Int)) = cmpI (n * e) (m * d) := by
  by_cases h : cmpI n 0 = cmpI m 0
  · rw [if_neg (by rw [h, cmpI_self]; simp), cmpI_sizes hd he h]
  · have g : cmpI (cmpI n 0) (cmpI m 0) ≠ 0 := by rcases cmpI_cases (cmpI n 0) (cmpI m 0) with ⟨_, f⟩ | ⟨_, f⟩ | ⟨_, f⟩ <;> omega
    rw [if_pos g, cmpI_signs hd he h]

theorem cmpR_range (n d m e : Int) : -1 ≤ cmpR n d m e ∧ cmpR n d m e ≤ 1 := cmpI_range _ _
theorem cmpR_anti (n d m e : Int) : cmpR n d m e = - cmpR m e n d := cmpI_anti _ _
theorem cmpR_self (n d : Int) : cmpR n d n d = 0 := cmpI_self _

theorem le_cross {n d m e k f : Int} (hd : 0 < d) (he : 0 < e) (hf : 0 < f) (h : n * e ≤ m * d) (g : m * f ≤ k * e) : n * f ≤ k * d := by
  have a : n * e * f ≤ m * d * f := Int.mul_le_mul_of_nonneg_right h (Int.le_of_lt hf)
  have b : m * f * d ≤ k * e * d := Int.mul_le_mul_of_nonneg_right g (Int.le_of_lt hd)
  have c : m * d * f = m * f * d := Int.mul_right_comm m d f
  have x : (n * f) * e ≤ (k * d) * e := by
    rw [Int.mul_right_comm n f e, Int.mul_right_comm k d e]
    omega
  exact Int.le_of_mul_le_mul_right x he
theorem lt_cross {n d m e k f : Int} (hd : 0 < d) (he : 0 < e) (hf : 0 < f) (h : n * e ≤ m * d) (g : m * f ≤ k * e) (s : n * e < m * d ∨ m * f < k * e) : n * f < k * d := by
  have c : m * d * f = m * f * d := Int.mul_right_comm m d f
  have x : (n * f) * e < (k * d) * e := by
    rw [Int.mul_right_comm n f e, Int.mul_right_comm k d e]
    rcases s with s | s
    · have a : n * e * f < m * d * f := Int.mul_lt_mul_of_pos_right s hf
      have b : m * f * d ≤ k * e * d := Int.mul_le_mul_of_nonneg_right g (Int.le_of_lt hd)
      omega
    · have a : n * e * f ≤ m * d * f := Int.mul_le_mul_of_nonneg_right h (Int.le_of_lt hf)
      have b : m * f * d < k * e * d := Int.mul_lt_mul_of_pos_right s hd
      omega
  exact Int.lt_of_mul_lt_mul_right x (Int.le_of_lt he)

theorem cmpR_trans (n d m e k f : Int) (h : cmpR n d m e ≤ 0) (g : cmpR m e k f ≤ 0) : cmpR n d k f ≤ 0 ∧ (cmpR n d k f = 0 → ¬ cmpR n d m e < 0 ∧ ¬ cmpR m e k f < 0) := by
  unfold cmpR at *
  have hd := qd_pos d
  have he := qd_pos e
  have hf := qd_pos f
  have a : qn n d * qd e ≤ qn m e * qd d := by rcases cmpI_cases (qn n d * qd e) (qn m e * qd d) with ⟨_, _⟩ | ⟨_, _⟩ | ⟨_, _⟩ <;> omega
  have b : qn m e * qd f ≤ qn k f * qd e := by rcases cmpI_cases (qn m e * qd f) (qn k f * qd e) with ⟨_, _⟩ | ⟨_, _⟩ | ⟨_, _⟩ <;> omega
  have c := le_cross hd he hf a b
  refine ⟨by rcases cmpI_cases (qn n d * qd f) (qn k f * qd d) with ⟨_, _⟩ | ⟨_, _⟩ | ⟨_, _⟩ <;> omega, fun z => ?_⟩
  have ne : ¬ (qn n d * qd e < qn m e * qd d ∨ qn m e * qd f < qn k f * qd e) := fun s => by
    have := lt_cross hd he hf a b s
    rcases cmpI_cases (qn n d * qd f) (qn k f * qd d) with ⟨_, _⟩ | ⟨_, _⟩ | ⟨_, _⟩ <;> omega
  refine ⟨fun x => ne (Or.inl ?_), fun x => ne (Or.inr ?_)⟩
  · rcases cmpI_cases (qn n d * qd e) (qn m e * qd d) with ⟨_, _⟩ | ⟨_, _⟩ | ⟨_, _⟩ <;> omega
  · rcases cmpI_cases (qn m e * qd f) (qn k f * qd e) with ⟨_, _⟩ | ⟨_, _⟩ | ⟨_, _⟩ <;> omega

theorem gcd_round (a b : Int) : Int.gcd (b.tmod a) a = Int.gcd a b := by
  show Nat.gcd (b.tmod a).natAbs a.natAbs = Nat.gcd a.natAbs b.natAbs
  rw [Int.natAbs_tmod, ← Nat.gcd_rec]

theorem cmpR_lowest {n d g : Int} (hd : 0 < d) (hg : 0 < g) (h1 : g ∣ n) (h2 : g ∣ d) : cmpR n d (n.tdiv g) (d.tdiv g) = 0 ∧ 0 < d.tdiv g := by
  obtain ⟨a, rfl⟩ := h1
  obtain ⟨b, rfl⟩ := h2
  have hb : 0 < b := by
    by_cases q : 0 < b
    · exact q
    · have := Int.mul_nonpos_of_nonneg_of_nonpos (Int.le_of_lt hg) (by omega : b ≤ 0)
      omega
  rw [Int.mul_tdiv_cancel_left _ (by omega), Int.mul_tdiv_cancel_left _ (by omega)]
  refine ⟨?_, hb⟩
  unfold cmpR qn qd
  rw [if_neg (by omega), if_neg (by omega), if_neg (by omega), if_neg (by omega)]
  have : g * a * b = a * (g * b) := by rw [Int.mul_comm g a, Int.mul_assoc]
  rw [this]
  exact cmpI_self _
end Go.Rk
