import Derived.Test.YtinllamocplgjaaRcA
set_option maxRecDepth 100000
namespace Go.No

/-! Schedules: the mathematics. -/
abbrev Pick := Int × Int
def Bad (p : Pick) : Prop := p.1 < 0 ∨ 8 ≤ p.1 ∨ p.2 < 1
instance (p : Pick) : Decidable (Bad p) := by unfold Bad; infer_instance
def err : Int → List Pick → Int
  | _, [] => 0
  | s, p :: l => if Bad p then 1 else if s < p.2 then 3 else err (s - p.2) l
def put (m : List Pick) (p : Pick) : List Pick := match m.getLast? with
  | some q => if q.1 = p.1 then m.dropLast ++ [(q.1, q.2 + p.2)] else m ++ [p]
  | none => [p]
def norm (l : List Pick) : List Pick := l.foldl put []
def sum (l : List Pick) : Int := (l.map (·.2)).sum
def steps (l : List Pick) (t : Int) : Int := ((l.filter fun p => p.1 = t).map (·.2)).sum

theorem norm_snoc (l : List Pick) (p : Pick) : norm (l ++ [p]) = put (norm l) p := by simp [norm]
theorem put_nil (p : Pick) : put [] p = [p] := rfl
theorem put_same {m : List Pick} {q p : Pick} (h : q.1 = p.1) : put (m ++ [q]) p = m ++ [(q.1, q.2 + p.2)] := by simp [put, h]
theorem put_other {m : List Pick} {q p : Pick} (h : ¬ q.1 = p.1) : put (m ++ [q]) p = m ++ [q] ++ [p] := by simp [put, h]
theorem norm_length (l : List Pick) : (norm l).length ≤ l.length := by
  have : ∀ (l : List Pick) (m : List Pick), (l.foldl put m).length ≤ m.length + l.length := by
    intro l
    induction l with
    | nil => intro m; simp
    | cons p l ih =>
      intro m
      have h1 := ih (put m p)
      have h2 : (put m p).length ≤ m.length + 1 := by
        unfold put
        split
        · rename_i q hq
          split
          · have : m ≠ [] := fun e => (by subst e; simp at hq)
            have := List.length_pos_iff.2 this
            simp
          · simp
        · simp
      simp only [List.foldl_cons, List.length_cons]
      omega
  have h := this l []
  unfold norm
  simpa using h
theorem err_take {s : Int} : ∀ {l : List Pick} {k : Nat}, k < l.length → err s (l.take k) = 0 → err s (l.take (k + 1)) = (if Bad (l[k]?.getD (0, 0)) then 1 else if s - sum (l.take k) < (l[k]?.getD (0, 0)).2 then 3 else 0)
  | [], k, h, _ => by simp at h
  | p :: l, 0, _, _ => by simp [err, sum]
  | p :: l, k + 1, h, h0 => by
    simp only [List.take_succ_cons, err] at h0
    split at h0
    · cases h0
    · rename_i hb
      split at h0
      · cases h0
      · rename_i hs
        have := err_take (s := s - p.2) (l := l) (k := k) (by simpa using h) h0
        simp only [List.take_succ_cons, err, if_neg hb, if_neg hs]
        rw [this, show s - p.2 - sum (l.take k) = s - sum (p :: l.take k) by simp [sum]; omega]
        simp only [List.getElem?_cons_succ]
        rfl
theorem err_more {s : Int} : ∀ (l m : List Pick), err s l ≠ 0 → err s (l ++ m) = err s l
  | [], m, h => absurd rfl h
  | p :: l, m, h => by
    simp only [List.cons_append, err] at h ⊢
    split at h
    · rename_i q; simp [q]
    · rename_i q
      split at h
      · rename_i r; simp [q, r]
      · rename_i r
        simp only [q, r, if_false]
        exact err_more l m h
theorem sum_snoc (l : List Pick) (p : Pick) : sum (l ++ [p]) = sum l + p.2 := by simp [sum]
theorem split_last {m : List Pick} {q : Pick} (h : m.getLast? = some q) : m = m.dropLast ++ [q] := by
  rcases List.eq_nil_or_concat m with rfl | ⟨m', r, rfl⟩
  · simp at h
  · simp at h
    subst h
    simp
theorem put_sum (m : List Pick) (p : Pick) : sum (put m p) = sum m + p.2 := by
  unfold put
  split
  · rename_i q hq
    have e := split_last hq
    split
    · conv => rhs; rw [e]
      rw [sum_snoc, sum_snoc, Int.add_assoc]
    · rw [sum_snoc]
  · rename_i hq
    have : m = [] := by simpa using hq
    subst this
    simp [sum]
theorem norm_sum (l : List Pick) : sum (norm l) = sum l := by
  have : ∀ (l m : List Pick), sum (l.foldl put m) = sum m + sum l := by
    intro l
    induction l with
    | nil => intro m; simp [sum]
    | cons p l ih =>
      intro m
      rw [List.foldl_cons, ih, put_sum]
      simp only [sum, List.map_cons, List.sum_cons]
      omega
  have h := this l []
  unfold norm
  rw [h]
  simp [sum]
theorem put_pos {m : List Pick} {p : Pick} (h : ∀ q ∈ m, 1 ≤ q.2) (hp : 1 ≤ p.2) : ∀ q ∈ put m p, 1 ≤ q.2 := by
  unfold put
  split
  · rename_i r hr
    have hrm : r ∈ m := List.mem_of_getLast? hr
    split
    · intro q hq
      rcases List.mem_append.1 hq with hq | hq
      · exact h q (List.mem_of_mem_take (by rw [← List.dropLast_eq_take]; exact hq))
      · have := h r hrm
        simp at hq
        subst hq
        simp only
        omega
    · intro q hq
      rcases List.mem_append.1 hq with hq | hq
      · exact h q hq
      · simp at hq
        subst hq
        exact hp
  · intro q hq
    simp at hq
    subst hq
    exact hp
theorem err_pos : ∀ {l : List Pick} {s : Int}, err s l = 0 → ∀ p ∈ l, 1 ≤ p.2
  | [], _, _, p, hp => by simp at hp
  | q :: l, s, h, p, hp => by
    simp only [err] at h
    split at h
    · cases h
    · rename_i hb
      split at h
      · cases h
      · rcases List.mem_cons.1 hp with rfl | hp
        · simp only [Bad] at hb
          omega
        · exact err_pos h p hp
theorem norm_pos {l : List Pick} {s : Int} (h : err s l = 0) : ∀ p ∈ norm l, 1 ≤ p.2 := by
  have : ∀ (l m : List Pick), (∀ p ∈ l, 1 ≤ p.2) → (∀ p ∈ m, 1 ≤ p.2) → ∀ p ∈ l.foldl put m, 1 ≤ p.2 := by
    intro l
    induction l with
    | nil => intro m _ hm; exact hm
    | cons q l ih =>
      intro m hl hm
      rw [List.foldl_cons]
      exact ih _ (fun p hp => hl p (List.mem_cons_of_mem _ hp)) (put_pos hm (hl q (List.mem_cons_self ..)))
  exact this l [] (err_pos h) (fun p hp => by simp at hp)
theorem sum_nonneg : ∀ {l : List Pick}, (∀ p ∈ l, 1 ≤ p.2) → 0 ≤ sum l
  | [], _ => by simp [sum]
  | p :: l, h => by
    have := sum_nonneg (l := l) fun q hq => h q (List.mem_cons_of_mem _ hq)
    have := h p (List.mem_cons_self ..)
    simp only [sum, List.map_cons, List.sum_cons] at *
    omega
theorem last_le {m : List Pick} {q : Pick} (h : ∀ p ∈ m ++ [q], 1 ≤ p.2) : 1 ≤ q.2 ∧ q.2 ≤ sum (m ++ [q]) := by
  have := sum_nonneg (l := m) fun p hp => h p (List.mem_append_left _ hp)
  rw [sum_snoc]
  have := h q (by simp)
  omega
end Go.No
