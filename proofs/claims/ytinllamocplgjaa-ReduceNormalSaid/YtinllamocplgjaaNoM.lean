import Derived.Test.YtinllamocplgjaaNoA
set_option maxRecDepth 100000
namespace Go.No

/-! Schedules: normal forms, their blocks, joined schedules. -/
theorem err_zero : ∀ {l : List Pick} {s : Int}, 0 ≤ s → (err s l = 0 ↔ (∀ p ∈ l, ¬ Bad p) ∧ sum l ≤ s)
  | [], s, hs => by simp [err, sum, hs]
  | p :: l, s, hs => by
    simp only [err]
    by_cases hb : Bad p
    · rw [if_pos hb]
      exact ⟨fun h => absurd h (by decide), fun h => absurd hb (h.1 p (List.mem_cons_self ..))⟩
    · rw [if_neg hb]
      have hs0 : sum (p :: l) = p.2 + sum l := by simp [sum]
      by_cases hc : s < p.2
      · rw [if_pos hc]
        refine ⟨fun h => absurd h (by decide), fun h => ?_⟩
        have := sum_nonneg (l := l) fun q hq => by
          have := h.1 q (List.mem_cons_of_mem _ hq)
          simp only [Bad] at this
          omega
        have := h.2
        omega
      · rw [if_neg hc, err_zero (by omega), hs0]
        refine ⟨fun h => ⟨fun q hq => ?_, by omega⟩, fun h => ⟨fun q hq => h.1 q (List.mem_cons_of_mem _ hq), by omega⟩⟩
        rcases List.mem_cons.1 hq with rfl | hq
        · exact hb
        · exact h.1 q hq

def Apart (m : List Pick) : Prop := ∀ i p q, m[i]? = some p → m[i + 1]? = some q → p.1 ≠ q.1
theorem apart_snoc {m : List Pick} {p : Pick} : Apart (m ++ [p]) ↔ Apart m ∧ ∀ q, m.getLast? = some q → q.1 ≠ p.1 := by
  constructor
  · intro h
    refine ⟨fun i a b ha hb => ?_, fun q hq => ?_⟩
    · have h1 := (List.getElem?_eq_some_iff.1 ha).1
      have h2 := (List.getElem?_eq_some_iff.1 hb).1
      exact h i a b (by rw [List.getElem?_append_left h1]; exact ha) (by rw [List.getElem?_append_left h2]; exact hb)
    · rw [List.getLast?_eq_getElem?] at hq
      have h1 := (List.getElem?_eq_some_iff.1 hq).1
      refine h (m.length - 1) q p (by rw [List.getElem?_append_left h1]; exact hq) ?_
      rw [show m.length - 1 + 1 = m.length by omega]
      simp
  · rintro ⟨h, hl⟩ i a b ha hb
    have h2 := (List.getElem?_eq_some_iff.1 hb).1
    simp only [List.length_append, List.length_cons, List.length_nil] at h2
    by_cases hi : i + 1 < m.length
    · rw [List.getElem?_append_left (by omega)] at ha hb
      exact h i a b ha hb
    · have e : i + 1 = m.length := by omega
      rw [List.getElem?_append_left (by omega)] at ha
      rw [e] at hb
      simp at hb
      subst hb
      refine hl a ?_
      rw [List.getLast?_eq_getElem?, show m.length - 1 = i by omega]
      exact ha
theorem apart_put {m : List Pick} {p : Pick} (h : Apart m) : Apart (put m p) := by
  rcases List.eq_nil_or_concat m with rfl | ⟨m', q, rfl⟩
  · intro i a b ha hb
    simp [put] at ha hb
  · rw [List.concat_eq_append] at *
    by_cases e : q.1 = p.1
    · rw [put_same e]
      rw [apart_snoc] at h ⊢
      exact h
    · rw [put_other e, apart_snoc]
      refine ⟨h, fun r hr => ?_⟩
      simp at hr
      subst hr
      exact e
theorem apart_norm (l : List Pick) : Apart (norm l) := by
  have : ∀ (l m : List Pick), Apart m → Apart (l.foldl put m) := by
    intro l
    induction l with
    | nil => intro m h; exact h
    | cons q l ih => intro m h; rw [List.foldl_cons]; exact ih _ (apart_put h)
  exact this l [] (fun i a b ha _ => by simp at ha)
theorem snoc_rec {C : List Pick → Prop} (h0 : C []) (h : ∀ l p, C l → C (l ++ [p])) : ∀ l, C l := by
  intro l
  generalize hn : l.length = n
  induction n generalizing l with
  | zero => rw [List.length_eq_zero_iff.1 hn]; exact h0
  | succ n ih =>
    rcases List.eq_nil_or_concat l with rfl | ⟨m, q, rfl⟩
    · simp at hn
    · rw [List.concat_eq_append] at *
      exact h m q (ih m (by simpa using hn))
theorem norm_fix : ∀ m : List Pick, Apart m → norm m = m := by
  refine snoc_rec (fun _ => rfl) fun m p ih h => ?_
  rw [apart_snoc] at h
  rw [norm_snoc, ih h.1]
  unfold put
  split
  · rename_i q hq
    rw [if_neg (h.2 q hq)]
  · rename_i hq
    have : m = [] := by simpa using hq
    subst this
    rfl
theorem norm_norm (l : List Pick) : norm (norm l) = norm l := norm_fix _ (apart_norm l)
theorem put_bad {m : List Pick} {p : Pick} (hm : ∀ q ∈ m, ¬ Bad q) (hp : ¬ Bad p) : ∀ q ∈ put m p, ¬ Bad q := by
  rcases List.eq_nil_or_concat m with rfl | ⟨m', r, rfl⟩
  · intro q hq
    simp [put] at hq
    subst hq
    exact hp
  · rw [List.concat_eq_append] at *
    by_cases e : r.1 = p.1
    · rw [put_same e]
      intro q hq
      rcases List.mem_append.1 hq with hq | hq
      · exact hm q (List.mem_append_left _ hq)
      · simp at hq
        subst hq
        have := hm r (by simp)
        simp only [Bad] at *
        omega
    · rw [put_other e]
      intro q hq
      rcases List.mem_append.1 hq with hq | hq
      · exact hm q hq
      · simp at hq
        subst hq
        exact hp
theorem norm_err {l : List Pick} (h : err 65536 l = 0) : err 65536 (norm l) = 0 := by
  rw [err_zero (by omega)] at h ⊢
  rw [norm_sum]
  refine ⟨?_, h.2⟩
  have : ∀ (l m : List Pick), (∀ p ∈ l, ¬ Bad p) → (∀ p ∈ m, ¬ Bad p) → ∀ p ∈ l.foldl put m, ¬ Bad p := by
    intro l
    induction l with
    | nil => intro m _ hm; exact hm
    | cons q l ih =>
      intro m hl hm
      rw [List.foldl_cons]
      exact ih _ (fun p hp => hl p (List.mem_cons_of_mem _ hp)) (put_bad hm (hl q (List.mem_cons_self ..)))
  exact this l [] h.1 (fun p hp => by simp at hp)

theorem steps_append (a b : List Pick) (t : Int) : steps (a ++ b) t = steps a t + steps b t := by simp [steps]
theorem steps_one (p : Pick) (t : Int) : steps [p] t = if p.1 = t then p.2 else 0 := by
  by_cases h : p.1 = t
  · simp [steps, h]
  · simp [steps, h]
theorem steps_put (m : List Pick) (p : Pick) (t : Int) : steps (put m p) t = steps m t + steps [p] t := by
  rcases List.eq_nil_or_concat m with rfl | ⟨m', r, rfl⟩
  · simp [put, steps]
  · rw [List.concat_eq_append]
    by_cases e : r.1 = p.1
    · rw [put_same e, steps_append, steps_append, steps_one, steps_one, steps_one, e]
      split <;> omega
    · rw [put_other e, steps_append]
theorem steps_norm (l : List Pick) (t : Int) : steps (norm l) t = steps l t := by
  revert l
  refine snoc_rec rfl fun l p ih => ?_
  rw [norm_snoc, steps_put, ih, steps_append]

def Blk : List Pick → List (List Pick) → Prop
  | [], [] => True
  | p :: m, b :: bs => (∀ q ∈ b, q.1 = p.1) ∧ sum b = p.2 ∧ Blk m bs
  | _, _ => False
theorem blk_length : ∀ {m : List Pick} {bs : List (List Pick)}, Blk m bs → bs.length = m.length
  | [], [], _ => rfl
  | _ :: _, _ :: _, h => by simpa using blk_length h.2.2
  | [], _ :: _, h => h.elim
  | _ :: _, [], h => h.elim
theorem blk_snoc : ∀ {m : List Pick} {bs : List (List Pick)} {p : Pick} {b : List Pick}, Blk m bs → (∀ q ∈ b, q.1 = p.1) → sum b = p.2 → Blk (m ++ [p]) (bs ++ [b])
  | [], [], _, _, _, h1, h2 => ⟨h1, h2, trivial⟩
  | _ :: _, _ :: _, _, _, h, h1, h2 => ⟨h.1, h.2.1, blk_snoc h.2.2 h1 h2⟩
  | [], _ :: _, _, _, h, _, _ => h.elim
  | _ :: _, [], _, _, h, _, _ => h.elim
theorem blk_last : ∀ {m : List Pick} {bs : List (List Pick)} {p : Pick}, Blk (m ++ [p]) bs → ∃ cs b, bs = cs ++ [b] ∧ Blk m cs ∧ (∀ q ∈ b, q.1 = p.1) ∧ sum b = p.2
  | [], [b], _, h => ⟨[], b, rfl, trivial, h.1, h.2.1⟩
  | [], _ :: _ :: _, _, h => h.2.2.elim
  | _ :: _, b :: bs, _, h => by
    obtain ⟨cs, c, e, h1, h2, h3⟩ := blk_last h.2.2
    exact ⟨b :: cs, c, by rw [e]; rfl, ⟨h.1, h.2.1, h1⟩, h2, h3⟩
  | [], [], _, h => h.elim
  | _ :: _, [], _, h => h.elim
theorem blk_get : ∀ {m : List Pick} {bs : List (List Pick)} (_ : Blk m bs) (i : Nat) (hi : i < m.length), ∃ b, bs.drop i = b :: bs.drop (i + 1) ∧ (∀ q ∈ b, q.1 = m[i].1) ∧ sum b = m[i].2
  | _ :: _, b :: _, h, 0, _ => ⟨b, rfl, h.1, h.2.1⟩
  | _ :: m, _ :: bs, h, i + 1, hi => by
    obtain ⟨b, h1, h2, h3⟩ := blk_get h.2.2 i (by simpa using hi)
    exact ⟨b, h1, h2, h3⟩
  | [], _, _, i, hi => absurd hi (Nat.not_lt_zero i)
  | _ :: _, [], h, _, _ => h.elim
theorem blk_norm : ∀ l : List Pick, ∃ bs, Blk (norm l) bs ∧ bs.flatten = l := by
  refine snoc_rec ⟨[], trivial, rfl⟩ fun l p ih => ?_
  obtain ⟨bs, h, e⟩ := ih
  rw [norm_snoc]
  rcases List.eq_nil_or_concat (norm l) with hn | ⟨m', r, hn⟩
  · rw [hn] at h ⊢
    have : bs = [] := by simpa using blk_length h
    subst this
    simp at e
    subst e
    exact ⟨[[p]], ⟨fun q hq => by simp at hq; rw [hq], by simp [sum], trivial⟩, rfl⟩
  · rw [List.concat_eq_append] at hn
    rw [hn] at h ⊢
    obtain ⟨cs, b, rfl, h1, h2, h3⟩ := blk_last h
    by_cases ht : r.1 = p.1
    · rw [put_same ht]
      refine ⟨cs ++ [b ++ [p]], blk_snoc h1 (fun q hq => ?_) ?_, ?_⟩
      · rcases List.mem_append.1 hq with hq | hq
        · exact h2 q hq
        · simp at hq
          rw [hq]
          exact ht.symm
      · rw [sum_snoc, h3]
      · rw [← e]
        simp
    · rw [put_other ht]
      refine ⟨cs ++ [b] ++ [[p]], blk_snoc (blk_snoc h1 h2 h3) (fun q hq => by simp at hq; rw [hq]) (by simp [sum]), ?_⟩
      rw [← e]
      simp

theorem fold_length : ∀ (l m : List Pick), (l.foldl put m).length ≤ m.length + l.length
  | [], m => by simp
  | p :: l, m => by
    have h1 := fold_length l (put m p)
    have h2 : (put m p).length ≤ m.length + 1 := by
      rcases List.eq_nil_or_concat m with rfl | ⟨m', r, rfl⟩
      · simp [put]
      · rw [List.concat_eq_append]
        by_cases e : r.1 = p.1
        · rw [put_same e]; simp
        · rw [put_other e]; simp
    simp only [List.foldl_cons, List.length_cons]
    omega
theorem put_twice {m : List Pick} {p q : Pick} (h : p.1 = q.1) : (put (put m p) q).length = (put m p).length := by
  rcases List.eq_nil_or_concat m with rfl | ⟨m', r, rfl⟩
  · simp [put, h]
  · rw [List.concat_eq_append]
    by_cases e : r.1 = p.1
    · rw [put_same e, put_same (by simpa [e] using h)]; simp
    · rw [put_other e, put_same h]; simp
theorem norm_less {a c : List Pick} {p q : Pick} (h : p.1 = q.1) : (norm (a ++ p :: q :: c)).length ≤ a.length + 1 + c.length := by
  have e : norm (a ++ p :: q :: c) = c.foldl put (put (put (norm a) p) q) := by simp [norm]
  rw [e]
  have h1 := fold_length c (put (put (norm a) p) q)
  rw [put_twice h] at h1
  have h2 := fold_length [p] (norm a)
  have h3 := norm_length a
  simp only [List.foldl_cons, List.foldl_nil, List.length_cons, List.length_nil] at h2
  omega
def moved (m : List Pick) (a n : Nat) : List Pick := m.take (a + 1) ++ (m.drop n).take 1 ++ ((m.take n).drop (a + 1)) ++ m.drop (n + 1)
theorem five {m : List Pick} {a n : Nat} (h : a < n) (hn : n < m.length) : ∃ A B C, m = A ++ m[a] :: (B ++ m[n] :: C) ∧ moved m a n = A ++ m[a] :: m[n] :: (B ++ C) := by
  refine ⟨m.take a, (m.take n).drop (a + 1), m.drop (n + 1), ?_, ?_⟩
  · have e1 : m = m.take n ++ m.drop n := (List.take_append_drop n m).symm
    have e2 : m.drop n = m[n] :: m.drop (n + 1) := List.drop_eq_getElem_cons hn
    have e3 : m.take n = (m.take n).take a ++ (m.take n).drop a := (List.take_append_drop a _).symm
    have ha : a < (m.take n).length := by rw [List.length_take]; omega
    have e4 : (m.take n).drop a = (m.take n)[a] :: (m.take n).drop (a + 1) := List.drop_eq_getElem_cons ha
    have e5 : (m.take n)[a] = m[a] := by simp
    have e6 : (m.take n).take a = m.take a := by rw [List.take_take, Nat.min_eq_left (by omega)]
    conv => lhs; rw [e1, e2, e3, e4, e5, e6]
    simp
  · have e2 : (m.drop n).take 1 = [m[n]] := by rw [List.drop_eq_getElem_cons hn]; rfl
    have e3 : m.take (a + 1) = m.take a ++ [m[a]] := List.take_succ_eq_append_getElem (by omega)
    unfold moved
    rw [e2, e3]
    simp only [List.append_assoc, List.cons_append, List.nil_append]
theorem moved_steps {m : List Pick} {a n : Nat} (h : a < n) (hn : n < m.length) (t : Int) : steps (moved m a n) t = steps m t := by
  obtain ⟨A, B, C, e1, e2⟩ := five h hn
  rw [e2]
  conv => rhs; rw [e1]
  have c : ∀ (x : Pick) (l : List Pick), steps (x :: l) t = steps [x] t + steps l t := fun x l => steps_append [x] l t
  rw [steps_append, steps_append, c m[a] (m[n] :: (B ++ C)), c m[n] (B ++ C), c m[a] (B ++ m[n] :: C), steps_append B, steps_append B, c m[n] C]
  omega
theorem moved_sum {m : List Pick} {a n : Nat} (h : a < n) (hn : n < m.length) : sum (moved m a n) = sum m := by
  obtain ⟨A, B, C, e1, e2⟩ := five h hn
  rw [e2]
  conv => rhs; rw [e1]
  simp only [sum, List.map_append, List.map_cons, List.sum_append, List.sum_cons]
  omega
theorem moved_mem {m : List Pick} {a n : Nat} (h : a < n) (hn : n < m.length) : ∀ p ∈ moved m a n, p ∈ m := by
  intro p hp
  obtain ⟨A, B, C, e1, e2⟩ := five h hn
  rw [e2] at hp
  rw [e1]
  simp only [List.mem_append, List.mem_cons] at hp ⊢
  grind
theorem moved_err {m : List Pick} {a n : Nat} (h : a < n) (hn : n < m.length) (h0 : err 65536 m = 0) : err 65536 (moved m a n) = 0 := by
  rw [err_zero (by omega)] at h0 ⊢
  rw [moved_sum h hn]
  exact ⟨fun p hp => h0.1 p (moved_mem h hn p hp), h0.2⟩
theorem moved_length {m : List Pick} {a n : Nat} (h : a < n) (hn : n < m.length) : (moved m a n).length = m.length := by
  obtain ⟨A, B, C, e1, e2⟩ := five h hn
  rw [e2]
  conv => rhs; rw [e1]
  simp
  omega
theorem moved_less {m : List Pick} {a n : Nat} (h : a < n) (hn : n < m.length) (ht : m[a].1 = m[n].1) : (norm (moved m a n)).length < m.length := by
  obtain ⟨A, B, C, e1, e2⟩ := five h hn
  have h1 := norm_less (a := A) (c := B ++ C) ht
  rw [← e2] at h1
  have h2 : m.length = A.length + 1 + B.length + 1 + C.length := by
    conv => lhs; rw [e1]
    simp
    omega
  simp only [List.length_append] at h1
  omega
end Go.No
