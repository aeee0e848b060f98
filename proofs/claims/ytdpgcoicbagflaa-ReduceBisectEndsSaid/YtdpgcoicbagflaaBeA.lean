import Derived.Test.YtdpgcoicbagflaaBiA
set_option maxRecDepth 100000
namespace Go.Be
open Go Go.Bi

/-! A bisection whose answers come from versions of fixed kinds: mathematics. -/

def reply (κ k : Nat) : Int := if κ % 4 = 0 then 1 else if κ % 4 = 1 then 2 else if κ % 4 = 2 then 3 else if 0 < k then 2 else 1
def judged (κ T : Nat) : Int := if κ % 4 = 3 ∧ 1 < T then 2 else reply κ 0
def blen (κ T : Nat) : Nat := if κ % 4 = 1 then 1 else if κ % 4 = 3 ∧ 1 < T then 2 else T
def said (κ k : Nat) : List Int := (List.range k).map (reply κ)
theorem said_zero (κ : Nat) : said κ 0 = [] := rfl
theorem said_succ (κ k : Nat) : said κ (k + 1) = said κ k ++ [reply κ k] := by simp [said, List.range_succ]
theorem blen_pos {κ T : Nat} (hT : 1 ≤ T) : 0 < blen κ T := by unfold blen; split <;> (try split) <;> omega
theorem blen_le {κ T : Nat} (hT : 1 ≤ T) : blen κ T ≤ T := by unfold blen; split <;> (try split) <;> omega
theorem said_const {κ k : Nat} {a : Int} (h : ∀ i, reply κ i = a) : said κ k = List.replicate k a := by
  induction k with
  | zero => rfl
  | succ k ih => rw [said_succ, ih, h, ← List.replicate_succ']
theorem ver_rep {a : Int} (ha : a ≠ 2) (r : List Int) : ∀ (k t : Nat) (v : Int), k ≤ t → ver t v (List.replicate k a ++ r) = ver (t - k) (if k = 0 then v else if a = 1 then 1 else v) r
  | 0, t, v, _ => by simp
  | k + 1, 0, v, h => by omega
  | k + 1, t + 1, v, h => by
    show ver (t + 1) v (a :: (List.replicate k a ++ r)) = _
    simp only [ver]
    rw [if_neg ha, ver_rep ha r k t _ (by omega)]
    rw [show t + 1 - (k + 1) = t - k by omega]
    by_cases e : a = 1
    · simp [e]
    · simp [e]
theorem reply_0 {κ : Nat} (h : κ % 4 = 0) (i : Nat) : reply κ i = 1 := by simp [reply, h]
theorem reply_1 {κ : Nat} (h : κ % 4 = 1) (i : Nat) : reply κ i = 2 := by simp [reply, h]
theorem reply_2 {κ : Nat} (h : κ % 4 = 2) (i : Nat) : reply κ i = 3 := by simp [reply, h]
theorem reply_3 {κ : Nat} (h : κ % 4 = 3) (i : Nat) : reply κ i = if 0 < i then 2 else 1 := by simp [reply, h]
theorem kinds (κ : Nat) : κ % 4 = 0 ∨ κ % 4 = 1 ∨ κ % 4 = 2 ∨ κ % 4 = 3 := by omega

theorem ver_part {κ T k : Nat} (hT : 1 ≤ T) (h : k < blen κ T) : ver T 3 (said κ k) = none := by
  have empty : ∀ (t : Nat) (v : Int), 1 ≤ t → ver t v [] = none := fun t v ht => by
    obtain ⟨s, rfl⟩ : ∃ s, t = s + 1 := ⟨t - 1, by omega⟩
    rfl
  have const : ∀ a : Int, a ≠ 2 → k < T → (∀ i, reply κ i = a) → ver T 3 (said κ k) = none := fun a ha hk hr => by
    have := ver_rep ha [] k T 3 (by omega)
    rw [List.append_nil] at this
    rw [said_const hr, this]
    exact empty _ _ (by omega)
  rcases kinds κ with e | e | e | e
  · have : blen κ T = T := by simp [blen, e]
    exact const 1 (by decide) (by omega) (reply_0 e)
  · have : blen κ T = 1 := by simp [blen, e]
    obtain rfl : k = 0 := by omega
    exact empty _ _ hT
  · have : blen κ T = T := by simp [blen, e]
    exact const 3 (by decide) (by omega) (reply_2 e)
  · by_cases h1 : 1 < T
    · have : blen κ T = 2 := by simp [blen, e, h1]
      rcases (show k = 0 ∨ k = 1 by omega) with rfl | rfl
      · exact empty _ _ hT
      · rw [said_succ, said_zero, reply_3 e]
        obtain ⟨s, rfl⟩ : ∃ s, T = s + 2 := ⟨T - 2, by omega⟩
        rfl
    · have : blen κ T = T := by simp [blen, e, h1]
      obtain rfl : k = 0 := by omega
      exact empty _ _ hT
theorem ver_full {κ T : Nat} (hT : 1 ≤ T) (r : List Int) : ver T 3 (said κ (blen κ T) ++ r) = some (judged κ T, r) := by
  have const : ∀ a : Int, a ≠ 2 → blen κ T = T → (∀ i, reply κ i = a) → ver T 3 (said κ (blen κ T) ++ r) = some (if a = 1 then 1 else 3, r) := fun a ha hb hr => by
    rw [hb, said_const hr, ver_rep ha r T T 3 (Nat.le_refl _), Nat.sub_self, if_neg (by omega)]
    rfl
  rcases kinds κ with e | e | e | e
  · rw [const 1 (by decide) (by simp [blen, e]) (reply_0 e)]
    simp [judged, e, reply_0 e]
  · have : blen κ T = 1 := by simp [blen, e]
    rw [this, said_succ, said_zero, reply_1 e]
    obtain ⟨s, rfl⟩ : ∃ s, T = s + 1 := ⟨T - 1, by omega⟩
    simp [ver, judged, e, reply_1 e]
  · rw [const 3 (by decide) (by simp [blen, e]) (reply_2 e)]
    simp [judged, e, reply_2 e]
  · by_cases h1 : 1 < T
    · have : blen κ T = 2 := by simp [blen, e, h1]
      rw [this, said_succ, said_succ, said_zero, reply_3 e, reply_3 e]
      obtain ⟨s, rfl⟩ : ∃ s, T = s + 2 := ⟨T - 2, by omega⟩
      simp [ver, judged, e]
    · obtain rfl : T = 1 := by omega
      have : blen κ 1 = 1 := by simp [blen, e]
      rw [this, said_succ, said_zero, reply_3 e]
      simp [ver, judged, e, reply_3 e]
theorem judged_value (κ T : Nat) : judged κ T = 1 ∨ judged κ T = 2 ∨ judged κ T = 3 := by
  unfold judged reply
  repeat' split
  all_goals simp

inductive At (T n : Nat) (κ : Nat → Nat) : List Int → (Nat → Nat) → Prop
  | zero {k A} : k < blen (κ 0) T → A 0 = k → (∀ u, u ≠ 0 → A u = 0) → At T n κ (said (κ 0) k) A
  | last {k A d} : (∀ s, ver T 3 (d ++ s) = some (1, s)) → judged (κ 0) T = 1 → k < blen (κ (n - 1)) T → A (n - 1) = k → (∀ u, u ≠ 0 → u ≠ n - 1 → A u = 0) → At T n κ (d ++ said (κ (n - 1)) k) A
  | mid {lo hi unk d k v A} : (∀ s res, Goes T lo hi unk s res → Bis T n (d ++ s) res) → lo < hi → hi < n → judged (κ lo) T = 1 → judged (κ hi) T = 2 → (∀ u, lo < u → u < hi → unk u = true → judged (κ u) T = 3) → near lo hi unk = some v → k < blen (κ v) T → A v = k → (∀ u, lo < u → u < hi → unk u = false → u ≠ v → A u = 0) → At T n κ (d ++ said (κ v) k) A
  | bad {l A} : Bis T n l .bad → (judged (κ 0) T ≠ 1 ∨ judged (κ (n - 1)) T ≠ 2) → At T n κ l A
  | fin {lo hi l A} : Bis T n l (.fin lo hi []) → lo < hi → hi < n → judged (κ lo) T = 1 → judged (κ hi) T = 2 → (∀ u, lo < u → u < hi → judged (κ u) T = 3) → At T n κ l A

theorem nearAt_none {low high : Nat} {unk : Nat → Bool} {d : Nat} (h : nearAt low high unk d = none) : (low < (low + high) / 2 + d → (low + high) / 2 + d < high → unk ((low + high) / 2 + d) = true) ∧ (low + d < (low + high) / 2 → (low + high) / 2 - d < high → unk ((low + high) / 2 - d) = true) := by
  unfold nearAt at h
  split at h
  · cases h
  · next q1 =>
    split at h
    · cases h
    · next q2 =>
      refine ⟨fun a b => ?_, fun a b => ?_⟩
      · cases e : unk ((low + high) / 2 + d) with
        | true => rfl
        | false => exact absurd ⟨a, b, e⟩ q1
      · cases e : unk ((low + high) / 2 - d) with
        | true => rfl
        | false => exact absurd ⟨a, b, e⟩ q2
theorem nearF_none {low high : Nat} {unk : Nat → Bool} : ∀ {k d : Nat}, nearF low high unk k d = none → ∀ i, d ≤ i → i < d + k → nearAt low high unk i = none
  | 0, d, _, i, h1, h2 => by omega
  | k + 1, d, h, i, h1, h2 => by
    unfold nearF at h
    split at h
    · cases h
    · next q =>
      by_cases e : i = d
      · subst e; exact q
      · exact nearF_none h i (by omega) (by omega)
theorem near_none {low high : Nat} {unk : Nat → Bool} (h : near low high unk = none) : ∀ u, low < u → u < high → unk u = true := by
  intro u h1 h2
  have f := nearF_none h
  by_cases e : (low + high) / 2 ≤ u
  · have := (nearAt_none (f (u - (low + high) / 2) (by omega) (by omega))).1
    rw [show (low + high) / 2 + (u - (low + high) / 2) = u by omega] at this
    exact this h1 h2
  · have := (nearAt_none (f ((low + high) / 2 - u) (by omega) (by omega))).2
    rw [show (low + high) / 2 - ((low + high) / 2 - u) = u by omega] at this
    exact this (by omega) h2

theorem enter {T n : Nat} {κ : Nat → Nat} (hT : 1 ≤ T) {lo hi : Nat} {unk : Nat → Bool} {d : List Int} {A : Nat → Nat} (hG : ∀ s res, Goes T lo hi unk s res → Bis T n (d ++ s) res) (h1 : lo < hi) (h2 : hi < n) (h3 : judged (κ lo) T = 1) (h4 : judged (κ hi) T = 2) (h5 : ∀ u, lo < u → u < hi → unk u = true → judged (κ u) T = 3) (h6 : ∀ u, lo < u → u < hi → unk u = false → A u = 0) : At T n κ d A := by
  cases hn : near lo hi unk with
  | none =>
    have := hG [] _ (.fin hn)
    rw [List.append_nil] at this
    exact .fin this h1 h2 h3 h4 fun u a b => h5 u a b (near_none hn u a b)
  | some v =>
    have hv := near_in hn
    have := At.mid (κ := κ) (A := A) hG h1 h2 h3 h4 h5 hn (blen_pos hT) (h6 v hv.1 hv.2.1 hv.2.2) fun u a b c _ => h6 u a b c
    rw [said_zero, List.append_nil] at this
    exact this

def upd (A : Nat → Nat) (v x : Nat) : Nat → Nat := fun u => if u = v then x else A u
theorem upd_same {A : Nat → Nat} {v x : Nat} : upd A v x v = x := by simp [upd]
theorem upd_other {A : Nat → Nat} {u v x : Nat} (h : u ≠ v) : upd A v x u = A u := by simp [upd, h]

theorem At.step {T n : Nat} {κ : Nat → Nat} (hT : 1 ≤ T) (hn : 2 ≤ n) {l : List Int} {A : Nat → Nat} (h : At T n κ l A) :
    (Bis T n l .bad ∧ (judged (κ 0) T ≠ 1 ∨ judged (κ (n - 1)) T ≠ 2)) ∨
    (∃ lo hi, Bis T n l (.fin lo hi []) ∧ lo < hi ∧ hi < n ∧ judged (κ lo) T = 1 ∧ judged (κ hi) T = 2 ∧ ∀ u, lo < u → u < hi → judged (κ u) T = 3) ∨
    (∃ v, Bis T n l (.ask v) ∧ v < n ∧ A v < T ∧ At T n κ (l ++ [reply (κ v) (A v)]) (upd A v (A v + 1))) := by
  cases h with
  | @zero k _ hk hA hO =>
    refine .inr (.inr ⟨0, .ask0 (ver_part hT hk), by omega, by rw [hA]; exact Nat.lt_of_lt_of_le hk (blen_le hT), ?_⟩)
    rw [hA, ← said_succ]
    by_cases hc : k + 1 < blen (κ 0) T
    · exact .zero hc upd_same fun u hu => by rw [upd_other hu]; exact hO u hu
    · obtain hc : k + 1 = blen (κ 0) T := by omega
      rw [hc]
      have hf := fun s => ver_full (κ := κ 0) hT s
      by_cases hj : judged (κ 0) T = 1
      · have := At.last (T := T) (n := n) (κ := κ) (k := 0) (A := upd A 0 (blen (κ 0) T)) (d := said (κ 0) (blen (κ 0) T)) (fun s => by rw [hf s, hj]) hj (blen_pos hT) (by rw [upd_other (by omega)]; exact hO _ (by omega)) fun u h0 _ => by rw [upd_other h0]; exact hO u h0
        rw [said_zero, List.append_nil] at this
        exact this
      · refine .bad (.bad0 (x := judged (κ 0) T) (r := []) ?_ hj) (.inl hj)
        have := hf []
        rwa [List.append_nil] at this
  | @last k _ d hd hj0 hk hA hO =>
    refine .inr (.inr ⟨n - 1, .ask1 (hd _) (ver_part hT hk), by omega, by rw [hA]; exact Nat.lt_of_lt_of_le hk (blen_le hT), ?_⟩)
    rw [hA, List.append_assoc, ← said_succ]
    by_cases hc : k + 1 < blen (κ (n - 1)) T
    · exact .last hd hj0 hc upd_same fun u h0 hu => by rw [upd_other hu]; exact hO u h0 hu
    · obtain hc : k + 1 = blen (κ (n - 1)) T := by omega
      rw [hc]
      have hf := fun s => ver_full (κ := κ (n - 1)) hT s
      by_cases hj : judged (κ (n - 1)) T = 2
      · refine enter hT (lo := 0) (hi := n - 1) (unk := fun _ => false) (fun s res hg => ?_) (by omega) (by omega) hj0 hj (fun u _ _ q => by cases q) fun u a b _ => by rw [upd_other (by omega)]; exact hO u (by omega) (by omega)
        rw [List.append_assoc]
        exact .goes (hd _) (by rw [hf s, hj]) hg
      · refine .bad (.bad1 (r := said (κ (n - 1)) (blen (κ (n - 1)) T)) (x := judged (κ (n - 1)) T) (s := []) (hd _) ?_ hj) (.inr hj)
        have := hf []
        rwa [List.append_nil] at this
  | @mid lo hi unk d k v _ hG h1 h2 h3 h4 h5 hv hk hA hO =>
    have hin := near_in hv
    refine .inr (.inr ⟨v, hG _ _ (.ask hv (ver_part hT hk)), by omega, by rw [hA]; exact Nat.lt_of_lt_of_le hk (blen_le hT), ?_⟩)
    rw [hA, List.append_assoc, ← said_succ]
    by_cases hc : k + 1 < blen (κ v) T
    · exact .mid hG h1 h2 h3 h4 h5 hv hc upd_same fun u a b c e => by rw [upd_other e]; exact hO u a b c e
    · obtain hc : k + 1 = blen (κ v) T := by omega
      rw [hc]
      have hf := fun s => ver_full (κ := κ v) hT s
      rcases judged_value (κ v) T with hj | hj | hj
      · refine enter hT (lo := v) (hi := hi) (unk := unk) (fun s res hg => ?_) hin.2.1 h2 hj h4 (fun u a b c => h5 u (by omega) b c) fun u a b c => by rw [upd_other (by omega)]; exact hO u (by omega) b c (by omega)
        rw [List.append_assoc]
        exact hG _ _ (.pass hv (by rw [hf s, hj]) hg)
      · refine enter hT (lo := lo) (hi := v) (unk := unk) (fun s res hg => ?_) hin.1 (by omega) h3 hj (fun u a b c => h5 u a (by omega) c) fun u a b c => by rw [upd_other (by omega)]; exact hO u a (by omega) c (by omega)
        rw [List.append_assoc]
        exact hG _ _ (.fail hv (by rw [hf s, hj]) hg)
      · refine enter hT (lo := lo) (hi := hi) (unk := fun i => unk i || i == v) (fun s res hg => ?_) h1 h2 h3 h4 (fun u a b c => ?_) fun u a b c => ?_
        · rw [List.append_assoc]
          exact hG _ _ (.skip hv (by rw [hf s, hj]) hg)
        · simp only [Bool.or_eq_true, beq_iff_eq] at c
          rcases c with c | c
          · exact h5 u a b c
          · rw [c]; exact hj
        · simp only [Bool.or_eq_false_iff, beq_eq_false_iff_ne] at c
          rw [upd_other c.2]
          exact hO u a b c.1 c.2
  | bad hb hj => exact .inl ⟨hb, hj⟩
  | fin hb h1 h2 h3 h4 h5 => exact .inr (.inl ⟨_, _, hb, h1, h2, h3, h4, h5⟩)
theorem At.start {T n : Nat} {κ : Nat → Nat} (hT : 1 ≤ T) : At T n κ [] fun _ => 0 := .zero (k := 0) (blen_pos hT) rfl fun _ _ => rfl

theorem sum_set : ∀ {As : List Nat} {v : Nat} (h : v < As.length), (As.set v (As[v] + 1)).sum = As.sum + 1
  | [], v, h => by simp at h
  | a :: As, 0, h => by simp; omega
  | a :: As, v + 1, h => by
    have := sum_set (As := As) (v := v) (by simpa using h)
    simp only [List.set_cons_succ, List.sum_cons, List.getElem_cons_succ]
    omega
theorem sum_le : ∀ {As : List Nat} {T : Nat}, (∀ a ∈ As, a ≤ T) → As.sum ≤ As.length * T
  | [], T, _ => by simp
  | a :: As, T, h => by
    have h1 := h a (by simp)
    have h2 := sum_le (As := As) (T := T) fun b hb => h b (by simp [hb])
    simp only [List.sum_cons, List.length_cons, Nat.add_mul]
    omega
theorem getD_set {As : List Nat} {v x : Nat} (h : v < As.length) : (fun u => (As.set v x).getD u 0) = upd (fun u => As.getD u 0) v x := by
  funext u
  unfold upd
  by_cases e : u = v
  · subst e; simp [h]
  · have e2 : ¬ v = u := fun q => e q.symm
    simp [e, e2]

structure Sorts (n T : Nat) (κ : Nat → Nat) (j f : Nat) (s : Bool) : Prop where
  ge : j ≤ f
  le : f ≤ n
  sorted : s = true → ∀ u, j ≤ u → u < n → (u < f → judged (κ u) T = 1) ∧ (f ≤ u → judged (κ u) T = 2)
theorem Sorts.start (n T : Nat) (κ : Nat → Nat) : Sorts n T κ n n true := ⟨Nat.le_refl _, Nat.le_refl _, fun _ u a b => by omega⟩
theorem Sorts.fails {n T : Nat} {κ : Nat → Nat} {j f : Nat} {s : Bool} (h : Sorts n T κ (j + 1) f s) (hf : judged (κ j) T = 2) : Sorts n T κ j j (s && f == j + 1) := by
  refine ⟨Nat.le_refl _, by have := h.ge; have := h.le; omega, fun hs u a b => ?_⟩
  simp only [Bool.and_eq_true, beq_iff_eq] at hs
  refine ⟨fun q => by omega, fun _ => ?_⟩
  by_cases e : u = j
  · rw [e]; exact hf
  · exact (h.sorted hs.1 u (by omega) b).2 (by omega)
theorem Sorts.passes {n T : Nat} {κ : Nat → Nat} {j f : Nat} {s : Bool} (h : Sorts n T κ (j + 1) f s) (hf : judged (κ j) T = 1) : Sorts n T κ j f s := by
  refine ⟨by have := h.ge; omega, h.le, fun hs u a b => ?_⟩
  by_cases e : u = j
  · rw [e]; exact ⟨fun _ => hf, fun q => by have := h.ge; omega⟩
  · exact h.sorted hs u (by omega) b
theorem Sorts.no {n T : Nat} {κ : Nat → Nat} {j f : Nat} {s : Bool} (h : Sorts n T κ (j + 1) f s) : Sorts n T κ j f false :=
  ⟨by have := h.ge; omega, h.le, fun hs => by cases hs⟩
theorem Sorts.ends {n T : Nat} {κ : Nat → Nat} {f : Nat} (h : Sorts n T κ 0 f true) {lo hi : Nat} (h1 : lo < hi) (h2 : hi < n) (h3 : judged (κ lo) T = 1) (h4 : judged (κ hi) T = 2) (h5 : ∀ u, lo < u → u < hi → judged (κ u) T = 3) : f = hi ∧ lo + 1 = hi := by
  have hs := h.sorted rfl
  have a : lo < f := by
    by_cases q : lo < f
    · exact q
    · have := (hs lo (Nat.zero_le _) (by omega)).2 (by omega)
      rw [h3] at this
      cases this
  have b : f ≤ hi := by
    by_cases q : f ≤ hi
    · exact q
    · have := (hs hi (Nat.zero_le _) h2).1 (by omega)
      rw [h4] at this
      cases this
  have c : lo + 1 = hi := by
    by_cases q : lo + 1 = hi
    · exact q
    · have := h5 (lo + 1) (by omega) (by omega)
      have k := hs (lo + 1) (Nat.zero_le _) (by omega)
      by_cases e : lo + 1 < f
      · rw [k.1 e] at this; cases this
      · rw [k.2 (by omega)] at this; cases this
  omega
end Go.Be
