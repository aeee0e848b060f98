import Derived.Test.YtmkapmbmgpnjaaaDsD
set_option maxRecDepth 100000
namespace Go.Proofs.Ytmkapmbmgpnjaaa.Se
open Go Go.Ms Go.Pg Go.Bi Go.Se Go.ChangeShapes Go.WideShapes Go.ChangeAt Go.RowKit Go.Deep Go.Proofs.Ytmkapmbmgpnjaaa.Bi

/-! Counter-based delta debugging, as a tree. -/

structure Cs where
  kept : List Nat
  lev : List Nat
def levOf (c : Cs) (i : Nat) : Nat := c.lev.getD i 0
def lowest (la : Nat) (c : Cs) : Nat := c.kept.foldl (fun a i => min a (levOf c i)) (la + 1)
def groupOf (s la : Nat) (c : Cs) : List Nat := if la < lowest la c then [] else (c.kept.filter fun i => levOf c i == lowest la c).take (s >>> lowest la c)
def restOf (kept g : List Nat) : List Nat := kept.filter fun i => !decide (i ∈ g)
def atLev (f : Nat → Nat) (l lev : List Nat) : List Nat := lev.mapIdx fun j x => if j ∈ l then f x else x
def lowered (la : Nat) (l lev : List Nat) : List Nat := atLev (fun x => min x la) l lev
def raised (l lev : List Nat) : List Nat := atLev (fun x => x + 1) l lev
def countT (s la : Nat) : Nat → Cs → Tr
  | 0, _ => .fin [] []
  | f + 1, c => if groupOf s la c = [] then .fin (c.kept.map Int.ofNat) [] else
    .ask (ofP (among (restOf c.kept (groupOf s la c)))) fun v =>
      if v = 2 then countT s la f ⟨restOf c.kept (groupOf s la c), lowered la (restOf c.kept (groupOf s la c)) c.lev⟩
      else countT s la f ⟨c.kept, raised (groupOf s la c) c.lev⟩
def countN (n s la : Nat) : Tr := .ask (allQ n) fun v => if v = 2 then countT s la 800000 ⟨List.range n, List.replicate n 0⟩ else .err 7

structure Start (s la : Nat) : Prop where
  le : 2 ^ la ≤ s
  lt : s < 2 ^ (la + 1)
  small : la ≤ 8
structure FitC (n la : Nat) (c : Cs) : Prop where
  sorted : c.kept.Pairwise (· < ·)
  low : ∀ i ∈ c.kept, i < n
  len : c.lev.length = n
  lev : ∀ i, levOf c i ≤ la + 1

theorem foldl_min (f : Nat → Nat) : ∀ (l : List Nat) (a : Nat), l.foldl (fun a i => min a (f i)) a ≤ a ∧ (∀ i ∈ l, l.foldl (fun a i => min a (f i)) a ≤ f i) ∧ (l.foldl (fun a i => min a (f i)) a = a ∨ ∃ i ∈ l, l.foldl (fun a i => min a (f i)) a = f i)
  | [], a => ⟨Nat.le_refl _, by simp, .inl rfl⟩
  | x :: l, a => by
    obtain ⟨h1, h2, h3⟩ := foldl_min f l (min a (f x))
    simp only [List.foldl_cons, List.mem_cons]
    refine ⟨by omega, ?_, ?_⟩
    · rintro i (rfl | hi)
      · omega
      · exact h2 i hi
    · rcases h3 with h | ⟨i, hi, h⟩
      · rw [h]
        by_cases q : a ≤ f x
        · exact .inl (by omega)
        · exact .inr ⟨x, .inl rfl, by omega⟩
      · exact .inr ⟨i, .inr hi, h⟩
theorem lowest_le (la : Nat) (c : Cs) : lowest la c ≤ la + 1 := (foldl_min _ _ _).1
theorem lowest_mem {la : Nat} {c : Cs} {i : Nat} (h : i ∈ c.kept) : lowest la c ≤ levOf c i := (foldl_min _ _ _).2.1 i h
theorem lowest_some {la : Nat} {c : Cs} (h : lowest la c ≤ la) : ∃ i ∈ c.kept, levOf c i = lowest la c := by
  rcases (foldl_min (levOf c) c.kept (la + 1)).2.2 with e | ⟨i, hi, e⟩
  · have : lowest la c = la + 1 := e
    omega
  · exact ⟨i, hi, e.symm⟩
theorem shift_pos {s la k : Nat} (h : Start s la) (hk : k ≤ la) : 0 < s >>> k := by
  rw [Nat.shiftRight_eq_div_pow]
  exact Nat.div_pos (Nat.le_trans (Nat.pow_le_pow_right (by decide) hk) h.le) (Nat.two_pow_pos k)
theorem shift_one {s la : Nat} (h : Start s la) : s >>> la = 1 := by
  rw [Nat.shiftRight_eq_div_pow]
  have h1 := h.lt
  rw [Nat.pow_succ] at h1
  exact Nat.div_eq_of_lt_le (by rw [Nat.one_mul]; exact h.le) (by omega)
theorem group_sub {s la : Nat} {c : Cs} {i : Nat} (h : i ∈ groupOf s la c) : i ∈ c.kept ∧ levOf c i = lowest la c ∧ lowest la c ≤ la := by
  unfold groupOf at h
  split at h
  · cases h
  · have := List.mem_of_mem_take h
    rw [List.mem_filter] at this
    exact ⟨this.1, by simpa using this.2, by omega⟩
theorem group_sorted {n s la : Nat} {c : Cs} (h : FitC n la c) : (groupOf s la c).Pairwise (· < ·) := by
  unfold groupOf
  split
  · exact List.Pairwise.nil
  · exact (h.sorted.filter _).sublist (List.take_sublist _ _)
theorem group_none {s la : Nat} {c : Cs} (hs : Start s la) : groupOf s la c = [] ↔ la < lowest la c := by
  unfold groupOf
  split
  · rename_i h
    exact ⟨fun _ => h, fun _ => rfl⟩
  · rename_i h
    refine ⟨fun e => absurd e ?_, fun q => absurd q h⟩
    obtain ⟨i, hi, e⟩ := lowest_some (la := la) (c := c) (by omega)
    have hp := shift_pos hs (k := lowest la c) (by omega)
    have hm : i ∈ c.kept.filter fun i => levOf c i == lowest la c := by rw [List.mem_filter]; exact ⟨hi, by simp [e]⟩
    intro q
    have hl := congrArg List.length q
    rw [List.length_take, List.length_nil] at hl
    have := List.length_pos_of_mem hm
    omega
theorem group_last {s la : Nat} {c : Cs} (hs : Start s la) (h : lowest la c = la) {i : Nat} (hi : i ∈ groupOf s la c) : groupOf s la c = [i] := by
  have hl : (groupOf s la c).length ≤ 1 := by
    unfold groupOf
    rw [if_neg (by omega), h, shift_one hs, List.length_take]
    omega
  match hg : groupOf s la c, hi, hl with
  | [x], hi, _ => rw [List.mem_singleton] at hi; rw [hi]
  | x :: y :: l, _, hl => exact absurd hl (by simp)
theorem at_len (f : Nat → Nat) (l lev : List Nat) : (atLev f l lev).length = lev.length := by simp [atLev]
theorem at_get (f : Nat → Nat) (l lev : List Nat) (i : Nat) : (atLev f l lev).getD i 0 = if i ∈ l ∧ i < lev.length then f (lev.getD i 0) else lev.getD i 0 := by
  unfold atLev
  by_cases h : i < lev.length
  · have h1 : i < (lev.mapIdx fun j x => if j ∈ l then f x else x).length := by simpa using h
    rw [List.getD_eq_getElem?_getD, List.getElem?_eq_getElem h1, List.getElem_mapIdx, List.getD_eq_getElem?_getD, List.getElem?_eq_getElem h]
    by_cases q : i ∈ l <;> simp [q, h]
  · rw [if_neg (fun q => h q.2), List.getD_eq_getElem?_getD, List.getElem?_eq_none (by simp; omega), List.getD_eq_getElem?_getD, List.getElem?_eq_none (by omega)]
theorem at_elem (f : Nat → Nat) (l lev : List Nat) (i : Nat) (h : i < (atLev f l lev).length) : (atLev f l lev)[i] = if i ∈ l then f (lev[i]'(by simpa [at_len] using h)) else lev[i]'(by simpa [at_len] using h) := by
  simp [atLev]
theorem at_next {f : Nat → Nat} {l lev : List Nat} {k : Nat} (hk : k < l.length) : (atLev f (l.take k) lev).set l[k] (f (lev.getD l[k] 0)) = atLev f (l.take (k + 1)) lev := by
  apply List.ext_getElem
  · simp [at_len]
  · intro i h1 h2
    have hi : i < lev.length := by simpa [at_len] using h1
    rw [List.getElem_set, at_elem, at_elem]
    by_cases q : l[k] = i
    · have hin : i ∈ l.take (k + 1) := by rw [List.take_succ_eq_append_getElem hk, List.mem_append, List.mem_singleton]; exact .inr q.symm
      rw [if_pos q, if_pos hin, q, List.getD_eq_getElem?_getD, List.getElem?_eq_getElem hi]
      rfl
    · rw [if_neg q]
      have : (i ∈ l.take (k + 1)) ↔ i ∈ l.take k := by
        rw [List.take_succ_eq_append_getElem hk, List.mem_append, List.mem_singleton]
        exact ⟨fun h => h.resolve_right fun e => q e.symm, .inl⟩
      simp only [this]
theorem rest_mem {kept g : List Nat} {i : Nat} : i ∈ restOf kept g ↔ i ∈ kept ∧ i ∉ g := by simp [restOf]
theorem fit_keep {n s la : Nat} {c : Cs} (h : FitC n la c) : FitC n la ⟨restOf c.kept (groupOf s la c), lowered la (restOf c.kept (groupOf s la c)) c.lev⟩ ∧
    (∀ i ∈ restOf c.kept (groupOf s la c), (lowered la (restOf c.kept (groupOf s la c)) c.lev).getD i 0 ≤ la) := by
  have hle : ∀ i, (lowered la (restOf c.kept (groupOf s la c)) c.lev).getD i 0 ≤ la + 1 := fun i => by
    unfold lowered
    rw [at_get]
    have : c.lev.getD i 0 ≤ la + 1 := h.lev i
    split <;> omega
  refine ⟨⟨h.sorted.filter _, fun i hi => h.low i (rest_mem.1 hi).1, (at_len _ _ _).trans h.len, hle⟩, fun i hi => ?_⟩
  unfold lowered
  rw [at_get, if_pos ⟨hi, by rw [h.len]; exact h.low i (rest_mem.1 hi).1⟩]
  omega
theorem fit_raise {n s la : Nat} {c : Cs} (h : FitC n la c) : FitC n la ⟨c.kept, raised (groupOf s la c) c.lev⟩ := by
  refine ⟨h.sorted, h.low, (at_len _ _ _).trans h.len, fun i => ?_⟩
  show (raised (groupOf s la c) c.lev).getD i 0 ≤ la + 1
  unfold raised
  rw [at_get]
  split
  · rename_i q
    have h1 : c.lev.getD i 0 = lowest la c := (group_sub q.1).2.1
    have := (group_sub q.1).2.2
    omega
  · exact h.lev i
def toDo (la : Nat) (c : Cs) : Nat := c.kept.length * 3000 + (c.kept.map fun i => la + 1 - levOf c i).sum
theorem sum_le : ∀ (l : List Nat) (f : Nat → Nat) (b : Nat), (∀ i ∈ l, f i ≤ b) → (l.map f).sum ≤ l.length * b
  | [], _, _, _ => by simp
  | x :: l, f, b, h => by
    have h1 := sum_le l f b fun i hi => h i (by simp [hi])
    have h2 := h x (by simp)
    simp only [List.map_cons, List.sum_cons, List.length_cons, Nat.succ_mul]
    omega
theorem sum_less : ∀ (l : List Nat) (f g : Nat → Nat), (∀ i ∈ l, f i ≤ g i) → (∃ i ∈ l, f i < g i) → (l.map f).sum < (l.map g).sum
  | [], _, _, _, h => by obtain ⟨i, hi, _⟩ := h; cases hi
  | x :: l, f, g, h, h2 => by
    have hx := h x (by simp)
    have hle : (l.map f).sum ≤ (l.map g).sum := by
      clear h2
      have hl : ∀ i ∈ l, f i ≤ g i := fun i hi => h i (by simp [hi])
      clear h hx
      induction l with
      | nil => simp
      | cons y l ih =>
        have := hl y (by simp)
        have := ih fun i hi => hl i (by simp [hi])
        simp only [List.map_cons, List.sum_cons]
        omega
    obtain ⟨i, hi, hlt⟩ := h2
    simp only [List.map_cons, List.sum_cons]
    rcases List.mem_cons.1 hi with rfl | hi
    · omega
    · have := sum_less l f g (fun i hi => h i (by simp [hi])) ⟨i, hi, hlt⟩
      omega
theorem kept_le {n la : Nat} {c : Cs} (h : FitC n la c) : c.kept.length ≤ n := nodup_below (nodup_of_sorted h.sorted) h.low
theorem toDo_keep {n s la : Nat} {c : Cs} (hs : Start s la) (hn : n ≤ 256) (h : FitC n la c) (hg : groupOf s la c ≠ []) : toDo la ⟨restOf c.kept (groupOf s la c), lowered la (restOf c.kept (groupOf s la c)) c.lev⟩ < toDo la c := by
  obtain ⟨i, hi⟩ := List.exists_mem_of_ne_nil _ hg
  have hlen : (restOf c.kept (groupOf s la c)).length < c.kept.length := by
    have h1 := filter_split (fun j => decide (j ∈ groupOf s la c)) c.kept
    have h2 : 0 < (c.kept.filter fun j => decide (j ∈ groupOf s la c)).length := List.length_pos_of_mem (a := i) (by rw [List.mem_filter]; exact ⟨(group_sub hi).1, by simpa using hi⟩)
    unfold restOf
    omega
  have hk := kept_le h
  have h3 := sum_le (restOf c.kept (groupOf s la c)) (fun i => la + 1 - levOf ⟨restOf c.kept (groupOf s la c), lowered la (restOf c.kept (groupOf s la c)) c.lev⟩ i) 9 (fun i _ => by have := hs.small; omega)
  unfold toDo
  show (restOf c.kept (groupOf s la c)).length * 3000 + ((restOf c.kept (groupOf s la c)).map _).sum < _
  omega
theorem toDo_raise {n s la : Nat} {c : Cs} (h : FitC n la c) (hg : groupOf s la c ≠ []) : toDo la ⟨c.kept, raised (groupOf s la c) c.lev⟩ < toDo la c := by
  obtain ⟨i, hi⟩ := List.exists_mem_of_ne_nil _ hg
  have key : ∀ j, levOf ⟨c.kept, raised (groupOf s la c) c.lev⟩ j = if j ∈ groupOf s la c ∧ j < c.lev.length then levOf c j + 1 else levOf c j := fun j => at_get _ _ _ _
  have := sum_less c.kept (fun j => la + 1 - levOf ⟨c.kept, raised (groupOf s la c) c.lev⟩ j) (fun j => la + 1 - levOf c j) (fun j _ => by
    rw [key j]
    split <;> omega) ⟨i, (group_sub hi).1, by
      have h1 := group_sub hi
      rw [key i, if_pos ⟨hi, by rw [h.len]; exact h.low i h1.1⟩]
      omega⟩
  unfold toDo
  show c.kept.length * 3000 + (c.kept.map _).sum < _
  omega
theorem toDo_le {n s la : Nat} {c : Cs} (hs : Start s la) (hn : n ≤ 256) (h : FitC n la c) : toDo la c < 800000 := by
  have hk := kept_le h
  have h3 := sum_le c.kept (fun i => la + 1 - levOf c i) 9 (fun i _ => by have := hs.small; omega)
  unfold toDo
  omega
theorem fit_first (n la : Nat) : FitC n la ⟨List.range n, List.replicate n 0⟩ := by
  refine ⟨List.pairwise_lt_range, fun i hi => List.mem_range.1 hi, by simp, fun i => ?_⟩
  show (List.replicate n 0).getD i 0 ≤ la + 1
  rw [List.getD_eq_getElem?_getD]
  by_cases h : i < n
  · rw [List.getElem?_eq_getElem (by simpa using h)]; simp
  · rw [List.getElem?_eq_none (by simp; omega)]; simp
theorem low_among {n : Nat} {l : List Nat} (h : ∀ i ∈ l, i < n) : LowQ n (ofP (among l)) := ⟨ofP_ok _, fun i hi hn => by
  rw [mem_of _ hi]
  unfold among
  exact decide_eq_false fun q => by have := h i q; omega⟩

def Last (o : Q4 → Int) (la : Nat) (c : Cs) : Prop := ∀ i ∈ c.kept, levOf c i = la + 1 → o (ofP (among (restOf c.kept [i]))) ≠ 2
theorem count_leaf {o : Q4 → Int} {n s la : Nat} {r : List Int} (hs : Start s la) (hn : n ≤ 256) : ∀ {f : Nat} {c : Cs}, FitC n la c → Last o la c → o (ofP (among c.kept)) = 2 → toDo la c < f →
    ∃ k : List Nat, leaf o (countT s la f c) r = .fin (k.map Int.ofNat) [] r ∧ k.Pairwise (· < ·) ∧ (∀ i ∈ k, i < n) ∧ o (ofP (among k)) = 2 ∧ ∀ i ∈ k, o (ofP (among (restOf k [i]))) ≠ 2
  | 0, c, _, _, _, hd => absurd hd (by omega)
  | f + 1, c, hf, hl, ho, hd => by
    by_cases hg : groupOf s la c = []
    · refine ⟨c.kept, by rw [countT, if_pos hg, leaf], hf.sorted, hf.low, ho, fun i hi => hl i hi ?_⟩
      have h1 := (group_none hs).1 hg
      have h2 := lowest_mem (la := la) hi
      have h3 := hf.lev i
      omega
    · rw [countT, if_neg hg, leaf]
      by_cases hv : o (ofP (among (restOf c.kept (groupOf s la c)))) = 2
      · rw [if_pos hv]
        obtain ⟨hf2, hle⟩ := fit_keep (s := s) hf
        exact count_leaf hs hn hf2 (fun i hi e => by
          have h1 : levOf ⟨restOf c.kept (groupOf s la c), lowered la (restOf c.kept (groupOf s la c)) c.lev⟩ i ≤ la := hle i hi
          omega) hv (by have := toDo_keep hs hn hf hg; omega)
      · rw [if_neg hv]
        refine count_leaf hs hn (fit_raise hf) (fun i hi e => ?_) ho (by have := toDo_raise (s := s) hf hg; omega)
        have hi2 : i ∈ c.kept := hi
        by_cases q : i ∈ groupOf s la c
        · have h1 := group_sub q
          have e2 : levOf ⟨c.kept, raised (groupOf s la c) c.lev⟩ i = levOf c i + 1 := (at_get _ _ _ _).trans (if_pos ⟨q, by rw [hf.len]; exact hf.low i hi2⟩)
          have := group_last hs (by omega) q
          rw [this] at hv
          exact hv
        · have e2 : levOf ⟨c.kept, raised (groupOf s la c) c.lev⟩ i = levOf c i := (at_get _ _ _ _).trans (if_neg fun x => q x.1)
          exact hl i hi2 (by omega)
theorem countN_leaf {o : Q4 → Int} {n s la : Nat} (hs : Start s la) (hn : n ≤ 256) (r : List Int) :
    (o (allQ n) = 2 ∧ ∃ k : List Nat, leaf o (countN n s la) r = .fin (k.map Int.ofNat) [] r ∧ k.Pairwise (· < ·) ∧ (∀ i ∈ k, i < n) ∧ o (ofP (among k)) = 2 ∧ ∀ i ∈ k, o (ofP (among (restOf k [i]))) ≠ 2) ∨
    (o (allQ n) ≠ 2 ∧ leaf o (countN n s la) r = .err 7) := by
  by_cases h : o (allQ n) = 2
  · refine .inl ⟨h, ?_⟩
    have e : ofP (among (List.range n)) = allQ n := by
      unfold allQ
      congr 1
      funext i
      simp [among]
    have := count_leaf (r := r) hs hn (fit_first n la) (fun i hi q => by
      have : levOf ⟨List.range n, List.replicate n 0⟩ i = 0 := by
        show (List.replicate n 0).getD i 0 = 0
        rw [List.getD_eq_getElem?_getD]
        by_cases h : i < n
        · rw [List.getElem?_eq_getElem (by simpa using h)]; simp
        · rw [List.getElem?_eq_none (by simp; omega)]; rfl
      omega) (by rw [e]; exact h) (toDo_le hs hn (fit_first n la))
    rw [countN, leaf, if_pos h]
    exact this
  · exact .inr ⟨h, by rw [countN, leaf, if_neg h, leaf]⟩
theorem asks_countT {n s la : Nat} : ∀ {f : Nat} {c : Cs}, FitC n la c → Asks (LowQ n) (countT s la f c)
  | 0, _, _ => .fin _ _
  | f + 1, c, h => by
    rw [countT]
    split
    · exact .fin _ _
    · refine .ask (low_among fun i hi => h.low i (rest_mem.1 hi).1) fun v => ?_
      split
      · exact asks_countT (fit_keep h).1
      · exact asks_countT (fit_raise h)
theorem asks_countN (n s la : Nat) : Asks (LowQ n) (countN n s la) := .ask small_all fun v => by
  split
  · exact asks_countT (fit_first n la)
  · exact .err _
end Go.Proofs.Ytmkapmbmgpnjaaa.Se

set_option maxRecDepth 100000
namespace Go.Proofs.Ytmkapmbmgpnjaaa.Se
open Go Go.Ms Go.Pg Go.Bi Go.Se Go.ChangeShapes Go.WideShapes Go.ChangeAt Go.RowKit Go.Deep Go.Proofs.Ytmkapmbmgpnjaaa.Bi

/-! Delta debugging over a list, as a tree. -/

def scanT : List (List Nat) → (Option (List Nat) → Tr) → Tr
  | [], k => k none
  | q :: qs, k => .ask (ofP (among q)) fun v => if v = 2 then k (some q) else scanT qs k
def countL (l : List Nat) (g : Nat) : Nat := min (max g 1) l.length
def chunksOf (l : List Nat) (g : Nat) : List (List Nat) := (List.range (countL l g)).map (piece l (countL l g))
def complsOf (l : List Nat) (g : Nat) : List (List Nat) := (chunksOf l g).map (restOf l)
def endT (l : List Nat) : Tr := if l.length = 1 then .ask (ofP (among [])) fun v => if v = 2 then .fin [] [] else .fin (l.map Int.ofNat) [] else .fin (l.map Int.ofNat) []
def minT : Nat → List Nat → Nat → Tr
  | 0, _, _ => .fin [] []
  | f + 1, l, g => if l.length < 2 then endT l else
    scanT (chunksOf l g) fun
      | some c => minT f c 2
      | none => scanT (complsOf l g) fun
        | some r => minT f r (max (g - 1) 2)
        | none => if g < l.length then minT f l (min (2 * g) l.length) else endT l
def listN (n : Nat) : Tr := .ask (allQ n) fun v => if v = 2 then minT 70000 (List.range n) 2 else .err 7

structure FitL (n : Nat) (l : List Nat) (g : Nat) : Prop where
  sorted : l.Pairwise (· < ·)
  low : ∀ i ∈ l, i < n
  gran : 2 ≤ g ∧ g ≤ 256
def leftL (l : List Nat) (g : Nat) : Nat := l.length * 257 + (257 - g)
theorem len_le {n : Nat} {l : List Nat} {g : Nat} (h : FitL n l g) : l.length ≤ n := nodup_below (nodup_of_sorted h.sorted) h.low
theorem leaf_scan {o : Q4 → Int} {f : Option (List Nat) → Tr} {r : List Int} : ∀ (qs : List (List Nat)),
    (∃ q ∈ qs, o (ofP (among q)) = 2 ∧ leaf o (scanT qs f) r = leaf o (f (some q)) r) ∨ ((∀ q ∈ qs, o (ofP (among q)) ≠ 2) ∧ leaf o (scanT qs f) r = leaf o (f none) r)
  | [] => .inr ⟨by simp, rfl⟩
  | q :: qs => by
    have e : leaf o (scanT (q :: qs) f) r = leaf o (if o (ofP (among q)) = 2 then f (some q) else scanT qs f) r := rfl
    by_cases h : o (ofP (among q)) = 2
    · rw [if_pos h] at e
      exact .inl ⟨q, by simp, h, e⟩
    · rw [if_neg h] at e
      rcases leaf_scan (o := o) (f := f) (r := r) qs with ⟨x, hx, h1, h2⟩ | ⟨h1, h2⟩
      · exact .inl ⟨x, by simp [hx], h1, e.trans h2⟩
      · exact .inr ⟨fun x hx => by
          rcases List.mem_cons.1 hx with rfl | hx
          · exact h
          · exact h1 x hx, e.trans h2⟩
theorem count_of {n : Nat} {l : List Nat} {g : Nat} (h : FitL n l g) (h2 : 2 ≤ l.length) : 2 ≤ countL l g ∧ countL l g ≤ l.length := by
  have := h.gran
  unfold countL
  omega
theorem mem_chunks {l c : List Nat} {g : Nat} (h : c ∈ chunksOf l g) : ∃ k, k < countL l g ∧ c = piece l (countL l g) k := by
  obtain ⟨k, hk, e⟩ := List.mem_map.1 h
  exact ⟨k, List.mem_range.1 hk, e.symm⟩
theorem fit_chunk {n : Nat} {l c : List Nat} {g : Nat} (h : FitL n l g) (h2 : 2 ≤ l.length) (hc : c ∈ chunksOf l g) : FitL n c 2 ∧ c.length < l.length := by
  obtain ⟨k, hk, rfl⟩ := mem_chunks hc
  obtain ⟨c2, cl⟩ := count_of h h2
  exact ⟨⟨piece_sorted h.sorted _ _, fun i hi => h.low i (piece_sub hi), by omega⟩, piece_less hk c2 cl⟩
theorem rest_len {l p : List Nat} (hp : p.Sublist l) (h0 : 0 < p.length) : (restOf l p).length < l.length := by
  have h1 := filter_split (fun j => decide (j ∈ p)) l
  have h2 : 0 < (l.filter fun j => decide (j ∈ p)).length := by
    cases hp2 : p with
    | nil => rw [hp2] at h0; simp at h0
    | cons x q => exact List.length_pos_of_mem (a := x) (by rw [List.mem_filter]; exact ⟨List.Sublist.mem (by rw [hp2]; simp) hp, by simp⟩)
  unfold restOf
  omega
theorem piece_list {l : List Nat} {c k : Nat} : (piece l c k).Sublist l := (List.drop_sublist _ _).trans (List.take_sublist _ _)
theorem fit_compl {n : Nat} {l c : List Nat} {g : Nat} (h : FitL n l g) (h2 : 2 ≤ l.length) (hc : c ∈ complsOf l g) : FitL n c (max (g - 1) 2) ∧ c.length < l.length := by
  obtain ⟨p, hp, rfl⟩ := List.mem_map.1 hc
  obtain ⟨k, hk, rfl⟩ := mem_chunks hp
  obtain ⟨c2, cl⟩ := count_of h h2
  exact ⟨⟨h.sorted.filter _, fun i hi => h.low i (rest_mem.1 hi).1, by have := h.gran; omega⟩, rest_len piece_list (piece_some hk cl)⟩
theorem end_leaf {o : Q4 → Int} {n : Nat} {l : List Nat} {g : Nat} {r : List Int} (h : FitL n l g) (ho : o (ofP (among l)) = 2) (hm : 2 ≤ l.length → ∀ i ∈ l, o (ofP (among (restOf l [i]))) ≠ 2) :
    ∃ k : List Nat, leaf o (endT l) r = .fin (k.map Int.ofNat) [] r ∧ k.Pairwise (· < ·) ∧ (∀ i ∈ k, i < n) ∧ o (ofP (among k)) = 2 ∧ ∀ i ∈ k, o (ofP (among (restOf k [i]))) ≠ 2 := by
  unfold endT
  by_cases h1 : l.length = 1
  · rw [if_pos h1]
    by_cases hz : o (ofP (among [])) = 2
    · exact ⟨[], by rw [leaf, if_pos hz]; rfl, List.Pairwise.nil, by simp, hz, by simp⟩
    · refine ⟨l, by rw [leaf, if_neg hz]; rfl, h.sorted, h.low, ho, fun i hi => ?_⟩
      have : restOf l [i] = [] := by
        match l, h1, hi with
        | [x], _, hi => rw [List.mem_singleton] at hi; subst hi; simp [restOf]
      rw [this]
      exact hz
  · rw [if_neg h1]
    refine ⟨l, rfl, h.sorted, h.low, ho, fun i hi => ?_⟩
    by_cases h2 : 2 ≤ l.length
    · exact hm h2 i hi
    · have := List.length_pos_of_mem hi
      omega
theorem min_leaf {o : Q4 → Int} {n : Nat} {r : List Int} (hn : n ≤ 256) : ∀ {f : Nat} {l : List Nat} {g : Nat}, FitL n l g → o (ofP (among l)) = 2 → leftL l g < f →
    ∃ k : List Nat, leaf o (minT f l g) r = .fin (k.map Int.ofNat) [] r ∧ k.Pairwise (· < ·) ∧ (∀ i ∈ k, i < n) ∧ o (ofP (among k)) = 2 ∧ ∀ i ∈ k, o (ofP (among (restOf k [i]))) ≠ 2
  | 0, _, _, _, _, hd => absurd hd (by omega)
  | f + 1, l, g, hf, ho, hd => by
    have hl := len_le hf
    have hg := hf.gran
    unfold leftL at hd
    by_cases h2 : l.length < 2
    · rw [minT, if_pos h2]
      exact end_leaf hf ho fun h => absurd h (by omega)
    · rw [minT, if_neg h2]
      rcases leaf_scan (o := o) (r := r) (f := fun
        | some c => minT f c 2
        | none => scanT (complsOf l g) fun
          | some r => minT f r (max (g - 1) 2)
          | none => if g < l.length then minT f l (min (2 * g) l.length) else endT l) (chunksOf l g) with ⟨c, hc, h1, h3⟩ | ⟨-, h3⟩
      · obtain ⟨f1, l1⟩ := fit_chunk hf (by omega) hc
        rw [h3]
        exact min_leaf hn f1 h1 (by unfold leftL; omega)
      · rw [h3]
        rcases leaf_scan (o := o) (r := r) (f := fun
          | some r => minT f r (max (g - 1) 2)
          | none => if g < l.length then minT f l (min (2 * g) l.length) else endT l) (complsOf l g) with ⟨c, hc, h1, h4⟩ | ⟨h1, h4⟩
        · obtain ⟨f1, l1⟩ := fit_compl hf (by omega) hc
          refine (congrArg (fun q => ∃ k : List Nat, q = Rs.fin (k.map Int.ofNat) [] r ∧ k.Pairwise (· < ·) ∧ (∀ i ∈ k, i < n) ∧ o (ofP (among k)) = 2 ∧ ∀ i ∈ k, o (ofP (among (restOf k [i]))) ≠ 2) h4).mpr ?_
          exact min_leaf hn f1 h1 (by unfold leftL; omega)
        · refine (congrArg (fun q => ∃ k : List Nat, q = Rs.fin (k.map Int.ofNat) [] r ∧ k.Pairwise (· < ·) ∧ (∀ i ∈ k, i < n) ∧ o (ofP (among k)) = 2 ∧ ∀ i ∈ k, o (ofP (among (restOf k [i]))) ≠ 2) h4).mpr ?_
          show ∃ k : List Nat, leaf o (if g < l.length then minT f l (min (2 * g) l.length) else endT l) r = _ ∧ _
          by_cases hgl : g < l.length
          · rw [if_pos hgl]
            exact min_leaf hn ⟨hf.sorted, hf.low, by omega⟩ ho (by unfold leftL; omega)
          · rw [if_neg hgl]
            refine end_leaf hf ho fun _ i hi => ?_
            obtain ⟨k, hk, rfl⟩ := List.getElem_of_mem hi
            have hc : countL l g = l.length := by unfold countL; omega
            refine h1 _ (List.mem_map.2 ⟨[l[k]], List.mem_map.2 ⟨k, List.mem_range.2 (by omega), ?_⟩, rfl⟩)
            rw [hc]
            exact single hk
theorem fit_all (n : Nat) : FitL n (List.range n) 2 := ⟨List.pairwise_lt_range, fun i hi => List.mem_range.1 hi, by omega⟩
theorem left_all {n : Nat} (hn : n ≤ 256) : leftL (List.range n) 2 < 70000 := by
  unfold leftL
  rw [List.length_range]
  omega
theorem listN_leaf {o : Q4 → Int} {n : Nat} (hn : n ≤ 256) (r : List Int) :
    (o (allQ n) = 2 ∧ ∃ k : List Nat, leaf o (listN n) r = .fin (k.map Int.ofNat) [] r ∧ k.Pairwise (· < ·) ∧ (∀ i ∈ k, i < n) ∧ o (ofP (among k)) = 2 ∧ ∀ i ∈ k, o (ofP (among (restOf k [i]))) ≠ 2) ∨
    (o (allQ n) ≠ 2 ∧ leaf o (listN n) r = .err 7) := by
  by_cases h : o (allQ n) = 2
  · refine .inl ⟨h, ?_⟩
    have e : ofP (among (List.range n)) = allQ n := by
      unfold allQ
      congr 1
      funext i
      simp [among]
    rw [listN, leaf, if_pos h]
    exact min_leaf hn (fit_all n) (by rw [e]; exact h) (left_all hn)
  · exact .inr ⟨h, by rw [listN, leaf, if_neg h, leaf]⟩
theorem asks_scan {n : Nat} {f : Option (List Nat) → Tr} : ∀ {qs : List (List Nat)}, (∀ q ∈ qs, ∀ i ∈ q, i < n) → (∀ q ∈ qs, Asks (LowQ n) (f (some q))) → Asks (LowQ n) (f none) → Asks (LowQ n) (scanT qs f)
  | [], _, _, h => h
  | q :: qs, h1, h2, h3 => by
    refine .ask (low_among (h1 q (by simp))) fun v => ?_
    split
    · exact h2 q (by simp)
    · exact asks_scan (fun x hx => h1 x (by simp [hx])) (fun x hx => h2 x (by simp [hx])) h3
theorem asks_end {n : Nat} (l : List Nat) : Asks (LowQ n) (endT l) := by
  unfold endT
  split
  · refine .ask (low_among (by simp)) fun v => ?_
    split <;> exact .fin _ _
  · exact .fin _ _
theorem asks_minT {n : Nat} (hn : n ≤ 256) : ∀ {f : Nat} {l : List Nat} {g : Nat}, FitL n l g → Asks (LowQ n) (minT f l g)
  | 0, _, _, _ => .fin _ _
  | f + 1, l, g, h => by
    rw [minT]
    split
    · exact asks_end l
    · rename_i h2
      refine asks_scan (fun q hq => (fit_chunk h (by omega) hq).1.low) (fun q hq => asks_minT hn (fit_chunk h (by omega) hq).1) ?_
      refine asks_scan (fun q hq => (fit_compl h (by omega) hq).1.low) (fun q hq => asks_minT hn (fit_compl h (by omega) hq).1) ?_
      show Asks _ (if g < l.length then minT f l (min (2 * g) l.length) else endT l)
      split
      · rename_i h3
        have hg := h.gran
        have hl := len_le h
        exact asks_minT hn ⟨h.sorted, h.low, by omega⟩
      · exact asks_end l
theorem asks_listN {n : Nat} (hn : n ≤ 256) : Asks (LowQ n) (listN n) := .ask small_all fun v => by
  split
  · exact asks_minT hn (fit_all n)
  · exact .err _
end Go.Proofs.Ytmkapmbmgpnjaaa.Se

