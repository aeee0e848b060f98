import Derived.Test.YtblklpjkmegaaaaGreatDoorEvZD
namespace Go.Ev
open Go.RowKit

/-- A way in a tree. -/
inductive Way where
  | e
  | l (w : Way)
  | r (w : Way)
  deriving DecidableEq

def wayF : Nat → Nat → Way
  | 0, _ => .e
  | k + 1, n => if n = 0 then .e else if n % 2 = 1 then .l (wayF k (n / 2)) else .r (wayF k (n / 2 - 1))

/-- The way to a number. -/
def way (n : Nat) : Way := wayF n n

theorem wayF_inj : ∀ (k j n m : Nat), n ≤ k → m ≤ j → wayF k n = wayF j m → n = m := by
  intro k
  induction k with
  | zero =>
    intro j n m h1 h2 h
    cases j with
    | zero => omega
    | succ j =>
      unfold wayF at h
      split at h
      · omega
      · split at h <;> cases h
  | succ k ih =>
    intro j n m h1 h2 h
    cases j with
    | zero =>
      unfold wayF at h
      split at h
      · omega
      · split at h <;> cases h
    | succ j =>
      unfold wayF at h
      split at h
      · split at h
        · omega
        · split at h <;> cases h
      · split at h
        · split at h
          · cases h
          · split at h
            · have := ih j (n / 2) (m / 2) (by omega) (by omega) (by injection h)
              omega
            · cases h
        · split at h
          · cases h
          · split at h
            · cases h
            · have := ih j (n / 2 - 1) (m / 2 - 1) (by omega) (by omega) (by injection h)
              omega

theorem way_inj {n m : Nat} (h : way n = way m) : n = m := wayF_inj n m n m (Nat.le_refl _) (Nat.le_refl _) h

/-- Slots by their ways. -/
inductive TT where
  | nil
  | node (l : TT) (v : Value) (r : TT)

noncomputable def TT.get (t : TT) : Way → Value :=
  TT.rec (motive := fun _ => Way → Value) (fun _ => undef) (fun _ v _ gl gr p => Way.rec (motive := fun _ => Value) v (fun p _ => gl p) (fun p _ => gr p) p) t

noncomputable def TT.set (v : Value) (p : Way) : TT → TT :=
  Way.rec (motive := fun _ => TT → TT) (fun t => TT.rec (motive := fun _ => TT) (.node .nil v .nil) (fun l _ r _ _ => .node l v r) t)
    (fun _ ih t => TT.rec (motive := fun _ => TT) (.node (ih .nil) undef .nil) (fun l u r _ _ => .node (ih l) u r) t)
    (fun _ ih t => TT.rec (motive := fun _ => TT) (.node .nil undef (ih .nil)) (fun l u r _ _ => .node l u (ih r)) t) p

theorem TT.get_set (v : Value) : ∀ (p q : Way) (t : TT), (TT.set v p t).get q = if q = p then v else t.get q := by
  intro p
  induction p with
  | e => intro q t; cases t <;> cases q <;> simp [TT.set, TT.get]
  | l p ih =>
    intro q t
    cases t with
    | nil =>
      cases q with
      | e => simp [TT.set, TT.get]
      | r q => simp [TT.set, TT.get]
      | l q => have := ih q .nil; simp only [TT.set, TT.get] at this ⊢; rw [this]; simp
    | node l u r =>
      cases q with
      | e => simp [TT.set, TT.get]
      | r q => simp [TT.set, TT.get]
      | l q => have := ih q l; simp only [TT.set, TT.get] at this ⊢; rw [this]; simp
  | r p ih =>
    intro q t
    cases t with
    | nil =>
      cases q with
      | e => simp [TT.set, TT.get]
      | l q => simp [TT.set, TT.get]
      | r q => have := ih q .nil; simp only [TT.set, TT.get] at this ⊢; rw [this]; simp
    | node l u r =>
      cases q with
      | e => simp [TT.set, TT.get]
      | l q => simp [TT.set, TT.get]
      | r q => have := ih q r; simp only [TT.set, TT.get] at this ⊢; rw [this]; simp

/-- The slots, one behind the other. -/
noncomputable def TT.arr (t : TT) (n : Nat) : Array Value := ⟨(List.range n).map fun i => t.get (way i)⟩

theorem TT.arr_size (t : TT) (n : Nat) : (t.arr n).size = n := by simp [TT.arr]
theorem TT.arr_get (t : TT) {n i : Nat} (h : i < n) : (t.arr n)[i]? = some (t.get (way i)) := by
  simp [TT.arr, h]
theorem TT.arr_getD (t : TT) {n i : Nat} (h : i < n) : (t.arr n).getD i undef = t.get (way i) := by
  rw [Array.getD_eq_getD_getElem?, t.arr_get h]; rfl

theorem TT.arr_set (t : TT) (n i : Nat) (v : Value) : (TT.set v (way i) t).arr n = (t.arr n).setIfInBounds i v := by
  apply Array.ext
  · simp [TT.arr_size]
  · intro j h1 h2
    have hj : j < n := by rw [TT.arr_size] at h1; exact h1
    have e1 := (TT.set v (way i) t).arr_get hj
    have e2 := t.arr_get hj
    have e3 : ((t.arr n).setIfInBounds i v)[j]? = if i = j then some v else some (t.get (way j)) := by
      rw [Array.getElem?_setIfInBounds, TT.arr_size]
      split
      · rename_i q; subst q; rw [if_pos hj]
      · exact e2
    rw [Array.getElem?_eq_getElem h1] at e1
    rw [Array.getElem?_eq_getElem h2] at e3
    have : some ((TT.set v (way i) t).arr n)[j] = some ((t.arr n).setIfInBounds i v)[j] := by
      rw [e1, e3, TT.get_set]
      by_cases q : i = j
      · subst q; simp
      · rw [if_neg (fun e => q (way_inj e).symm), if_neg q]
    exact Option.some.inj this

/-- The slots of a call, from the number i on. -/
noncomputable def TT.ofL (l : List Value) : Nat → TT → TT :=
  List.rec (motive := fun _ => Nat → TT → TT) (fun _ t => t) (fun v _ ih i t => ih (Nat.succ i) (TT.set v (way i) t)) l

theorem TT.ofL_get : ∀ (l : List Value) (i j : Nat) (t : TT), (TT.ofL l i t).get (way j) = if i ≤ j ∧ j < i + l.length then (l[j - i]?).getD undef else t.get (way j) := by
  intro l
  induction l with
  | nil => intro i j t; simp [TT.ofL]; intro h1 h2; omega
  | cons v l ih =>
    intro i j t
    show (TT.ofL l (i + 1) (TT.set v (way i) t)).get (way j) = _
    rw [ih, TT.get_set]
    simp only [List.length_cons]
    by_cases h : i + 1 ≤ j ∧ j < i + 1 + l.length
    · rw [if_pos h, if_pos (by omega)]
      have : j - i = (j - (i + 1)) + 1 := by omega
      rw [this, List.getElem?_cons_succ]
    · rw [if_neg h]
      by_cases q : j = i
      · subst q
        rw [if_pos rfl, if_pos (by omega)]
        simp
      · rw [if_neg (fun e => q (way_inj e)), if_neg (by omega)]

noncomputable def TT.ofArgs (l : List Value) : TT := TT.ofL l 0 .nil

theorem TT.ofArgs_arr (l : List Value) (n : Nat) (h : l.length ≤ n) : (TT.ofArgs l).arr n = ⟨l ++ List.replicate (n - l.length) undef⟩ := by
  apply Array.ext
  · simp [TT.arr_size]; omega
  · intro j h1 h2
    have hj : j < n := by rw [TT.arr_size] at h1; exact h1
    have e1 := (TT.ofArgs l).arr_get hj
    rw [Array.getElem?_eq_getElem h1] at e1
    have := Option.some.inj e1
    rw [this]
    unfold TT.ofArgs
    rw [TT.ofL_get]
    simp only [Nat.zero_le, Nat.zero_add, true_and, Nat.sub_zero, List.getElem_toArray]
    by_cases q : j < l.length
    · rw [if_pos q, List.getElem_append_left q, List.getElem?_eq_getElem q]; rfl
    · rw [if_neg q, List.getElem_append_right (by omega)]
      simp [TT.get]

/-- An operand. -/
inductive Opd where
  | t (w : Way)
  | v (x : Value)

noncomputable def Opd.ev (tm : TT) (o : Opd) : Value := Opd.rec (motive := fun _ => Value) (fun w => tm.get w) (fun x => x) o

def opd (G n : Nat) (x : Operand) : Option Opd :=
  match x with
  | .tmp t => if t < n then some (.t (way t)) else none
  | .const v => if plainV 20 v then some (.v v) else none
  | .global g => if g < G then some (.v (.pointer (some ⟨g, 0, none⟩))) else none
  | .func f => some (.v (.func (.func f) #[] #[]))

theorem opd_spec {G n : Nat} {x : Operand} {y : Opd} (h : opd G n x = some y) (tm : TT) : y.ev tm = evalT (tm.arr n) x ∧ okOperand G x = true := by
  unfold opd at h
  split at h
  · split at h
    · rename_i hlt
      cases h
      refine ⟨?_, rfl⟩
      show tm.get _ = (tm.arr n).getD _ undef
      rw [tm.arr_getD hlt]
    · cases h
  · split at h
    · rename_i hp; cases h; exact ⟨rfl, hp⟩
    · cases h
  · split at h
    · rename_i hp; cases h; exact ⟨rfl, by simpa [okOperand] using hp⟩
    · cases h
  · cases h; exact ⟨rfl, rfl⟩

/-- Operands side by side. -/
def opds (G n : Nat) : List Operand → Option (List Opd)
  | [] => some []
  | x :: xs => match opd G n x with
    | some y => (match opds G n xs with
      | some ys => some (y :: ys)
      | none => none)
    | none => none

noncomputable def evs (tm : TT) (l : List Opd) : List Value := List.rec (motive := fun _ => List Value) [] (fun y _ ih => List.cons (y.ev tm) ih) l

theorem opds_spec {G n : Nat} : ∀ {l : List Operand} {ys : List Opd}, opds G n l = some ys → ∀ (tm : TT), evs tm ys = l.map (evalT (tm.arr n)) ∧ ∀ x ∈ l, okOperand G x = true
  | [], ys, h, tm => by cases h; exact ⟨rfl, by simp⟩
  | x :: xs, ys, h, tm => by
    unfold opds at h
    split at h
    case h_2 => cases h
    rename_i y hy
    split at h
    case h_2 => cases h
    rename_i zs hz
    cases h
    obtain ⟨h1, h2⟩ := opd_spec hy tm
    obtain ⟨h3, h4⟩ := opds_spec hz tm
    refine ⟨?_, ?_⟩
    · show y.ev tm :: evs tm zs = _
      rw [h1, h3]; rfl
    · intro z hz2
      rcases List.mem_cons.1 hz2 with rfl | hz2
      · exact h2
      · exact h4 z hz2

end Go.Ev
