import Derived.Test.YtmkapmbmgpnjaaaEvMZ
import Derived.Test.YtmkapmbmgpnjaaaEvJ
namespace Go.Ev
open Go.RowKit

section
variable {P : Program} {N : Nat} {w0 : Base} {ρ : Ren} {H : AHeap} {w : World}

theorem VS.range (t : TypeId) {v v' : Value} (h : VR ρ v v') : SR P VR ρ (Instr.range t v) (Instr.range t v') := by
  have last : ∀ {σ : Ren} {o o' : Obj}, OR σ o o' → SR P VR σ (do Pure.pure (Value.pointer (some ⟨← Go.newObj o, 0, none⟩))) (do Pure.pure (Value.pointer (some ⟨← Go.newObj o', 0, none⟩))) := by
    intro σ o o' ho
    exact .new (.obj ho) fun τ r r' _ hr hs => .ret (.psome ⟨hr.1, hr.2, by simp [hs.2], rfl⟩)
  unfold Instr.range
  refine SR.bind (ES.underlying t) fun σ d _ hle hd => ?_
  obtain ⟨rfl, -⟩ := hd
  have h := h.mono hle
  cases d <;> first
    | (cases h <;> exact .stuck _)
    | skip
  · cases h <;> first
      | exact .stuck _
      | exact last (.stringIter _ _)
  · cases h <;> first
      | exact .stuck _
      | exact last (.mapIterNone _ _ _)
      | skip
    rename_i r r' hr
    refine SR.bind (SR.getObjOne hr) fun τ o o' hle2 ho => ?_
    cases ho <;> first
      | exact .stuck _
      | exact last (.mapIter _ _ _ (hr.mono hle2))

end
end Go.Ev

namespace Go.Ev
open Go.RowKit

section
variable {P : Program} {N : Nat} {w0 : Base} {ρ : Ren} {H : AHeap} {w : World}

theorem find_ents (n : Nat) : ∀ (l l' : List MapEntry), l.length = l'.length → (∀ (i : Nat) (v v' : MapEntry), l[i]? = some v → l'[i]? = some v' → EntR ρ v v') →
    (l.find? (·.born == n) = none ∧ l'.find? (·.born == n) = none) ∨ ∃ e e', l.find? (·.born == n) = some e ∧ l'.find? (·.born == n) = some e' ∧ EntR ρ e e'
  | [], [], _, _ => .inl ⟨rfl, rfl⟩
  | [], _ :: _, hl, _ => by simp at hl
  | _ :: _, [], hl, _ => by simp at hl
  | x :: l, x' :: l', hl, h => by
    have hx : EntR ρ x x' := h 0 x x' rfl rfl
    have hi := find_ents n l l' (by simpa using hl) fun i v v' a b => h (i + 1) v v' (by simpa using a) (by simpa using b)
    cases q : (x.born == n) with
    | true => exact .inr ⟨x, x', by simp [q], by simp [hx.2.2, q], hx⟩
    | false =>
      have q' : (x'.born == n) = false := by rw [hx.2.2]; exact q
      simpa [q, q'] using hi

theorem EntsR.find {es es' : Array MapEntry} (h : EntsR ρ es es') (n : Nat) :
    (es.find? (·.born == n) = none ∧ es'.find? (·.born == n) = none) ∨ ∃ e e', es.find? (·.born == n) = some e ∧ es'.find? (·.born == n) = some e' ∧ EntR ρ e e' := by
  have := find_ents (ρ := ρ) n es.toList es'.toList (by simpa using h.1) fun i v v' a b => h.2 i v v' (by simpa using a) (by simpa using b)
  simpa only [Array.find?_toList] using this

theorem VS.entry {v v' : Value} (h : VR ρ v v') (hf : ∀ r o s, v = .pointer (some ⟨r, o, s⟩) → (ρ.f r).shift = 0) : SR P VR ρ (Instr.entry v) (Instr.entry v') := by
  unfold Instr.entry
  cases h <;> first
    | exact .stuck _
    | skip
  rename_i a a' ha
  obtain ⟨r, o, s⟩ := a
  obtain ⟨r', o', s'⟩ := a'
  have h0 := hf _ _ _ rfl
  obtain ⟨h1, h2, h3, h4⟩ := ha
  simp only at h1 h2 h3 h4
  rw [h0, Nat.add_zero] at h3
  rw [h3]
  clear h3 hf
  cases o with
  | succ n => exact .stuck _
  | zero =>
    refine SR.bind (SR.getObjOne ⟨h1, h2⟩) fun σ b b' hle ho => ?_
    cases ho <;> first
      | exact .stuck _
      | skip
    rename_i m m' since seen stepped hm
    simp only
    cases seen.back? with
    | none => exact .stuck _
    | some stamp =>
      refine SR.bind (SR.getObjOne hm) fun τ o o' hle2 ho => ?_
      cases ho <;> first
        | exact .stuck _
        | skip
      rename_i es es' clock hes
      by_cases q : (clock != stepped) = true
      · simp only [q, if_true]; exact .unsupported _
      · simp only [q]
        rcases hes.find stamp with ⟨e1, e2⟩ | ⟨e, e', e1, e2, e3⟩
        · simp only [e1]; exact .unsupported _
        · simp only [e1, e2]
          exact .ret (.tuple (((AsR.nil τ).push e3.1).push e3.2.1).1 (((AsR.nil τ).push e3.1).push e3.2.1).2)

end
end Go.Ev

namespace Go.Ev
open Go.RowKit

inductive L2 {α : Type} (R : α → α → Prop) : List α → List α → Prop
  | nil : L2 R [] []
  | cons {a b : α} {x y : List α} : R a b → L2 R x y → L2 R (a :: x) (b :: y)

namespace L2
variable {α β : Type} {R : α → α → Prop} {S : β → β → Prop}

theorem length {x y : List α} (h : L2 R x y) : x.length = y.length := by
  induction h with
  | nil => rfl
  | cons _ _ ih => simp [ih]

theorem append {x y u v : List α} (h : L2 R x y) (k : L2 R u v) : L2 R (x ++ u) (y ++ v) := by
  induction h with
  | nil => exact k
  | cons a _ ih => exact .cons a ih

theorem map {f g : α → β} {x y : List α} (h : L2 R x y) (hf : ∀ a b, R a b → S (f a) (g b)) : L2 S (x.map f) (y.map g) := by
  induction h with
  | nil => exact .nil
  | cons a _ ih => exact .cons (hf _ _ a) ih

theorem filter {p : α → Bool} {x y : List α} (h : L2 R x y) (hp : ∀ a b, R a b → p b = p a) : L2 R (x.filter p) (y.filter p) := by
  induction h with
  | nil => exact .nil
  | @cons a b x y hab _ ih =>
    have e := hp _ _ hab
    cases q : p a with
    | true => rw [List.filter_cons_of_pos q, List.filter_cons_of_pos (e.trans q)]; exact .cons hab ih
    | false => rw [List.filter_cons_of_neg (by simp [q]), List.filter_cons_of_neg (by simp [e, q])]; exact ih

theorem all {p : α → Bool} {x y : List α} (h : L2 R x y) (hp : ∀ a b, R a b → p b = p a) : y.all p = x.all p := by
  induction h with
  | nil => rfl
  | cons a _ ih => simp [hp _ _ a, ih]

theorem get {x y : List α} (h : L2 R x y) : ∀ j : Nat, (x[j]? = none ∧ y[j]? = none) ∨ ∃ a b, x[j]? = some a ∧ y[j]? = some b ∧ R a b := by
  induction h with
  | nil => intro j; exact .inl ⟨by simp, by simp⟩
  | cons a _ ih =>
    intro j
    cases j with
    | zero => exact .inr ⟨_, _, rfl, rfl, a⟩
    | succ j => simpa using ih j

theorem of : ∀ {x y : List α}, x.length = y.length → (∀ (i : Nat) (a b : α), x[i]? = some a → y[i]? = some b → R a b) → L2 R x y
  | [], [], _, _ => .nil
  | [], _ :: _, h, _ => by simp at h
  | _ :: _, [], h, _ => by simp at h
  | a :: x, b :: y, h, k => .cons (k 0 a b rfl rfl) (of (by simpa using h) fun i a b p q => k (i + 1) a b (by simpa using p) (by simpa using q))
end L2

section
variable {P : Program} {N : Nat} {w0 : Base} {ρ : Ren} {H : AHeap} {w : World}

def OEntR (ρ : Ren) : Option MapEntry → Option MapEntry → Prop
  | none, none => True
  | some a, some b => EntR ρ a b
  | _, _ => False

theorem EntsR.l2 {x y : Array MapEntry} (h : EntsR ρ x y) : L2 (EntR ρ) x.toList y.toList :=
  .of (by simpa using h.1) fun i a b p q => h.2 i a b (by simpa using p) (by simpa using q)

theorem EntsR.same {x y : Array MapEntry} (h : L2 (EntR ρ) x.toList y.toList) : y.isEmpty = x.isEmpty := by
  have := h.length
  simp only [Array.length_toList] at this
  simp [Array.isEmpty, this]

theorem VS.next (str : Bool) (t : TypeId) {v v' : Value} (h : VR ρ v v') (hf : ∀ r o s, v = .pointer (some ⟨r, o, s⟩) → (ρ.f r).shift = 0) : SR P VR ρ (Instr.next v str t) (Instr.next v' str t) := by
  have over : ∀ {σ : Ren}, SR P VR σ (Pure.pure (Value.tuple #[.bool false])) (Pure.pure (Value.tuple #[.bool false])) := by
    intro σ
    exact .ret (.tuple ((AsR.nil σ).push (.bool false)).1 ((AsR.nil σ).push (.bool false)).2)
  unfold Instr.next
  cases h <;> first
    | exact .stuck _
    | skip
  rename_i a a' ha
  obtain ⟨r, o, s⟩ := a
  obtain ⟨r', o', s'⟩ := a'
  have h0 := hf _ _ _ rfl
  obtain ⟨h1, h2, h3, h4⟩ := ha
  simp only at h1 h2 h3 h4
  rw [h0, Nat.add_zero] at h3
  rw [h3]
  clear h3 hf
  cases o with
  | succ n => exact .stuck _
  | zero =>
    refine SR.bind (SR.getObjOne ⟨h1, h2⟩) fun σ b b' hle ho => ?_
    have hb : BR σ r r' := BR.mono hle ⟨h1, h2⟩
    cases ho <;> cases str <;> first
      | exact .stuck _
      | exact over
      | skip
    · rename_i s n
      simp only
      by_cases q : n < s.size
      · simp only [q, if_true]
        refine SR.bind (SR.setObjOne hb (.stringIter _ _)) fun τ _ _ _ _ => ?_
        refine .ret (.tuple ((((AsR.nil τ).push (.bool true)).push (.int _ _)).push (.int _ _)).1 ((((AsR.nil τ).push (.bool true)).push (.int _ _)).push (.int _ _)).2)
      · simp only [q, if_false]
        exact over
    · rename_i m m' since seen last hm
      simp only
      refine SR.bind (SR.getObjOne hm) fun τ b b' hle2 ho => ?_
      have hb := hb.mono hle2
      have hm := hm.mono hle2
      cases ho <;> first
        | exact .stuck _
        | skip
      rename_i es es' clock hes
      have hl := hes.l2
      have e1 : es'.isEmpty = es.isEmpty := EntsR.same hl
      have e2 : es'.all (fun x => decide (x.born ≥ last)) = es.all (fun x => decide (x.born ≥ last)) := by
        rw [← Array.all_toList, ← Array.all_toList]
        exact hl.all fun a b hab => by rw [hab.2.2]
      simp only [e1, e2]
      split
      · exact .unsupported _
      · have hleft : L2 (EntR τ) (es.filter fun e => !seen.contains e.born).toList (es'.filter fun e => !seen.contains e.born).toList := by
          simp only [Array.toList_filter]
          exact hl.filter fun a b hab => by rw [hab.2.2]
        generalize (es.filter fun e => !seen.contains e.born) = lf at hleft ⊢
        generalize (es'.filter fun e => !seen.contains e.born) = lf' at hleft ⊢
        have hold : L2 (EntR τ) (lf.filter fun e => decide (e.born < since)).toList (lf'.filter fun e => decide (e.born < since)).toList := by
          simp only [Array.toList_filter]
          exact hleft.filter fun a b hab => by rw [hab.2.2]
        have hnew : L2 (EntR τ) (lf.filter fun e => decide (e.born ≥ since)).toList (lf'.filter fun e => decide (e.born ≥ since)).toList := by
          simp only [Array.toList_filter]
          exact hleft.filter fun a b hab => by rw [hab.2.2]
        generalize (lf.filter fun e => decide (e.born < since)) = ol at hold ⊢
        generalize (lf'.filter fun e => decide (e.born < since)) = ol' at hold ⊢
        generalize (lf.filter fun e => decide (e.born ≥ since)) = nw at hnew ⊢
        generalize (lf'.filter fun e => decide (e.born ≥ since)) = nw' at hnew ⊢
        have hc : L2 (OEntR τ) ((if ol.isEmpty then #[none] else #[]) ++ (ol ++ nw).map some).toList ((if ol'.isEmpty then #[none] else #[]) ++ (ol' ++ nw').map some).toList := by
          rw [EntsR.same hold]
          simp only [Array.toList_append, Array.toList_map]
          refine L2.append ?_ (L2.map (hold.append hnew) fun a b hab => hab)
          split
          · exact .cons trivial .nil
          · exact .nil
        generalize ((if ol.isEmpty then #[none] else #[]) ++ (ol ++ nw).map some) = c at hc ⊢
        generalize ((if ol'.isEmpty then #[none] else #[]) ++ (ol' ++ nw').map some) = c' at hc ⊢
        have es : c'.size = c.size := by simpa using hc.length.symm
        rw [es]
        refine SR.chooseAll fun j => ?_
        show SR P VR τ (match c[j]? with | some (some e) => _ | some none => _ | none => _) (match c'[j]? with | some (some e) => _ | some none => _ | none => _)
        rcases hc.get j with ⟨q1, q2⟩ | ⟨x, y, q1, q2, hxy⟩
        · rw [Array.getElem?_toList] at q1 q2
          rw [q1, q2]
          exact .stuck _
        · rw [Array.getElem?_toList] at q1 q2
          rw [q1, q2]
          cases x <;> cases y <;> first
            | exact hxy.elim
            | exact over
            | skip
          rename_i e e'
          obtain ⟨k1, k2, k3⟩ := (hxy : EntR τ e e')
          simp only [k3]
          refine SR.bind (SR.setObjOne hb (.mapIter _ _ _ hm)) fun φ _ _ hle3 _ => ?_
          refine .ret (.tuple ((((AsR.nil φ).push (.bool true)).push (k1.mono hle3)).push (k2.mono hle3)).1 ((((AsR.nil φ).push (.bool true)).push (k1.mono hle3)).push (k2.mono hle3)).2)

end
end Go.Ev

namespace Go.Ev
open Go.RowKit

def forkN {α : Type} (P : Program) : Sem α → AHeap → Option Nat
  | .getObj r k, H => match H.getObj r with
    | some o => forkN P (k o) H
    | none => none
  | .choose (.mapNext n) _, _ => match Nat.ble n 1 with
    | true => none
    | false => some n
  | .program k, H => forkN P (k P) H
  | .mark _ k, H => forkN P k H
  | _, _ => none

def absRunJ {α : Type} (P : Program) (j : Nat) : Sem α → AHeap → Option (α × AHeap)
  | .getObj r k, H => match H.getObj r with
    | some o => absRunJ P j (k o) H
    | none => none
  | .choose (.mapNext _) k, H => absRun P (k j) H
  | .program k, H => absRunJ P j (k P) H
  | .mark _ k, H => absRunJ P j k H
  | _, _ => none

section
variable {P : Program} {N : Nat} {w0 : Base} {ρ : Ren} {H : AHeap} {w : World}

inductive SR2 (P : Program) {α β : Type} (RA : Ren → α → β → Prop) : Ren → Sem α → Sem β → Prop
  | getObj {ρ : Ren} {r r' : Nat} {k : Obj → Sem α} {k' : Obj → Sem β} : BR ρ r r' → (∀ o o', OR ρ o o' → SR2 P RA ρ (k o) (k' o')) → SR2 P RA ρ (.getObj r k) (.getObj r' k')
  | draw {ρ : Ren} {n : Nat} {k : Nat → Sem α} {k' : Nat → Sem β} : (∀ j, SR P RA ρ (k j) (k' j)) → SR2 P RA ρ (.choose (.mapNext n) k) (.choose (.mapNext n) k')
  | no {ρ : Ren} {s : Sem α} {s' : Sem β} : (∀ H, forkN P s H = none) → SR2 P RA ρ s s'

theorem absRunJ_sound {α β : Type} {RA : Ren → α → β → Prop} {ρ : Ren} {s : Sem α} {s' : Sem β} (hs : SR2 P RA ρ s s') (hH : HR N w0 ρ H w) :
    ∀ n, forkN P s H = some n → ∃ j, j < n ∧ Runs P N w0 RA ρ s' w (absRunJ P j s H) := by
  induction hs with
  | @getObj r r' k k' hr hk ih =>
    intro n hn
    unfold forkN at hn
    split at hn
    · rename_i o ho
      obtain ⟨o', hw, hor⟩ := hH.getObj hr ho
      obtain ⟨j, hj, h⟩ := ih o o' hor n hn
      refine ⟨j, hj, ?_⟩
      unfold absRunJ
      rw [ho]
      refine Runs.of_run (Ren.le_refl _) ?_ h
      have := hor.notCells.2
      simp only [Sem.run, hw]
      cases o' <;> first | rfl | (simp [isCells] at this)
    · cases hn
  | @draw m k k' hk =>
    intro n hn
    simp only [forkN] at hn
    split at hn
    · cases hn
    · rename_i hb
      cases hn
      have hlt : 1 < m := by
        rcases Nat.lt_or_ge 1 m with q | q
        · exact q
        · rw [Nat.ble_eq_true_of_le q] at hb; cases hb
      refine ⟨w.tape w.drawn (.mapNext m) % m, Nat.mod_lt _ (by omega), ?_⟩
      show Runs P N w0 RA ρ _ w (absRun P (k (w.tape w.drawn (.mapNext m) % m)) H)
      refine Runs.of_run (Ren.le_refl _) ?_ (absRun_sound (hk _) H _ (hH.drawn (w.drawn + 1)))
      have hf : (Question.mapNext m).forced = false := by simp [Question.forced]; omega
      simp only [Sem.run, hf, Question.cut]
      rfl
  | no h => intro n hn; rw [h] at hn; cases hn

end
end Go.Ev

