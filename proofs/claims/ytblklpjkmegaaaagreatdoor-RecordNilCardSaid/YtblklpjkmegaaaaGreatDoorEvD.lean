import Derived.Test.YtblklpjkmegaaaaGreatDoorEvC
namespace Go.Ev
open Go.RowKit

section
variable {N : Nat} {w0 : Base} {ρ : Ren} {H : AHeap} {w : World}

def hull (g : Grp) (o n : Nat) : Grp := if g.flo < g.fhi then { g with flo := min g.flo o, fhi := max g.fhi (o + n) } else { g with flo := o, fhi := o + n }

def AHeap.freeze (H : AHeap) (a : Addr) (n : Nat) : Option AHeap :=
  match H.blk a.block with
  | some b =>
    if b.ro || !isCells b.obj then none else
    match H.grp b.root with
    | some g => some { H with grps := H.grps.set b.root (hull g (a.off + b.org) n) }
    | none => none
  | none => none

theorem heap_freeze {w : World} {a : Addr} {n : Nat} (hn : n ≠ 0) {c : Array Value} {e : TypeId} {lo hi : Nat} (h : w.heap[a.block]? = some (.cells c e (lo, hi))) (k : Nat) :
    (w.freeze a n).heap[k]? = if k = a.block then some (.cells c e (if lo == hi then (a.off, a.off + n) else (min lo a.off, max hi (a.off + n)))) else w.heap[k]? := by
  simp only [World.freeze, hn, if_false, Array.getElem?_modify]
  by_cases q : a.block = k
  · subst q; simp [h]
  · simp [q, Ne.symm q]

theorem freeze_size {w : World} {a : Addr} {n : Nat} : (w.freeze a n).heap.size = w.heap.size := by
  unfold World.freeze; split <;> simp

theorem HR.freeze (h : HR N w0 ρ H w) {a a' : Addr} (ha : AR ρ a a') {n : Nat} (hn : n ≠ 0) {H' : AHeap} (hs : H.freeze a n = some H') : HR N w0 ρ H' (w.freeze a' n) := by
  unfold AHeap.freeze at hs
  split at hs
  case h_2 => cases hs
  rename_i b hb
  split at hs
  case isTrue => cases hs
  rename_i hc
  split at hs
  case h_2 => cases hs
  rename_i g hg
  cases hs
  simp only [Bool.or_eq_true, not_or, Bool.not_eq_true, Bool.not_eq_false'] at hc
  obtain ⟨hro, hisc⟩ := hc
  obtain ⟨c, e, fr, ho⟩ := isCells_eq hisc
  obtain ⟨c', e', ⟨lo, hi⟩, hw, hrest⟩ := h.cells _ _ _ _ _ ha.1 hb ho
  have hab := ha.2.1
  have hao := ha.2.2.1
  have hw' : w.heap[a'.block]? = some (.cells c' e' (lo, hi)) := by rw [hab]; exact hw
  have hh := fun k => heap_freeze hn hw' k
  have hNB := h.own _ _ ha.1 hb hro
  have hblk : ∀ i, ({ H with grps := H.grps.set b.root (hull g (a.off + b.org) n) } : AHeap).blk i = H.blk i := fun _ => rfl
  have hgrp : ∀ i, ({ H with grps := H.grps.set b.root (hull g (a.off + b.org) n) } : AHeap).grp i = if i = b.root then some (hull g (a.off + b.org) n) else H.grp i := fun i => Trie.get_set _ _ _ _
  have hmem : (hull g (a.off + b.org) n).mem = g.mem := by unfold hull; split <;> rfl
  obtain ⟨g0, hg0, hm0, hf0⟩ := h.grp _ b ha.1 hb hro hisc
  rw [hg] at hg0
  cases hg0
  have hself := hf0 _ _ _ _ hw
  refine ⟨h.n, h.base, ?_, ?_, h.dom, ?_, ?_, h.own, h.old, h.sep, ?_, h.root, h.off⟩
  · refine h.below.trans ⟨?_, ?_, ?_, by rw [freeze_size]; exact Nat.le_refl _, fun k hk => by rw [hh, if_neg (by omega)]⟩ <;> (unfold World.freeze; split <;> rfl)
  · intro i hi'; rw [freeze_size]; exact h.lt i hi'
  · intro i bi ci ei fi hon hi' hoi
    obtain ⟨c1, e1, f1, hw1, r1⟩ := h.cells i bi ci ei fi hon hi' hoi
    by_cases q : (ρ.f i).block = a'.block
    · rw [q, hw'] at hw1
      cases hw1
      exact ⟨_, _, _, by rw [hh, if_pos q], r1⟩
    · exact ⟨c1, e1, f1, by rw [hh, if_neg q]; exact hw1, r1⟩
  · intro i bi hon hi' hnc
    obtain ⟨o1, hw1, r1⟩ := h.objs i bi hon hi' hnc
    refine ⟨o1, ?_, r1⟩
    rw [hh]
    split
    · rename_i q
      rw [q, hw'] at hw1
      cases hw1
      have := r1.notCells.2
      cases this
    · exact hw1
  · intro i bi hon hi' hri hci
    obtain ⟨gi, hgi, hmi, hfi⟩ := h.grp i bi hon hi' hri hci
    have hlohull : g.flo < g.fhi → (hull g (a.off + b.org) n).flo ≤ g.flo ∧ g.fhi ≤ (hull g (a.off + b.org) n).fhi := by
      intro q; unfold hull; rw [if_pos q]; simp only; omega
    have hself2 : (hull g (a.off + b.org) n).flo ≤ a.off + b.org ∧ a.off + b.org + n ≤ (hull g (a.off + b.org) n).fhi := by
      unfold hull; split <;> simp only <;> omega
    -- the shifts of those that lie in the same block
    have hsh : (ρ.f i).block = a'.block → bi.root = b.root ∧ (ρ.f i).shift + b.org = (ρ.f a.block).shift + bi.org := by
      intro q
      by_cases e1 : i = a.block
      · subst e1
        have hi2 : H.blk a.block = some bi := hi'
        rw [hb] at hi2
        cases hi2
        exact ⟨rfl, rfl⟩
      · have := h.sep i a.block bi b hon ha.1 hi' hb e1 hri hro (by rw [q, hab])
        exact ⟨this.2.2.1, this.2.2.2⟩
    by_cases er : bi.root = b.root
    · rw [er, hg] at hgi
      cases hgi
      refine ⟨hull g (a.off + b.org) n, by rw [hgrp, if_pos er], by rw [hmem]; exact hmi, ?_⟩
      intro cc ee lo2 hi2 hq
      rw [hh] at hq
      split at hq
      · rename_i q
        obtain ⟨_, hsh2⟩ := hsh q
        have hold := hfi c' e' lo hi (by rw [q]; exact hw')
        simp only [Option.some.injEq, Obj.cells.injEq] at hq
        obtain ⟨_, _, hq⟩ := hq
        split at hq
        · cases hq
          refine ⟨by omega, fun _ => ?_⟩
          omega
        · rename_i hne
          have hne' : lo ≠ hi := by simpa using hne
          cases hq
          have := hold.2 (by omega)
          have hgl := hlohull (by omega)
          refine ⟨by omega, fun _ => ?_⟩
          have hmin : min lo a'.off = lo ∨ min lo a'.off = a'.off := by omega
          have hmax : max hi (a'.off + n) = hi ∨ max hi (a'.off + n) = a'.off + n := by omega
          constructor
          · rcases hmin with q | q <;> rw [q] <;> omega
          · rcases hmax with q | q <;> rw [q] <;> omega
      · obtain ⟨h1, h2⟩ := hfi cc ee lo2 hi2 hq
        refine ⟨h1, fun hlt => ?_⟩
        have := h2 hlt
        have hgl := hlohull (by omega)
        omega
    · refine ⟨gi, by rw [hgrp, if_neg er]; exact hgi, hmi, ?_⟩
      intro cc ee lo2 hi2 hq
      rw [hh] at hq
      split at hq
      · rename_i q
        exact absurd (hsh q).1 er
      · exact hfi cc ee lo2 hi2 hq

def wide : Value → Bool
  | .agg _ | .tuple _ => true
  | _ => false

theorem run_store {α : Type} {P : Program} {m : Mode} {a : Addr} {v : Value} {k : Sem α} {w : World} (hv : wide v = false) (hc : ∃ x, w.cell? a = some x) (hf : w.frozen? a = false) :
    (Sem.store m a v k).run P w = k.run P (w.setCell a v) := by
  obtain ⟨x, hx⟩ := hc
  cases v <;> first | (simp [wide] at hv; done) | simp [Sem.run, hx, hf]

theorem VR.wide {v v' : Value} (h : VR ρ v v') (hv : Ev.wide v = false) : Ev.wide v' = false := by
  cases h <;> first | rfl | (simp [Ev.wide] at hv; done)

def canNew : Obj → Bool
  | .cells _ _ fr => fr.1 == 0 && fr.2 == 0
  | .map .. | .stringIter .. | .mapIter .. | .loop .. | .deferred .. => true
  | _ => false

/-- The size of a block, where it is known. -/
def AHeap.shape (H : AHeap) (r : Nat) : Option (Option (TypeId × Nat)) :=
  match H.blk r with
  | some b => match b.obj with
    | .cells c e _ => if b.sz = 0 then some (some (e, c.size)) else none
    | _ => some none
  | none => none

def AHeap.thawed (H : AHeap) (a : Addr) : Bool :=
  match H.blk a.block with
  | some b => if b.ro || !isCells b.obj then false else
    match H.grp b.root with
    | some g => !(g.flo ≤ a.off + b.org && a.off + b.org < g.fhi)
    | none => false
  | none => false

/-- An operation's text, run over an abstract heap; none: it cannot be told, or it does not return. -/
def absRun {α : Type} (P : Program) : Sem α → AHeap → Option (α × AHeap)
  | .pure a, H => some (a, H)
  | .load _ a k, H => match H.cell a with
    | some v => absRun P (k v) H
    | none => none
  | .store _ a v k, H => match wide v with
    | true => none
    | false => match H.store a v with
      | some H' => absRun P k H'
      | none => none
  | .new o k, H => match canNew o with
    | true => absRun P (k H.next) (H.new o)
    | false => none
  | .shape r k, H => match H.shape r with
    | some s => absRun P (k s) H
    | none => none
  | .freeze a n k, H => match n with
    | 0 => absRun P k H
    | n + 1 => match H.freeze a (n + 1) with
      | some H' => absRun P k H'
      | none => none
  | .frozen a k, H => match H.thawed a with
    | true => absRun P (k false) H
    | false => none
  | .getObj r k, H => match H.getObj r with
    | some o => absRun P (k o) H
    | none => none
  | .setObj r o k, H => match H.setObj r o with
    | some H' => absRun P k H'
    | none => none
  | .choose q k, H => match q.forced with
    | true => absRun P (k 0) H
    | false => none
  | .sys _ _, _ => none
  | .program k, H => absRun P (k P) H
  | .mark _ k, H => absRun P k H
  | .halt _, _ => none

/-- The one text does over its heap what the other one does over its own. -/
inductive SR (P : Program) {α β : Type} (RA : Ren → α → β → Prop) : Ren → Sem α → Sem β → Prop
  | pure {ρ : Ren} {a : α} {b : β} : RA ρ a b → SR P RA ρ (.pure a) (.pure b)
  | load {ρ : Ren} {m m' : Mode} {a a' : Addr} {k : Value → Sem α} {k' : Value → Sem β} : AR ρ a a' → (∀ v v', VR ρ v v' → SR P RA ρ (k v) (k' v')) → SR P RA ρ (.load m a k) (.load m' a' k')
  | store {ρ : Ren} {m m' : Mode} {a a' : Addr} {v v' : Value} {k : Sem α} {k' : Sem β} : AR ρ a a' → VR ρ v v' → SR P RA ρ k k' → SR P RA ρ (.store m a v k) (.store m' a' v' k')
  | new {ρ : Ren} {o o' : Obj} {k : Nat → Sem α} {k' : Nat → Sem β} : ObR ρ o o' → (∀ σ r r', ρ.le σ → BR σ r r' → (objSize o = (σ.f r).csize ∧ (σ.f r).shift = 0) → SR P RA σ (k r) (k' r')) → SR P RA ρ (.new o k) (.new o' k')
  | shape {ρ : Ren} {r r' : Nat} {k : Option (TypeId × Nat) → Sem α} {k' : Option (TypeId × Nat) → Sem β} : BR ρ r r' → (∀ s, SR P RA ρ (k s) (k' s)) → SR P RA ρ (.shape r k) (.shape r' k')
  | freeze {ρ : Ren} {a a' : Addr} {n : Nat} {k : Sem α} {k' : Sem β} : AR ρ a a' → SR P RA ρ k k' → SR P RA ρ (.freeze a n k) (.freeze a' n k')
  | frozen {ρ : Ren} {a a' : Addr} {k : Bool → Sem α} {k' : Bool → Sem β} : AR ρ a a' → (∀ b, SR P RA ρ (k b) (k' b)) → SR P RA ρ (.frozen a k) (.frozen a' k')
  | getObj {ρ : Ren} {r r' : Nat} {k : Obj → Sem α} {k' : Obj → Sem β} : BR ρ r r' → (∀ o o', OR ρ o o' → SR P RA ρ (k o) (k' o')) → SR P RA ρ (.getObj r k) (.getObj r' k')
  | setObj {ρ : Ren} {r r' : Nat} {o o' : Obj} {k : Sem α} {k' : Sem β} : BR ρ r r' → OR ρ o o' → SR P RA ρ k k' → SR P RA ρ (.setObj r o k) (.setObj r' o' k')
  | choose {ρ : Ren} {q q' : Question} {k : Nat → Sem α} {k' : Nat → Sem β} : q'.forced = q.forced → SR P RA ρ (k 0) (k' 0) → SR P RA ρ (.choose q k) (.choose q' k')
  | program {ρ : Ren} {k : Program → Sem α} {k' : Program → Sem β} : SR P RA ρ (k P) (k' P) → SR P RA ρ (.program k) (.program k')
  | mark {ρ : Ren} {m m' : Mark} {k : Sem α} {k' : Sem β} : SR P RA ρ k k' → SR P RA ρ (.mark m k) (.mark m' k')
  | halt {ρ : Ren} {h : Halt} {s' : Sem β} : SR P RA ρ (.halt h) s'
  | chooseNo {ρ : Ren} {q : Question} {k : Nat → Sem α} {s' : Sem β} : q.forced = false → SR P RA ρ (.choose q k) s'
  | dead {ρ : Ren} {s : Sem α} {s' : Sem β} : (∀ H, absRun P s H = none) → SR P RA ρ s s'
  | sys {ρ : Ren} {c : Sys} {k : SysRet → Sem α} {s' : Sem β} : SR P RA ρ (.sys c k) s'

/-- What is said of the two runs. -/
def Runs (P : Program) {α β : Type} (N : Nat) (w0 : Base) (RA : Ren → α → β → Prop) (ρ : Ren) (s' : Sem β) (w : World) : Option (α × AHeap) → Prop
  | some (a, H') => ∃ σ b w', ρ.le σ ∧ s'.run P w = .ok b w' ∧ RA σ a b ∧ HR N w0 σ H' w'
  | none => True

theorem Runs.of_run {P : Program} {α β : Type} {RA : Ren → α → β → Prop} {ρ σ : Ren} {s s' : Sem β} {w w' : World} {r : Option (α × AHeap)} (hle : ρ.le σ)
    (he : s.run P w = s'.run P w') (h : Runs P N w0 RA σ s' w' r) : Runs P N w0 RA ρ s w r := by
  cases r with
  | some p =>
    obtain ⟨a, H'⟩ := p
    obtain ⟨τ, b, w2, h1, h2, h3⟩ := h
    exact ⟨τ, b, w2, Ren.le_trans hle h1, he.trans h2, h3⟩
  | none => trivial

theorem absRun_sound {P : Program} {α β : Type} {RA : Ren → α → β → Prop} {ρ : Ren} {s : Sem α} {s' : Sem β} (hs : SR P RA ρ s s') :
    ∀ (H : AHeap) (w : World), HR N w0 ρ H w → Runs P N w0 RA ρ s' w (absRun P s H) := by
  induction hs with
  | pure h => intro H w hH; exact ⟨_, _, w, Ren.le_refl _, rfl, h, hH⟩
  | @load ρ m m' a a' k k' ha hk ih =>
    intro H w hH
    unfold absRun
    split
    · rename_i v hv
      obtain ⟨v', hv', hr⟩ := hH.load ha hv
      exact Runs.of_run (Ren.le_refl _) (by simp [Sem.run, hv']) (ih v v' hr H w hH)
    · trivial
  | @store ρ m m' a a' v v' k k' ha hv hk ih =>
    intro H w hH
    unfold absRun
    split
    · trivial
    · rename_i hwd
      split
      · rename_i H' hst
        obtain ⟨h1, h2, h3⟩ := hH.store ha hv hst
        exact Runs.of_run (Ren.le_refl _) (run_store (hv.wide hwd) h1 h2) (ih H' _ h3)
      · trivial
  | @new ρ o o' k k' ho hk ih =>
    intro H w hH
    unfold absRun
    split
    · have h1 := hH.new ho
      have hb : BR (ρ.ext ⟨w.heap.size, 0, 0, objSize o⟩) H.next w.heap.size := by rw [hH.n]; exact BR.ext ρ _
      exact Runs.of_run (Ren.le_ext _ _) (by simp [Sem.run]) (ih _ H.next w.heap.size (Ren.le_ext _ _) hb (by rw [hH.n, Ren.ext_self]; exact ⟨rfl, rfl⟩) _ _ h1)
    · trivial
  | @shape ρ r r' k k' hr hk ih =>
    intro H w hH
    unfold absRun
    split
    · rename_i s hsh
      refine Runs.of_run (Ren.le_refl _) ?_ (ih s H w hH)
      simp only [Sem.run]
      have : w.shape? r' = s := by
        unfold AHeap.shape at hsh
        rw [hr.2]
        split at hsh
        · rename_i b hb
          split at hsh
          · rename_i c e fr ho
            split at hsh
            · rename_i hz
              cases hsh
              obtain ⟨c', e', fr', hw, _, _, _, hx⟩ := hH.cells _ _ _ _ _ hr.1 hb ho
              obtain ⟨q3, hx⟩ := hx
              obtain ⟨q1, _⟩ := hx hz
              simp [World.shape?, hw, q1, q3]
            · cases hsh
          · rename_i o hno
            cases hsh
            obtain ⟨o', hw, hor⟩ := hH.objs _ _ hr.1 hb (by
              cases q : isCells b.obj
              · rfl
              · obtain ⟨c, e, fr, hq⟩ := isCells_eq q
                exact absurd hq (hno _ _ _))
            unfold World.shape?
            rw [hw]
            have := hor.notCells.2
            cases o' <;> first | rfl | (simp [isCells] at this)
        · cases hsh
      rw [this]
    · trivial
  | @freeze ρ a a' n k k' ha hk ih =>
    intro H w hH
    unfold absRun
    split
    · exact Runs.of_run (Ren.le_refl _) (by simp [Sem.run, World.freeze]) (ih H w hH)
    · split
      · rename_i n H' hf
        exact Runs.of_run (Ren.le_refl _) (by simp [Sem.run]) (ih H' _ (hH.freeze ha (Nat.succ_ne_zero _) hf))
      · trivial
  | @frozen ρ a a' k k' ha hk ih =>
    intro H w hH
    unfold absRun
    split
    · rename_i ht
      refine Runs.of_run (Ren.le_refl _) ?_ (ih false H w hH)
      have : w.frozen? a' = false := by
        unfold AHeap.thawed at ht
        split at ht
        · rename_i b hb
          split at ht
          · cases ht
          · rename_i hc
            simp only [Bool.or_eq_true, not_or, Bool.not_eq_true, Bool.not_eq_false'] at hc
            split at ht
            · rename_i g hg
              obtain ⟨g0, hg0, _, hf0⟩ := hH.grp _ b ha.1 hb hc.1 hc.2
              rw [hg] at hg0
              cases hg0
              obtain ⟨_, h2, h3, _⟩ := ha
              cases q : w.frozen? a' with
              | false => rfl
              | true =>
                have q2 : w.frozen? ⟨(ρ.f a.block).block, a'.off, none⟩ = true := by rw [← h2]; exact q
                have := hf0.frozen q2
                simp only [Bool.not_eq_true', Bool.and_eq_false_iff, decide_eq_false_iff_not] at ht
                omega
            · cases ht
        · cases ht
      simp [Sem.run, this]
    · trivial
  | @getObj ρ r r' k k' hr hk ih =>
    intro H w hH
    unfold absRun
    split
    · rename_i o ho
      obtain ⟨o', hw, hor⟩ := hH.getObj hr ho
      refine Runs.of_run (Ren.le_refl _) ?_ (ih o o' hor H w hH)
      have := hor.notCells.2
      simp only [Sem.run, hw]
      cases o' <;> first | rfl | (simp [isCells] at this)
    · trivial
  | @setObj ρ r r' o o' k k' hr ho hk ih =>
    intro H w hH
    unfold absRun
    split
    · rename_i H' hs
      obtain ⟨⟨x, hx, hxc⟩, h2⟩ := hH.setObj hr ho hs
      refine Runs.of_run (Ren.le_refl _) ?_ (ih H' _ h2)
      simp only [Sem.run, hx]
      cases x <;> first | rfl | (simp [isCells] at hxc)
    · trivial
  | @choose ρ q q' k k' hq hk ih =>
    intro H w hH
    unfold absRun
    split
    · rename_i hf
      exact Runs.of_run (Ren.le_refl _) (by simp [Sem.run, hq, hf]) (ih H w hH)
    · trivial
  | program hk ih => intro H w hH; exact Runs.of_run (Ren.le_refl _) (by simp [Sem.run]) (ih H w hH)
  | mark hk ih => intro H w hH; exact Runs.of_run (Ren.le_refl _) (by simp [Sem.run]) (ih H w hH)
  | halt => intro H w hH; trivial
  | chooseNo hq => intro H w hH; unfold absRun; rw [hq]; trivial
  | dead hd => intro H w hH; rw [hd]; trivial
  | sys => intro H w hH; trivial

theorem absRun_bind {P : Program} {α β : Type} (s : Sem α) (f : α → Sem β) : ∀ H, absRun P (s.bind f) H = match absRun P s H with | some (a, H') => absRun P (f a) H' | none => none := by
  induction s with
  | pure a => intro H; rfl
  | load m a k ih => intro H; simp only [Sem.bind, absRun]; split <;> first | exact ih _ _ | rfl
  | store m a v k ih =>
    intro H
    simp only [Sem.bind, absRun]
    split
    · rfl
    · split <;> first | exact ih _ | rfl
  | new o k ih => intro H; simp only [Sem.bind, absRun]; split <;> first | exact ih _ _ | rfl
  | shape r k ih => intro H; simp only [Sem.bind, absRun]; split <;> first | exact ih _ _ | rfl
  | freeze a n k ih =>
    intro H
    simp only [Sem.bind, absRun]
    split
    · exact ih _
    · split <;> first | exact ih _ | rfl
  | frozen a k ih => intro H; simp only [Sem.bind, absRun]; split <;> first | exact ih _ _ | rfl
  | getObj r k ih => intro H; simp only [Sem.bind, absRun]; split <;> first | exact ih _ _ | rfl
  | setObj r o k ih => intro H; simp only [Sem.bind, absRun]; split <;> first | exact ih _ | rfl
  | choose q k ih => intro H; simp only [Sem.bind, absRun]; split <;> first | exact ih _ _ | rfl
  | sys c k ih => intro H; rfl
  | program k ih => intro H; simp only [Sem.bind, absRun]; exact ih _ _
  | mark m k ih => intro H; simp only [Sem.bind, absRun]; exact ih _
  | halt h => intro H; rfl

theorem SR.bind {P : Program} {α β γ δ : Type} {RA : Ren → α → β → Prop} {RB : Ren → γ → δ → Prop} {ρ : Ren} {s : Sem α} {s' : Sem β} (hs : SR P RA ρ s s')
    {f : α → Sem γ} {g : β → Sem δ} (hf : ∀ σ a b, ρ.le σ → RA σ a b → SR P RB σ (f a) (g b)) : SR P RB ρ (s >>= f) (s' >>= g) := by
  show SR P RB ρ (s.bind f) (s'.bind g)
  induction hs with
  | pure h => exact hf _ _ _ (Ren.le_refl _) h
  | load ha hk ih => exact .load ha fun v v' hv => ih v v' hv hf
  | store ha hv hk ih => exact .store ha hv (ih hf)
  | new ho hk ih => exact .new ho fun σ r r' hle hb hc => ih σ r r' hle hb hc fun τ a b h1 h2 => hf τ a b (Ren.le_trans hle h1) h2
  | shape hr hk ih => exact .shape hr fun s => ih s hf
  | freeze ha hk ih => exact .freeze ha (ih hf)
  | frozen ha hk ih => exact .frozen ha fun b => ih b hf
  | getObj hr hk ih => exact .getObj hr fun o o' ho => ih o o' ho hf
  | setObj hr ho hk ih => exact .setObj hr ho (ih hf)
  | choose hq hk ih => exact .choose hq (ih hf)
  | program hk ih => exact .program (ih hf)
  | mark hk ih => exact .mark (ih hf)
  | halt => exact .halt
  | chooseNo hq => exact .chooseNo hq
  | dead hd => exact .dead fun H => by rw [absRun_bind, hd]
  | sys => exact .sys

theorem SR.imp {P : Program} {α β : Type} {RA RB : Ren → α → β → Prop} {ρ : Ren} {s : Sem α} {s' : Sem β} (hs : SR P RA ρ s s') (h : ∀ σ a b, ρ.le σ → RA σ a b → RB σ a b) : SR P RB ρ s s' := by
  induction hs with
  | pure hr => exact .pure (h _ _ _ (Ren.le_refl _) hr)
  | load ha hk ih => exact .load ha fun v v' hv => ih v v' hv h
  | store ha hv hk ih => exact .store ha hv (ih h)
  | new ho hk ih => exact .new ho fun σ r r' hle hb hc => ih σ r r' hle hb hc fun τ a b h1 h2 => h τ a b (Ren.le_trans hle h1) h2
  | shape hr hk ih => exact .shape hr fun s => ih s h
  | freeze ha hk ih => exact .freeze ha (ih h)
  | frozen ha hk ih => exact .frozen ha fun b => ih b h
  | getObj hr hk ih => exact .getObj hr fun o o' ho => ih o o' ho h
  | setObj hr ho hk ih => exact .setObj hr ho (ih h)
  | choose hq hk ih => exact .choose hq (ih h)
  | program hk ih => exact .program (ih h)
  | mark hk ih => exact .mark (ih h)
  | halt => exact .halt
  | chooseNo hq => exact .chooseNo hq
  | dead hd => exact .dead hd
  | sys => exact .sys

end
end Go.Ev
