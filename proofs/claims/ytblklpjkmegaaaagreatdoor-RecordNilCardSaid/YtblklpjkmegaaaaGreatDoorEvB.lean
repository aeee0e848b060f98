import Derived.Test.YtblklpjkmegaaaaGreatDoorEvA
import Derived.Test.YtblklpjkmegaaaaGreatDoorEvT
namespace Go.Ev
open Go.RowKit

inductive TR (ρ : Ren) : Target → Target → Prop
  | fn {f f' : Fn} {x x' : Array Value} : FnR ρ f f' → AsR ρ x x' → TR ρ (.fn f x) (.fn f' x')
  | nil : TR ρ .nil .nil
  | collected {r r' : Nat} : BR ρ r r' → TR ρ (.collected r) (.collected r')
  | builtin (b : Builtin) (ts : Array TypeId) (t : TypeId) (cs : Array Bool) : TR ρ (.builtin b ts t cs) (.builtin b ts t cs)

def DR (ρ : Ren) (d d' : Deferred) : Prop := TR ρ d.target d'.target ∧ AsR ρ d.args d'.args

def DsR (ρ : Ren) : List Deferred → List Deferred → Prop
  | [], [] => True
  | d :: ds, e :: es => DR ρ d e ∧ DsR ρ ds es
  | _, _ => False

structure LR (ρ : Ren) (l l' : Loop) : Prop where
  state : l'.state = l.state
  pending : l'.pending = l.pending
  fn : l'.fn = l.fn
  tmps : AsR ρ l.tmps l'.tmps
  params : l'.params = l.params
  assign : l'.assign = l.assign
  body : l'.body = l.body
  defers : BR ρ l.defers l'.defers

def EntR (ρ : Ren) (e e' : MapEntry) : Prop := VR ρ e.key e'.key ∧ VR ρ e.val e'.val ∧ e'.born = e.born

def EntsR (ρ : Ren) (x x' : Array MapEntry) : Prop := x.size = x'.size ∧ ∀ (i : Nat) (v v' : MapEntry), x[i]? = some v → x'[i]? = some v' → EntR ρ v v'

/-- Blocks that are no cells. -/
inductive OR (ρ : Ren) : Obj → Obj → Prop
  | map {es es' : Array MapEntry} (k : Nat) : EntsR ρ es es' → OR ρ (.map es k) (.map es' k)
  | stringIter (s : ByteArray) (n : Nat) : OR ρ (.stringIter s n) (.stringIter s n)
  | mapIterNone (a : Nat) (b : Array Nat) (c : Nat) : OR ρ (.mapIter none a b c) (.mapIter none a b c)
  | mapIter {r r' : Nat} (a : Nat) (b : Array Nat) (c : Nat) : BR ρ r r' → OR ρ (.mapIter (some r) a b c) (.mapIter (some r') a b c)
  | loop {l l' : Loop} : LR ρ l l' → OR ρ (.loop l) (.loop l')
  | deferredNone : OR ρ (.deferred none) (.deferred none)
  | deferred {ds ds' : List Deferred} : DsR ρ ds ds' → OR ρ (.deferred (some ds)) (.deferred (some ds'))

def isCells : Obj → Bool
  | .cells .. => true
  | _ => false

theorem OR.notCells {ρ : Ren} {o o' : Obj} (h : OR ρ o o') : isCells o = false ∧ isCells o' = false := by cases h <;> exact ⟨rfl, rfl⟩

/-- Blocks as they are made. -/
inductive ObR (ρ : Ren) : Obj → Obj → Prop
  | cells {c c' : Array Value} (e : TypeId) : AsR ρ c c' → ObR ρ (.cells c e (0, 0)) (.cells c' e (0, 0))
  | obj {o o' : Obj} : OR ρ o o' → ObR ρ o o'

theorem TR.mono {ρ σ : Ren} (h : ρ.le σ) {t t' : Target} (k : TR ρ t t') : TR σ t t' := by
  cases k with
  | fn a b => exact .fn (a.mono h) (b.mono h)
  | nil => exact .nil
  | collected a => exact .collected (a.mono h)
  | builtin b ts t cs => exact .builtin b ts t cs
theorem DR.mono {ρ σ : Ren} (h : ρ.le σ) {d d' : Deferred} (k : DR ρ d d') : DR σ d d' := ⟨k.1.mono h, k.2.mono h⟩
theorem DsR.mono {ρ σ : Ren} (h : ρ.le σ) : ∀ {d d' : List Deferred}, DsR ρ d d' → DsR σ d d'
  | [], [], _ => trivial
  | _ :: _, _ :: _, k => ⟨k.1.mono h, DsR.mono h k.2⟩
theorem LR.mono {ρ σ : Ren} (h : ρ.le σ) {l l' : Loop} (k : LR ρ l l') : LR σ l l' :=
  ⟨k.state, k.pending, k.fn, k.tmps.mono h, k.params, k.assign, k.body, k.defers.mono h⟩
theorem EntR.mono {ρ σ : Ren} (h : ρ.le σ) {l l' : MapEntry} (k : EntR ρ l l') : EntR σ l l' := ⟨k.1.mono h, k.2.1.mono h, k.2.2⟩
theorem EntsR.mono {ρ σ : Ren} (h : ρ.le σ) {l l' : Array MapEntry} (k : EntsR ρ l l') : EntsR σ l l' := ⟨k.1, fun i v v' a b => (k.2 i v v' a b).mono h⟩
theorem OR.mono {ρ σ : Ren} (h : ρ.le σ) {o o' : Obj} (k : OR ρ o o') : OR σ o o' := by
  cases k with
  | map c a => exact .map c (a.mono h)
  | stringIter s n => exact .stringIter s n
  | mapIterNone a b c => exact .mapIterNone a b c
  | mapIter a b c r => exact .mapIter a b c (r.mono h)
  | loop l => exact .loop (l.mono h)
  | deferredNone => exact .deferredNone
  | deferred a => exact .deferred (a.mono h)
theorem ObR.mono {ρ σ : Ren} (h : ρ.le σ) {o o' : Obj} (k : ObR ρ o o') : ObR σ o o' := by
  cases k with
  | cells e a => exact .cells e (a.mono h)
  | obj a => exact .obj (a.mono h)

/-- Blocks that may lie in one: each with the place of its first cell among theirs; and which of these places may be frozen. -/
structure Grp where
  mem : List (Nat × Nat)
  flo : Nat
  fhi : Nat

structure ABlk where
  obj : Obj
  root : Nat
  org : Nat
  ro : Bool
  sz : Nat

structure AHeap where
  next : Nat
  blks : Trie ABlk
  grps : Trie Grp

def AHeap.blk (H : AHeap) (i : Nat) : Option ABlk := H.blks.get i
def AHeap.grp (H : AHeap) (i : Nat) : Option Grp := H.grps.get i
def AHeap.setBlk (H : AHeap) (i : Nat) (b : ABlk) : AHeap := { H with blks := H.blks.set i b }

theorem AHeap.blk_setBlk (H : AHeap) (i : Nat) (b : ABlk) (j : Nat) : (H.setBlk i b).blk j = if j = i then some b else H.blk j := Trie.get_set _ _ _ _
theorem AHeap.grp_setBlk (H : AHeap) (i : Nat) (b : ABlk) (j : Nat) : (H.setBlk i b).grp j = H.grp j := rfl
theorem AHeap.next_setBlk (H : AHeap) (i : Nat) (b : ABlk) : (H.setBlk i b).next = H.next := rfl

def AHeap.cell (H : AHeap) (a : Addr) : Option Value :=
  match H.blk a.block with
  | some b => match b.obj with
    | .cells c _ _ => if a.spot.isSome then none else c[a.off]?
    | _ => none
  | none => none

def poison (self virt : Nat) : List (Nat × Nat) → AHeap → AHeap
  | [], H => H
  | (j, org) :: rest, H =>
    if j = self ∨ virt < org then poison self virt rest H else
    match H.blk j with
    | some b => match b.obj with
      | .cells c e f => if virt - org < c.size then poison self virt rest (H.setBlk j { b with obj := .cells (c.setIfInBounds (virt - org) junk) e f }) else poison self virt rest H
      | _ => poison self virt rest H
    | none => poison self virt rest H

def AHeap.store (H : AHeap) (a : Addr) (v : Value) : Option AHeap :=
  match H.blk a.block with
  | some b => match b.obj with
    | .cells c e fr =>
      if b.ro = true ∨ a.spot.isSome = true ∨ ¬ a.off < c.size then none else
      match H.grp b.root with
      | some g =>
        if g.flo ≤ a.off + b.org ∧ a.off + b.org < g.fhi then none else
        some ((poison a.block (a.off + b.org) g.mem H).setBlk a.block { b with obj := .cells (c.setIfInBounds a.off v) e fr })
      | none => none
    | _ => none
  | none => none

def freshBlk (id : Nat) (o : Obj) : ABlk := { obj := o, root := id, org := 0, ro := false, sz := 0 }

def AHeap.new (H : AHeap) (o : Obj) : AHeap :=
  { next := H.next + 1, blks := H.blks.set H.next (freshBlk H.next o), grps := H.grps.set H.next { mem := [(H.next, 0)], flo := 0, fhi := 0 } }

def CellsR (ρ : Ren) (shift : Nat) (c c' : Array Value) : Prop :=
  ∀ (j : Nat) (v : Value), c[j]? = some v → ∃ v', c'[j + shift]? = some v' ∧ VR ρ v v'

/-- What is frozen lies within what is told of the group. -/
def FzR (l : Loc) (org : Nat) (g : Grp) (w : World) : Prop :=
  ∀ c e lo hi, w.heap[l.block]? = some (.cells c e (lo, hi)) → lo ≤ hi ∧ (lo < hi → g.flo + l.shift ≤ lo + org ∧ hi + org ≤ g.fhi + l.shift)

theorem FzR.frozen {l : Loc} {org : Nat} {g : Grp} {w : World} (h : FzR l org g w) {k : Nat} (hk : w.frozen? ⟨l.block, k, none⟩ = true) :
    g.flo + l.shift ≤ k + org ∧ k + org < g.fhi + l.shift := by
  unfold World.frozen? at hk
  split at hk
  · rename_i c e lo hi q
    simp only [Bool.and_eq_true, decide_eq_true_eq] at hk
    obtain ⟨h1, h2⟩ := h c e lo hi q
    have := h2 (by omega)
    omega
  · cases hk

/-- What a world is told against: how it was, and blocks that are not there yet. -/
structure Base where
  w : World
  off : Nat → Prop

structure HR (N : Nat) (w0 : Base) (ρ : Ren) (H : AHeap) (w : World) : Prop where
  n : H.next = ρ.n
  base : N ≤ w0.w.heap.size
  below : Below N w0.w w
  lt : ∀ i, ρ.on i → (ρ.f i).block < w.heap.size
  dom : ∀ i b, H.blk i = some b → i < ρ.n
  cells : ∀ i b c e fr, ρ.on i → H.blk i = some b → b.obj = .cells c e fr → ∃ c' e' fr', w.heap[(ρ.f i).block]? = some (.cells c' e' fr') ∧ c'.size = (ρ.f i).csize ∧
    CellsR ρ (ρ.f i).shift c c' ∧ (ρ.f i).sz = b.sz ∧ (e' = e ∧ (b.sz = 0 → c'.size = c.size ∧ (ρ.f i).shift = 0))
  objs : ∀ i b, ρ.on i → H.blk i = some b → isCells b.obj = false → ∃ o', w.heap[(ρ.f i).block]? = some o' ∧ OR ρ b.obj o'
  own : ∀ i b, ρ.on i → H.blk i = some b → b.ro = false → N ≤ (ρ.f i).block
  old : ∀ i b, ρ.on i → H.blk i = some b → b.ro = true → (ρ.f i).block < N
  sep : ∀ i j bi bj, ρ.on i → ρ.on j → H.blk i = some bi → H.blk j = some bj → i ≠ j → bi.ro = false → bj.ro = false → (ρ.f i).block = (ρ.f j).block →
    isCells bi.obj = true ∧ isCells bj.obj = true ∧ bi.root = bj.root ∧ (ρ.f i).shift + bj.org = (ρ.f j).shift + bi.org
  grp : ∀ i b, ρ.on i → H.blk i = some b → b.ro = false → isCells b.obj = true → ∃ g, H.grp b.root = some g ∧ (i, b.org) ∈ g.mem ∧
    FzR (ρ.f i) b.org g w
  root : ∀ i b, H.blk i = some b → b.root < H.next
  off : ∀ i, w0.off i → i < ρ.n ∧ ¬ ρ.on i

theorem isCells_eq {o : Obj} (h : isCells o = true) : ∃ c e fr, o = .cells c e fr := by
  cases o <;> first | exact ⟨_, _, _, rfl⟩ | (simp [isCells] at h)

theorem cell?_of {w : World} {b : Nat} {c : Array Value} {e : TypeId} {fr : Nat × Nat} (h : w.heap[b]? = some (.cells c e fr)) (o : Nat) :
    w.cell? ⟨b, o, none⟩ = c[o]? := by
  simp [World.cell?, h]

section
variable {N : Nat} {w0 : Base} {ρ : Ren} {H : AHeap} {w : World}

theorem HR.load (h : HR N w0 ρ H w) {a a' : Addr} (ha : AR ρ a a') {v : Value} (hv : H.cell a = some v) : ∃ v', w.cell? a' = some v' ∧ VR ρ v v' := by
  obtain ⟨h1, h2, h3, h4⟩ := ha
  unfold AHeap.cell at hv
  split at hv
  · rename_i b hb
    split at hv
    · rename_i c e fr ho
      split at hv
      · cases hv
      · rename_i hs
        obtain ⟨c', e', fr', hw, _, hc, _⟩ := h.cells _ _ _ _ _ h1 hb ho
        obtain ⟨v', hv', hr⟩ := hc _ _ hv
        refine ⟨v', ?_, hr⟩
        have hsp : a.spot = none := by simpa using hs
        have ea : a' = ⟨(ρ.f a.block).block, a.off + (ρ.f a.block).shift, none⟩ := by
          cases a'; simp only at h2 h3 h4; rw [h2, h3, h4, hsp]
        rw [ea, cell?_of hw, hv']
    · cases hv
  · cases hv

/-- The same blocks, with some cells that stand for whatever there is. -/
structure Weaker (H' H : AHeap) : Prop where
  next : H'.next = H.next
  grp : ∀ i, H'.grp i = H.grp i
  gone : ∀ i, H.blk i = none → H'.blk i = none
  has : ∀ i b, H.blk i = some b → ∃ b', H'.blk i = some b' ∧ b'.root = b.root ∧ b'.org = b.org ∧ b'.ro = b.ro ∧ b'.sz = b.sz ∧
    (b'.obj = b.obj ∨ ∃ c c' e fr, b.obj = .cells c e fr ∧ b'.obj = .cells c' e fr ∧ c'.size = c.size ∧ ∀ (k : Nat) (v : Value), c'[k]? = some v → v = junk ∨ c[k]? = some v)

theorem Weaker.refl (H : AHeap) : Weaker H H := ⟨rfl, fun _ => rfl, fun _ h => h, fun _ b h => ⟨b, h, rfl, rfl, rfl, rfl, .inl rfl⟩⟩

theorem Weaker.trans {H1 H2 H3 : AHeap} (h : Weaker H1 H2) (k : Weaker H2 H3) : Weaker H1 H3 := by
  refine ⟨h.next.trans k.next, fun i => (h.grp i).trans (k.grp i), fun i e => h.gone i (k.gone i e), fun i b hb => ?_⟩
  obtain ⟨b2, hb2, r2, o2, ro2, s2, ob2⟩ := k.has i b hb
  obtain ⟨b1, hb1, r1, o1, ro1, s1, ob1⟩ := h.has i b2 hb2
  refine ⟨b1, hb1, r1.trans r2, o1.trans o2, ro1.trans ro2, s1.trans s2, ?_⟩
  rcases ob2 with e2 | ⟨c, c2, e, fr, hc, hc2, hs2, hv2⟩
  · rw [e2] at ob1; exact ob1
  · rcases ob1 with e1 | ⟨c3, c1, e', fr', hc3, hc1, hs1, hv1⟩
    · exact .inr ⟨c, c2, e, fr, hc, e1.trans hc2, hs2, hv2⟩
    · rw [hc2] at hc3
      cases hc3
      refine .inr ⟨c, c1, e, fr, hc, hc1, hs1.trans hs2, fun k v hk => ?_⟩
      rcases hv1 k v hk with q | q
      · exact .inl q
      · exact hv2 k v q

theorem Weaker.back {H' H : AHeap} (h : Weaker H' H) {i : Nat} {b' : ABlk} (hb : H'.blk i = some b') : ∃ b, H.blk i = some b ∧ b'.root = b.root ∧ b'.org = b.org ∧ b'.ro = b.ro ∧ b'.sz = b.sz ∧
    (b'.obj = b.obj ∨ ∃ c c' e fr, b.obj = .cells c e fr ∧ b'.obj = .cells c' e fr ∧ c'.size = c.size ∧ ∀ (k : Nat) (v : Value), c'[k]? = some v → v = junk ∨ c[k]? = some v) := by
  cases hq : H.blk i with
  | none => rw [h.gone i hq] at hb; cases hb
  | some b =>
    obtain ⟨b2, hb2, r⟩ := h.has i b hq
    rw [hb] at hb2
    cases hb2
    exact ⟨b, rfl, r⟩

theorem Weaker.isCells {b b' : ABlk} (h : b'.obj = b.obj ∨ ∃ c c' e fr, b.obj = .cells c e fr ∧ b'.obj = .cells c' e fr ∧ c'.size = c.size ∧ ∀ (k : Nat) (v : Value), c'[k]? = some v → v = junk ∨ c[k]? = some v) :
    Ev.isCells b'.obj = Ev.isCells b.obj := by
  rcases h with h | ⟨c, c', e, fr, h1, h2, _⟩
  · rw [h]
  · rw [h1, h2]; rfl

theorem HR.weaker (h : HR N w0 ρ H w) {H' : AHeap} (k : Weaker H' H) : HR N w0 ρ H' w := by
  refine ⟨k.next.trans h.n, h.base, h.below, h.lt, ?_, ?_, ?_, ?_, ?_, ?_, ?_, ?_, h.off⟩
  · intro i b' hb'
    obtain ⟨b, hb, _⟩ := k.back hb'
    exact h.dom i b hb
  · intro i b' c' e fr hon hb' ho'
    obtain ⟨b, hb, hr, hor, hro, hsz, ho⟩ := k.back hb'
    rcases ho with ho | ⟨c, c2, e2, fr2, h1, h2, hs, hv⟩
    · rw [hsz]; exact h.cells i b c' e fr hon hb (ho ▸ ho')
    · rw [ho'] at h2
      cases h2
      obtain ⟨cw, ew, frw, hw, hcs, hc, hz, hx⟩ := h.cells i b c e fr hon hb h1
      refine ⟨cw, ew, frw, hw, hcs, fun j v hj => ?_, by rw [hsz]; exact hz, hx.1, fun e0 => ?_⟩
      · rcases hv j v hj with q | q
        · have hl : j < c.size := by have := (Array.getElem?_eq_some_iff.1 hj).1; omega
          obtain ⟨v', hv', _⟩ := hc j _ (Array.getElem?_eq_getElem hl)
          exact ⟨v', hv', q ▸ .junk v'⟩
        · exact hc j v q
      · rw [hs]; exact hx.2 (hsz ▸ e0)
  · intro i b' hon hb' hn
    obtain ⟨b, hb, _, _, _, _, ho⟩ := k.back hb'
    rcases ho with ho | ⟨c, c2, e2, fr2, h1, h2, _⟩
    · rw [ho] at hn ⊢; exact h.objs i b hon hb hn
    · rw [h2] at hn; cases hn
  · intro i b' hon hb' hr
    obtain ⟨b, hb, _, _, hro, _⟩ := k.back hb'
    exact h.own i b hon hb (hro ▸ hr)
  · intro i b' hon hb' hr
    obtain ⟨b, hb, _, _, hro, _⟩ := k.back hb'
    exact h.old i b hon hb (hro ▸ hr)
  · intro i j bi' bj' hon hon2 hi' hj' hne hri hrj he
    obtain ⟨bi, hi, r1, o1, ro1, _, ob1⟩ := k.back hi'
    obtain ⟨bj, hj, r2, o2, ro2, _, ob2⟩ := k.back hj'
    obtain ⟨q1, q2, q3, q4⟩ := h.sep i j bi bj hon hon2 hi hj hne (ro1 ▸ hri) (ro2 ▸ hrj) he
    refine ⟨?_, ?_, ?_, ?_⟩
    · rw [Weaker.isCells ob1]; exact q1
    · rw [Weaker.isCells ob2]; exact q2
    · rw [r1, r2]; exact q3
    · rw [o1, o2]; exact q4
  · intro i b' hon hb' hr hc
    obtain ⟨b, hb, r1, o1, ro1, _, ob1⟩ := k.back hb'
    obtain ⟨g, hg, hm, hf⟩ := h.grp i b hon hb (ro1 ▸ hr) (by rw [← Weaker.isCells ob1]; exact hc)
    exact ⟨g, by rw [k.grp, r1]; exact hg, by rw [o1]; exact hm, by rw [o1]; exact hf⟩
  · intro i b' hb'
    obtain ⟨b, hb, r1, _⟩ := k.back hb'
    rw [r1, k.next]; exact h.root i b hb

theorem weaker_setBlk_junk {j : Nat} {b : ABlk} {c : Array Value} {e : TypeId} {f : Nat × Nat} (hb : H.blk j = some b) (ho : b.obj = .cells c e f) (k : Nat) :
    Weaker (H.setBlk j { b with obj := .cells (c.setIfInBounds k junk) e f }) H := by
  refine ⟨rfl, fun _ => rfl, fun i hi => ?_, fun i b' hi => ?_⟩
  · rw [AHeap.blk_setBlk, if_neg (by intro q; rw [q, hb] at hi; cases hi)]; exact hi
  · by_cases q : i = j
    · subst q
      rw [hb] at hi
      cases hi
      refine ⟨{ b with obj := .cells (c.setIfInBounds k junk) e f }, by rw [AHeap.blk_setBlk, if_pos rfl], rfl, rfl, rfl, rfl, .inr ⟨c, c.setIfInBounds k junk, e, f, ho, rfl, by simp, fun m v hv => ?_⟩⟩
      rw [Array.getElem?_setIfInBounds] at hv
      split at hv
      · split at hv
        · cases hv; exact .inl rfl
        · cases hv
      · exact .inr hv
    · exact ⟨b', by rw [AHeap.blk_setBlk, if_neg q]; exact hi, rfl, rfl, rfl, rfl, .inl rfl⟩

theorem poison_weaker (self virt : Nat) : ∀ (l : List (Nat × Nat)) (H : AHeap), Weaker (poison self virt l H) H ∧ (poison self virt l H).blk self = H.blk self := by
  intro l
  induction l with
  | nil => intro H; exact ⟨Weaker.refl H, rfl⟩
  | cons p rest ih =>
    intro H
    obtain ⟨j, org⟩ := p
    unfold poison
    split
    · exact ih H
    · rename_i hn
      split
      · rename_i b hb
        split
        · rename_i c e f ho
          split
          · obtain ⟨h1, h2⟩ := ih (H.setBlk j { b with obj := .cells (c.setIfInBounds (virt - org) junk) e f })
            refine ⟨h1.trans (weaker_setBlk_junk hb ho _), h2.trans ?_⟩
            rw [AHeap.blk_setBlk, if_neg (fun q => hn (.inl q.symm))]
          · exact ih H
        · exact ih H
      · exact ih H

theorem junk_stays {H1 H2 : AHeap} (h : Weaker H1 H2) {j k : Nat} (hj : ∀ b c e fr, H2.blk j = some b → b.obj = .cells c e fr → ∀ v : Value, c[k]? = some v → v = junk) :
    ∀ b c e fr, H1.blk j = some b → b.obj = .cells c e fr → ∀ v : Value, c[k]? = some v → v = junk := by
  intro b c e fr hb ho v hv
  obtain ⟨b2, hb2, _, _, _, _, ob⟩ := h.back hb
  rcases ob with ob | ⟨c2, c1, e2, fr2, h1, h2, _, hx⟩
  · exact hj b2 c e fr hb2 (ob ▸ ho) v hv
  · rw [ho] at h2
    cases h2
    rcases hx k v hv with q | q
    · exact q
    · exact hj b2 c2 e fr hb2 h1 v q

theorem set_self_junk {c : Array Value} {k : Nat} {v : Value} (h : (c.setIfInBounds k junk)[k]? = some v) : v = junk := by
  rw [Array.getElem?_setIfInBounds] at h
  simp at h
  exact h.2.symm

theorem poison_junk (self virt : Nat) : ∀ (l : List (Nat × Nat)) (H : AHeap) (j org : Nat), (j, org) ∈ l → j ≠ self → org ≤ virt →
    ∀ b c e fr, (poison self virt l H).blk j = some b → b.obj = .cells c e fr → ∀ v : Value, c[virt - org]? = some v → v = junk := by
  intro l
  induction l with
  | nil => intro H j org hm; cases hm
  | cons p rest ih =>
    intro H j org hm hne hle
    obtain ⟨j', org'⟩ := p
    by_cases q : (j, org) = (j', org')
    · cases q
      unfold poison
      rw [if_neg (by intro q; rcases q with q | q; exact hne q; omega)]
      cases hb : H.blk j with
      | none =>
        simp only
        refine junk_stays (poison_weaker self virt rest H).1 ?_
        intro b c e fr hb2; rw [hb] at hb2; cases hb2
      | some b =>
        simp only
        cases ho : b.obj with
        | cells c e f =>
          simp only
          split
          · refine junk_stays (poison_weaker self virt rest _).1 ?_
            intro b2 c2 e2 fr2 hb2 ho2 v hv
            rw [AHeap.blk_setBlk, if_pos rfl] at hb2
            cases hb2
            cases ho2
            exact set_self_junk hv
          · rename_i hlt
            refine junk_stays (poison_weaker self virt rest _).1 ?_
            intro b2 c2 e2 fr2 hb2 ho2 v hv
            rw [hb] at hb2
            cases hb2
            rw [ho] at ho2
            cases ho2
            exact absurd (Array.getElem?_eq_some_iff.1 hv).1 hlt
        | _ =>
          simp only
          refine junk_stays (poison_weaker self virt rest H).1 ?_
          intro b2 c2 e2 fr2 hb2 ho2
          rw [hb] at hb2
          cases hb2
          rw [ho] at ho2
          cases ho2
    · have hm' : (j, org) ∈ rest := by
        cases hm with
        | head => exact absurd rfl q
        | tail _ h => exact h
      unfold poison
      split
      · exact ih H j org hm' hne hle
      · split
        · split
          · split
            · exact ih _ j org hm' hne hle
            · exact ih H j org hm' hne hle
          · exact ih H j org hm' hne hle
        · exact ih H j org hm' hne hle

end
end Go.Ev
