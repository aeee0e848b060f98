import Derived.Test.YtblklpjkmegaaaaGreatDoorEvB
namespace Go.Ev
open Go.RowKit

section
variable {N : Nat} {w0 : Base} {ρ : Ren} {H : AHeap} {w : World}

theorem heap_setCell_at {B O : Nat} {v' : Value} {c' : Array Value} {e : TypeId} {fr : Nat × Nat} (h : w.heap[B]? = some (.cells c' e fr)) (k : Nat) :
    (w.setCell ⟨B, O, none⟩ v').heap[k]? = if k = B then some (.cells (c'.setIfInBounds O v') e fr) else w.heap[k]? := by
  simp only [World.setCell, Array.getElem?_modify]
  by_cases q : B = k
  · subst q; simp [h]
  · simp [q, Ne.symm q]

theorem AR.eq_mk {a a' : Addr} (h : AR ρ a a') (hs : a.spot = none) : a' = ⟨(ρ.f a.block).block, a.off + (ρ.f a.block).shift, none⟩ := by
  obtain ⟨_, h2, h3, h4⟩ := h
  cases a'
  simp only at h2 h3 h4
  rw [h2, h3, h4, hs]

theorem HR.store (h : HR N w0 ρ H w) {a a' : Addr} (ha : AR ρ a a') {v v' : Value} (hv : VR ρ v v') {H' : AHeap} (hs : H.store a v = some H') :
    (∃ x, w.cell? a' = some x) ∧ w.frozen? a' = false ∧ HR N w0 ρ H' (w.setCell a' v') := by
  unfold AHeap.store at hs
  split at hs
  case h_2 => cases hs
  rename_i b hb
  split at hs
  case h_2 => cases hs
  rename_i c e fr ho
  split at hs
  case isTrue => cases hs
  rename_i hcond
  split at hs
  case h_2 => cases hs
  rename_i g hg
  split at hs
  case isTrue => cases hs
  rename_i hfr
  simp only [Option.some.injEq] at hs
  have hro : b.ro = false := by
    cases q : b.ro
    · rfl
    · exact absurd (.inl q) hcond
  have hsp : a.spot = none := by
    cases q : a.spot
    · rfl
    · exact absurd (.inr (.inl (by simp [q]))) hcond
  have hlt : a.off < c.size := Decidable.byContradiction fun q => hcond (.inr (.inr q))
  have ea := ha.eq_mk hsp
  obtain ⟨c', e', fr', hw, hcs, hc, hz, hx⟩ := h.cells _ _ _ _ _ ha.1 hb ho
  obtain ⟨hW, hself⟩ := poison_weaker a.block (a.off + b.org) g.mem H
  have hj := poison_junk a.block (a.off + b.org) g.mem H
  have h1 := h.weaker hW
  generalize hH1 : poison a.block (a.off + b.org) g.mem H = H1 at *
  have hb1 : H1.blk a.block = some b := hself.trans hb
  subst hs
  subst ea
  have hcell : b.obj = .cells c e fr := ho
  have hisc : isCells b.obj = true := by rw [ho]; rfl
  obtain ⟨g', hg', hmem, hfz⟩ := h.grp _ _ ha.1 hb hro hisc
  rw [hg] at hg'
  cases hg'
  have hh := fun k => heap_setCell_at (O := a.off + (ρ.f a.block).shift) (v' := v') hw k
  have hNB := h.own _ _ ha.1 hb hro
  refine ⟨?_, ?_, ?_⟩
  · obtain ⟨x, hx', _⟩ := hc _ _ (Array.getElem?_eq_getElem hlt)
    exact ⟨x, by rw [cell?_of hw]; exact hx'⟩
  · cases q : w.frozen? ⟨(ρ.f a.block).block, a.off + (ρ.f a.block).shift, none⟩ with
    | false => rfl
    | true =>
      have := hfz.frozen q
      exact absurd ⟨by omega, by omega⟩ hfr
  refine ⟨h1.n, h.base, ?_, ?_, ?_, ?_, ?_, ?_, ?_, ?_, ?_, ?_, h.off⟩
  · exact h.below.setCell (p := ⟨(ρ.f a.block).block, a.off + (ρ.f a.block).shift, none⟩) hNB v'
  · intro i hi
    have := h.lt i hi
    simpa [World.setCell] using this
  · intro i bi hi
    rw [AHeap.blk_setBlk] at hi
    split at hi
    · rename_i q; subst q; exact ρ.lt _ ha.1
    · exact h1.dom i bi hi
  · intro i bi ci ei fi hon hi hoi
    rw [AHeap.blk_setBlk] at hi
    split at hi
    · rename_i q
      subst q
      cases hi
      simp only [Obj.cells.injEq] at hoi
      obtain ⟨q1, q2, q3⟩ := hoi
      subst q1 q2 q3
      refine ⟨_, e', fr', by rw [hh, if_pos rfl], by simpa using hcs, ?_, hz, hx.1, fun z => ?_⟩
      · intro j u hu
        rw [Array.getElem?_setIfInBounds] at hu
        by_cases q : a.off = j
        · subst q
          simp only [if_true, hlt, Option.some.injEq] at hu
          subst hu
          obtain ⟨x, hx', _⟩ := hc _ _ (Array.getElem?_eq_getElem hlt)
          have := (Array.getElem?_eq_some_iff.1 hx').1
          exact ⟨v', by rw [Array.getElem?_setIfInBounds]; simp [this], hv⟩
        · simp only [q, if_false] at hu
          obtain ⟨x, hx', hr⟩ := hc _ _ hu
          exact ⟨x, by rw [Array.getElem?_setIfInBounds, if_neg (by omega)]; exact hx', hr⟩
      · obtain ⟨z1, z2⟩ := hx.2 z
        exact ⟨by simpa using z1, z2⟩
    · rename_i hne
      obtain ⟨ci', ei', fi', hwi, hcsi, hci, hzi, hxi⟩ := h1.cells i bi ci ei fi hon hi hoi
      by_cases q : (ρ.f i).block = (ρ.f a.block).block
      · rw [q, hw] at hwi
        cases hwi
        have hroi : bi.ro = false := by
          cases r : bi.ro
          · rfl
          · have := h1.old i bi hon hi r
            omega
        obtain ⟨_, _, s3, s4⟩ := h1.sep i a.block bi b hon ha.1 hi hb1 hne hroi hro q
        obtain ⟨gi, hgi, hmi, _⟩ := h1.grp i bi hon hi hroi (by rw [hoi]; rfl)
        rw [hW.grp, s3, hg] at hgi
        cases hgi
        refine ⟨_, _, _, by rw [hh, if_pos q], by simpa using hcsi, ?_, hzi, hxi.1, fun z => ?_⟩
        · intro j u hu
          obtain ⟨x, hx', hr⟩ := hci j u hu
          by_cases q2 : j + (ρ.f i).shift = a.off + (ρ.f a.block).shift
          · have hle : bi.org ≤ a.off + b.org := by omega
            have ej : j = a.off + b.org - bi.org := by omega
            have := hj i bi.org hmi hne hle bi ci ei fi hi hoi u (by rw [← ej]; exact hu)
            subst this
            have hl2 := (Array.getElem?_eq_some_iff.1 hx').1
            exact ⟨v', by rw [Array.getElem?_setIfInBounds, if_pos q2.symm, if_pos (by omega)], .junk v'⟩
          · exact ⟨x, by rw [Array.getElem?_setIfInBounds, if_neg (by omega)]; exact hx', hr⟩
        · obtain ⟨z1, z2⟩ := hxi.2 z
          exact ⟨by simpa using z1, z2⟩
      · exact ⟨ci', ei', fi', by rw [hh, if_neg q]; exact hwi, hcsi, hci, hzi, hxi⟩
  · intro i bi hon hi hn
    rw [AHeap.blk_setBlk] at hi
    split at hi
    · cases hi; cases hn
    · obtain ⟨o', hwo, hor⟩ := h1.objs i bi hon hi hn
      refine ⟨o', ?_, hor⟩
      rw [hh]
      split
      · rename_i q
        rw [q, hw] at hwo
        cases hwo
        have := hor.notCells.2
        cases this
      · exact hwo
  · intro i bi hon hi hr
    rw [AHeap.blk_setBlk] at hi
    split at hi
    · rename_i q; subst q; exact hNB
    · exact h1.own i bi hon hi hr
  · intro i bi hon hi hr
    rw [AHeap.blk_setBlk] at hi
    split at hi
    · cases hi; simp only at hr; rw [hro] at hr; cases hr
    · exact h1.old i bi hon hi hr
  · intro i j bi bj hon hon2 hi hj' hne hri hrj he
    rw [AHeap.blk_setBlk] at hi hj'
    split at hi
    · rename_i q
      subst q
      cases hi
      split at hj'
      · rename_i q; exact absurd q.symm hne
      · obtain ⟨_, r2, r3, r4⟩ := h1.sep _ j b bj ha.1 hon2 hb1 hj' hne hro hrj he
        exact ⟨rfl, r2, r3, r4⟩
    · split at hj'
      · rename_i q
        subst q
        cases hj'
        obtain ⟨r1, _, r3, r4⟩ := h1.sep i _ bi b hon ha.1 hi hb1 hne hri hro he
        exact ⟨r1, rfl, r3, r4⟩
      · exact h1.sep i j bi bj hon hon2 hi hj' hne hri hrj he
  · intro i bi hon hi hr hc2
    rw [AHeap.blk_setBlk] at hi
    have hfz' : ∀ l org gg, FzR l org gg w → FzR l org gg (w.setCell ⟨(ρ.f a.block).block, a.off + (ρ.f a.block).shift, none⟩ v') := by
      intro l org gg hl cc ee lo hi hq
      rw [hh] at hq
      split at hq
      · rename_i q
        cases hq
        exact hl _ _ _ _ (by rw [q]; exact hw)
      · exact hl _ _ _ _ hq
    split at hi
    · rename_i q
      subst q
      cases hi
      obtain ⟨gi, hgi, hmi, hfi⟩ := h1.grp _ b ha.1 hb1 hro hisc
      exact ⟨gi, hgi, hmi, hfz' _ _ _ hfi⟩
    · obtain ⟨gi, hgi, hmi, hfi⟩ := h1.grp i bi hon hi hr hc2
      exact ⟨gi, hgi, hmi, hfz' _ _ _ hfi⟩
  · intro i bi hi
    rw [AHeap.blk_setBlk] at hi
    split at hi
    · cases hi; exact h1.root _ b hb1
    · exact h1.root i bi hi

/-- The renaming with one block more. -/
def Ren.ext (ρ : Ren) (l : Loc) : Ren :=
  { n := ρ.n + 1, f := fun i => if i = ρ.n then l else ρ.f i, on := fun i => ρ.on i ∨ i = ρ.n, lt := fun i h => h.elim (fun h => Nat.lt_succ_of_lt (ρ.lt i h)) (fun h => by omega) }

theorem Ren.le_ext (ρ : Ren) (l : Loc) : ρ.le (ρ.ext l) := ⟨Nat.le_succ _, fun i hi => ⟨.inl hi, by have := ρ.lt i hi; simp only [Ren.ext]; rw [if_neg (by omega)]⟩⟩
theorem Ren.ext_self (ρ : Ren) (l : Loc) : (ρ.ext l).f ρ.n = l := by simp [Ren.ext]
theorem Ren.ext_of_lt (ρ : Ren) (l : Loc) {i : Nat} (h : ρ.on i) : (ρ.ext l).f i = ρ.f i := ((ρ.le_ext l).2 i h).2
theorem Ren.on_self (ρ : Ren) (l : Loc) : (ρ.ext l).on ρ.n := .inr rfl
theorem Ren.off_ext {ρ : Ren} (l : Loc) {i : Nat} (h : i < ρ.n ∧ ¬ ρ.on i) : i < (ρ.ext l).n ∧ ¬ (ρ.ext l).on i := ⟨Nat.lt_succ_of_lt h.1, fun q => q.elim h.2 (fun e => by have := h.1; omega)⟩
theorem Ren.on_of (ρ : Ren) (l : Loc) {i : Nat} (h : (ρ.ext l).on i) (hne : i ≠ ρ.n) : ρ.on i := h.resolve_right hne

def objSize : Obj → Nat
  | .cells c _ _ => c.size
  | _ => 0

theorem AHeap.blk_new (H : AHeap) (o : Obj) (i : Nat) : (H.new o).blk i = if i = H.next then some (freshBlk H.next o) else H.blk i := Trie.get_set _ _ _ _
theorem AHeap.grp_new (H : AHeap) (o : Obj) (i : Nat) : (H.new o).grp i = if i = H.next then some { mem := [(H.next, 0)], flo := 0, fhi := 0 } else H.grp i := Trie.get_set _ _ _ _

theorem heap_push (w : World) (o : Obj) (k : Nat) : ({ w with heap := w.heap.push o } : World).heap[k]? = if k = w.heap.size then some o else w.heap[k]? := by
  simp only [Array.getElem?_push]

theorem frozen_push (w : World) (o : Obj) (b k : Nat) (h : b < w.heap.size) : ({ w with heap := w.heap.push o } : World).frozen? ⟨b, k, none⟩ = w.frozen? ⟨b, k, none⟩ := by
  unfold World.frozen?
  simp only [Array.getElem?_push]
  rw [if_neg (by omega)]

theorem CellsR.mono {σ : Ren} (h : ρ.le σ) {s : Nat} {c c' : Array Value} (k : CellsR ρ s c c') : CellsR σ s c c' := fun j v hj =>
  let ⟨v', h1, h2⟩ := k j v hj
  ⟨v', h1, h2.mono h⟩

theorem HR.new (h : HR N w0 ρ H w) {o o' : Obj} (ho : ObR ρ o o') :
    HR N w0 (ρ.ext ⟨w.heap.size, 0, 0, objSize o⟩) (H.new o) { w with heap := w.heap.push o' } := by
  have hn := h.n
  have hle := Ren.le_ext ρ ⟨w.heap.size, 0, 0, objSize o⟩
  have hext : ∀ i, ρ.on i → (ρ.ext ⟨w.heap.size, 0, 0, objSize o⟩).f i = ρ.f i := fun i hi => Ren.ext_of_lt _ _ hi
  have hself := Ren.ext_self ρ ⟨w.heap.size, 0, 0, objSize o⟩
  have hNs : N ≤ w.heap.size := Nat.le_trans h.base h.below.size
  have hp := fun k => heap_push w o' k
  refine ⟨?_, h.base, ?_, ?_, ?_, ?_, ?_, ?_, ?_, ?_, ?_, ?_, fun i hi => Ren.off_ext _ (h.off i hi)⟩
  · simp [AHeap.new, Ren.ext, hn]
  · exact h.below.alloc hNs o'
  · intro i hi
    simp only [Array.size_push]
    by_cases q : i = ρ.n
    · subst q; rw [hself]; simp
    · have hi' : ρ.on i := Ren.on_of _ _ hi q
      rw [hext i hi']
      have := h.lt i hi'
      omega
  · intro i b hb
    rw [AHeap.blk_new] at hb
    split at hb
    · rename_i q; show i < ρ.n + 1; omega
    · have := h.dom i b hb
      show i < ρ.n + 1
      omega
  · intro i b c e fr hon hb hob
    rw [AHeap.blk_new] at hb
    split at hb
    · rename_i q
      cases hb
      simp only [freshBlk] at hob ⊢
      subst hob
      rw [q, hn, hself]
      cases ho with
      | cells e hA =>
        rename_i c'
        refine ⟨c', e, (0, 0), by rw [hp, if_pos rfl], ?_, ?_, rfl, rfl, fun _ => ⟨hA.1.symm, rfl⟩⟩
        · exact hA.1.symm
        · intro j v hj
          obtain ⟨v', hv', hr⟩ := hA.get hj
          exact ⟨v', hv', hr.mono hle⟩
      | obj k => have := k.notCells.1; cases this
    · rename_i q
      have hi := Ren.on_of _ _ hon (by omega)
      obtain ⟨c', e', fr', hw, hcs, hc, hz, hx⟩ := h.cells i b c e fr hi hb hob
      rw [hext i hi]
      have := h.lt i hi
      exact ⟨c', e', fr', by rw [hp, if_neg (by omega)]; exact hw, hcs, hc.mono hle, hz, hx⟩
  · intro i b hon hb hnc
    rw [AHeap.blk_new] at hb
    split at hb
    · rename_i q
      cases hb
      simp only [freshBlk] at hnc ⊢
      rw [q, hn, hself]
      cases ho with
      | cells e hA => cases hnc
      | obj k => exact ⟨o', by rw [hp, if_pos rfl], k.mono hle⟩
    · rename_i q
      have hi := Ren.on_of _ _ hon (by omega)
      obtain ⟨o1, hw, hor⟩ := h.objs i b hi hb hnc
      rw [hext i hi]
      have := h.lt i hi
      exact ⟨o1, by rw [hp, if_neg (by omega)]; exact hw, hor.mono hle⟩
  · intro i b hon hb hr
    rw [AHeap.blk_new] at hb
    split at hb
    · rename_i q
      rw [q, hn, hself]
      exact hNs
    · rename_i q
      have hi := Ren.on_of _ _ hon (by omega)
      rw [hext i hi]
      exact h.own i b hi hb hr
  · intro i b hon hb hr
    rw [AHeap.blk_new] at hb
    split at hb
    · cases hb; cases hr
    · rename_i q
      have hi := Ren.on_of _ _ hon (by omega)
      rw [hext i hi]
      exact h.old i b hi hb hr
  · intro i j bi bj hon hon2 hi hj hne hri hrj he
    rw [AHeap.blk_new] at hi hj
    split at hi
    · rename_i q
      split at hj
      · rename_i q2; exact absurd (q.trans q2.symm) hne
      · rename_i q2
        have hj' := Ren.on_of _ _ hon2 (by omega)
        rw [q, hn, hself, hext j hj'] at he
        have := h.lt j hj'
        simp only at he
        omega
    · rename_i q2
      have hi' := Ren.on_of _ _ hon (by omega)
      split at hj
      · rename_i q
        rw [q, hn, hself, hext i hi'] at he
        have := h.lt i hi'
        simp only at he
        omega
      · rename_i q3
        have hj' := Ren.on_of _ _ hon2 (by omega)
        rw [hext i hi', hext j hj'] at he
        rw [hext i hi', hext j hj']
        exact h.sep i j bi bj hi' hj' hi hj hne hri hrj he
  · intro i b hon hb hr hc
    rw [AHeap.blk_new] at hb
    split at hb
    · rename_i q
      cases hb
      refine ⟨{ mem := [(H.next, 0)], flo := 0, fhi := 0 }, by rw [AHeap.grp_new]; simp [freshBlk], by simp [freshBlk, q], ?_⟩
      intro cc ee lo hi hk
      rw [q, hn, hself] at hk
      rw [hp] at hk
      simp only [if_true] at hk
      cases ho with
      | cells e hA => cases hk; exact ⟨Nat.le_refl _, fun hlt => absurd hlt (Nat.lt_irrefl _)⟩
      | obj k2 => have := k2.notCells.1; simp only [freshBlk] at hc; rw [this] at hc; cases hc
    · rename_i q
      have hi := Ren.on_of _ _ hon (by omega)
      obtain ⟨g, hg, hm, hf⟩ := h.grp i b hi hb hr hc
      have hrt := h.root i b hb
      refine ⟨g, by rw [AHeap.grp_new, if_neg (by omega)]; exact hg, hm, ?_⟩
      intro cc ee lo hi2 hk
      rw [hext i hi] at hk ⊢
      have := h.lt i hi
      rw [hp, if_neg (by omega)] at hk
      exact hf cc ee lo hi2 hk
  · intro i b hb
    rw [AHeap.blk_new] at hb
    show b.root < H.next + 1
    split at hb
    · cases hb; simp [freshBlk]
    · have := h.root i b hb; omega

/-- The renaming with one block more that is not there yet. -/
def Ren.more (ρ : Ren) : Ren := { n := ρ.n + 1, f := ρ.f, on := ρ.on, lt := fun i h => Nat.lt_succ_of_lt (ρ.lt i h) }

theorem Ren.le_more (ρ : Ren) : ρ.le ρ.more := ⟨Nat.le_succ _, fun _ h => ⟨h, rfl⟩⟩

/-- A block that is told of, and not there yet. -/
theorem HR.reserve (h : HR N w0 ρ H w) (o : Obj) : HR N w0 ρ.more (H.new o) w := by
  have hn := h.n
  have hle := Ren.le_more ρ
  have hne : ∀ i, ρ.on i → ¬ i = H.next := fun i hi e => by have := ρ.lt i hi; omega
  have hblk : ∀ i b, ρ.on i → (H.new o).blk i = some b → H.blk i = some b := by
    intro i b hi hb
    rw [AHeap.blk_new, if_neg (hne i hi)] at hb
    exact hb
  refine ⟨?_, h.base, h.below, h.lt, ?_, ?_, ?_, ?_, ?_, ?_, ?_, ?_, fun i hi => ⟨Nat.lt_succ_of_lt (h.off i hi).1, (h.off i hi).2⟩⟩
  · show H.next + 1 = ρ.n + 1
    omega
  · intro i b hb
    rw [AHeap.blk_new] at hb
    show i < ρ.n + 1
    split at hb
    · omega
    · have := h.dom i b hb; omega
  · intro i b c e fr hon hb ho
    obtain ⟨a1, a2, a3, a4, a5, a6, a7⟩ := h.cells i b c e fr hon (hblk i b hon hb) ho
    exact ⟨a1, a2, a3, a4, a5, a6.mono hle, a7⟩
  · intro i b hon hb hnc
    obtain ⟨a1, a2, a3⟩ := h.objs i b hon (hblk i b hon hb) hnc
    exact ⟨a1, a2, a3.mono hle⟩
  · intro i b hon hb; exact h.own i b hon (hblk i b hon hb)
  · intro i b hon hb; exact h.old i b hon (hblk i b hon hb)
  · intro i j bi bj hon hon2 hi hj
    exact h.sep i j bi bj hon hon2 (hblk i bi hon hi) (hblk j bj hon2 hj)
  · intro i b hon hb hr hc
    have hb := hblk i b hon hb
    obtain ⟨g, hg, hm, hf⟩ := h.grp i b hon hb hr hc
    have hrt := h.root i b hb
    exact ⟨g, by rw [AHeap.grp_new, if_neg (by omega)]; exact hg, hm, hf⟩
  · intro i b hb
    rw [AHeap.blk_new] at hb
    show b.root < H.next + 1
    split at hb
    · cases hb; simp [freshBlk]
    · have := h.root i b hb; omega

/-- The renaming in which a block is there now. -/
def Ren.settle (ρ : Ren) (b : Nat) (l : Loc) (hb : b < ρ.n) : Ren :=
  { n := ρ.n, f := fun i => if i = b then l else ρ.f i, on := fun i => ρ.on i ∨ i = b, lt := fun i h => h.elim (fun h => ρ.lt i h) (fun h => by omega) }

theorem Ren.le_settle (ρ : Ren) {b : Nat} (l : Loc) (hb : b < ρ.n) (hoff : ¬ ρ.on b) : ρ.le (ρ.settle b l hb) :=
  ⟨Nat.le_refl _, fun i hi => ⟨.inl hi, if_neg (fun (e : i = b) => hoff (by rw [← e]; exact hi))⟩⟩

/-- A block that was told of is made. -/
theorem HR.settle (h : HR N w0 ρ H w) {b : Nat} (hoff : ¬ ρ.on b) (hbn : b < ρ.n) (hw0 : ¬ w0.off b) {c c' : Array Value} {e : TypeId} (hb : H.blk b = some ⟨.cells c e (0, 0), b, 0, false, 0⟩) (hg : H.grp b = some ⟨[(b, 0)], 0, 0⟩) (hc : AsR ρ c c') :
    HR N w0 (ρ.settle b ⟨w.heap.size, 0, 0, c.size⟩ hbn) H { w with heap := w.heap.push (.cells c' e (0, 0)) } := by
  have hle := Ren.le_settle ρ ⟨w.heap.size, 0, 0, c.size⟩ hbn hoff
  have hself : (ρ.settle b ⟨w.heap.size, 0, 0, c.size⟩ hbn).f b = ⟨w.heap.size, 0, 0, c.size⟩ := if_pos rfl
  have hext : ∀ i, ρ.on i → (ρ.settle b ⟨w.heap.size, 0, 0, c.size⟩ hbn).f i = ρ.f i := fun i hi => (hle.2 i hi).2
  have hNs : N ≤ w.heap.size := Nat.le_trans h.base h.below.size
  have hp := fun k => heap_push w (.cells c' e (0, 0)) k
  refine ⟨h.n, h.base, h.below.alloc hNs _, ?_, h.dom, ?_, ?_, ?_, ?_, ?_, ?_, h.root, ?_⟩
  · intro i hi
    simp only [Array.size_push]
    rcases hi with hi | rfl
    · rw [hext i hi]; have := h.lt i hi; omega
    · rw [hself]; simp
  · intro i bi ci ei fi hon hi ho
    rcases hon with hon | rfl
    · obtain ⟨a1, a2, a3, a4, a5, a6, a7⟩ := h.cells i bi ci ei fi hon hi ho
      have := h.lt i hon
      rw [hext i hon]
      exact ⟨a1, a2, a3, by rw [hp, if_neg (by omega)]; exact a4, a5, a6.mono hle, a7⟩
    · rw [hb] at hi
      cases hi
      cases ho
      rw [hself]
      refine ⟨c', e, (0, 0), by rw [hp, if_pos rfl], hc.1.symm, ?_, rfl, rfl, fun _ => ⟨hc.1.symm, rfl⟩⟩
      intro j v hj
      obtain ⟨v', hv', hr⟩ := hc.get hj
      exact ⟨v', hv', hr.mono hle⟩
  · intro i bi hon hi hn
    rcases hon with hon | rfl
    · obtain ⟨a1, a2, a3⟩ := h.objs i bi hon hi hn
      have := h.lt i hon
      rw [hext i hon]
      exact ⟨a1, by rw [hp, if_neg (by omega)]; exact a2, a3.mono hle⟩
    · rw [hb] at hi
      cases hi
      cases hn
  · intro i bi hon hi hr
    rcases hon with hon | rfl
    · rw [hext i hon]; exact h.own i bi hon hi hr
    · rw [hself]; exact hNs
  · intro i bi hon hi hr
    rcases hon with hon | rfl
    · rw [hext i hon]; exact h.old i bi hon hi hr
    · rw [hb] at hi; cases hi; cases hr
  · intro i j bi bj hon hon2 hi hj hne hri hrj he
    rcases hon with hon | rfl
    · rcases hon2 with hon2 | rfl
      · rw [hext i hon, hext j hon2] at he ⊢
        exact h.sep i j bi bj hon hon2 hi hj hne hri hrj he
      · rw [hext i hon, hself] at he
        have := h.lt i hon
        simp only at he
        omega
    · rcases hon2 with hon2 | rfl
      · rw [hext j hon2, hself] at he
        have := h.lt j hon2
        simp only at he
        omega
      · exact absurd rfl hne
  · intro i bi hon hi hr hic
    rcases hon with hon | rfl
    · obtain ⟨g, a1, a2, a3⟩ := h.grp i bi hon hi hr hic
      have := h.lt i hon
      rw [hext i hon]
      refine ⟨g, a1, a2, ?_⟩
      intro cc ee lo hi2 hk
      rw [hp, if_neg (by omega)] at hk
      exact a3 cc ee lo hi2 hk
    · rw [hb] at hi
      cases hi
      refine ⟨_, hg, by simp, ?_⟩
      intro cc ee lo hi2 hk
      rw [hself] at hk
      rw [hp, if_pos rfl] at hk
      cases hk
      exact ⟨Nat.le_refl _, fun hlt => absurd hlt (Nat.lt_irrefl _)⟩
  · intro i hi
    obtain ⟨h1, h2⟩ := h.off i hi
    refine ⟨h1, fun q => q.elim h2 (fun e => ?_)⟩
    subst e
    exact hw0 hi

/-- A world told against more, or against less. -/
theorem HR.pin (h : HR N w0 ρ H w) (off : Nat → Prop) (ho : ∀ i, off i → i < ρ.n ∧ ¬ ρ.on i) : HR N ⟨w0.w, off⟩ ρ H w :=
  ⟨h.n, h.base, h.below, h.lt, h.dom, h.cells, h.objs, h.own, h.old, h.sep, h.grp, h.root, ho⟩

theorem BR.ext (ρ : Ren) (l : Loc) : BR (ρ.ext l) ρ.n l.block := ⟨Ren.on_self _ _, by rw [Ren.ext_self]⟩

def AHeap.getObj (H : AHeap) (r : Nat) : Option Obj :=
  match H.blk r with
  | some b => if isCells b.obj then none else some b.obj
  | none => none

def AHeap.setObj (H : AHeap) (r : Nat) (o : Obj) : Option AHeap :=
  match H.blk r with
  | some b => if isCells b.obj || isCells o || b.ro then none else some (H.setBlk r { b with obj := o })
  | none => none

theorem HR.getObj (h : HR N w0 ρ H w) {r r' : Nat} (hr : BR ρ r r') {o : Obj} (ho : H.getObj r = some o) : ∃ o', w.heap[r']? = some o' ∧ OR ρ o o' := by
  unfold AHeap.getObj at ho
  split at ho
  case h_2 => cases ho
  rename_i b hb
  split at ho
  case isTrue => cases ho
  rename_i hc
  cases ho
  obtain ⟨o', hw, hor⟩ := h.objs r b hr.1 hb (by simpa using hc)
  exact ⟨o', by rw [hr.2]; exact hw, hor⟩

theorem HR.setObj (h : HR N w0 ρ H w) {r r' : Nat} (hr : BR ρ r r') {o o' : Obj} (ho : OR ρ o o') {H' : AHeap} (hs : H.setObj r o = some H') :
    (∃ x, w.heap[r']? = some x ∧ isCells x = false) ∧ HR N w0 ρ H' { w with heap := w.heap.setIfInBounds r' o' } := by
  unfold AHeap.setObj at hs
  split at hs
  case h_2 => cases hs
  rename_i b hb
  split at hs
  case isTrue => cases hs
  rename_i hc
  cases hs
  simp only [Bool.or_eq_true, not_or, Bool.not_eq_true] at hc
  obtain ⟨⟨hc1, hc2⟩, hro⟩ := hc
  obtain ⟨x, hx, hox⟩ := h.objs r b hr.1 hb hc1
  have hrr := hr.2
  subst hrr
  have hlt := h.lt r hr.1
  have hp : ∀ k, ({ w with heap := w.heap.setIfInBounds (ρ.f r).block o' } : World).heap[k]? = if k = (ρ.f r).block then some o' else w.heap[k]? := by
    intro k
    simp only [Array.getElem?_setIfInBounds]
    by_cases q : (ρ.f r).block = k
    · subst q; simp [hlt]
    · simp [q, Ne.symm q]
  have hNB := h.own r b hr.1 hb hro
  have hcc := ho.notCells
  refine ⟨⟨x, hx, hox.notCells.2⟩, ?_⟩
  refine ⟨h.n, h.base, ?_, ?_, ?_, ?_, ?_, ?_, ?_, ?_, ?_, ?_, h.off⟩
  · refine h.below.trans ⟨rfl, rfl, rfl, by simp, fun k hk => ?_⟩
    rw [hp, if_neg (by omega)]
  · intro i hi; simpa using h.lt i hi
  · intro i bi hi
    rw [AHeap.blk_setBlk] at hi
    split at hi
    · rename_i q; subst q; exact ρ.lt _ hr.1
    · exact h.dom i bi hi
  · intro i bi ci ei fi hon hi hoi
    rw [AHeap.blk_setBlk] at hi
    split at hi
    · cases hi; simp only at hoi; rw [hoi] at hc2; cases hc2
    · obtain ⟨c', e', fr', hw, rest⟩ := h.cells i bi ci ei fi hon hi hoi
      refine ⟨c', e', fr', ?_, rest⟩
      rw [hp]
      split
      · rename_i q
        rw [q, hx] at hw
        cases hw
        have := hox.notCells.2
        cases this
      · exact hw
  · intro i bi hon hi hn
    rw [AHeap.blk_setBlk] at hi
    split at hi
    · rename_i q; subst q; cases hi; exact ⟨o', by rw [hp, if_pos rfl], ho⟩
    · rename_i hne
      obtain ⟨o1, hw, hor⟩ := h.objs i bi hon hi hn
      refine ⟨o1, ?_, hor⟩
      rw [hp]
      split
      · rename_i q
        exfalso
        cases hri : bi.ro with
        | true => have := h.old i bi hon hi hri; omega
        | false =>
          have := (h.sep i r bi b hon hr.1 hi hb hne hri hro q).1
          rw [hn] at this
          cases this
      · exact hw
  · intro i bi hon hi hri
    rw [AHeap.blk_setBlk] at hi
    split at hi
    · rename_i q; subst q; exact hNB
    · exact h.own i bi hon hi hri
  · intro i bi hon hi hri
    rw [AHeap.blk_setBlk] at hi
    split at hi
    · cases hi; simp only at hri; rw [hro] at hri; cases hri
    · exact h.old i bi hon hi hri
  · intro i j bi bj hon hon2 hi hj hne hri hrj he
    rw [AHeap.blk_setBlk] at hi hj
    split at hi
    · rename_i q
      subst q
      split at hj
      · rename_i q2; exact absurd q2.symm hne
      · have := (h.sep _ j b bj hr.1 hon2 hb hj hne hro hrj he).1
        rw [hc1] at this
        cases this
    · split at hj
      · rename_i q
        subst q
        have := (h.sep i _ bi b hon hr.1 hi hb hne hri hro he).2.1
        rw [hc1] at this
        cases this
      · exact h.sep i j bi bj hon hon2 hi hj hne hri hrj he
  · intro i bi hon hi hri hci
    rw [AHeap.blk_setBlk] at hi
    split at hi
    · cases hi; simp only at hci; rw [hc2] at hci; cases hci
    · obtain ⟨g, hg, hm, hf⟩ := h.grp i bi hon hi hri hci
      refine ⟨g, hg, hm, ?_⟩
      intro cc ee lo hi2 hk
      rw [hp] at hk
      split at hk
      · cases hk
        have := hcc.2
        cases this
      · exact hf cc ee lo hi2 hk
  · intro i bi hi
    rw [AHeap.blk_setBlk] at hi
    split at hi
    · cases hi; exact h.root r b hb
    · exact h.root i bi hi

end
end Go.Ev
