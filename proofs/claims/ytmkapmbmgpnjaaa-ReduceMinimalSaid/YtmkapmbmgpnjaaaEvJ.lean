import Derived.Test.YtmkapmbmgpnjaaaEvI
namespace Go.Ev
open Go.RowKit

section
variable {P : Program} {N : Nat} {w0 : Base} {ρ : Ren} {H : AHeap} {w : World}

theorem HR.drawn (h : HR N w0 ρ H w) (k : Nat) : HR N w0 ρ H { w with drawn := k } :=
  ⟨h.n, h.base, ⟨h.below.os, h.below.tape, h.below.output, h.below.size, h.below.block⟩, h.lt, h.dom, h.cells, h.objs, h.own, h.old, h.sep, h.grp, h.root, h.off⟩

def aloadFrom (H : AHeap) (a : Addr) (i : Nat) : Nat → Array Value → Option (Array Value)
  | 0, acc => some acc
  | n + 1, acc => match H.cell (a.add i) with
    | some v => aloadFrom H a (i + 1) n (acc.push v)
    | none => none

theorem aloadFrom_spec (h : HR N w0 ρ H w) {a a' : Addr} (ha : AR ρ a a') : ∀ (n i : Nat) (acc acc' : Array Value) {c : Array Value}, AsR ρ acc acc' → aloadFrom H a i n acc = some c →
    ∃ c', (Go.loadCellsFrom a' i n acc').run P w = .ok c' w ∧ AsR ρ c c' ∧ c.size = acc.size + n := by
  intro n
  induction n with
  | zero => intro i acc acc' c hacc hc; cases hc; exact ⟨acc', rfl, hacc, rfl⟩
  | succ n ih =>
    intro i acc acc' c hacc hc
    unfold aloadFrom at hc
    split at hc
    · rename_i v hv
      obtain ⟨v', hv', hr⟩ := h.load (ha.add i) hv
      obtain ⟨c', h1, h2, h3⟩ := ih (i + 1) _ _ (hacc.push hr) hc
      refine ⟨c', ?_, h2, by rw [h3]; simp; omega⟩
      unfold Go.loadCellsFrom
      rw [Sem.run_bind]
      simp [hv', h1]
    · cases hc

theorem HR.silent (h : HR N w0 ρ H w) {B k : Nat} {v' : Value} {c0 : Array Value} {e0 : TypeId} {f0 : Nat × Nat} (hw : w.heap[B]? = some (.cells c0 e0 f0)) (hNB : N ≤ B)
    (hj : ∀ i b c e fr, ρ.on i → H.blk i = some b → b.obj = .cells c e fr → (ρ.f i).block = B → ∀ (j : Nat) (v : Value), c[j]? = some v → j + (ρ.f i).shift = k → v = junk) :
    HR N w0 ρ H (w.setCell ⟨B, k, none⟩ v') := by
  have hh := fun i => heap_setCell_at (O := k) (v' := v') hw i
  refine ⟨h.n, h.base, h.below.setCell (p := ⟨B, k, none⟩) hNB v', ?_, h.dom, ?_, ?_, h.own, h.old, h.sep, ?_, h.root, h.off⟩
  · intro i hi; have := h.lt i hi; simpa [World.setCell] using this
  · intro i b c e fr hon hb ho
    obtain ⟨c', e', fr', hwi, hcs, hc, hz, hx⟩ := h.cells i b c e fr hon hb ho
    by_cases q : (ρ.f i).block = B
    · rw [q, hw] at hwi
      cases hwi
      refine ⟨_, _, _, by rw [hh, if_pos q], by simpa using hcs, ?_, hz, hx.1, fun z => ?_⟩
      · intro j u hu
        obtain ⟨x, hx', hr⟩ := hc j u hu
        by_cases q2 : j + (ρ.f i).shift = k
        · have := hj i b c e fr hon hb ho q j u hu q2
          subst this
          have hl := (Array.getElem?_eq_some_iff.1 hx').1
          exact ⟨v', by rw [Array.getElem?_setIfInBounds, if_pos q2.symm, if_pos (by omega)], .junk v'⟩
        · exact ⟨x, by rw [Array.getElem?_setIfInBounds, if_neg (by omega)]; exact hx', hr⟩
      · obtain ⟨z1, z2⟩ := hx.2 z; exact ⟨by simpa using z1, z2⟩
    · exact ⟨c', e', fr', by rw [hh, if_neg q]; exact hwi, hcs, hc, hz, hx⟩
  · intro i b hon hb hn
    obtain ⟨o', hwo, hor⟩ := h.objs i b hon hb hn
    refine ⟨o', ?_, hor⟩
    rw [hh]
    split
    · rename_i q
      rw [q, hw] at hwo
      cases hwo
      have := hor.1.notCells.2
      cases this
    · exact hwo
  · intro i b hon hb hr hc
    obtain ⟨g, hg, hm, hf⟩ := h.grp i b hon hb hr hc
    refine ⟨g, hg, hm, ?_⟩
    intro cc ee lo hi hq
    rw [hh] at hq
    split at hq
    · rename_i q
      cases hq
      exact hf _ _ _ _ (by rw [q]; exact hw)
    · exact hf _ _ _ _ hq

def poisonN (virt : Nat) (l : List (Nat × Nat)) : Nat → AHeap → AHeap
  | 0, H => H
  | n + 1, H => poisonN (virt + 1) l n (poison H.next virt l H)

theorem poisonN_spec (l : List (Nat × Nat)) : ∀ (n virt : Nat) (H : AHeap), Weaker (poisonN virt l n H) H ∧
    ∀ (j org k : Nat), j < H.next → (j, org) ∈ l → virt ≤ k → k < virt + n → org ≤ k → ∀ b c e fr, (poisonN virt l n H).blk j = some b → b.obj = .cells c e fr → ∀ v : Value, c[k - org]? = some v → v = junk := by
  intro n
  induction n with
  | zero => intro virt H; exact ⟨Weaker.refl H, fun j org k _ _ h1 h2 => by omega⟩
  | succ n ih =>
    intro virt H
    unfold poisonN
    obtain ⟨h1, _⟩ := poison_weaker H.next virt l H
    obtain ⟨k1, k2⟩ := ih (virt + 1) (poison H.next virt l H)
    refine ⟨k1.trans h1, fun j org k hlt hm hk1 hk2 ho => ?_⟩
    by_cases q : k = virt
    · subst q
      refine junk_stays k1 ?_
      exact poison_junk H.next k l H j org hm (by omega) ho
    · exact k2 j org k (by rw [h1.next]; exact hlt) hm (by omega) (by omega) ho

def setCells (w : World) (B : Nat) : Nat → List Value → World
  | _, [] => w
  | k, v :: vs => setCells (w.setCell ⟨B, k, none⟩ v) B (k + 1) vs

theorem silentCells {B : Nat} {e0 : TypeId} {f0 : Nat × Nat} (hNB : N ≤ B) : ∀ (vs : List Value) (k : Nat) (w : World) (c0 : Array Value), HR N w0 ρ H w → w.heap[B]? = some (.cells c0 e0 f0) →
    (∀ i b c e fr, ρ.on i → H.blk i = some b → b.obj = .cells c e fr → (ρ.f i).block = B → ∀ (j : Nat) (v : Value), c[j]? = some v → k ≤ j + (ρ.f i).shift → j + (ρ.f i).shift < k + vs.length → v = junk) →
    k + vs.length ≤ c0.size →
    HR N w0 ρ H (setCells w B k vs) ∧ ∃ c1, (setCells w B k vs).heap[B]? = some (.cells c1 e0 f0) ∧ c1.size = c0.size ∧
      ∀ (j : Nat), c1[j]? = if k ≤ j ∧ j < k + vs.length then vs[j - k]? else c0[j]? := by
  intro vs
  induction vs with
  | nil =>
    intro k w c0 h hw _ _
    refine ⟨h, c0, hw, rfl, fun j => ?_⟩
    rw [if_neg (by rintro ⟨a, b⟩; simp at b; omega)]
  | cons v vs ih =>
    intro k w c0 h hw hj hl
    simp only [List.length_cons] at hj hl
    have h1 := h.silent (k := k) (v' := v) hw hNB fun i b c e fr hon hb ho q j u hu q2 => hj i b c e fr hon hb ho q j u hu (by omega) (by omega)
    have hw1 := heap_setCell_at (O := k) (v' := v) hw B
    rw [if_pos rfl] at hw1
    obtain ⟨k1, c1, k2, k3, k4⟩ := ih (k + 1) _ _ h1 hw1 (fun i b c e fr hon hb ho q j u hu q2 q3 => hj i b c e fr hon hb ho q j u hu (by omega) (by omega)) (by simp; omega)
    refine ⟨k1, c1, k2, by rw [k3]; simp, fun j => ?_⟩
    rw [k4]
    simp only [List.length_cons]
    by_cases q : j = k
    · subst q
      rw [if_neg (by omega), if_pos (by omega)]
      have : j < c0.size := by omega
      simp [this]
    · by_cases q2 : k + 1 ≤ j ∧ j < k + 1 + vs.length
      · rw [if_pos q2, if_pos (by omega)]
        have : j - k = (j - (k + 1)) + 1 := by omega
        rw [this]
        rfl
      · rw [if_neg q2, if_neg (by omega)]
        rw [Array.getElem?_setIfInBounds, if_neg (by omega)]

theorem run_storeCells {B : Nat} {e0 : TypeId} {lo hi : Nat} : ∀ (vs : List Value) (a : Addr) (i : Nat) (w : World) (c0 : Array Value), w.heap[B]? = some (.cells c0 e0 (lo, hi)) → a.block = B → a.spot = none →
    (∀ v ∈ vs, wide v = false) → a.off + i + vs.length ≤ c0.size → (∀ j, i ≤ j → j < i + vs.length → ¬ (lo ≤ a.off + j ∧ a.off + j < hi)) →
    (Go.storeCells a vs i).run P w = .ok () (setCells w B (a.off + i) vs) := by
  intro vs
  induction vs with
  | nil => intro a i w c0 _ _ _ _ _ _; rfl
  | cons v vs ih =>
    intro a i w c0 hw hb hsp hwd hl hf
    simp only [List.length_cons] at hl hf
    have ea : a.add i = ⟨B, a.off + i, none⟩ := by
      cases a
      simp only at hb hsp
      subst hb hsp
      unfold Addr.add
      by_cases q : i = 0
      · simp [q]
      · simp [q]
    unfold Go.storeCells
    rw [Sem.run_bind]
    have h1 : (Go.store (a.add i) v).run P w = .ok () (w.setCell ⟨B, a.off + i, none⟩ v) := by
      unfold Go.store
      rw [ea, run_store (hwd v (List.mem_cons_self ..))]
      · rfl
      · rw [cell?_of hw]
        have : a.off + i < c0.size := by omega
        exact ⟨c0[a.off + i], Array.getElem?_eq_getElem this⟩
      · have := hf i (Nat.le_refl _) (by omega)
        simp only [World.frozen?, hw]
        simpa using this
    rw [h1]
    simp only [Result.andThen_ok]
    have hw1 := heap_setCell_at (O := a.off + i) (v' := v) hw B
    rw [if_pos rfl] at hw1
    have := ih a (i + 1) _ _ hw1 hb hsp (fun u hu => hwd u (List.mem_cons_of_mem _ hu)) (by simp; omega) (fun j h1 h2 => hf j (by omega) (by omega))
    rw [this]
    rfl

def AHeap.join (H : AHeap) (root : Nat) (g : Grp) (org : Nat) (o : Obj) (sz : Nat) : AHeap :=
  { next := H.next + 1, blks := H.blks.set H.next { obj := o, root, org, ro := false, sz }, grps := H.grps.set root { g with mem := (H.next, org) :: g.mem } }

theorem AHeap.blk_join (H : AHeap) (root : Nat) (g : Grp) (org : Nat) (o : Obj) (sz i : Nat) : (H.join root g org o sz).blk i = if i = H.next then some { obj := o, root, org, ro := false, sz } else H.blk i := Trie.get_set _ _ _ _
theorem AHeap.grp_join (H : AHeap) (root : Nat) (g : Grp) (org : Nat) (o : Obj) (sz i : Nat) : (H.join root g org o sz).grp i = if i = root then some { g with mem := (H.next, org) :: g.mem } else H.grp i := Trie.get_set _ _ _ _

theorem HR.join (h : HR N w0 ρ H w) {root : Nat} {g : Grp} {org : Nat} {c : Array Value} {e : TypeId} {sz : Nat} {l : Loc} (hg : H.grp root = some g) (hroot : root < H.next)
    {c' : Array Value} {e' : TypeId} {fr' : Nat × Nat} (hw : w.heap[l.block]? = some (.cells c' e' fr')) (hee : e' = e) (hcs : c'.size = l.csize) (hc : CellsR ρ l.shift c c') (hsz : l.sz = sz) (hpos : 0 < sz) (hN : N ≤ l.block)
    (hsep : ∀ i b, ρ.on i → H.blk i = some b → b.ro = false → (ρ.f i).block = l.block → isCells b.obj = true ∧ b.root = root ∧ (ρ.f i).shift + org = l.shift + b.org)
    (hfz : FzR l org g w) : HR N w0 (ρ.ext l) (H.join root g org (.cells c e (0, 0)) sz) w := by
  have hn := h.n
  have hle := Ren.le_ext ρ l
  have hext : ∀ i, ρ.on i → (ρ.ext l).f i = ρ.f i := fun i hi => Ren.ext_of_lt _ _ hi
  have hself := Ren.ext_self ρ l
  have hlt : l.block < w.heap.size := (Array.getElem?_eq_some_iff.1 hw).1
  refine ⟨?_, h.base, h.below, ?_, ?_, ?_, ?_, ?_, ?_, ?_, ?_, ?_, fun i hi => Ren.off_ext _ (h.off i hi)⟩
  · simp [AHeap.join, Ren.ext, hn]
  · intro i hi
    by_cases q : i = ρ.n
    · subst q; rw [hself]; exact hlt
    · have hi' : ρ.on i := Ren.on_of _ _ hi q
      rw [hext i hi']; exact h.lt i hi'
  · intro i b hb
    rw [AHeap.blk_join] at hb
    show i < ρ.n + 1
    split at hb
    · rename_i q; omega
    · have := h.dom i b hb; omega
  · intro i b c2 e2 fr2 hon hb ho
    rw [AHeap.blk_join] at hb
    split at hb
    · rename_i q
      cases hb
      cases ho
      rw [q, hn, hself]
      exact ⟨c', e', fr', hw, hcs, hc.mono hle, hsz, hee, fun z => by have z2 : sz = 0 := z; omega⟩
    · rename_i q
      have hi := Ren.on_of _ _ hon (by omega)
      rw [hext i hi]
      obtain ⟨a1, a2, a3, a4, a5, a6, a7⟩ := h.cells i b c2 e2 fr2 hi hb ho
      exact ⟨a1, a2, a3, a4, a5, a6.mono hle, a7⟩
  · intro i b hon hb hnc
    rw [AHeap.blk_join] at hb
    split at hb
    · cases hb; cases hnc
    · rename_i q
      have hi := Ren.on_of _ _ hon (by omega)
      rw [hext i hi]
      obtain ⟨o', a1, a2⟩ := h.objs i b hi hb hnc
      exact ⟨o', a1, a2.1.mono hle, a2.2⟩
  · intro i b hon hb hr
    rw [AHeap.blk_join] at hb
    split at hb
    · rename_i q; rw [q, hn, hself]; exact hN
    · rename_i q
      have hi := Ren.on_of _ _ hon (by omega)
      rw [hext i hi]; exact h.own i b hi hb hr
  · intro i b hon hb hr
    rw [AHeap.blk_join] at hb
    split at hb
    · cases hb; cases hr
    · rename_i q
      have hi := Ren.on_of _ _ hon (by omega)
      rw [hext i hi]; exact h.old i b hi hb hr
  · intro i j bi bj hon hon2 hi hj hne hri hrj he
    rw [AHeap.blk_join] at hi hj
    split at hi
    · rename_i q
      cases hi
      split at hj
      · rename_i q2; exact absurd (q.trans q2.symm) hne
      · rename_i q2
        have hj' := Ren.on_of _ _ hon2 (by omega)
        rw [q, hn, hself, hext j hj'] at he ⊢
        obtain ⟨s1, s2, s3⟩ := hsep j bj hj' hj hrj he.symm
        exact ⟨rfl, s1, s2.symm, by simp only; omega⟩
    · rename_i q3
      have hi' := Ren.on_of _ _ hon (by omega)
      split at hj
      · rename_i q
        cases hj
        rw [q, hn, hself, hext i hi'] at he ⊢
        obtain ⟨s1, s2, s3⟩ := hsep i bi hi' hi hri he
        exact ⟨s1, rfl, s2, by simp only; omega⟩
      · rename_i q2
        have hj' := Ren.on_of _ _ hon2 (by omega)
        rw [hext i hi', hext j hj'] at he ⊢
        exact h.sep i j bi bj hi' hj' hi hj hne hri hrj he
  · intro i b hon hb hr hic
    rw [AHeap.blk_join] at hb
    split at hb
    · rename_i q
      cases hb
      refine ⟨{ g with mem := (H.next, org) :: g.mem }, by rw [AHeap.grp_join, if_pos rfl], by simp [q], ?_⟩
      rw [q, hn, hself]
      exact hfz
    · rename_i q
      have hi := Ren.on_of _ _ hon (by omega)
      obtain ⟨g2, a1, a2, a3⟩ := h.grp i b hi hb hr hic
      rw [hext i hi]
      by_cases q : b.root = root
      · rw [q, hg] at a1
        cases a1
        exact ⟨{ g with mem := (H.next, org) :: g.mem }, by rw [AHeap.grp_join, if_pos q], List.mem_cons_of_mem _ a2, a3⟩
      · exact ⟨g2, by rw [AHeap.grp_join, if_neg q]; exact a1, a2, a3⟩
  · intro i b hb
    rw [AHeap.blk_join] at hb
    show b.root < H.next + 1
    split at hb
    · cases hb; simp only; omega
    · have := h.root i b hb; omega

theorem HR.grow (h : HR N w0 ρ H w) {c c' : Array Value} {e : TypeId} {sz : Nat} (hc : CellsR ρ 0 c c') (hpos : 0 < sz) :
    HR N w0 (ρ.ext ⟨w.heap.size, 0, sz, c'.size⟩) ((H.new (.cells c e (0, 0))).setBlk H.next { obj := .cells c e (0, 0), root := H.next, org := 0, ro := false, sz }) { w with heap := w.heap.push (.cells c' e (0, 0)) } := by
  have hn := h.n
  have hle := Ren.le_ext ρ ⟨w.heap.size, 0, sz, c'.size⟩
  have hext : ∀ i, ρ.on i → (ρ.ext ⟨w.heap.size, 0, sz, c'.size⟩).f i = ρ.f i := fun i hi => Ren.ext_of_lt _ _ hi
  have hself := Ren.ext_self ρ ⟨w.heap.size, 0, sz, c'.size⟩
  have hNs : N ≤ w.heap.size := Nat.le_trans h.base h.below.size
  have hp := fun k => heap_push w (.cells c' e (0, 0)) k
  have hblk : ∀ i, ((H.new (.cells c e (0, 0))).setBlk H.next { obj := .cells c e (0, 0), root := H.next, org := 0, ro := false, sz }).blk i = if i = H.next then some { obj := .cells c e (0, 0), root := H.next, org := 0, ro := false, sz } else H.blk i := by
    intro i
    rw [AHeap.blk_setBlk]
    split
    · rfl
    · rename_i q; rw [AHeap.blk_new, if_neg q]
  have hgrp : ∀ i, ((H.new (.cells c e (0, 0))).setBlk H.next { obj := .cells c e (0, 0), root := H.next, org := 0, ro := false, sz }).grp i = if i = H.next then some { mem := [(H.next, 0)], flo := 0, fhi := 0 } else H.grp i := fun i => AHeap.grp_new H (.cells c e (0, 0)) i
  refine ⟨?_, h.base, h.below.alloc hNs _, ?_, ?_, ?_, ?_, ?_, ?_, ?_, ?_, ?_, fun i hi => Ren.off_ext _ (h.off i hi)⟩
  · simp [AHeap.new, AHeap.setBlk, Ren.ext, hn]
  · intro i hi
    simp only [Array.size_push]
    by_cases q : i = ρ.n
    · subst q; rw [hself]; simp
    · have hi' : ρ.on i := Ren.on_of _ _ hi q
      rw [hext i hi']
      have := h.lt i hi'
      omega
  · intro i b hb
    rw [hblk] at hb
    show i < ρ.n + 1
    split at hb
    · rename_i q; omega
    · have := h.dom i b hb; omega
  · intro i b c2 e2 fr2 hon hb ho
    rw [hblk] at hb
    split at hb
    · rename_i q
      cases hb
      cases ho
      rw [q, hn, hself]
      exact ⟨c', e, (0, 0), by rw [hp, if_pos rfl], rfl, hc.mono hle, rfl, rfl, fun z => by have z2 : sz = 0 := z; omega⟩
    · rename_i q
      have hi := Ren.on_of _ _ hon (by omega)
      rw [hext i hi]
      obtain ⟨a1, a2, a3, a4, a5, a6, a7⟩ := h.cells i b c2 e2 fr2 hi hb ho
      have := h.lt i hi
      exact ⟨a1, a2, a3, by rw [hp, if_neg (by omega)]; exact a4, a5, a6.mono hle, a7⟩
  · intro i b hon hb hnc
    rw [hblk] at hb
    split at hb
    · cases hb; cases hnc
    · rename_i q
      have hi := Ren.on_of _ _ hon (by omega)
      rw [hext i hi]
      obtain ⟨o', a1, a2⟩ := h.objs i b hi hb hnc
      have := h.lt i hi
      exact ⟨o', by rw [hp, if_neg (by omega)]; exact a1, a2.1.mono hle, a2.2⟩
  · intro i b hon hb hr
    rw [hblk] at hb
    split at hb
    · rename_i q; rw [q, hn, hself]; exact hNs
    · rename_i q
      have hi := Ren.on_of _ _ hon (by omega)
      rw [hext i hi]; exact h.own i b hi hb hr
  · intro i b hon hb hr
    rw [hblk] at hb
    split at hb
    · cases hb; cases hr
    · rename_i q
      have hi := Ren.on_of _ _ hon (by omega)
      rw [hext i hi]; exact h.old i b hi hb hr
  · intro i j bi bj hon hon2 hi hj hne hri hrj he
    rw [hblk] at hi hj
    split at hi
    · rename_i q
      split at hj
      · rename_i q2; exact absurd (q.trans q2.symm) hne
      · rename_i q2
        have hj' := Ren.on_of _ _ hon2 (by omega)
        rw [q, hn, hself, hext j hj'] at he
        have := h.lt j hj'
        simp only at he
        omega
    · rename_i q3
      have hi' := Ren.on_of _ _ hon (by omega)
      split at hj
      · rename_i q
        rw [q, hn, hself, hext i hi'] at he
        have := h.lt i hi'
        simp only at he
        omega
      · rename_i q2
        have hj' := Ren.on_of _ _ hon2 (by omega)
        rw [hext i hi', hext j hj'] at he ⊢
        exact h.sep i j bi bj hi' hj' hi hj hne hri hrj he
  · intro i b hon hb hr hic
    rw [hblk] at hb
    split at hb
    · rename_i q
      cases hb
      refine ⟨{ mem := [(H.next, 0)], flo := 0, fhi := 0 }, by rw [hgrp, if_pos rfl], by simp [q], ?_⟩
      intro cc ee lo hi hk
      rw [q, hn, hself] at hk
      rw [hp] at hk
      simp only [if_true] at hk
      cases hk
      exact ⟨Nat.le_refl _, fun hlt => absurd hlt (Nat.lt_irrefl _)⟩
    · rename_i q
      have hi := Ren.on_of _ _ hon (by omega)
      obtain ⟨g2, a1, a2, a3⟩ := h.grp i b hi hb hr hic
      have hrt := h.root i b hb
      refine ⟨g2, by rw [hgrp, if_neg (by omega)]; exact a1, a2, ?_⟩
      intro cc ee lo hi2 hk
      rw [hext i hi] at hk ⊢
      have := h.lt i hi
      rw [hp, if_neg (by omega)] at hk
      exact a3 cc ee lo hi2 hk
  · intro i b hb
    rw [hblk] at hb
    show b.root < H.next + 1
    split at hb
    · cases hb; simp only; omega
    · have := h.root i b hb; omega

end
end Go.Ev
