import Derived.Test.YtmkapmbmgpnjaaaEvK
namespace Go.Ev
open Go.RowKit

section
variable {P : Program} {N : Nat} {w0 : Base} {ρ : Ren} {H : AHeap} {w : World}

theorem HR.pushed (h : HR N w0 ρ H w) (o : Obj) : HR N w0 ρ H { w with heap := w.heap.push o } := by
  have hNs : N ≤ w.heap.size := Nat.le_trans h.base h.below.size
  have hp := fun k => heap_push w o k
  refine ⟨h.n, h.base, h.below.alloc hNs _, ?_, h.dom, ?_, ?_, h.own, h.old, h.sep, ?_, h.root, h.off⟩
  · intro i hi
    have := h.lt i hi
    simp only [Array.size_push]
    omega
  · intro i b c e fr hon hb ho
    obtain ⟨a1, a2, a3, a4, a5⟩ := h.cells i b c e fr hon hb ho
    have := h.lt i hon
    exact ⟨a1, a2, a3, by rw [hp, if_neg (by omega)]; exact a4, a5⟩
  · intro i b hon hb hn
    obtain ⟨a1, a2, a3⟩ := h.objs i b hon hb hn
    have := h.lt i hon
    exact ⟨a1, by rw [hp, if_neg (by omega)]; exact a2, a3⟩
  · intro i b hon hb hr hc
    obtain ⟨g, a1, a2, a3⟩ := h.grp i b hon hb hr hc
    refine ⟨g, a1, a2, ?_⟩
    intro cc ee lo hi hk
    have := h.lt i hon
    rw [hp, if_neg (by omega)] at hk
    exact a3 cc ee lo hi hk

theorem aloadFrom_get {a : Addr} : ∀ (n i : Nat) (acc : Array Value) {c : Array Value}, aloadFrom H a i n acc = some c →
    (∀ (j : Nat), j < acc.size → c[j]? = acc[j]?) ∧ ∀ (j : Nat) (v : Value), acc.size ≤ j → c[j]? = some v → H.cell (a.add (i + (j - acc.size))) = some v := by
  intro n
  induction n with
  | zero =>
    intro i acc c hc
    cases hc
    exact ⟨fun _ _ => rfl, fun j v h1 h2 => by have := (Array.getElem?_eq_some_iff.1 h2).1; omega⟩
  | succ n ih =>
    intro i acc c hc
    unfold aloadFrom at hc
    split at hc
    · rename_i v hv
      obtain ⟨h1, h2⟩ := ih _ _ hc
      refine ⟨fun j hj => ?_, fun j u hj hu => ?_⟩
      · rw [h1 j (by simp; omega), Array.getElem?_push, if_neg (by omega)]
      · by_cases q : j = acc.size
        · subst q
          rw [h1 acc.size (by simp), Array.getElem?_push, if_pos rfl] at hu
          cases hu
          rw [Nat.sub_self, Nat.add_zero]
          exact hv
        · have := h2 j u (by simp; omega) hu
          simp only [Array.size_push] at this
          have e : i + 1 + (j - (acc.size + 1)) = i + (j - acc.size) := by omega
          rw [e] at this
          exact this
    · cases hc

theorem cell_iff {a : Addr} {v : Value} (h : H.cell a = some v) : ∃ b c e fr, H.blk a.block = some b ∧ b.obj = .cells c e fr ∧ a.spot = none ∧ c[a.off]? = some v := by
  unfold AHeap.cell at h
  split at h
  · rename_i b hb
    split at h
    · rename_i c e fr ho
      split at h
      · cases h
      · rename_i hs
        exact ⟨b, c, e, fr, hb, ho, by simpa using hs, h⟩
    · cases h
  · cases h

theorem add_block (a : Addr) (n : Nat) : (a.add n).block = a.block := by unfold Addr.add; split <;> rfl
theorem add_off (a : Addr) (n : Nat) : (a.add n).off = a.off + n := by
  unfold Addr.add
  split
  · rename_i q; rw [q]; rfl
  · rfl

theorem size_zeroCells' (z : Array Value) (n : Nat) : (Builtin.zeroCells z n).size = n * z.size := by simp [Builtin.zeroCells]

set_option maxHeartbeats 1000000 in
theorem aappend_spec (h : HR N w0 ρ H w) {ts : Array TypeId} (ty : TypeId) {s s' x x' : Value} (hs : VR ρ s s') (hx : VR ρ x x') {v : Value} {H' : AHeap} (hr : aappend P H ts s x = some (v, H')) :
    ∃ σ v' w', ρ.le σ ∧ (Builtin.append_ ts ty #[s', x']).run P w = .ok v' w' ∧ VR σ v v' ∧ HR N w0 σ H' w' := by
  unfold aappend at hr
  split at hr
  case isFalse => cases hr
  rename_i hp
  split at hr
  case h_2 => cases hr
  rename_i st h0
  split at hr
  case h_2 => cases hr
  rename_i e hu
  split at hr
  case h_2 => cases hr
  rename_i i hi
  split at hr
  case h_2 => cases hr
  rename_i base len cap
  split at hr
  case h_2 => cases hr
  rename_i n hn
  split at hr
  case isTrue => cases hr
  rename_i hcond
  simp only [not_or, Nat.not_le, Nat.not_lt, Bool.not_eq_true, Option.isNone_eq_false_iff] at hcond
  obtain ⟨hg, hsz, hby, h62, hzz⟩ := hcond
  obtain ⟨z, hz⟩ := Option.isSome_iff_exists.1 hzz
  split at hr
  case h_2 => cases hr
  rename_i old hold
  split at hr
  case h_2 => cases hr
  rename_i new hnew
  split at hr
  case isTrue => cases hr
  rename_i hcond
  simp only [not_or, ne_eq, Decidable.not_not, hz, Option.map_some, Option.some.injEq] at hcond
  obtain ⟨hos, hns, hzs⟩ := hcond
  have hlen := lenOf_spec (ρ := ρ) hx hn
  have hpos : 0 < i.size := Nat.pos_of_ne_zero hsz
  -- what is read in the other world
  have hd := h.drawn (w.drawn + 1)
  obtain ⟨old', ho1, ho2⟩ := srcCells_spec (P := P) hd hs hold
  obtain ⟨new', hn1, hn2⟩ := srcCells_spec (P := P) hd hx hnew
  have hos' : old'.size = len * i.size := by rw [← ho2.1]; exact hos
  have hns' : new'.size = n * i.size := by rw [← hn2.1]; exact hns
  have hboth : AsR ρ (old ++ new) (old' ++ new') := ho2.append hn2
  -- the arm that grows
  have grow : ∀ base' cap', s' = .slice base' len cap' → cap' < len + n →
      (Builtin.append_ ts ty #[s', x']).run P w = .ok (.slice (some ⟨w.heap.size, 0, none⟩) (len + n) (grownCap w (len + n) cap' e))
        (w.drew.alloc (.cells (old' ++ new' ++ Builtin.zeroCells z.cells (grownCap w (len + n) cap' e - (len + n))) e)) := by
    intro base' cap' hs' hcap'
    subst hs'
    exact run_app_grow ty hp h0 hu hi hz hlen ho1 hn1 hcap' (by omega) (growslice_fits hcap' hby)
  have hgsz : ∀ cap', cap' < len + n → (old' ++ new' ++ Builtin.zeroCells z.cells (grownCap w (len + n) cap' e - (len + n))).size = grownCap w (len + n) cap' e * i.size := by
    intro cap' _
    have hge : len + n ≤ grownCap w (len + n) cap' e := grownCap_ge w (len + n) cap' e
    rw [Array.size_append, Array.size_append, size_zeroCells', hzs, hos', hns', ← Nat.add_mul, ← Nat.add_mul]
    congr 1
    omega
  have alone : ∀ base' cap', s' = .slice base' len cap' → cap' < len + n →
      ∃ σ v' w', ρ.le σ ∧ (Builtin.append_ ts ty #[s', x']).run P w = .ok v' w' ∧ VR σ (.slice (some ⟨H.next, 0, none⟩) (len + n) (len + n)) v' ∧ HR N w0 σ (H.growNew (old ++ new) e i.size) w' := by
    intro base' cap' hs' hcap'
    obtain ⟨σ, h1, h2, h3⟩ := grown_spec (e := e) (need := len + n) (newCap := grownCap w (len + n) cap' e) h hboth hpos (grownCap_ge w (len + n) cap' e) (hgsz cap' hcap') (w.drawn + 1)
    exact ⟨σ, _, _, h1, grow base' cap' hs' hcap', h3, h2⟩
  unfold agrow at hr
  cases hs with
  | snone =>
    simp only [Option.some.injEq, Prod.mk.injEq] at hr
    obtain ⟨rfl, rfl⟩ := hr
    exact alone none cap rfl hg
  | @ssome a a' _ _ cap' hsl =>
    simp only at hr
    split at hr
    case h_2 => cases hr
    rename_i b hb
    split at hr
    case isTrue => cases hr
    rename_i hisc
    have hisc : isCells b.obj = true := by simpa using hisc
    obtain ⟨c, ce, cfr, hbo⟩ := isCells_eq hisc
    obtain ⟨cw, ew, ⟨lo, hi2⟩, hw, hcs, hcr, hszr, hx0⟩ := h.cells _ _ _ _ _ hsl.1.1 hb hbo
    obtain ⟨har, hcapl, hcap'⟩ := hsl
    split at hr
    · rename_i hz0
      simp only [Option.some.injEq, Prod.mk.injEq] at hr
      obtain ⟨rfl, rfl⟩ := hr
      have : cap' = cap := by
        rcases hcap' with q | ⟨q, _⟩
        · exact q
        · omega
      exact alone (some a') cap' rfl (by omega)
    · rename_i hz0
      split at hr
      case isTrue => cases hr
      rename_i hcond
      simp only [not_or, ne_eq, Decidable.not_not, Bool.not_eq_true] at hcond
      obtain ⟨hbsz, hel, hro, hspot, hwd⟩ := hcond
      have hew : ew = e := by
        rw [hbo] at hel
        have q : ce = e := by simpa [elemIs] using hel
        rw [hx0.1, q]
      split at hr
      case h_2 => cases hr
      rename_i g hgr
      split at hr
      case isTrue => cases hr
      rename_i hfree
      simp only [Option.some.injEq, Prod.mk.injEq] at hr
      obtain ⟨rfl, rfl⟩ := hr
      obtain ⟨g0, hg0, hgm, hgf⟩ := h.grp _ b har.1 hb hro hisc
      rw [hgr] at hg0
      cases hg0
      obtain ⟨hW, hJ⟩ := poisonN_spec g.mem (n * i.size) (a.off + b.org + len * i.size) H
      have hH1 := h.weaker hW
      have hNB := h.own _ _ har.1 hb hro
      have hrt := h.root _ b hb
      generalize hH1e : poisonN (a.off + b.org + len * i.size) g.mem (n * i.size) H = H1 at *
      have hg1 : H1.grp b.root = some g := by rw [hW.grp]; exact hgr
      have hnx : H1.next = H.next := hW.next
      have hsp : a.spot = none := by simpa using hspot
      have ea := har.eq_mk hsp
      have hab := har.2.1
      have hao := har.2.2.1
      by_cases hroom : len + n ≤ cap'
      · -- there was room
        have hgrow : a'.off + cap' * (ρ.f a.block).sz ≤ (ρ.f a.block).csize := by
          rcases hcap' with q | ⟨_, q⟩
          · omega
          · exact q
        have hszi : (ρ.f a.block).sz = i.size := by omega
        have hle2 : (len + n) * i.size ≤ cap' * i.size := Nat.mul_le_mul_right _ hroom
        rw [hszi] at hgrow
        have hadd : (len + n) * i.size = len * i.size + n * i.size := Nat.add_mul _ _ _
        obtain ⟨new2, hm1, hm2⟩ := srcCells_spec (P := P) h hx hnew
        have hns2 : new2.size = n * i.size := by rw [← hm2.1]; exact hns
        have hvl : new2.toList.length = n * i.size := by simpa using hns2
        obtain ⟨bA, hbA, rA, oA, roA, sA, _⟩ := hW.has _ _ hb
        have hbnd : a'.off + len * i.size + new2.toList.length ≤ cw.size := by rw [hcs, hvl]; omega
        have hfzb : ∀ j, lo ≤ j → j < hi2 → g.flo + (ρ.f a.block).shift ≤ j + b.org ∧ j + b.org < g.fhi + (ρ.f a.block).shift := by
          intro j h1 h2
          have := (hgf _ _ _ _ hw).2 (by omega)
          omega
        obtain ⟨hS, cN, hcN1, hcN2, hcN3⟩ := silentCells (H := H1) hNB new2.toList (a'.off + len * i.size) w cw hH1 hw (by
          intro i1 b1 c1 e1 fr1 hon1 hb1 ho1 q j u hu hk1 hk2
          rw [hvl] at hk2
          have hr1 : b1.ro = false := by
            cases r : b1.ro
            · rfl
            · have := hH1.old i1 b1 hon1 hb1 r; omega
          obtain ⟨g1, hg1', hm1, _⟩ := hH1.grp i1 b1 hon1 hb1 hr1 (by rw [ho1]; rfl)
          have hrel : b1.root = b.root ∧ (ρ.f i1).shift + b.org = (ρ.f a.block).shift + b1.org := by
            by_cases e1 : i1 = a.block
            · subst e1
              rw [hbA] at hb1
              cases hb1
              exact ⟨rA, by rw [oA]⟩
            · obtain ⟨_, _, q3, q4⟩ := hH1.sep i1 a.block b1 bA hon1 har.1 hb1 hbA e1 hr1 (roA.trans hro) q
              rw [rA] at q3
              rw [oA] at q4
              exact ⟨q3, q4⟩
          rw [hrel.1, hg1] at hg1'
          cases hg1'
          have hlt1 : i1 < H.next := by have := hH1.dom i1 b1 hb1; have := h.n; omega
          have hrel2 := hrel.2
          exact hJ i1 b1.org (j + b1.org) hlt1 hm1 (by omega) (by omega) (by omega) b1 c1 e1 fr1 hb1 ho1 u (by rw [Nat.add_sub_cancel]; exact hu)) hbnd
        have hst : (Go.storeCells (a'.add (len * i.size)) new2.toList).run P w = .ok () (setCells w (ρ.f a.block).block (a'.off + len * i.size) new2.toList) := by
          have := run_storeCells (P := P) (B := (ρ.f a.block).block) new2.toList (a'.add (len * i.size)) 0 w cw hw (by rw [add_block]; exact hab) (by rw [ea]; unfold Addr.add; split <;> rfl) (by
            intro u hu
            obtain ⟨j, hj, hju⟩ := List.getElem_of_mem hu
            have e2 : new2[j]? = some u := by rw [← hju]; simp
            have hjs : j < new.size := by have := hm2.1; simp at hj; omega
            have e1 := Array.getElem?_eq_getElem hjs
            have := hm2.2 j _ u e1 e2
            refine this.wide ?_
            cases q : Ev.wide new[j] with
            | false => rfl
            | true =>
              exfalso
              rw [List.any_eq_false] at hwd
              exact hwd new[j] (Array.mem_toList_iff.2 (Array.getElem_mem hjs)) q) (by rw [add_off]; omega) (by
            intro j h1 h2 h3
            rw [add_off] at h3
            rw [hvl] at h2
            have := hfzb _ h3.1 h3.2
            exact hfree ⟨by omega, by omega, by omega⟩)
          rw [add_off, Nat.add_zero] at this
          exact this
        have hrun := run_app_room ty hp h0 hu hi hlen hm1 hst hroom
        have hn1 : H1.next = ρ.n := hH1.n
        have hnn : H.next = ρ.n := h.n
        have hj := hS.join (root := b.root) (g := g) (org := b.org + a.off) (c := old ++ new) (e := e) (sz := i.size) (l := ⟨(ρ.f a.block).block, a'.off, i.size, (ρ.f a.block).csize⟩) hg1 (by rw [hnx]; exact hrt)
          hcN1 hew (by rw [hcN2]; exact hcs) (by
            intro j u hu
            show ∃ u', cN[j + a'.off]? = some u' ∧ VR ρ u u'
            rw [Array.getElem?_append] at hu
            split at hu
            · rename_i hjl
              -- an old one
              rw [hcN3, if_neg (by omega)]
              have hbase : srcCells H i.size len (.slice (some a) len cap) = aloadFrom H a 0 (len * i.size) #[] := rfl
              rw [hbase] at hold
              have hcell := (aloadFrom_get _ _ _ hold).2 j u (Nat.zero_le _) hu
              obtain ⟨bb, c2, e2, fr2, hb2, ho2', hs2, hc2⟩ := cell_iff hcell
              rw [add_block, hb] at hb2
              cases hb2
              rw [hbo] at ho2'
              cases ho2'
              rw [add_off] at hc2
              obtain ⟨u', hu', hru⟩ := hcr _ _ hc2
              refine ⟨u', ?_, hru⟩
              rw [← hu']
              congr 1
              simp only [Array.size_empty] at *
              omega
            · rename_i hjl
              obtain ⟨u', hu', hru⟩ := hm2.get hu
              have hjb := (Array.getElem?_eq_some_iff.1 hu').1
              refine ⟨u', ?_, hru⟩
              rw [hcN3, if_pos (by rw [hvl]; constructor <;> omega)]
              rw [Array.getElem?_toList, ← hu']
              congr 1
              omega) rfl hpos hNB (by
            intro i1 b1 hon1 hb1 hr1 q
            by_cases e1 : i1 = a.block
            · subst e1
              rw [hbA] at hb1
              cases hb1
              obtain ⟨_, _, q3, _⟩ := hW.back hbA
              refine ⟨?_, rA, by rw [oA]; simp only; omega⟩
              rcases (hW.has _ _ hb) with ⟨bB, hbB, _, _, _, _, hob⟩
              rw [hbA] at hbB
              cases hbB
              rw [Weaker.isCells hob]
              exact hisc
            · obtain ⟨q1, _, q3, q4⟩ := hH1.sep i1 a.block b1 bA hon1 har.1 hb1 hbA e1 hr1 (roA.trans hro) q
              rw [rA] at q3
              rw [oA] at q4
              exact ⟨q1, q3, by simp only; omega⟩) (by
            intro cc ee lo2 hi3 hk
            simp only at hk
            rw [hcN1] at hk
            cases hk
            obtain ⟨h1, h2⟩ := hgf _ _ _ _ hw
            refine ⟨h1, fun hlt => ?_⟩
            have := h2 hlt
            simp only
            omega)
        refine ⟨_, _, _, Ren.le_ext _ _, hrun, ?_, hj⟩
        have hself := Ren.ext_self ρ ⟨(ρ.f a.block).block, a'.off, i.size, (ρ.f a.block).csize⟩
        refine .ssome ⟨⟨?_, ?_, ?_, ?_⟩, hroom, .inr ?_⟩
        · exact .inr (show H.next = ρ.n by omega)
        · simp only [hnn]; rw [hself]; exact hab
        · simp only [hnn]; rw [hself]; simp
        · rw [ea]
        · simp only [hnn]; rw [hself]; exact ⟨hpos, by simp only; omega⟩
      · -- there was none
        have hcap2 : cap' < len + n := by omega
        have hnn : H.next = ρ.n := h.n
        have hP := (hH1.drawn (w.drawn + 1)).pushed (.cells (old' ++ new' ++ Builtin.zeroCells z.cells (grownCap w (len + n) cap' e - (len + n))) e (0, 0))
        have hpp := heap_push { w with drawn := w.drawn + 1 } (.cells (old' ++ new' ++ Builtin.zeroCells z.cells (grownCap w (len + n) cap' e - (len + n))) e (0, 0)) w.heap.size
        rw [if_pos rfl] at hpp
        have hj := hP.join (root := b.root) (g := g) (org := b.org + a.off) (c := old ++ new) (e := e) (sz := i.size) (l := ⟨w.heap.size, 0, i.size, (old' ++ new' ++ Builtin.zeroCells z.cells (grownCap w (len + n) cap' e - (len + n))).size⟩) hg1 (by rw [hnx]; exact hrt)
          hpp rfl rfl (CellsR.of_AsR hboth _) rfl hpos (Nat.le_trans h.base h.below.size) (by
            intro i1 b1 hon1 hb1 _ q
            have := h.lt i1 hon1
            simp only at q
            omega) (by
            intro cc ee lo2 hi3 hk
            simp only at hk
            rw [hpp] at hk
            cases hk
            exact ⟨Nat.le_refl _, fun hlt => absurd hlt (Nat.lt_irrefl _)⟩)
        refine ⟨_, _, _, Ren.le_ext _ _, grow (some a') cap' rfl hcap2, ?_, hj⟩
        have hself := Ren.ext_self ρ ⟨w.heap.size, 0, i.size, (old' ++ new' ++ Builtin.zeroCells z.cells (grownCap w (len + n) cap' e - (len + n))).size⟩
        refine .ssome ⟨⟨?_, ?_, ?_, rfl⟩, grownCap_ge w (len + n) cap' e, .inr ?_⟩
        · exact .inr (show H.next = ρ.n by omega)
        · simp only [hnn]; rw [hself]
        · simp only [hnn]; rw [hself]; rfl
        · simp only [hnn]; rw [hself]; exact ⟨hpos, by simp only; rw [hgsz cap' hcap2]; omega⟩

end
end Go.Ev
