import Derived.Test.YtmkapmbmgpnjaaaFaH
import Derived.Test.YtmkapmbmgpnjaaaEvNU
namespace Go.Ev
open Go.RowKit

inductive MT where
  | n
  | k (l r : MT)
  | d (l r : MT)

section
variable {α : Type}
noncomputable def keepT (m : MT) : Trie α → Trie α :=
  MT.rec (motive := fun _ => Trie α → Trie α) (fun _ => .leaf)
    (fun _ _ il ir t => Trie.rec (motive := fun _ => Trie α) .leaf (fun l v r _ _ => .node (il l) v (ir r)) t)
    (fun _ _ il ir t => Trie.rec (motive := fun _ => Trie α) .leaf (fun l _ r _ _ => .node (il l) none (ir r)) t) m

theorem keepT_get : ∀ (m : MT) (t : Trie α) (i : Nat) {b : α}, (keepT m t).get i = some b → t.get i = some b
  | .n, t, i, b, h => by
    have h : (Trie.leaf : Trie α).get i = some b := h
    cases h
  | .k l r, .leaf, i, b, h => h
  | .d l r, .leaf, i, b, h => h
  | .k l r, .node tl v tr, i, b, h => by
    have h : (Trie.node (keepT l tl) v (keepT r tr)).get i = some b := h
    unfold Trie.get at h ⊢
    split
    · rename_i q; rw [if_pos q] at h; exact h
    · rename_i q
      rw [if_neg q] at h
      split
      · rename_i q2; rw [if_pos q2] at h; exact keepT_get l tl _ h
      · rename_i q2; rw [if_neg q2] at h; exact keepT_get r tr _ h
  | .d l r, .node tl v tr, i, b, h => by
    have h : (Trie.node (keepT l tl) none (keepT r tr)).get i = some b := h
    unfold Trie.get at h ⊢
    split
    · rename_i q; rw [if_pos q] at h; cases h
    · rename_i q
      rw [if_neg q] at h
      split
      · rename_i q2; rw [if_pos q2] at h; exact keepT_get l tl _ h
      · rename_i q2; rw [if_neg q2] at h; exact keepT_get r tr _ h

noncomputable def allT (p : α → Bool) (t : Trie α) : Bool :=
  Trie.rec (motive := fun _ => Bool) true (fun _ v _ il ir => Bool.rec (motive := fun _ => Bool) false (Bool.rec (motive := fun _ => Bool) false (Option.rec (motive := fun _ => Bool) true p v) ir) il) t

theorem allT_get (p : α → Bool) : ∀ (t : Trie α) (i : Nat) {b : α}, allT p t = true → t.get i = some b → p b = true
  | .leaf, i, b, _, h => by cases h
  | .node l v r, i, b, ha, h => by
    have ha : Bool.rec (motive := fun _ => Bool) false (Bool.rec (motive := fun _ => Bool) false (Option.rec (motive := fun _ => Bool) true p v) (allT p r)) (allT p l) = true := ha
    have hl : allT p l = true := by
      cases q : allT p l with
      | true => rfl
      | false => rw [q] at ha; cases ha
    rw [hl] at ha
    simp only at ha
    have hr : allT p r = true := by
      cases q : allT p r with
      | true => rfl
      | false => rw [q] at ha; cases ha
    rw [hr] at ha
    simp only at ha
    unfold Trie.get at h
    split at h
    · subst h; exact ha
    · split at h
      · exact allT_get p l _ hl h
      · exact allT_get p r _ hr h
end

noncomputable def rooted (G : Trie Grp) (b : ABlk) : Bool := Bool.rec (motive := fun _ => Bool) (Option.rec (motive := fun _ => Bool) false (fun _ => true) (G.getF b.root)) true b.ro

noncomputable def gcH (m1 m2 : MT) (H : AHeap) : Option AHeap :=
  Bool.rec (motive := fun _ => Option AHeap) none (some { next := H.next, blks := keepT m1 H.blks, grps := keepT m2 H.grps }) (allT (rooted (keepT m2 H.grps)) (keepT m1 H.blks))

theorem HR.gc {N : Nat} {w0 : Base} {ρ : Ren} {H H' : AHeap} {w : World} {m1 m2 : MT} (h : HR N w0 ρ H w) (hg : gcH m1 m2 H = some H') : HR N w0 ρ H' w := by
  unfold gcH at hg
  cases ha : allT (rooted (keepT m2 H.grps)) (keepT m1 H.blks) with
  | false => rw [ha] at hg; cases hg
  | true =>
    rw [ha] at hg
    cases hg
    have hb : ∀ i b, AHeap.blk { next := H.next, blks := keepT m1 H.blks, grps := keepT m2 H.grps } i = some b → H.blk i = some b := fun i b q => keepT_get m1 _ i q
    refine ⟨h.n, h.base, h.below, h.lt, fun i b q => h.dom i b (hb i b q), fun i b c e fr ho q => h.cells i b c e fr ho (hb i b q), fun i b ho q => h.objs i b ho (hb i b q),
      fun i b ho q => h.own i b ho (hb i b q), fun i b ho q => h.old i b ho (hb i b q), fun i j bi bj ho hoj qi qj => h.sep i j bi bj ho hoj (hb i bi qi) (hb j bj qj), ?_, fun i b q => h.root i b (hb i b q), h.off⟩
    intro i b ho q hro hc
    obtain ⟨g, hg, hm⟩ := h.grp i b ho (hb i b q) hro hc
    have hr := allT_get _ _ i ha q
    unfold rooted at hr
    rw [hro] at hr
    simp only at hr
    rw [Trie.getF_eq] at hr
    cases hq : (keepT m2 H.grps).get b.root with
    | none => rw [hq] at hr; cases hr
    | some g2 =>
      have := keepT_get m2 _ _ hq
      have hg' : H.grps.get b.root = some g := hg
      rw [this] at hg'
      cases hg'
      exact ⟨g, hq, hm⟩

noncomputable def gcK (m1 m2 : MT) (ks : KS) : Option KS :=
  KS.rec (motive := fun _ => Option KS) (fun x fn n tm todo cs H => Option.rec (motive := fun _ => Option KS) none (fun H' => some (.k x fn n tm todo cs H')) (gcH m1 m2 H))
    (fun x fn n tm todo ops listed lag cs H => Option.rec (motive := fun _ => Option KS) none (fun H' => some (.d x fn n tm todo ops listed lag cs H')) (gcH m1 m2 H))
    (fun fr cs H => Option.rec (motive := fun _ => Option KS) none (fun H' => some (.a fr cs H')) (gcH m1 m2 H))
    (fun fn v H => some (.done fn v H)) ks

def KTo (E : Env) (a b : KS) : Prop := ∀ (N : Nat) (w0 : World) (base : List Frame) (ρ : Ren) (m : Machine), GR E.G ρ → KSim E N w0 base ρ a m → KGoes E N w0 base ρ b m

theorem KTo.trans {E : Env} {a b c : KS} (h : KTo E a b) (k : KTo E b c) : KTo E a c := by
  intro N w0 base ρ m hG hS
  obtain ⟨σ, m1, h1, h2, h3⟩ := h N w0 base ρ m hG hS
  obtain ⟨τ, m2, h4, h5, h6⟩ := k N w0 base σ m1 (hG.mono h1) h3
  exact ⟨τ, m2, Ren.le_trans h1 h4, h2.trans h5, h6⟩

theorem KTo.go {E : Env} (ok : EnvOK E) (hmix : E.P.follows .mixedOrders = true) {a b : KS} {n : Nat} (h : kgo E n a = some b) : KTo E a b :=
  fun _ _ _ _ _ hG hS => kgo_sim ok hmix n hG hS h

theorem KTo.gc {E : Env} {a b : KS} {m1 m2 : MT} (h : gcK m1 m2 a = some b) : KTo E a b := by
  intro N w0 base ρ m hG hS
  refine ⟨ρ, m, Ren.le_refl _, .refl _ _, ?_⟩
  cases a with
  | k x fn n tm todo cs H =>
    have h : Option.rec (motive := fun _ => Option KS) none (fun H' => some (.k x fn n tm todo cs H')) (gcH m1 m2 H) = some b := h
    cases hg : gcH m1 m2 H with
    | none => rw [hg] at h; cases h
    | some H' =>
      rw [hg] at h
      cases h
      obtain ⟨hc, fr', cs', w, q1, q2, q3, q4⟩ := hS
      exact ⟨hc, fr', cs', w, q1, q2, q3, HR.gc (w0 := bare w0) q4 hg⟩
  | d x fn n tm todo ops listed lag cs H =>
    have h : Option.rec (motive := fun _ => Option KS) none (fun H' => some (.d x fn n tm todo ops listed lag cs H')) (gcH m1 m2 H) = some b := h
    cases hg : gcH m1 m2 H with
    | none => rw [hg] at h; cases h
    | some H' =>
      rw [hg] at h
      cases h
      obtain ⟨hc, fr', cs', w, q1, q2, q3, q4⟩ := hS
      exact ⟨hc, fr', cs', w, q1, q2, q3, HR.gc (w0 := bare w0) q4 hg⟩
  | a fr cs H =>
    have h : Option.rec (motive := fun _ => Option KS) none (fun H' => some (.a fr cs H')) (gcH m1 m2 H) = some b := h
    cases hg : gcH m1 m2 H with
    | none => rw [hg] at h; cases h
    | some H' =>
      rw [hg] at h
      cases h
      obtain ⟨hc, fr', cs', w, q1, q2, q3, q4⟩ := hS
      exact ⟨hc, fr', cs', w, q1, q2, q3, HR.gc (w0 := bare w0) q4 hg⟩
  | done fn v H => cases h; exact hS

theorem KTo.part {E : Env} (ok : EnvOK E) (hmix : E.P.follows .mixedOrders = true) {a b : KS} {n : Nat} {m1 m2 : MT} (h : (kgo E n a).bind (gcK m1 m2) = some b) : KTo E a b := by
  cases hk : kgo E n a with
  | none => rw [hk] at h; cases h
  | some c =>
    rw [hk] at h
    exact (KTo.go ok hmix hk).trans (KTo.gc h)

theorem KTo.calls {E : Env} (ok : EnvOK E) (hmix : E.P.follows .mixedOrders = true) {N : Nat} {w0 : World} {ρ : Ren} (hG : GR E.G ρ) {w : World} {H : AHeap} (hH : HR N (bare w0) ρ H w) {f : FuncId} {args : List Value} {x' : Array Value} (hx : AsR ρ ⟨args⟩ x') {ks : KS} (hst : startK E f args H = some ks)
    {v : Value} {H' : AHeap} (hrun : KTo E ks (.done f v H')) : Calls E.P f x' w (fun e w' => ∃ σ v', e = .returned v' ∧ ρ.le σ ∧ VR σ v v' ∧ HR N (bare w0) σ H' w') := by
  intro cs
  have hent : ∃ todo m, ks = .k nx f m (TT.ofArgs args) todo [] H ∧ enterA E.P f ⟨args⟩ .normal = some (kA nx f m (TT.ofArgs args) todo) := by
    have : ∃ ks2, enterK E (.a (kA nx f 0 .nil [])) f args [] H = some ks2 := by
      unfold startK at hst
      unfold enterK
      split at hst
      case h_2 => cases hst
      rename_i todo m he
      rw [he]
      simp only
      cases hb : Nat.ble (lenL args) m with
      | false => rw [hb] at hst; cases hst
      | true => exact ⟨_, rfl⟩
    obtain ⟨ks2, h2⟩ := this
    obtain ⟨todo, m, he, h3⟩ := enterK_spec h2
    refine ⟨todo, m, ?_, h3⟩
    unfold startK at hst
    unfold enterK at h2
    split at hst
    case h_2 => cases hst
    rename_i todo2 m2 he2
    rw [he2] at h2
    simp only at h2
    cases hb : Nat.ble (lenL args) m2 with
    | false => rw [hb] at hst; cases hst
    | true =>
      rw [hb] at hst h2
      cases hst
      cases h2
      cases he
      rfl
  obtain ⟨todo, q, rfl, hent⟩ := hent
  have hS : KSim E N w0 cs ρ (.k nx f q (TT.ofArgs args) todo [] H) (lone (Frame.enter E.P f x' .normal) cs w) := ⟨(by simp), _, [], w, rfl, FR.enter hx hent, trivial, hH⟩
  obtain ⟨σ, m', h1, h2, st, h3, h4, rfl, h5⟩ := hrun N w0 cs ρ _ hG hS
  have har : arun E f 1 st = some (v, st.H) := by
    unfold arun
    rw [if_pos h3, h4]
    rfl
  obtain ⟨τ, fr2, w', v', q1, q2, q3, q4, q5, q6⟩ := arun_sim ok hmix 1 (hG.mono h1) h5 har
  exact ⟨.returned v', w', fr2, ⟨τ, v', rfl, Ren.le_trans h1 q1, q5, q6⟩, h2.trans q2, q3, q4⟩

noncomputable def cont : List Nat → Code → List Item → List Item
  | [], c, k => .code c :: k
  | j :: p, c, k => match c with
    | .seq a b => (match j with
      | 0 => cont p a (.code b :: k)
      | _ => cont p b k)
    | .block id body => cont p body (.inBlock id :: k)
    | .loop body => cont p body (.inLoop body :: k)
    | .scope body => cont p body (.inScope body :: k)
    | .cond _ a b => (match j with
      | 0 => cont p a k
      | _ => cont p b k)
    | .rangeFunc _ _ a b => (match j with
      | 0 => cont p a [.beginRound, .code b]
      | _ => cont p b [])
    | c => .code c :: k

noncomputable def tdAt (E : Env) (f : Nat) (p : List Nat) : List Item := match E.P.funcs[f]? with
  | some fn => (match fn.body with
    | some c => cont p c []
    | none => [])
  | none => []
noncomputable def opsAt (E : Env) (f : Nat) (p : List Nat) : Array Oper := match tdAt E f p with
  | .code (.region _ ops _) :: _ => ops
  | _ => #[]
noncomputable def kAt (E : Env) (f : Nat) (p : List Nat) : List Item := match tdAt E f p with
  | _ :: k => k
  | [] => []

namespace Tx
/-! Short names, for states that are written out. -/
abbrev T : Value := .bool true
abbrev F : Value := .bool false
abbrev I (n : Nat) : Value := .int .i64 (.ofNat n)
abbrev B (n : Nat) : Value := .int .u8 (.ofNat n)
abbrev S (l : List Nat) : Value := .string ⟨⟨l.map UInt8.ofNat⟩⟩
abbrev P0 : Value := .pointer none
abbrev P (b o : Nat) : Value := .pointer (some ⟨b, o, none⟩)
abbrev L0 : Value := .slice none 0 0
abbrev L (b o n c : Nat) : Value := .slice (some ⟨b, o, none⟩) n c
abbrev U : Value := undef
abbrev Z : TT := .nil
abbrev ZU : TT := .node .nil undef .nil
abbrev W (v : Value) : TT := .node .nil v .nil
abbrev X (l r : TT) : TT := .node l undef r
abbrev Y (l : TT) (v : Value) (r : TT) : TT := .node l v r
section
variable {α : Type}
abbrev O : Trie α := .leaf
abbrev R (r : Trie α) : Trie α := .node .leaf none r
abbrev J (l : Trie α) : Trie α := .node l none .leaf
abbrev N (l r : Trie α) : Trie α := .node l none r
abbrev V (v : α) : Trie α := .node .leaf (some v) .leaf
end
abbrev K : MT := .k .n .n
abbrev A (r : MT) : MT := .d .n r
abbrev C (l : MT) : MT := .d l .n
abbrev D (l r : MT) : MT := .d l r
end Tx

end Go.Ev

namespace Go.Ev
open Go.RowKit

section
variable {P : Program} {N : Nat} {w0 : Base} {ρ : Ren} {H : AHeap} {w : World}

theorem VS2.next (str : Bool) (t : TypeId) {v v' : Value} (h : VR ρ v v') (hf : ∀ r o s, v = .pointer (some ⟨r, o, s⟩) → (ρ.f r).shift = 0) : SR2 P VR ρ (Instr.next v str t) (Instr.next v' str t) := by
  have over : ∀ {σ : Ren}, SR P VR σ (Pure.pure (Value.tuple #[.bool false])) (Pure.pure (Value.tuple #[.bool false])) := by
    intro σ
    exact .ret (.tuple ((AsR.nil σ).push (.bool false)).1 ((AsR.nil σ).push (.bool false)).2)
  unfold Instr.next
  cases h <;> first
    | exact .no fun _ => rfl
    | skip
  rename_i a a' ha
  obtain ⟨r, o, s⟩ := a
  obtain ⟨r', o', s'⟩ := a'
  have h0 := hf _ _ _ rfl
  obtain ⟨h1, h2, h3, h4⟩ := ha
  simp only at h1 h2 h3 h4
  rw [h0, Nat.add_zero] at h3
  rw [h3]
  clear h3 hf
  cases o with
  | succ n => exact .no fun _ => rfl
  | zero =>
    refine SR2.getObj ⟨h1, h2⟩ fun b b' ho => ?_
    have hb : BR ρ r r' := ⟨h1, h2⟩
    cases ho <;> cases str <;> first
      | exact .no fun _ => rfl
      | skip
    · rename_i s n
      refine .no fun H => ?_
      show forkN P (if n < s.size then _ else _) H = none
      split <;> rfl
    · rename_i m m' since seen last hm
      refine SR2.getObj hm fun b b' ho => ?_
      cases ho <;> first
        | exact .no fun _ => rfl
        | skip
      rename_i es es' clock hes
      have hl := hes.l2
      have e1 : es'.isEmpty = es.isEmpty := EntsR.same hl
      have e2 : es'.all (fun x => decide (x.born ≥ last)) = es.all (fun x => decide (x.born ≥ last)) := by
        rw [← Array.all_toList, ← Array.all_toList]
        exact hl.all fun a b hab => by rw [hab.2.2]
      simp only [Pure.pure, Bind.bind, Sem.bind]
      simp only [e1, e2]
      split
      · exact .no fun _ => rfl
      · have hleft : L2 (EntR ρ) (es.filter fun e => !seen.contains e.born).toList (es'.filter fun e => !seen.contains e.born).toList := by
          simp only [Array.toList_filter]
          exact hl.filter fun a b hab => by rw [hab.2.2]
        generalize (es.filter fun e => !seen.contains e.born) = lf at hleft ⊢
        generalize (es'.filter fun e => !seen.contains e.born) = lf' at hleft ⊢
        have hold : L2 (EntR ρ) (lf.filter fun e => decide (e.born < since)).toList (lf'.filter fun e => decide (e.born < since)).toList := by
          simp only [Array.toList_filter]
          exact hleft.filter fun a b hab => by rw [hab.2.2]
        have hnew : L2 (EntR ρ) (lf.filter fun e => decide (e.born ≥ since)).toList (lf'.filter fun e => decide (e.born ≥ since)).toList := by
          simp only [Array.toList_filter]
          exact hleft.filter fun a b hab => by rw [hab.2.2]
        generalize (lf.filter fun e => decide (e.born < since)) = ol at hold ⊢
        generalize (lf'.filter fun e => decide (e.born < since)) = ol' at hold ⊢
        generalize (lf.filter fun e => decide (e.born ≥ since)) = nw at hnew ⊢
        generalize (lf'.filter fun e => decide (e.born ≥ since)) = nw' at hnew ⊢
        have hc : L2 (OEntR ρ) ((if ol.isEmpty then #[none] else #[]) ++ (ol ++ nw).map some).toList ((if ol'.isEmpty then #[none] else #[]) ++ (ol' ++ nw').map some).toList := by
          rw [EntsR.same hold]
          simp only [Array.toList_append, Array.toList_map]
          refine L2.append ?_ (L2.map (hold.append hnew) fun a b hab => hab)
          split
          · exact .cons trivial .nil
          · exact .nil
        generalize ((if ol.isEmpty then #[none] else #[]) ++ (ol ++ nw).map some) = c at hc ⊢
        generalize ((if ol'.isEmpty then #[none] else #[]) ++ (ol' ++ nw').map some) = c' at hc ⊢
        have es : c'.size = c.size := by simpa using hc.length.symm
        rw [es]
        refine SR2.draw fun j => ?_
        show SR P VR ρ (match c[j]? with | some (some e) => _ | some none => _ | none => _) (match c'[j]? with | some (some e) => _ | some none => _ | none => _)
        rcases hc.get j with ⟨q1, q2⟩ | ⟨x, y, q1, q2, hxy⟩
        · rw [Array.getElem?_toList] at q1 q2
          rw [q1, q2]
          exact .stuck _
        · rw [Array.getElem?_toList] at q1 q2
          rw [q1, q2]
          cases x <;> cases y <;> first
            | exact hxy.elim
            | exact over
            | skip
          rename_i e e'
          obtain ⟨k1, k2, k3⟩ := (hxy : EntR ρ e e')
          simp only [k3]
          refine SR.bind (SR.setObjOne hb (.mapIter _ _ _ hm)) fun φ _ _ hle3 _ => ?_
          refine .ret (.tuple ((((AsR.nil φ).push (.bool true)).push (k1.mono hle3)).push (k2.mono hle3)).1 ((((AsR.nil φ).push (.bool true)).push (k1.mono hle3)).push (k2.mono hle3)).2)
end

noncomputable def nextAt (E : Env) (n : Nat) (tm : TT) (H : AHeap) (x : Operand) : Option Value :=
  Bool.rec (motive := fun _ => Option Value) none (match evalW n tm x with
    | .pointer (some a) => (match H.getObj a.block with
      | some _ => some (.pointer (some a))
      | none => none)
    | _ => none) (okOperand E.G x)

noncomputable def forkK (E : Env) (ks : KS) : Option (Nat × (Nat → Option KS)) := match ks with
  | .k x fn n tm todo cs H => (match norm E n 100 todo with
    | .op ops _ r kk o g _ d => (match guardR tm g with
      | some true => (match o.op with
        | .next y str => (match nextAt E n tm H y with
          | some v => (match forkN E.P (Instr.next v str o.type) H with
            | some m => some (m, fun j => match absRunJ E.P j (Instr.next v str o.type) H with
              | some (u, H') => some (.k x fn n (putW d u tm) (.inRegion ops r :: kk) cs H')
              | none => none)
            | none => none)
          | none => none)
        | _ => none)
      | _ => none)
    | _ => none)
  | _ => none

section
variable {E : Env} {N : Nat} {w0 : World} {base : List Frame} {ρ : Ren}

theorem forkK_sim (ok : EnvOK E) (hmix : E.P.follows .mixedOrders = true) (hG : GR E.G ρ) {a : KS} {m : Machine} {q : Nat} {f : Nat → Option KS} (hS : KSim E N w0 base ρ a m) (h : forkK E a = some (q, f)) (hall : ∀ j, j < q → ∃ b, f j = some b) :
    ∃ j b, j < q ∧ f j = some b ∧ KGoes E N w0 base ρ b m := by
  cases a with
  | d => cases h
  | a => cases h
  | done => cases h
  | k x fn n tm todo cs H =>
  obtain ⟨hc, hS⟩ := hS
  obtain ⟨todo', hre, hl⟩ := norm_lies E n (st := { fr := kA x fn n tm todo, cs := toAs cs, H }) rfl rfl 100 todo
  have hre : Reaches E { fr := kA x fn n tm todo, cs := toAs cs, H } { fr := kA x fn n tm todo', cs := toAs cs, H } := hre
  unfold forkK at h
  simp only at h
  generalize norm E n 100 todo = V at *
  cases V with
  | op ops i r kk o g k d =>
    obtain ⟨rfl, ho, hg, hd, rfl⟩ := hl
    simp only at h
    split at h
    case h_2 => cases h
    rename_i hgr
    split at h
    case h_2 => cases h
    rename_i y str hop
    split at h
    case h_2 => cases h
    rename_i v hv
    split at h
    case h_2 => cases h
    rename_i mm hfork
    cases h
    obtain ⟨σ, m1, hle, hst, hS1⟩ := hre.goes ok hmix hG hS
    have hG1 := hG.mono hle
    have hd2 := dstW_of ho hd
    have hw := guardR_spec hg hgr
    obtain ⟨fr', cs', w, rfl, hF, hC, hH⟩ := hS1
    have hm' : fr'.mode = .run := (ModeR.run hF.mode).1 rfl
    have hb : AsR σ (tm.arr n) fr'.tmps ∧ TdR σ (.inRegion ops (i :: r) :: kk) fr'.todo := hF.body
    obtain ⟨ht, htd⟩ := hb
    obtain ⟨y2, ys, hq, h1, h2⟩ := htd.cons_inv
    cases h1
    have hT : ∀ t ∈ o.looksAt ops, TmpR σ (tm.arr n) fr'.tmps t := fun t _ v v' q1 q2 => ht.2 t v v' q1 q2
    have hwc := wanted_rel ht.1.symm hT hw
    have hHp := hH.pinned
    -- the iterator
    unfold nextAt at hv
    cases hok : okOperand E.G y with
    | false => rw [hok] at hv; cases hv
    | true =>
    rw [hok] at hv
    simp only at hv
    split at hv
    case h_2 => cases hv
    rename_i a hev
    split at hv
    case h_2 => cases hv
    rename_i ob hob
    cases hv
    have hvr : VR σ (evalT (tm.arr n) y) (evalT fr'.tmps y) := evalT_rel hG1 ht hok
    rw [← evalW_eq, hev] at hvr
    have hsr : SR2 E.P VR σ (Instr.next (.pointer (some a)) str o.type) (Instr.next (evalT fr'.tmps y) str o.type) := by
      refine VS2.next str o.type hvr ?_
      intro k2 o2 s2 hv2
      cases hv2
      have hon : σ.on k2 := by
        generalize evalT fr'.tmps y = z at hvr
        cases hvr with
        | psome ha => exact ha.1
      exact hHp.flat hon hob
    obtain ⟨j, hj, hruns⟩ := absRunJ_sound hsr hHp _ hfork
    obtain ⟨b, hb⟩ := hall j hj
    refine ⟨j, b, hj, hb, ?_⟩
    simp only at hb
    split at hb
    case h_2 => cases hb
    rename_i u H' hu
    cases hb
    rw [hu] at hruns
    obtain ⟨τ, u', w', g1, g2, g3, g4⟩ := hruns
    have hsays : OpSays E N (pinned w0 σ) σ (execOp (evalT fr'.tmps) o) w (.next (.value u)) H' := by
      refine ⟨τ, .value u', w', g1, ?_, .value g3, g4⟩
      unfold execOp
      rw [hop]
      simp only
      show Sem.run E.P (Instr.next (evalT fr'.tmps y) str o.type >>= fun a => Pure.pure (Next.value a)) w = _
      rw [Sem.run_bind, g2]
      rfl
    have hgo : Goes E N w0 base σ { fr := kA x fn n (putW d u tm) (.inRegion ops r :: kk), cs := toAs cs, H := H' } (lone fr' (cs' ++ base) w) :=
      op_sim hF hC hm' hq ho hwc (fun c hcc => by rw [hop] at hcc; cases hcc) hsays (done_value hd2 u)
    obtain ⟨φ, m2, r1, r2, r3⟩ := KGoes.ofK hc hgo
    exact ⟨φ, m2, Ren.le_trans hle r1, hst.trans r2, r3⟩
  | cond => cases h
  | draw => cases h
  | ret => cases h
  | beg => cases h
  | other => cases h
end

noncomputable def krun (E : Env) (L : Nat) (n : Nat) : KS → KS :=
  Nat.rec (motive := fun _ => KS → KS) (fun ks => ks)
    (fun _ ih ks => KS.rec (motive := fun _ => KS)
      (fun x fn n tm todo cs H => Bool.rec (motive := fun _ => KS) (Option.rec (motive := fun _ => KS) (.k x fn n tm todo cs H) ih (stepK E x fn n tm todo cs H)) (.k x fn n tm todo cs H) (Nat.ble (lenL cs) L))
      (fun x fn n tm todo ops listed lag cs H => Option.rec (motive := fun _ => KS) (.d x fn n tm todo ops listed lag cs H) ih (stepD E x fn n tm todo ops listed lag cs H))
      (fun fr cs H => Option.rec (motive := fun _ => KS) (.a fr cs H) ih (stepA E fr cs H))
      (fun fn v H => .done fn v H) ks) n

theorem krun_to {E : Env} (ok : EnvOK E) (hmix : E.P.follows .mixedOrders = true) (L : Nat) : ∀ (n : Nat) (a : KS), KTo E a (krun E L n a)
  | 0, a => KTo.go ok hmix (n := 0) rfl
  | n + 1, a => by
    have stay : KTo E a a := KTo.go ok hmix (n := 0) rfl
    have one : ∀ {b : KS}, kgo E 1 a = some b → KTo E a (krun E L n b) := fun hb => (KTo.go ok hmix hb).trans (krun_to ok hmix L n _)
    cases a with
    | k x fn q tm todo cs H =>
      have e : krun E L (n + 1) (.k x fn q tm todo cs H) = Bool.rec (motive := fun _ => KS) (Option.rec (motive := fun _ => KS) (.k x fn q tm todo cs H) (krun E L n) (stepK E x fn q tm todo cs H)) (.k x fn q tm todo cs H) (Nat.ble (lenL cs) L) := rfl
      rw [e]
      cases Nat.ble (lenL cs) L with
      | true => exact stay
      | false =>
        simp only
        cases hs : stepK E x fn q tm todo cs H with
        | none => exact stay
        | some b =>
          refine one ?_
          show Option.rec (motive := fun _ => Option KS) none (kgo E 0) (stepK E x fn q tm todo cs H) = _
          rw [hs]; rfl
    | d x fn q tm todo ops listed lag cs H =>
      have e : krun E L (n + 1) (.d x fn q tm todo ops listed lag cs H) = Option.rec (motive := fun _ => KS) (.d x fn q tm todo ops listed lag cs H) (krun E L n) (stepD E x fn q tm todo ops listed lag cs H) := rfl
      rw [e]
      cases hs : stepD E x fn q tm todo ops listed lag cs H with
      | none => exact stay
      | some b =>
        refine one ?_
        show Option.rec (motive := fun _ => Option KS) none (kgo E 0) (stepD E x fn q tm todo ops listed lag cs H) = _
        rw [hs]; rfl
    | a fr cs H =>
      have e : krun E L (n + 1) (.a fr cs H) = Option.rec (motive := fun _ => KS) (.a fr cs H) (krun E L n) (stepA E fr cs H) := rfl
      rw [e]
      cases hs : stepA E fr cs H with
      | none => exact stay
      | some b =>
        refine one ?_
        show Option.rec (motive := fun _ => Option KS) none (kgo E 0) (stepA E fr cs H) = _
        rw [hs]; rfl
    | done fn v H => exact stay

noncomputable def gather (ih : KS → List KS) (f : Nat → Option KS) (m : Nat) : Option (List KS) :=
  Nat.rec (motive := fun _ => Option (List KS)) (some []) (fun j acc => match f j with
    | some c => (match acc with
      | some l => some (ih c ++ l)
      | none => none)
    | none => none) m

noncomputable def kforked (E : Env) (ih : KS → List KS) (b : KS) : List KS := match forkK E b with
  | some (m, f) => (match gather ih f m with
    | some l => l
    | none => [b])
  | none => [b]

noncomputable def kall (E : Env) (L n : Nat) (d : Nat) : KS → List KS :=
  Nat.rec (motive := fun _ => KS → List KS) (fun a => [krun E L n a]) (fun _ ih a => kforked E ih (krun E L n a)) d

def KTos (E : Env) (a : KS) (l : List KS) : Prop := ∀ (N : Nat) (w0 : World) (base : List Frame) (ρ : Ren) (m : Machine), GR E.G ρ → KSim E N w0 base ρ a m → ∃ b, b ∈ l ∧ KGoes E N w0 base ρ b m

theorem KTo.tos {E : Env} {a b : KS} (h : KTo E a b) : KTos E a [b] := fun N w0 base ρ m hG hS => ⟨b, by simp, h N w0 base ρ m hG hS⟩

theorem KTo.andTos {E : Env} {a b : KS} {l : List KS} (h : KTo E a b) (k : KTos E b l) : KTos E a l := by
  intro N w0 base ρ m hG hS
  obtain ⟨σ, m1, h1, h2, h3⟩ := h N w0 base ρ m hG hS
  obtain ⟨c, hc, τ, m2, h4, h5, h6⟩ := k N w0 base σ m1 (hG.mono h1) h3
  exact ⟨c, hc, τ, m2, Ren.le_trans h1 h4, h2.trans h5, h6⟩

theorem KTos.all {E : Env} {a : KS} {l l' : List KS} (h : KTos E a l) (k : ∀ b, b ∈ l → KTos E b l') : KTos E a l' := by
  intro N w0 base ρ m hG hS
  obtain ⟨b, hb, σ, m1, h1, h2, h3⟩ := h N w0 base ρ m hG hS
  obtain ⟨c, hc, τ, m2, h4, h5, h6⟩ := k b hb N w0 base σ m1 (hG.mono h1) h3
  exact ⟨c, hc, τ, m2, Ren.le_trans h1 h4, h2.trans h5, h6⟩

theorem KTos.one {E : Env} {a b : KS} (h : KTos E a [b]) : KTo E a b := by
  intro N w0 base ρ m hG hS
  obtain ⟨c, hc, k⟩ := h N w0 base ρ m hG hS
  cases List.mem_singleton.1 hc
  exact k

theorem gather_mem {ih : KS → List KS} {f : Nat → Option KS} : ∀ {m : Nat} {l : List KS}, gather ih f m = some l → ∀ j, j < m → ∃ c, f j = some c ∧ ∀ b, b ∈ ih c → b ∈ l
  | 0, _, _, j, hj => absurd hj (Nat.not_lt_zero j)
  | m + 1, l, h, j, hj => by
    have h : (match f m with
      | some c => (match gather ih f m with
        | some l => some (ih c ++ l)
        | none => none)
      | none => none) = some l := h
    split at h
    case h_2 => cases h
    rename_i c hc
    split at h
    case h_2 => cases h
    rename_i l2 hl2
    cases h
    rcases Nat.lt_succ_iff_lt_or_eq.1 hj with q | rfl
    · obtain ⟨d, h1, h2⟩ := gather_mem hl2 j q
      exact ⟨d, h1, fun b hb => List.mem_append.2 (.inr (h2 b hb))⟩
    · exact ⟨c, hc, fun b hb => List.mem_append.2 (.inl hb)⟩

theorem kall_tos {E : Env} (ok : EnvOK E) (hmix : E.P.follows .mixedOrders = true) (L n : Nat) : ∀ (d : Nat) (a : KS), KTos E a (kall E L n d a)
  | 0, a => (krun_to ok hmix L n a).tos
  | d + 1, a => by
    refine (krun_to ok hmix L n a).andTos ?_
    show KTos E (krun E L n a) (kforked E (kall E L n d) (krun E L n a))
    generalize krun E L n a = b
    have stay : KTos E b [b] := (KTo.go ok hmix (n := 0) rfl).tos
    unfold kforked
    split
    · rename_i m f hf
      split
      · rename_i l hl
        intro N w0 base ρ mm hG hS
        obtain ⟨j, c, hj, hc, σ, m1, h1, h2, h3⟩ := forkK_sim ok hmix hG hS hf fun j hj => by
          obtain ⟨c, h1, _⟩ := gather_mem hl j hj
          exact ⟨c, h1⟩
        obtain ⟨c2, h4, h5⟩ := gather_mem hl j hj
        rw [hc] at h4
        cases h4
        obtain ⟨e, he, τ, m2, r1, r2, r3⟩ := kall_tos ok hmix L n d c N w0 base σ m1 (hG.mono h1) h3
        exact ⟨e, h5 e he, τ, m2, Ren.le_trans h1 r1, h2.trans r2, r3⟩
      · exact stay
    · exact stay

theorem KTos.gcs {E : Env} {a : KS} {m1 m2 : MT} {l M : List KS} (h : KTos E a l) (hm : l.map (gcK m1 m2) = M.map some) : KTos E a M := by
  refine h.all fun b hb => ?_
  have : gcK m1 m2 b ∈ M.map some := by rw [← hm]; exact List.mem_map_of_mem hb
  obtain ⟨c, hc, he⟩ := List.mem_map.1 this
  intro N w0 base ρ m hG hS
  exact ⟨c, hc, KTo.gc he.symm N w0 base ρ m hG hS⟩

theorem KTos.part {E : Env} (ok : EnvOK E) (hmix : E.P.follows .mixedOrders = true) {a : KS} {L n d : Nat} {m1 m2 : MT} {M : List KS} (hm : (kall E L n d a).map (gcK m1 m2) = M.map some) : KTos E a M :=
  (kall_tos ok hmix L n d a).gcs hm

theorem KTo.fork {E : Env} (ok : EnvOK E) (hmix : E.P.follows .mixedOrders = true) {a b : KS} {L n d k : Nat} {m1 m2 : MT} (hm : (kall E L n d a).map (gcK m1 m2) = List.replicate k (some b)) : KTo E a b := by
  refine KTos.one (KTos.all (KTos.part ok hmix (M := List.replicate k b) (by rw [hm]; simp)) fun c hc => ?_)
  obtain rfl := List.eq_of_mem_replicate hc
  exact (KTo.go ok hmix (n := 0) rfl).tos

theorem KTo.forkAt {E : Env} (ok : EnvOK E) (hmix : E.P.follows .mixedOrders = true) {a b : KS} {L n d k t : Nat} {m1 m2 : MT} (hm : ((kgo E t a).map fun c => (kall E L n d c).map (gcK m1 m2)) = some (List.replicate k (some b))) : KTo E a b := by
  cases hk : kgo E t a with
  | none => rw [hk] at hm; cases hm
  | some c =>
    rw [hk] at hm
    exact (KTo.go ok hmix hk).trans (KTo.fork ok hmix (Option.some.inj hm))

noncomputable def kdraw (E : Env) (L n : Nat) (m j : Nat) (a : KS) : Option KS := match forkK E a with
  | some (q, f) => Bool.rec (motive := fun _ => Option KS) none (match f j with
    | some c => some (krun E L n c)
    | none => none) (Nat.beq q m)
  | none => none

noncomputable def kpath (E : Env) (L n : Nat) : List (Nat × Nat) → KS → Option KS
  | [], a => some a
  | (m, j) :: l, a => (kpath E L n l a).bind (kdraw E L n m j)

def KV (E : Env) (L n t : Nat) (a : KS) (l : List (Nat × Nat)) (b : KS) : Prop := ∃ c, (kgo E t a).bind (kpath E L n l) = some c ∧ KTo E c b

def AllLt (p : Nat → Prop) : Nat → Prop
  | 0 => True
  | n + 1 => AllLt p n ∧ p n
theorem AllLt.get {p : Nat → Prop} : ∀ {n : Nat}, AllLt p n → ∀ j, j < n → p j
  | 0, _, j, hj => absurd hj (Nat.not_lt_zero j)
  | n + 1, h, j, hj => by
    rcases Nat.lt_succ_iff_lt_or_eq.1 hj with q | rfl
    · exact h.1.get j q
    · exact h.2

theorem KV.of {E : Env} (ok : EnvOK E) (hmix : E.P.follows .mixedOrders = true) {L n t d k : Nat} {a b : KS} {l : List (Nat × Nat)} {m1 m2 : MT} (h : ((kgo E t a).bind fun c => (kpath E L n l c).map fun c => (kall E L n d c).map (gcK m1 m2)) = some (List.replicate k (some b))) : KV E L n t a l b := by
  cases hk : kgo E t a with
  | none => rw [hk] at h; cases h
  | some a1 =>
    rw [hk] at h
    have h : ((kpath E L n l a1).map fun c => (kall E L n d c).map (gcK m1 m2)) = some (List.replicate k (some b)) := h
    cases hp : kpath E L n l a1 with
    | none => rw [hp] at h; cases h
    | some c =>
      rw [hp] at h
      refine ⟨c, ?_, KTo.fork ok hmix (Option.some.inj h)⟩
      rw [hk]
      exact hp

theorem KV.up {E : Env} (ok : EnvOK E) (hmix : E.P.follows .mixedOrders = true) {L n t m : Nat} {a b : KS} {l : List (Nat × Nat)} (h : AllLt (fun j => KV E L n t a ((m + 1, j) :: l) b) (m + 1)) : KV E L n t a l b := by
  have all : ∀ j, j < m + 1 → ∃ c q f e, (kgo E t a).bind (kpath E L n l) = some c ∧ forkK E c = some (q, f) ∧ q = m + 1 ∧ f j = some e ∧ KTo E (krun E L n e) b := by
    intro j hj
    obtain ⟨c, h1, h2⟩ := h.get j hj
    have h1 : (kgo E t a).bind (fun x => (kpath E L n l x).bind (kdraw E L n (m + 1) j)) = some c := h1
    cases hk : kgo E t a with
    | none => rw [hk] at h1; cases h1
    | some a1 =>
      rw [hk] at h1
      have h1 : (kpath E L n l a1).bind (kdraw E L n (m + 1) j) = some c := h1
      cases hp : kpath E L n l a1 with
      | none => rw [hp] at h1; cases h1
      | some a2 =>
        rw [hp] at h1
        have h1 : kdraw E L n (m + 1) j a2 = some c := h1
        unfold kdraw at h1
        split at h1
        case h_2 => cases h1
        rename_i q f hf
        cases hb : Nat.beq q (m + 1) with
        | false => rw [hb] at h1; cases h1
        | true =>
          rw [hb] at h1
          simp only at h1
          split at h1
          case h_2 => cases h1
          rename_i e he
          cases h1
          exact ⟨a2, q, f, e, hp, hf, Nat.eq_of_beq_eq_true hb, he, h2⟩
  obtain ⟨c, q, f, _, hc, hf, rfl, _, _⟩ := all 0 (by omega)
  have all2 : ∀ j, j < m + 1 → ∃ e, f j = some e ∧ KTo E (krun E L n e) b := by
    intro j hj
    obtain ⟨c2, q2, f2, e, hc2, hf2, _, he, hk⟩ := all j hj
    rw [hc] at hc2
    cases hc2
    rw [hf] at hf2
    cases hf2
    exact ⟨e, he, hk⟩
  refine ⟨c, hc, ?_⟩
  intro N w0 base ρ mm hG hS
  obtain ⟨j, x, hj, hx, σ, m1, h1, h2, h3⟩ := forkK_sim ok hmix hG hS hf fun j hj => by
    obtain ⟨e, he, _⟩ := all2 j hj
    exact ⟨e, he⟩
  obtain ⟨e, he, hk⟩ := all2 j hj
  rw [hx] at he
  cases he
  obtain ⟨τ, m2, r1, r2, r3⟩ := ((krun_to ok hmix L n x).trans hk) N w0 base σ m1 (hG.mono h1) h3
  exact ⟨τ, m2, Ren.le_trans h1 r1, h2.trans r2, r3⟩

theorem KV.done {E : Env} (ok : EnvOK E) (hmix : E.P.follows .mixedOrders = true) {L n t : Nat} {a b : KS} (h : KV E L n t a [] b) : KTo E a b := by
  obtain ⟨c, h1, h2⟩ := h
  cases hk : kgo E t a with
  | none => rw [hk] at h1; cases h1
  | some a1 =>
    rw [hk] at h1
    have h1 : some a1 = some c := h1
    cases h1
    exact (KTo.go ok hmix hk).trans h2

/-! What is kept, told by the state that is written. -/

noncomputable def shapeT {α : Type} (t : Trie α) : MT :=
  Trie.rec (motive := fun _ => MT) .n (fun _ v _ il ir => Option.rec (motive := fun _ => MT) (.d il ir) (fun _ => .k il ir) v) t

noncomputable def heapK (b : KS) : AHeap :=
  KS.rec (motive := fun _ => AHeap) (fun _ _ _ _ _ _ H => H) (fun _ _ _ _ _ _ _ _ _ H => H) (fun _ _ H => H) (fun _ _ H => H) b

noncomputable def likeK (b a : KS) : Option KS := gcK (shapeT (heapK b).blks) (shapeT (heapK b).grps) a

def Part (E : Env) (n : Nat) (a b : KS) : Prop := (kgo E n a).bind (likeK b) = some b

theorem Part.to {E : Env} (ok : EnvOK E) (hmix : E.P.follows .mixedOrders = true) {n : Nat} {a b : KS} (h : Part E n a b) : KTo E a b := KTo.part ok hmix h

theorem KV.ofLike {E : Env} (ok : EnvOK E) (hmix : E.P.follows .mixedOrders = true) {L n t d k : Nat} {a b : KS} {l : List (Nat × Nat)} (h : ((kgo E t a).bind fun c => (kpath E L n l c).map fun c => (kall E L n d c).map (likeK b)) = some (List.replicate k (some b))) : KV E L n t a l b := KV.of ok hmix h

end Go.Ev

