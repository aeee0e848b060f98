import Derived.Test.YtcgbbglhbbhpdaaGreatDoorFaH
namespace Go.Ev
open Go.RowKit

/-- Which places of a tree are kept. -/
inductive MT where
  | n
  | k (l r : MT)
  | d (l r : MT)

section
variable {α : Type}
noncomputable def keepT (m : MT) : Trie α → Trie α :=
  MT.rec (motive := fun _ => Trie α → Trie α) (fun _ => .leaf)
    (fun _ _ il ir t => Trie.rec (motive := fun _ => Trie α) .leaf (fun l v r _ _ => .node (il l) v (ir r)) t)
    (fun _ _ il ir t => Trie.rec (motive := fun _ => Trie α) .leaf (fun l _ r _ _ => .node (il l) none (ir r)) t) m

theorem keepT_get : ∀ (m : MT) (t : Trie α) (i : Nat) {b : α}, (keepT m t).get i = some b → t.get i = some b
  | .n, t, i, b, h => by
    have h : (Trie.leaf : Trie α).get i = some b := h
    cases h
  | .k l r, .leaf, i, b, h => h
  | .d l r, .leaf, i, b, h => h
  | .k l r, .node tl v tr, i, b, h => by
    have h : (Trie.node (keepT l tl) v (keepT r tr)).get i = some b := h
    unfold Trie.get at h ⊢
    split
    · rename_i q; rw [if_pos q] at h; exact h
    · rename_i q
      rw [if_neg q] at h
      split
      · rename_i q2; rw [if_pos q2] at h; exact keepT_get l tl _ h
      · rename_i q2; rw [if_neg q2] at h; exact keepT_get r tr _ h
  | .d l r, .node tl v tr, i, b, h => by
    have h : (Trie.node (keepT l tl) none (keepT r tr)).get i = some b := h
    unfold Trie.get at h ⊢
    split
    · rename_i q; rw [if_pos q] at h; cases h
    · rename_i q
      rw [if_neg q] at h
      split
      · rename_i q2; rw [if_pos q2] at h; exact keepT_get l tl _ h
      · rename_i q2; rw [if_neg q2] at h; exact keepT_get r tr _ h

noncomputable def allT (p : α → Bool) (t : Trie α) : Bool :=
  Trie.rec (motive := fun _ => Bool) true (fun _ v _ il ir => Bool.rec (motive := fun _ => Bool) false (Bool.rec (motive := fun _ => Bool) false (Option.rec (motive := fun _ => Bool) true p v) ir) il) t

theorem allT_get (p : α → Bool) : ∀ (t : Trie α) (i : Nat) {b : α}, allT p t = true → t.get i = some b → p b = true
  | .leaf, i, b, _, h => by cases h
  | .node l v r, i, b, ha, h => by
    have ha : Bool.rec (motive := fun _ => Bool) false (Bool.rec (motive := fun _ => Bool) false (Option.rec (motive := fun _ => Bool) true p v) (allT p r)) (allT p l) = true := ha
    have hl : allT p l = true := by
      cases q : allT p l with
      | true => rfl
      | false => rw [q] at ha; cases ha
    rw [hl] at ha
    simp only at ha
    have hr : allT p r = true := by
      cases q : allT p r with
      | true => rfl
      | false => rw [q] at ha; cases ha
    rw [hr] at ha
    simp only at ha
    unfold Trie.get at h
    split at h
    · subst h; exact ha
    · split at h
      · exact allT_get p l _ hl h
      · exact allT_get p r _ hr h
end

/-- Its group is there. -/
noncomputable def rooted (G : Trie Grp) (b : ABlk) : Bool := Bool.rec (motive := fun _ => Bool) (Option.rec (motive := fun _ => Bool) false (fun _ => true) (G.getF b.root)) true b.ro

/-- The heap, without what is not kept. -/
noncomputable def gcH (m1 m2 : MT) (H : AHeap) : Option AHeap :=
  Bool.rec (motive := fun _ => Option AHeap) none (some { next := H.next, blks := keepT m1 H.blks, grps := keepT m2 H.grps }) (allT (rooted (keepT m2 H.grps)) (keepT m1 H.blks))

theorem HR.gc {N : Nat} {w0 : Base} {ρ : Ren} {H H' : AHeap} {w : World} {m1 m2 : MT} (h : HR N w0 ρ H w) (hg : gcH m1 m2 H = some H') : HR N w0 ρ H' w := by
  unfold gcH at hg
  cases ha : allT (rooted (keepT m2 H.grps)) (keepT m1 H.blks) with
  | false => rw [ha] at hg; cases hg
  | true =>
    rw [ha] at hg
    cases hg
    have hb : ∀ i b, AHeap.blk { next := H.next, blks := keepT m1 H.blks, grps := keepT m2 H.grps } i = some b → H.blk i = some b := fun i b q => keepT_get m1 _ i q
    refine ⟨h.n, h.base, h.below, h.lt, fun i b q => h.dom i b (hb i b q), fun i b c e fr ho q => h.cells i b c e fr ho (hb i b q), fun i b ho q => h.objs i b ho (hb i b q),
      fun i b ho q => h.own i b ho (hb i b q), fun i b ho q => h.old i b ho (hb i b q), fun i j bi bj ho hoj qi qj => h.sep i j bi bj ho hoj (hb i bi qi) (hb j bj qj), ?_, fun i b q => h.root i b (hb i b q), h.off⟩
    intro i b ho q hro hc
    obtain ⟨g, hg, hm⟩ := h.grp i b ho (hb i b q) hro hc
    have hr := allT_get _ _ i ha q
    unfold rooted at hr
    rw [hro] at hr
    simp only at hr
    rw [Trie.getF_eq] at hr
    cases hq : (keepT m2 H.grps).get b.root with
    | none => rw [hq] at hr; cases hr
    | some g2 =>
      have := keepT_get m2 _ _ hq
      have hg' : H.grps.get b.root = some g := hg
      rw [this] at hg'
      cases hg'
      exact ⟨g, hq, hm⟩

noncomputable def gcK (m1 m2 : MT) (ks : KS) : Option KS :=
  KS.rec (motive := fun _ => Option KS) (fun x fn n tm todo cs H => Option.rec (motive := fun _ => Option KS) none (fun H' => some (.k x fn n tm todo cs H')) (gcH m1 m2 H))
    (fun x fn n tm todo ops listed lag cs H => Option.rec (motive := fun _ => Option KS) none (fun H' => some (.d x fn n tm todo ops listed lag cs H')) (gcH m1 m2 H))
    (fun fr cs H => Option.rec (motive := fun _ => Option KS) none (fun H' => some (.a fr cs H')) (gcH m1 m2 H))
    (fun fn v H => some (.done fn v H)) ks

/-- From a state to another one, whatever world stands behind. -/
def KTo (E : Env) (a b : KS) : Prop := ∀ (N : Nat) (w0 : World) (base : List Frame) (ρ : Ren) (m : Machine), GR E.G ρ → KSim E N w0 base ρ a m → KGoes E N w0 base ρ b m

theorem KTo.trans {E : Env} {a b c : KS} (h : KTo E a b) (k : KTo E b c) : KTo E a c := by
  intro N w0 base ρ m hG hS
  obtain ⟨σ, m1, h1, h2, h3⟩ := h N w0 base ρ m hG hS
  obtain ⟨τ, m2, h4, h5, h6⟩ := k N w0 base σ m1 (hG.mono h1) h3
  exact ⟨τ, m2, Ren.le_trans h1 h4, h2.trans h5, h6⟩

theorem KTo.go {E : Env} (ok : EnvOK E) (hmix : E.P.follows .mixedOrders = true) {a b : KS} {n : Nat} (h : kgo E n a = some b) : KTo E a b :=
  fun _ _ _ _ _ hG hS => kgo_sim ok hmix n hG hS h

theorem KTo.gc {E : Env} {a b : KS} {m1 m2 : MT} (h : gcK m1 m2 a = some b) : KTo E a b := by
  intro N w0 base ρ m hG hS
  refine ⟨ρ, m, Ren.le_refl _, .refl _ _, ?_⟩
  cases a with
  | k x fn n tm todo cs H =>
    have h : Option.rec (motive := fun _ => Option KS) none (fun H' => some (.k x fn n tm todo cs H')) (gcH m1 m2 H) = some b := h
    cases hg : gcH m1 m2 H with
    | none => rw [hg] at h; cases h
    | some H' =>
      rw [hg] at h
      cases h
      obtain ⟨hc, fr', cs', w, q1, q2, q3, q4⟩ := hS
      exact ⟨hc, fr', cs', w, q1, q2, q3, HR.gc (w0 := bare w0) q4 hg⟩
  | d x fn n tm todo ops listed lag cs H =>
    have h : Option.rec (motive := fun _ => Option KS) none (fun H' => some (.d x fn n tm todo ops listed lag cs H')) (gcH m1 m2 H) = some b := h
    cases hg : gcH m1 m2 H with
    | none => rw [hg] at h; cases h
    | some H' =>
      rw [hg] at h
      cases h
      obtain ⟨hc, fr', cs', w, q1, q2, q3, q4⟩ := hS
      exact ⟨hc, fr', cs', w, q1, q2, q3, HR.gc (w0 := bare w0) q4 hg⟩
  | a fr cs H =>
    have h : Option.rec (motive := fun _ => Option KS) none (fun H' => some (.a fr cs H')) (gcH m1 m2 H) = some b := h
    cases hg : gcH m1 m2 H with
    | none => rw [hg] at h; cases h
    | some H' =>
      rw [hg] at h
      cases h
      obtain ⟨hc, fr', cs', w, q1, q2, q3, q4⟩ := hS
      exact ⟨hc, fr', cs', w, q1, q2, q3, HR.gc (w0 := bare w0) q4 hg⟩
  | done fn v H => cases h; exact hS

/-- A part of a run, and what is kept behind it. -/
theorem KTo.part {E : Env} (ok : EnvOK E) (hmix : E.P.follows .mixedOrders = true) {a b : KS} {n : Nat} {m1 m2 : MT} (h : (kgo E n a).bind (gcK m1 m2) = some b) : KTo E a b := by
  cases hk : kgo E n a with
  | none => rw [hk] at h; cases h
  | some c =>
    rw [hk] at h
    exact (KTo.go ok hmix hk).trans (KTo.gc h)

/-- What the fast machine comes to in parts, a call comes to. -/
theorem KTo.calls {E : Env} (ok : EnvOK E) (hmix : E.P.follows .mixedOrders = true) {N : Nat} {w0 : World} {ρ : Ren} (hG : GR E.G ρ) {w : World} {H : AHeap} (hH : HR N (bare w0) ρ H w) {f : FuncId} {args : List Value} {x' : Array Value} (hx : AsR ρ ⟨args⟩ x') {ks : KS} (hst : startK E f args H = some ks)
    {v : Value} {H' : AHeap} (hrun : KTo E ks (.done f v H')) : Calls E.P f x' w (fun e w' => ∃ σ v', e = .returned v' ∧ ρ.le σ ∧ VR σ v v' ∧ HR N (bare w0) σ H' w') := by
  intro cs
  have hent : ∃ todo m, ks = .k nx f m (TT.ofArgs args) todo [] H ∧ enterA E.P f ⟨args⟩ .normal = some (kA nx f m (TT.ofArgs args) todo) := by
    have : ∃ ks2, enterK E (.a (kA nx f 0 .nil [])) f args [] H = some ks2 := by
      unfold startK at hst
      unfold enterK
      split at hst
      case h_2 => cases hst
      rename_i todo m he
      rw [he]
      simp only
      cases hb : Nat.ble (lenL args) m with
      | false => rw [hb] at hst; cases hst
      | true => exact ⟨_, rfl⟩
    obtain ⟨ks2, h2⟩ := this
    obtain ⟨todo, m, he, h3⟩ := enterK_spec h2
    refine ⟨todo, m, ?_, h3⟩
    unfold startK at hst
    unfold enterK at h2
    split at hst
    case h_2 => cases hst
    rename_i todo2 m2 he2
    rw [he2] at h2
    simp only at h2
    cases hb : Nat.ble (lenL args) m2 with
    | false => rw [hb] at hst; cases hst
    | true =>
      rw [hb] at hst h2
      cases hst
      cases h2
      cases he
      rfl
  obtain ⟨todo, q, rfl, hent⟩ := hent
  have hS : KSim E N w0 cs ρ (.k nx f q (TT.ofArgs args) todo [] H) (lone (Frame.enter E.P f x' .normal) cs w) := ⟨(by simp), _, [], w, rfl, FR.enter hx hent, trivial, hH⟩
  obtain ⟨σ, m', h1, h2, st, h3, h4, rfl, h5⟩ := hrun N w0 cs ρ _ hG hS
  have har : arun E f 1 st = some (v, st.H) := by
    unfold arun
    rw [if_pos h3, h4]
    rfl
  obtain ⟨τ, fr2, w', v', q1, q2, q3, q4, q5, q6⟩ := arun_sim ok hmix 1 (hG.mono h1) h5 har
  exact ⟨.returned v', w', fr2, ⟨τ, v', rfl, Ren.le_trans h1 q1, q5, q6⟩, h2.trans q2, q3, q4⟩

/-- A place in a text: what is to be done from there on. -/
noncomputable def cont : List Nat → Code → List Item → List Item
  | [], c, k => .code c :: k
  | j :: p, c, k => match c with
    | .seq a b => (match j with
      | 0 => cont p a (.code b :: k)
      | _ => cont p b k)
    | .block id body => cont p body (.inBlock id :: k)
    | .loop body => cont p body (.inLoop body :: k)
    | .scope body => cont p body (.inScope body :: k)
    | .cond _ a b => (match j with
      | 0 => cont p a k
      | _ => cont p b k)
    | c => .code c :: k

noncomputable def tdAt (E : Env) (f : Nat) (p : List Nat) : List Item := match E.P.funcs[f]? with
  | some fn => (match fn.body with
    | some c => cont p c []
    | none => [])
  | none => []
noncomputable def opsAt (E : Env) (f : Nat) (p : List Nat) : Array Oper := match tdAt E f p with
  | .code (.region _ ops _) :: _ => ops
  | _ => #[]
noncomputable def kAt (E : Env) (f : Nat) (p : List Nat) : List Item := match tdAt E f p with
  | _ :: k => k
  | [] => []

namespace Tx
/-! Short names, for states that are written out. -/
abbrev T : Value := .bool true
abbrev F : Value := .bool false
abbrev I (n : Nat) : Value := .int .i64 (.ofNat n)
abbrev B (n : Nat) : Value := .int .u8 (.ofNat n)
abbrev S (l : List Nat) : Value := .string ⟨⟨l.map UInt8.ofNat⟩⟩
abbrev P0 : Value := .pointer none
abbrev P (b o : Nat) : Value := .pointer (some ⟨b, o, none⟩)
abbrev L0 : Value := .slice none 0 0
abbrev L (b o n c : Nat) : Value := .slice (some ⟨b, o, none⟩) n c
abbrev U : Value := undef
abbrev Z : TT := .nil
abbrev ZU : TT := .node .nil undef .nil
abbrev W (v : Value) : TT := .node .nil v .nil
abbrev X (l r : TT) : TT := .node l undef r
abbrev Y (l : TT) (v : Value) (r : TT) : TT := .node l v r
section
variable {α : Type}
abbrev O : Trie α := .leaf
abbrev R (r : Trie α) : Trie α := .node .leaf none r
abbrev J (l : Trie α) : Trie α := .node l none .leaf
abbrev N (l r : Trie α) : Trie α := .node l none r
abbrev V (v : α) : Trie α := .node .leaf (some v) .leaf
end
abbrev K : MT := .k .n .n
abbrev A (r : MT) : MT := .d .n r
abbrev C (l : MT) : MT := .d l .n
abbrev D (l r : MT) : MT := .d l r
end Tx

end Go.Ev
