import Derived.Test.YtmkapmbmgpnjaaaEvF
namespace Go.Ev
open Go.RowKit

section
variable {P : Program} {ρ : Ren}

theorem dead_runtimePanic {α : Type} {e : RuntimeError} (h : match e with | .bounds .. | .error _ | .plain _ | .nilDeref => True | _ => False) (H : AHeap) : absRun P (Go.runtimePanic e : Sem α) H = none := by
  cases e <;> first | exact h.elim | rfl

theorem dead_boundsPanic {α : Type} (k : IntKind) (x y : Int) (c : BoundsCode) (H : AHeap) : absRun P (Go.boundsPanic k x y c : Sem α) H = none := by
  unfold Go.boundsPanic
  by_cases h : (k != IntKind.u64 && decide (0 ≤ x) && decide (x ≤ 31)) = true
  · simp only [h, if_true]; rfl
  · simp only [h]; rfl

theorem ES.sliceBound {v v' : Value} (h : VR ρ v v') {y y' : Nat} (hy : y ≤ y') (c : BoundsCode) :
    SR P (fun _ a b => a = b ∧ a ≤ y ∧ ∃ k, v = .int k a) ρ (Instr.sliceBound v y c) (Instr.sliceBound v' y' c) := by
  cases h with
  | int k i =>
    show SR P _ ρ (if 0 ≤ i ∧ i ≤ y then Pure.pure i.toNat else Go.boundsPanic k i y c) (if 0 ≤ i ∧ i ≤ y' then Pure.pure i.toNat else Go.boundsPanic k i y' c)
    by_cases hi : 0 ≤ i ∧ i ≤ y
    · rw [if_pos hi, if_pos ⟨hi.1, by omega⟩]
      refine .ret ⟨rfl, by omega, k, ?_⟩
      congr 1
      omega
    · rw [if_neg hi]
      exact .dead fun H => dead_boundsPanic _ _ _ _ H
  | _ => exact .dead fun H => rfl

def OptR (ρ : Ren) (v v' : Option Value) : Prop := (v = none ∧ v' = none) ∨ ∃ u u', v = some u ∧ v' = some u' ∧ VR ρ u u'

theorem OptR.mono {ρ σ : Ren} (h : ρ.le σ) {v v' : Option Value} (k : OptR ρ v v') : OptR σ v v' := by
  rcases k with k | ⟨u, u', h1, h2, h3⟩
  · exact .inl k
  · exact .inr ⟨u, u', h1, h2, h3.mono h⟩

theorem ES.sliceBounds (b : Bool) (n : Nat) {cap cap' : Nat} (hn : n ≤ cap) (hc : cap ≤ cap') {low low' high high' mx mx' : Option Value}
    (hl : OptR ρ low low') (hh : OptR ρ high high') (hm : OptR ρ mx mx') :
    SR P (fun _ p q => p.1 = q.1 ∧ p.2.1 = q.2.1 ∧ p.1 ≤ p.2.1 ∧ p.2.1 ≤ p.2.2 ∧ ((p.2.2 = q.2.2 ∧ p.2.2 ≤ cap) ∨ (p.2.2 = cap ∧ q.2.2 = cap')) ∧ (low = none → p.1 = 0) ∧ (∀ u, low = some u → ∃ k, u = .int k p.1)) ρ
      (Instr.sliceBounds b n cap low high mx) (Instr.sliceBounds b n cap' low' high' mx') := by
  unfold Instr.sliceBounds
  have key : ∀ {σ : Ren} (m m' : Nat), ρ.le σ → ((m = m' ∧ m ≤ cap) ∨ (m = cap ∧ m' = cap')) → m ≤ m' → (mx = none → n ≤ m) → SR P (fun _ p q => p.1 = q.1 ∧ p.2.1 = q.2.1 ∧ p.1 ≤ p.2.1 ∧ p.2.1 ≤ p.2.2 ∧ ((p.2.2 = q.2.2 ∧ p.2.2 ≤ cap) ∨ (p.2.2 = cap ∧ q.2.2 = cap')) ∧ (low = none → p.1 = 0) ∧ (∀ u, low = some u → ∃ k, u = .int k p.1)) σ
      (do
        let h ← match high, mx with
          | some v, some _ => Instr.sliceBound v m .slice3B
          | some v, none => Instr.sliceBound v m (if b then .sliceAcap else .sliceAlen)
          | none, none => Pure.pure n
          | none, some _ => Go.stuck "Slice: max without high"
        let l ← match low with
          | some v => Instr.sliceBound v h (if mx.isSome then .slice3C else .sliceB)
          | none => Pure.pure 0
        Pure.pure (l, h, m)) (do
        let h ← match high', mx' with
          | some v, some _ => Instr.sliceBound v m' .slice3B
          | some v, none => Instr.sliceBound v m' (if b then .sliceAcap else .sliceAlen)
          | none, none => Pure.pure n
          | none, some _ => Go.stuck "Slice: max without high"
        let l ← match low' with
          | some v => Instr.sliceBound v h (if mx'.isSome then .slice3C else .sliceB)
          | none => Pure.pure 0
        Pure.pure (l, h, m')) := by
    intro σ m m' hle hmm hle2 hnm
    have tail : ∀ {τ : Ren} (h : Nat), σ.le τ → h ≤ m → SR P (fun _ p q => p.1 = q.1 ∧ p.2.1 = q.2.1 ∧ p.1 ≤ p.2.1 ∧ p.2.1 ≤ p.2.2 ∧ ((p.2.2 = q.2.2 ∧ p.2.2 ≤ cap) ∨ (p.2.2 = cap ∧ q.2.2 = cap')) ∧ (low = none → p.1 = 0) ∧ (∀ u, low = some u → ∃ k, u = .int k p.1)) τ
        (do
          let l ← match low with
            | some v => Instr.sliceBound v h (if mx.isSome then .slice3C else .sliceB)
            | none => Pure.pure 0
          Pure.pure (l, h, m)) (do
          let l ← match low' with
            | some v => Instr.sliceBound v h (if mx'.isSome then .slice3C else .sliceB)
            | none => Pure.pure 0
          Pure.pure (l, h, m')) := by
      intro τ h hle3 hh
      have emx : mx.isSome = mx'.isSome := by
        rcases hm with ⟨h1, h2⟩ | ⟨u, u', h1, h2, _⟩ <;> simp [h1, h2]
      rcases (hl.mono hle).mono hle3 with ⟨h1, h2⟩ | ⟨u, u', h1, h2, hu⟩
      · subst h1 h2
        exact .ret ⟨rfl, rfl, Nat.zero_le _, hh, hmm, fun _ => rfl, fun u hu => by cases hu⟩
      · subst h1 h2
        simp only [emx]
        refine SR.bind (ES.sliceBound hu (Nat.le_refl h) _) fun υ a b hle4 hab => ?_
        obtain ⟨rfl, hab, k, hk⟩ := hab
        exact .ret ⟨rfl, rfl, hab, hh, hmm, (fun q => by cases q), fun w hw => by cases hw; exact ⟨k, hk⟩⟩
    rcases hh.mono hle with ⟨h1, h2⟩ | ⟨u, u', h1, h2, hu⟩
    · subst h1 h2
      rcases hm with ⟨h1, h2⟩ | ⟨v, v', h1, h2, _⟩
      · subst h1 h2
        exact tail n (Ren.le_refl _) (hnm rfl)
      · subst h1 h2
        exact .dead fun H => rfl
    · subst h1 h2
      rcases hm with ⟨h1, h2⟩ | ⟨v, v', h1, h2, _⟩
      · subst h1 h2
        refine SR.bind (ES.sliceBound hu hle2 _) fun υ a b hle4 hab => ?_
        obtain ⟨rfl, hab, _⟩ := hab
        exact tail a hle4 hab
      · subst h1 h2
        refine SR.bind (ES.sliceBound hu hle2 _) fun υ a b hle4 hab => ?_
        obtain ⟨rfl, hab, _⟩ := hab
        exact tail a hle4 hab
  rcases hm with ⟨h1, h2⟩ | ⟨v, v', h1, h2, hv⟩
  · subst h1 h2
    exact key cap cap' (Ren.le_refl _) (.inr ⟨rfl, rfl⟩) hc (fun _ => hn)
  · subst h1 h2
    refine SR.bind (ES.sliceBound hv hc _) fun υ a b hle4 hab => ?_
    obtain ⟨rfl, hab, _⟩ := hab
    exact key a a hle4 (.inl ⟨rfl, hab⟩) (Nat.le_refl _) (fun q => by cases q)

def sliceGuard (P : Program) (t : TypeId) (sz len cap : Nat) (low : Option Value) : Bool :=
  decide (len ≤ cap) && (sz == 0 || ((match P.underlying t with
    | some (.slice e) => (match P.info? e with | some i => decide (i.size ≤ sz) | none => false)
    | _ => false) && (match low with | none => true | some (.int _ l) => decide (l = 0 ∨ l < cap) | _ => false)))

theorem VS.slice {t : TypeId} {v v' : Value} (h : VR ρ v v') {low low' high high' mx mx' : Option Value} (hl : OptR ρ low low') (hh : OptR ρ high high') (hm : OptR ρ mx mx')
    (hg : ∀ a n c, v = .slice (some a) n c → sliceGuard P t (ρ.f a.block).sz n c low = true) (hg0 : ∀ n c, v = .slice none n c → n ≤ c) :
    SR P VR ρ (Instr.slice t v low high mx) (Instr.slice t v' low' high' mx') := by
  unfold Instr.slice
  refine SR.bind (ES.underlying t) fun σ d _ hle hd => ?_
  obtain ⟨rfl, hd⟩ := hd
  have hv := h.mono hle
  have hl := hl.mono hle
  have hh := hh.mono hle
  have hm := hm.mono hle
  cases d with
  | string =>
    cases hv with
    | string s =>
      simp only
      have ems : mx.isSome = mx'.isSome := by rcases hm with ⟨h1, h2⟩ | ⟨_, _, h1, h2, _⟩ <;> rw [h1, h2] <;> rfl
      rw [← ems]
      split
      · exact .dead fun H => rfl
      · refine SR.bind (ES.sliceBounds false _ (Nat.le_refl _) (Nat.le_refl _) hl hh (.inl ⟨rfl, rfl⟩)) fun τ p q _ hpq => ?_
        obtain ⟨h1, h2, _⟩ := hpq
        obtain ⟨p1, p2, p3⟩ := p
        obtain ⟨q1, q2, q3⟩ := q
        simp only at h1 h2
        subst h1 h2
        exact .ret (.string _)
    | _ => exact .stuck _
  | slice e =>
    cases hv with
    | snone n c =>
      simp only
      refine SR.bind (ES.sliceBounds true n (hg0 n c rfl) (Nat.le_refl _) hl hh hm) fun τ p q _ hpq => ?_
      obtain ⟨p1, p2, p3⟩ := p
      obtain ⟨q1, q2, q3⟩ := q
      obtain ⟨h1, h2, _, _, h3, _⟩ := hpq
      simp only at h1 h2 h3
      have h4 : p3 = q3 := by omega
      subst h1 h2 h4
      refine SR.bind (ES.sizeOf e) fun υ k _ _ hk => ?_
      obtain ⟨rfl, -⟩ := hk
      by_cases q : p3 = p1 <;> simp only [q, if_true, if_false, Option.map_none] <;> exact .ret (.snone _ _)
    | @ssome a a' n c c' hs =>
      simp only
      have hgg := hg a n c rfl
      unfold sliceGuard at hgg
      simp only [Bool.and_eq_true, decide_eq_true_eq] at hgg
      obtain ⟨hnc, hgg⟩ := hgg
      refine SR.bind (ES.sliceBounds true n hnc hs.2.1 hl hh hm) fun τ p q hle2 hpq => ?_
      obtain ⟨p1, p2, p3⟩ := p
      obtain ⟨q1, q2, q3⟩ := q
      obtain ⟨h1, h2, h5, h6, h3, h7, h8⟩ := hpq
      simp only at h1 h2 h3 h5 h6 h7 h8
      subst h1 h2
      refine SR.bind (ES.sizeOf e) fun υ k _ hle3 hk => ?_
      obtain ⟨rfl, i, hi, hik⟩ := hk
      have hs := (hs.mono hle2).mono hle3
      obtain ⟨ha, hc1, hc2⟩ := hs
      have hbl : (υ.f a.block).sz = (ρ.f a.block).sz := by
        have h0 : ρ.on a.block := by
          cases h with
          | ssome hs0 => exact hs0.1.1
        rw [((Ren.le_trans (Ren.le_trans hle hle2) hle3).2 _ h0).2]
      -- the capacities
      by_cases heq : p3 = q3
      · subst heq
        by_cases q : p3 = p1
        · simp only [q, if_true]
          exact .ret (.ssome ⟨ha, Nat.le_refl _, .inl rfl⟩)
        · simp only [q, if_false, Option.map_some]
          exact .ret (.ssome ⟨ha.add _, Nat.le_refl _, .inl rfl⟩)
      · have hcc : p3 = c ∧ q3 = c' := by omega
        obtain ⟨rfl, rfl⟩ := hcc
        rcases hc2 with hc2 | ⟨hz, hroom⟩
        · exact absurd hc2.symm heq
        · have hz' : ¬ ((ρ.f a.block).sz == 0) = true := by
            intro q
            have : (ρ.f a.block).sz = 0 := by simpa using q
            omega
          simp only [Bool.or_eq_true, Bool.and_eq_true] at hgg
          rcases hgg with hgg | ⟨hgs, hgl⟩
          · exact absurd hgg hz'
          · rw [hd] at hgs
            simp only [hi, decide_eq_true_eq] at hgs
            have hl0 : p1 = 0 ∨ p1 < p3 := by
              cases low with
              | none => exact .inl (h7 rfl)
              | some u =>
                obtain ⟨kk, hu⟩ := h8 u rfl
                subst hu
                simp only [decide_eq_true_eq] at hgl
                omega
            have hnl : ¬ q3 = p1 ∨ p1 = 0 := by omega
            have hsz : p1 * k ≤ p1 * (υ.f a.block).sz := Nat.mul_le_mul_left _ (by omega)
            have hmul : (q3 - p1) * (υ.f a.block).sz + p1 * (υ.f a.block).sz = q3 * (υ.f a.block).sz := by
              rw [← Nat.add_mul, Nat.sub_add_cancel (by omega)]
            have hadd : (a'.add (p1 * k)).off = a'.off + p1 * k := by
              unfold Addr.add
              by_cases q : p1 * k = 0
              · rw [if_pos q, q]; rfl
              · rw [if_neg q]
            have hres : VR υ (.slice (some (a.add (p1 * k))) (p2 - p1) (p3 - p1)) (.slice (some (a'.add (p1 * k))) (p2 - p1) (q3 - p1)) := by
              refine .ssome ⟨ha.add _, by omega, .inr ?_⟩
              have hb2 : (a.add (p1 * k)).block = a.block := by unfold Addr.add; split <;> rfl
              rw [hb2]
              refine ⟨hz, ?_⟩
              rw [hadd]
              omega
            have e1 : (if p3 = p1 then some a else Option.map (fun x => x.add (p1 * k)) (some a)) = some (a.add (p1 * k)) := by
              split
              · have : p1 = 0 := by omega
                simp [this, Addr.add]
              · rfl
            have e2 : (if q3 = p1 then some a' else Option.map (fun x => x.add (p1 * k)) (some a')) = some (a'.add (p1 * k)) := by
              split
              · have : p1 = 0 := by omega
                simp [this, Addr.add]
              · rfl
            rw [e1, e2]
            exact .ret hres
    | _ => exact .stuck _
  | pointer arr =>
    have ems : SR P AR σ (Go.asAddr v) (Go.asAddr v') := by
      cases hv with
      | psome ha => exact .ret ha
      | pnone => exact .dead fun H => rfl
      | _ => exact .stuck _
    have go : SR P VR σ (do
        let a ← Go.asAddr v
        let .array n elem ← Go.underlying arr | Go.stuck "Slice: array type expected"
        let (l, h, m) ← Instr.sliceBounds false n n low high mx
        let size ← Go.sizeOf elem
        Pure.pure (.slice (some (if m = l then a else a.add (l * size))) (h - l) (m - l))) (do
        let a ← Go.asAddr v'
        let .array n elem ← Go.underlying arr | Go.stuck "Slice: array type expected"
        let (l, h, m) ← Instr.sliceBounds false n n low' high' mx'
        let size ← Go.sizeOf elem
        Pure.pure (.slice (some (if m = l then a else a.add (l * size))) (h - l) (m - l))) := by
      refine SR.bind ems fun τ a a' hle2 ha => ?_
      refine SR.bind (ES.underlying arr) fun υ d _ hle3 hd => ?_
      obtain ⟨rfl, -⟩ := hd
      cases d <;> first | exact .stuck _ | skip
      rename_i n elem
      simp only
      refine SR.bind (ES.sliceBounds false n (Nat.le_refl _) (Nat.le_refl _) ((hl.mono hle2).mono hle3) ((hh.mono hle2).mono hle3) ((hm.mono hle2).mono hle3)) fun φ p q hle4 hpq => ?_
      obtain ⟨p1, p2, p3⟩ := p
      obtain ⟨q1, q2, q3⟩ := q
      obtain ⟨h1, h2, _, _, h3, _⟩ := hpq
      simp only at h1 h2 h3
      have h4 : p3 = q3 := by omega
      subst h1 h2 h4
      refine SR.bind (ES.sizeOf elem) fun ψ k _ hle5 hk => ?_
      obtain ⟨rfl, -⟩ := hk
      have ha := ((ha.mono hle3).mono hle4).mono hle5
      by_cases q : p3 = p1
      · simp only [q, if_true]; exact .ret (VR.freshSlice ha _ _)
      · simp only [q, if_false]; exact .ret (VR.freshSlice (ha.add _) _ _)
    cases hv <;> exact go
  | _ => exact .stuck _

end
end Go.Ev
