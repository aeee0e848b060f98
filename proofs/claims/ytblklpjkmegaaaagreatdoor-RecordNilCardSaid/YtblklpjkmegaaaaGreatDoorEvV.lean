import Derived.Test.YtblklpjkmegaaaaGreatDoorEvU
namespace Go.Ev
open Go.RowKit

section
variable {E : Env} {N : Nat} {w0 : Base} {ρ : Ren} {H : AHeap} {w : World}

/-- Two slots that are the same. -/
def TmpR (ρ : Ren) (x x' : Array Value) (t : Tmp) : Prop := ∀ v v', x[t]? = some v → x'[t]? = some v' → VR ρ v v'

theorem TmpR.getD {x x' : Array Value} (hs : x'.size = x.size) {t : Tmp} (h : TmpR ρ x x' t) : VR ρ (x.getD t undef) (x'.getD t undef) := by
  rw [Array.getD_eq_getD_getElem?, Array.getD_eq_getD_getElem?]
  cases q : x[t]? with
  | none =>
    have : x'[t]? = none := by rw [Array.getElem?_eq_none_iff] at *; omega
    rw [this]
    exact VR.undef ρ
  | some v =>
    have hlt := (Array.getElem?_eq_some_iff.1 q).1
    obtain ⟨v', hv'⟩ : ∃ v', x'[t]? = some v' := ⟨_, Array.getElem?_eq_getElem (show t < x'.size by rw [hs]; exact hlt)⟩
    rw [hv']
    exact h v v' q hv'

theorem evalT_rel' {G : Nat} {ρ : Ren} (hG : GR G ρ) {x x' : Array Value} {o : Operand} (h : ∀ t, o = .tmp t → VR ρ (x.getD t undef) (x'.getD t undef)) (ho : okOperand G o = true) : VR ρ (evalT x o) (evalT x' o) := by
  cases o with
  | tmp t => exact h t rfl
  | const v => exact plainV.sound ρ 20 v ho
  | global g =>
    have hg : g < G := by simpa [okOperand] using ho
    obtain ⟨h1, h2, h3⟩ := hG g hg
    exact .psome ⟨h1, h2.symm, by simp only; omega, rfl⟩
  | func f => exact .func rfl rfl (by simp) rfl (by simp)

theorem mem_looks {ops : Array Oper} {o : Oper} {t : Tmp} (h : Operand.tmp t ∈ o.op.operands) : t ∈ o.looksAt ops := by
  unfold Oper.looksAt
  rw [List.mem_append, List.mem_filterMap]
  exact .inl ⟨.tmp t, Array.mem_toList_iff.2 h, rfl⟩

/-- Whether a guarded operation is carried out is the same. -/
theorem wanted_rel {ops : Array Oper} {tmps tmps' : Array Value} {o : Oper} {b : Bool} (hs : tmps'.size = tmps.size) (h : ∀ t ∈ o.looksAt ops, TmpR ρ tmps tmps' t) (hw : wantedA ops tmps o = some b) :
    Region.wanted o (yielded ops tmps') = b := by
  unfold wantedA at hw
  unfold Region.wanted
  cases hg : o.guard with
  | none => rw [hg] at hw; cases hw; rfl
  | some g =>
    obtain ⟨j, want⟩ := g
    rw [hg] at hw
    simp only at hw ⊢
    unfold yielded
    cases hd : (ops[j]?).bind (·.dst) with
    | none => rw [hd] at hw; cases hw
    | some t =>
      rw [hd] at hw
      simp only [Option.bind_some] at hw ⊢
      have ht : t ∈ o.looksAt ops := by
        unfold Oper.looksAt
        rw [List.mem_append]
        refine .inr ?_
        rw [hg]
        simp only [hd, Option.toList_some, List.mem_singleton]
      cases hv : tmps[t]? with
      | none => rw [hv] at hw; cases hw
      | some v =>
        rw [hv] at hw
        have hlt := (Array.getElem?_eq_some_iff.1 hv).1
        obtain ⟨v', hv'⟩ : ∃ v', tmps'[t]? = some v' := ⟨_, Array.getElem?_eq_getElem (show t < tmps'.size by rw [hs]; exact hlt)⟩
        have hr := h t ht v v' hv hv'
        rw [hv']
        cases v with
        | bool c => cases hr; cases hw; cases c <;> cases want <;> rfl
        | tuple vs =>
          simp only at hw
          split at hw
          · rename_i he
            cases hw
            have he : vs = #[] := by simpa using he
            subst he
            generalize hq : (Value.tuple #[]) = u at hr
            cases hr <;> first | (cases hq; done) | skip
            rfl
          · cases hw
        | _ => cases hw

theorem Lag.looks {ops : Array Oper} {la lc : Array Bool} {lag : List Nat} {fuel : Nat} {tmps tmps' : Array Value} (L : Lag E.P ρ ops la lc lag fuel tmps tmps')
    {x : Nat} (hx : x ∈ lag) (hr : x ∈ Region.ready .any ops lc) {t : Tmp} (ht : t ∈ looksOf ops x) : TmpR ρ tmps tmps' t := by
  intro v v' h1 h2
  rcases L.agree t v v' h1 h2 with h | ⟨j, hj, hl, hd⟩
  · exact h
  · by_cases q : x = j
    · subst q; exact absurd ht (L.self x hx t hd)
    · have hb := (L.pair x hx j hj q t hd).2 ht
      obtain ⟨_, o, ho, hdep⟩ := (mem_ready L.sc).1 hr
      exact absurd (isBefore_listed L.down _ _ _ (fun o' ho' => by rw [ho] at ho'; cases ho'; exact hdep) hb) hl

theorem finish_region {fr : Frame} {ops : Array Oper} {x : Nat} {rest : List Nat} {k : List Item} (ht : fr.todo = .inRegion ops (x :: rest) :: k) (v : Value) :
    fr.finish v = { fr with tmps := putT fr.tmps (dstOf ops x) v, todo := .inRegion ops rest :: k } := by
  simp only [Frame.finish, ht]
  rfl

theorem putT_size (x : Array Value) (d : Option Tmp) (v : Value) : (putT x d v).size = x.size := by
  cases d <;> simp [putT]

theorem putT_get {x : Array Value} {d : Option Tmp} {v u : Value} {t : Tmp} (h : (putT x d v)[t]? = some u) : (d = some t ∧ u = v) ∨ (d ≠ some t ∧ x[t]? = some u) := by
  cases d with
  | none => exact .inr ⟨(by intro e; cases e), h⟩
  | some d =>
    simp only [putT, Array.getElem?_setIfInBounds] at h
    by_cases q : d = t
    · subst q
      rw [if_pos rfl] at h
      split at h
      · cases h; exact .inl ⟨rfl, rfl⟩
      · cases h
    · rw [if_neg q] at h
      exact .inr ⟨(by intro e; cases e; exact q rfl), h⟩

theorem Lag.put {ops : Array Oper} {la lc : Array Bool} {lag : List Nat} {fuel : Nat} {tmps tmps' : Array Value} (L : Lag E.P ρ ops la lc lag fuel tmps tmps')
    {σ : Ren} (hle : ρ.le σ) {x : Nat} (hx : x ∈ lag) (hr : x ∈ Region.ready .any ops lc) {v' : Value} (hv : ∀ d u, dstOf ops x = some d → tmps[d]? = some u → VR σ u v')
    (hk : ∀ j ∈ lag, j ≠ x → lc[j]? ≠ some true → ∀ b, madeBlk E.P ops tmps j = some b → b < σ.n ∧ ¬ σ.on b) :
    ∃ f, fuel = f + 1 ∧ Lag E.P σ ops la (lc.setIfInBounds x true) lag f tmps (putT tmps' (dstOf ops x) v') := by
  obtain ⟨h0, o, ho, hdep⟩ := (mem_ready L.sc).1 hr
  have hlt := (Array.getElem?_eq_some_iff.1 h0).1
  obtain ⟨f, hf, hf2⟩ := fuel_dec h0 L.sc L.fuel
  have hset : ∀ (i : Nat), (lc.setIfInBounds x true)[i]? = if i = x then some true else lc[i]? := fun i => getElem?_set_true hlt
  have hmono : ∀ (i : Nat), lc[i]? = some true → (lc.setIfInBounds x true)[i]? = some true := by
    intro i hi; rw [hset]; split
    · rfl
    · exact hi
  refine ⟨f, hf, L.sa, by rw [Array.size_setIfInBounds]; exact L.sc, ?_, ?_, L.lagA, ?_, hf2, by rw [putT_size]; exact L.size, ?_, ?_, L.self, L.pair, ?_⟩
  · intro i hi
    rw [hset] at hi
    split at hi
    · rename_i q; subst q; exact L.lagA _ hx
    · exact L.sub i hi
  · intro i hi
    rcases L.cov i hi with h | h
    · exact .inl (hmono i h)
    · exact .inr h
  · intro i o' hi ho' e he hb
    rw [hset] at hi
    refine hmono _ ?_
    split at hi
    · rename_i q
      subst q
      rw [ho] at ho'
      cases ho'
      exact hdep e he hb
    · exact L.down i o' hi ho' e he hb
  · intro t v u h1 h2
    rcases putT_get h2 with ⟨q1, q2⟩ | ⟨q1, q2⟩
    · subst q2; exact .inl (hv t v q1 h1)
    · rcases L.agree t v u h1 q2 with h | ⟨j, hj, hl, hd⟩
      · exact .inl (h.mono hle)
      · refine .inr ⟨j, hj, ?_, hd⟩
        rw [hset, if_neg]
        · exact hl
        · intro e; subst e; exact q1 hd
  · intro l1 i l2 o' hl ho' e he hb
    rcases L.order l1 i l2 o' hl ho' e he hb with h | h
    · exact .inl (hmono _ h)
    · exact .inr h
  · intro j hj hl b hb
    rw [hset] at hl
    by_cases q : j = x
    · rw [if_pos q] at hl; exact absurd rfl hl
    · rw [if_neg q] at hl
      exact hk j hj q hl b hb

theorem nodup_filterMap {f : Nat → Option Nat} : ∀ {l : List Nat}, nodup (l.filterMap f) = true → ∀ {i j b : Nat}, i ∈ l → j ∈ l → f i = some b → f j = some b → i = j
  | [], _, _, _, _, h, _, _, _ => by cases h
  | a :: l, hn, i, j, b, hi, hj, fi, fj => by
    cases ha : f a with
    | none =>
      rw [List.filterMap_cons, ha] at hn
      have ni : i ≠ a := fun e => by rw [e, ha] at fi; cases fi
      have nj : j ≠ a := fun e => by rw [e, ha] at fj; cases fj
      exact nodup_filterMap hn ((List.mem_cons.1 hi).resolve_left ni) ((List.mem_cons.1 hj).resolve_left nj) fi fj
    | some c =>
      rw [List.filterMap_cons, ha] at hn
      simp only [nodup, Bool.and_eq_true, Bool.not_eq_true'] at hn
      obtain ⟨h1, h2⟩ := hn
      have hno : ∀ k, k ∈ l → f k ≠ some c := by
        intro k hk q
        have : c ∈ l.filterMap f := List.mem_filterMap.2 ⟨k, hk, q⟩
        have h1 : ¬ c ∈ l.filterMap f := by simpa using h1
        exact h1 this
      rcases List.mem_cons.1 hi with rfl | hil
      · rcases List.mem_cons.1 hj with rfl | hj
        · rfl
        · rw [ha] at fi; cases fi; exact absurd fj (hno j hj)
      · rcases List.mem_cons.1 hj with rfl | hj
        · rw [ha] at fj; cases fj; exact absurd fi (hno i hil)
        · exact nodup_filterMap h2 hil hj fi fj

end

section
variable {E : Env} {N : Nat} {w0 : World} {ρ : Ren} {H : AHeap} {w : World}

/-- One of those that lag is done. -/
theorem lag_step (ok : EnvOK E) (h : HR N (bare w0) ρ H w) (hG : GR E.G ρ) {ops : Array Oper} {la lc : Array Bool} {lag : List Nat} {fuel : Nat} {tmps : Array Value} {fr : Frame} {x : Nat} {rest : List Nat} {k : List Item} (cs : List Frame)
    (L : Lag E.P ρ ops la lc lag fuel tmps fr.tmps) (hnd : nodup (lag.filterMap (madeBlk E.P ops tmps)) = true) (hx : x ∈ lag) (hr : x ∈ Region.ready .any ops lc) (hst : still E ops tmps H x = true) (hm : fr.mode = .run) (ht : fr.todo = .inRegion ops (x :: rest) :: k) :
    ∃ σ w2 tmps2 f, fuel = f + 1 ∧ ρ.le σ ∧ σ.n = ρ.n ∧ (∀ i, σ.on i → ρ.on i ∨ i ∈ lag.filterMap (madeBlk E.P ops tmps)) ∧ HR N (bare w0) σ H w2 ∧
      step E.P (lone fr cs w) = .next (lone { fr with tmps := tmps2, todo := .inRegion ops rest :: k } cs w2) ∧ Lag E.P σ ops la (lc.setIfInBounds x true) lag f tmps tmps2 := by
  unfold still at hst
  have hkeep : ∀ j ∈ lag, j ≠ x → lc[j]? ≠ some true → ∀ b, madeBlk E.P ops tmps j = some b → b < ρ.n ∧ ¬ ρ.on b := fun j hj _ hl b hb => L.pend j hj hl b hb
  split at hst
  · -- a variable is made
    rename_i ob d hmk
    split at hst
    case h_2 => cases hst
    rename_i a hta
    simp only [Bool.and_eq_true, beq_iff_eq, Option.isNone_iff_eq_none] at hst
    obtain ⟨⟨ha0, hsp⟩, hfr⟩ := hst
    cases ho : ops[x]? with
    | none => simp [ho] at hmk
    | some o =>
      have hmk' := hmk
      rw [ho] at hmk
      have hmk : makes E.P o = some (ob, d) := hmk
      obtain ⟨hd, hg, hdef, z, t, hob, ⟨i, hi, hz⟩, hrun, _⟩ := makes_spec hmk
      have hmb : madeBlk E.P ops tmps x = some a.block := by
        unfold madeBlk
        rw [hmk']
        simp only [hta]
      obtain ⟨c, e, hob2, hblk, hgrp⟩ := fresh_spec hfr
      rw [hob] at hob2
      cases hob2
      obtain ⟨h0, _⟩ := (mem_ready L.sc).1 hr
      obtain ⟨hbn, hoff⟩ := L.pend x hx (by rw [h0]; simp) _ hmb
      have hgood := ok.ok.zero t i z hi hz
      have hAs : AsR ρ z.cells z.cells := (hgood.2 ρ).cells hgood.1
      have hS := h.settle hoff hbn (fun q => q) hblk hgrp hAs
      have hle := Ren.le_settle ρ ⟨w.heap.size, 0, 0, z.cells.size⟩ hbn hoff
      have hdx : dstOf ops x = some d := by unfold dstOf; rw [ho]; exact hd
      obtain ⟨f, hf, L2⟩ := L.put hle hx hr (v' := .pointer (some ⟨w.heap.size, 0, none⟩)) (by
        intro d' u h1 h2
        rw [hdx] at h1
        cases h1
        rw [hta] at h2
        cases h2
        refine .psome ⟨.inr rfl, ?_, ?_, hsp.symm⟩
        · have e : (ρ.settle a.block ⟨w.heap.size, 0, 0, z.cells.size⟩ hbn).f a.block = ⟨w.heap.size, 0, 0, z.cells.size⟩ := if_pos rfl
          rw [e]
        · have e : (ρ.settle a.block ⟨w.heap.size, 0, 0, z.cells.size⟩ hbn).f a.block = ⟨w.heap.size, 0, 0, z.cells.size⟩ := if_pos rfl
          rw [e, ha0]
          rfl) (by
        intro j hj hjx hl b hb
        obtain ⟨q1, q2⟩ := hkeep j hj hjx hl b hb
        refine ⟨q1, fun q => q.elim q2 (fun e => ?_)⟩
        subst e
        exact hjx (nodup_filterMap hnd hj hx hb hmb))
      refine ⟨_, _, _, f, hf, hle, rfl, ?_, hS, ?_, L2⟩
      · rintro i (hi | rfl)
        · exact .inl hi
        · exact .inr (List.mem_filterMap.2 ⟨x, hx, hmb⟩)
      · rw [← finish_region ht]
        refine step_value hm ht ho (by unfold Region.wanted; rw [hg]) (.inr hdef) ?_
        rw [hrun, hob]
  · split at hst
    case h_2 => cases hst
    rename_i v hv
    have hdst : ∀ d u, dstOf ops x = some d → tmps[d]? = some u → u = v := by
      intro d u h1 h2
      unfold dstOf at h1
      rw [h1] at hst
      have := sameVal_eq _ _ _ hst
      rw [this, Array.getD_eq_getD_getElem?, h2]
      rfl
    unfold floats at hv
    split at hv
    case h_2 => cases hv
    rename_i o ho
    have hlooks : looksOf ops x = o.looksAt ops := by unfold looksOf; rw [ho]; rfl
    have hT : ∀ t ∈ o.looksAt ops, TmpR ρ tmps fr.tmps t := fun t htt => L.looks hx hr (by rw [hlooks]; exact htt)
    split at hv
    · rename_i hw
      have hwc := wanted_rel L.size hT hw
      obtain ⟨v', hrun, hvr⟩ := aquiet_spec (w := w) (r' := evalT fr.tmps) ok h (fun y hy hok => evalT_rel' hG (fun t e => (hT t (mem_looks (by rw [← e]; exact hy))).getD L.size) hok) hv
      obtain ⟨f, hf, L2⟩ := L.put (Ren.le_refl ρ) hx hr (v' := v') (fun d u h1 h2 => by rw [hdst d u h1 h2]; exact hvr) hkeep
      refine ⟨ρ, w, _, f, hf, Ren.le_refl ρ, rfl, fun _ q => .inl q, h, ?_, L2⟩
      rw [← finish_region ht]
      refine step_value hm ht ho hwc (.inr ?_) hrun
      intro c hc
      unfold aquiet at hv
      simp only [hc] at hv
      split at hv <;> cases hv
    · rename_i hw
      cases hv
      have hwc := wanted_rel L.size hT hw
      obtain ⟨f, hf, L2⟩ := L.put (Ren.le_refl ρ) hx hr (v' := undef) (fun d u h1 h2 => by rw [hdst d u h1 h2]; exact VR.undef ρ) hkeep
      refine ⟨ρ, w, _, f, hf, Ren.le_refl ρ, rfl, fun _ q => .inl q, h, ?_, L2⟩
      rw [← finish_region ht]
      refine step_unwanted hm ht ?_
      rw [ho]
      exact hwc
    · cases hv

end
end Go.Ev
