import Derived.Test.YtblklpjkmegaaaaGreatDoorEvZB
namespace Go.Ev
open Go.RowKit

section
variable {E : Env} {N : Nat} {w0 : World} {base : List Frame} {ρ : Ren} {w : World}

theorem stepG_unwind {P : Program} {fr : Frame} {cs : List Frame} {w : World} (hm : fr.mode ≠ .run) :
    stepG P true { frame := fr, callers := cs, status := .running, dying := none } w = unwind P true fr cs none w := by
  cases h : fr.mode with
  | run => exact absurd h hm
  | returning => simp only [stepG, h]
  | panicking c => simp only [stepG, h]

theorem FR.quiet {fr : AFrame} {fr' : Frame} (k : FR E.P ρ fr fr') {ds ds' : List Deferred} (hd : DsR ρ ds ds') : FR E.P ρ { fr with defers := ds } { fr' with defers := ds' } := by
  refine ⟨k.fn, k.kind, k.round, k.mode, hd, ?_⟩
  have hb := k.body
  unfold BodyR at hb ⊢
  exact hb

theorem FR.quietSlots {fr : AFrame} {fr' : Frame} (k : FR E.P ρ fr fr') (hm : fr.mode ≠ .run) : SlotsR E.P ρ fr.fn fr.tmps fr'.tmps := by
  have hb := k.body
  unfold BodyR at hb
  split at hb
  · rename_i h; exact absurd h hm
  · exact hb

/-- What a frame returns. -/
theorem results_sim {st : ASt} {fr' : Frame} (hF : FR E.P ρ st.fr fr') (hH : HR N (bare w0) ρ st.H w) (hm : st.fr.mode ≠ .run) {v : Value} (h : resultsA E st = some v) :
    ∃ fn v', E.P.funcs[fr'.fn]? = some fn ∧ (results fn fr'.tmps).run E.P w = .ok v' w ∧ VR ρ v v' := by
  unfold resultsA at h
  split at h
  case h_2 => cases h
  rename_i fn hfn
  obtain ⟨v', h1, h2⟩ := absRunQ_sound (SR.results (P := E.P) (hF.quietSlots hm fn hfn)) hH v h
  exact ⟨fn, v', by rw [hF.fn]; exact hfn, h1, h2⟩

theorem unwind_sim (ok : EnvOK E) {st st' : ASt} {fr' : Frame} {cs' : List Frame} (hF : FR E.P ρ st.fr fr') (hC : CsR E.P ρ st.cs cs') (hH : HR N (bare w0) ρ st.H w) (hm : st.fr.mode ≠ .run)
    (h : unwindA E st = some st') : Goes E N w0 base ρ st' (lone fr' (cs' ++ base) w) := by
  have hm' : fr'.mode ≠ .run := fun e => hm ((ModeR.run hF.mode).2 e)
  have hds := hF.defers
  unfold unwindA at h
  split at h
  · rename_i r args ds hd
    rw [hd] at hds
    cases hd' : fr'.defers with
    | nil => rw [hd'] at hds; exact hds.elim
    | cons d' ds' =>
      rw [hd'] at hds
      obtain ⟨⟨htr, hargs⟩, hds2⟩ := hds
      obtain ⟨tgt', args'⟩ := d'
      simp only at htr hargs
      cases htr
      rename_i r' hr
      split at h
      case h_2 => cases h
      rename_i calls H' hrun
      cases h
      have hs := absRun_sound (SR.takeDeferred (P := E.P) hr) st.H w hH.pinned
      rw [hrun] at hs
      obtain ⟨σ, calls', w', hle, h3, h4, h5⟩ := hs
      refine Goes.of' (fr' := { fr' with defers := calls' ++ ds' }) hle (.one (step_lone_go ?_)) ((hF.up (h5.grows hle)).quiet (h4.append (hds2.mono hle))) (hC.up (h5.grows hle)) h5.unpin
      rw [stepG_unwind hm']
      unfold unwind
      simp only [hd', Sem.runT_eq, h3, GStep.bare_after]
      rfl
  · rename_i g cap args ds hd
    rw [hd] at hds
    cases hd' : fr'.defers with
    | nil => rw [hd'] at hds; exact hds.elim
    | cons d' ds' =>
      rw [hd'] at hds
      obtain ⟨⟨htr, hargs⟩, hds2⟩ := hds
      obtain ⟨tgt', args'⟩ := d'
      simp only at htr hargs
      cases htr
      rename_i f' cap' hff hcap
      have hfn : f' = .func g := by cases f' <;> first | (cases hff; done) | (cases hff; rfl)
      subst hfn
      split at h
      case isFalse => cases h
      rename_i hcall
      simp only [Option.map_eq_some_iff, appA_eq] at h
      obtain ⟨n, hn, rfl⟩ := h
      obtain ⟨fn, cd, q1, q2, q3⟩ := ok.call g hcall
      have hent := FR.enter (hargs.append hcap) hn
      have hrun : (invoke (.fn (.func g) cap') args').run E.P w = .ok (.enter g (args' ++ cap')) w := by
        unfold invoke callFunc
        simp [q1, q2, q3]
      have hstep : step E.P (lone fr' (cs' ++ base) w) = .next (lone (Frame.enter E.P g (args' ++ cap') .deferred) ({ fr' with defers := ds' } :: (cs' ++ base)) w) := by
        refine step_lone_go ?_
        rw [stepG_unwind hm']
        unfold unwind
        simp only [hd']
        unfold callDeferred
        simp [hrun]
      rw [← List.cons_append] at hstep
      exact Goes.of (.one hstep) hent ⟨hF.quiet hds2, hC⟩ hH
  · cases h
  · rename_i hd
    rw [hd] at hds
    have hd' : fr'.defers = [] := by
      cases hd' : fr'.defers with
      | nil => rfl
      | cons _ _ => rw [hd'] at hds; exact hds.elim
    have hmode := hF.mode
    split at h
    · cases h
    · rename_i chain hmc
      rw [hmc] at hmode
      split at h
      case h_2 => cases h
      rename_i c rest hcs
      split at h
      case isFalse => cases h
      rename_i hcond
      cases h
      rw [Bool.and_eq_true] at hcond
      obtain ⟨hl, hfe⟩ := hcond
      obtain ⟨fn, hfn⟩ := Option.isSome_iff_exists.1 hfe
      rw [hcs] at hC
      cases cs' with
      | nil => exact hC.elim
      | cons c' cs2 =>
        obtain ⟨hc, hC2⟩ := hC
        cases hmc' : fr'.mode with
        | panicking chain' =>
          rw [hmc'] at hmode
          refine Goes.of (fr' := c'.raise chain') (cs' := cs2) (.one (step_lone_go ?_)) (hc.raise hl hmode) hC2 hH
          rw [stepG_unwind hm']
          have hcat : fr'.catches E.P = false := by unfold Frame.catches; rw [hF.fn, hfn]
          simp [unwind, hd', hmc', hcat]
        | _ => rw [hmc'] at hmode; exact hmode.elim
    · rename_i hmr
      rw [hmr] at hmode
      split at h
      case h_2 => cases h
      rename_i v hv
      obtain ⟨fn, v', h1, h2, h3⟩ := results_sim hF hH hm hv
      obtain ⟨fr2, cs2, q1, q2, q3, q4⟩ := return_sim (w := w) (base := base) hF hC h3 h
      have hmr' : fr'.mode = .returning := by
        cases hmr' : fr'.mode with
        | returning => rfl
        | _ => rw [hmr'] at hmode; exact hmode.elim
      refine Goes.of (.one (step_lone_go ?_)) q2 q3 (by rw [q4]; exact hH)
      rw [stepG_unwind hm']
      simp [unwind, hd', hmr', h1, h2, q1]

theorem firstFloat_some {ops : Array Oper} {tmps : Array Value} {H : AHeap} {lag : List Nat} : ∀ (l : List Nat) {i : Nat} {v : Value}, firstFloat E ops tmps H lag l = some (i, v) →
    i ∈ l ∧ selfOK ops i = true ∧ lag.all (fun j => behindOK ops j i) = true ∧ floats E ops tmps H i = some v
  | [], _, _, h => by cases h
  | x :: l, i, v, h => by
    unfold firstFloat at h
    split at h
    · rename_i hc
      rw [Bool.and_eq_true] at hc
      split at h
      · rename_i hf; cases h; exact ⟨by simp, hc.1, hc.2, hf⟩
      · obtain ⟨h1, h2⟩ := firstFloat_some l h
        exact ⟨by simp [h1], h2⟩
    · obtain ⟨h1, h2⟩ := firstFloat_some l h
      exact ⟨by simp [h1], h2⟩

theorem firstMake_some {ops : Array Oper} {n : Nat} {lag : List Nat} : ∀ (l : List Nat) {i : Nat} {o : Obj} {d : Tmp}, firstMake E ops n lag l = some (i, o, d) →
    i ∈ l ∧ selfOK ops i = true ∧ lag.all (fun j => behindOK ops j i) = true ∧ (ops[i]?).bind (makes E.P) = some (o, d) ∧ d < n
  | [], _, _, _, h => by cases h
  | x :: l, i, o, d, h => by
    unfold firstMake at h
    split at h
    · rename_i hc
      rw [Bool.and_eq_true] at hc
      split at h
      · rename_i hm
        split at h
        · rename_i hlt; cases h; exact ⟨by simp, hc.1, hc.2, hm, hlt⟩
        · obtain ⟨h1, h2⟩ := firstMake_some l h
          exact ⟨by simp [h1], h2⟩
      · obtain ⟨h1, h2⟩ := firstMake_some l h
        exact ⟨by simp [h1], h2⟩
    · obtain ⟨h1, h2⟩ := firstMake_some l h
      exact ⟨by simp [h1], h2⟩

theorem apartA_spec {P : Program} {fr : AFrame} {cs : List AFrame} (h : apartA P fr cs = true) : nodup (fr.pends P) = true ∧ ∀ c ∈ cs, ∀ b ∈ c.pends P, b ∉ fr.pends P := by
  unfold apartA at h
  split at h
  · rename_i hq
    rw [hq]
    exact ⟨rfl, fun _ _ _ _ q => by cases q⟩
  · rename_i l hq
    rw [Bool.and_eq_true] at h
    refine ⟨h.1, fun c hc b hb => ?_⟩
    have h2 := h.2
    rw [List.all_eq_true] at h2
    have h3 := h2 c hc
    rw [List.all_eq_true] at h3
    simpa using h3 b hb

theorem Up.grows {P : Program} {ops : Array Oper} {lag : List Nat} {tmps : Array Value} {ρ σ : Ren} (h : Up P ops lag tmps ρ σ) : Ren.Grow (lag.filterMap (madeBlk P ops tmps)) ρ σ := ⟨h.le, fun i _ hi => h.on i hi⟩

theorem draw_sim (ok : EnvOK E) (hG : GR E.G ρ) {st st' : ASt} {fr' : Frame} {cs' : List Frame} (hF : FR E.P ρ st.fr fr') (hC : CsR E.P ρ st.cs cs') (hH : HR N (bare w0) ρ st.H w) (hm : st.fr.mode = .run) {d : Draw} (hd : st.fr.draw = some d)
    (h : drawStep E st d = some st') : Goes E N w0 base ρ st' (lone fr' (cs' ++ base) w) := by
  have hm' : fr'.mode = .run := (ModeR.run hF.mode).1 hm
  have hb := hF.body
  unfold BodyR at hb
  simp only [hm, hd] at hb
  obtain ⟨fuel, t, lc, k', htd, htodo, L⟩ := hb
  have hpd : st.fr.pends E.P = d.lag.filterMap (madeBlk E.P d.ops st.fr.tmps) := by unfold AFrame.pends; rw [hd]
  unfold drawStep at h
  split at h
  · cases h
  rename_i hcur
  rw [hcur] at htodo
  simp only at htodo
  split at h
  · -- the end
    rename_i hready
    split at h
    case isFalse => cases h
    rename_i hcond
    cases h
    rw [Bool.and_eq_true, Bool.and_eq_true] at hcond
    obtain ⟨hnd, hsep⟩ := apartA_spec hcond.2
    rw [hpd] at hnd hsep
    obtain ⟨σ, w2, tmps2, hup, hH2, hs, ht2⟩ := replay_end ok (cs' ++ base) hcond.1.2 hnd hready fuel t lc fr' ρ w hG hH L hm' htodo
    have hs2 : step E.P (lone { fr' with tmps := tmps2, todo := .inRegion d.ops [] :: k' } (cs' ++ base) w2) = .next (lone { fr' with tmps := tmps2, todo := k' } (cs' ++ base) w2) :=
      step_go hm' (by simp [stepG.exec])
    refine Goes.of' hup.le (hs.trans (.one hs2)) ⟨hF.fn, hF.kind, hF.round.mono hup.le, hF.mode.mono hup.le, hF.defers.mono hup.le, ?_⟩ (hC.mono hup.grows hsep) hH2
    unfold BodyR
    simp only [hm]
    exact ⟨ht2, htd.mono hup.le⟩
  · -- the turn of one
    rename_i r hready
    simp only at h
    split at h
    case isFalse => cases h
    rename_i hcond
    rw [Bool.and_eq_true, Bool.and_eq_true] at hcond
    obtain ⟨⟨hstill, hap⟩, hapart⟩ := hcond
    obtain ⟨hnd, hsep⟩ := apartA_spec hapart
    rw [hpd] at hnd hsep
    split at h
    case h_2 => cases h
    rename_i o ho
    obtain ⟨ρ1, w2, tmps2, lc2, f2, t2, hup, hH2, hs, L2, hr2⟩ := replay ok (cs' ++ base) hstill hnd hready fuel t lc fr' ρ w hG hH L hm' htodo
    have hra : r ∈ Region.ready .any d.ops d.listed := by rw [hready]; simp
    have L3 := L2.force hra hr2
    have hG2 := hG.mono hup.le
    have hC2 := hC.mono hup.grows hsep
    have hlo : looksOf d.ops r = o.looksAt d.ops := by unfold looksOf; rw [ho]; rfl
    have hT : ∀ t ∈ o.looksAt d.ops, TmpR ρ1 st.fr.tmps tmps2 t := fun t ht => L2.looksForced hr2 hap (by rw [hlo]; exact ht)
    have hF2 : FR E.P ρ1 { st.fr with draw := some { d with listed := d.listed.setIfInBounds r true, lag := d.lag.filter fun j => !isBefore d.ops d.ops.size j r, cur := some r } }
        { fr' with tmps := tmps2, todo := .inRegion d.ops (r :: Region.linearise.go .any d.ops f2 t2 (lc2.setIfInBounds r true) []) :: k' } := by
      refine ⟨hF.fn, hF.kind, hF.round.mono hup.le, hF.mode.mono hup.le, hF.defers.mono hup.le, ?_⟩
      unfold BodyR
      simp only [hm]
      exact ⟨f2, t2, lc2.setIfInBounds r true, k', htd.mono hup.le, rfl, L3⟩
    split at h
    · rename_i hw
      have hwc := wanted_rel L2.size hT hw
      simp only [Option.map_eq_some_iff] at h
      obtain ⟨f1, hf, rfl⟩ := h
      have hstep := step_unwanted (P := E.P) (fr := { fr' with tmps := tmps2, todo := .inRegion d.ops (r :: Region.linearise.go .any d.ops f2 t2 (lc2.setIfInBounds r true) []) :: k' }) (cs := cs' ++ base) (w := w2) hm' rfl (by rw [ho]; exact hwc)
      exact Goes.of' hup.le (hs.trans (.one hstep)) (hF2.finish (VR.undef ρ1) hf) hC2 hH2
    · rename_i hw
      have hwc := wanted_rel L2.size hT hw
      split at h
      case h_2 => cases h
      rename_i x H' hx
      have hsays := aop_spec (w := w2) (w0 := pinned w0 ρ1) (N := N) (r' := evalT tmps2) ok hH2.pinned (fun y hy hok => evalT_rel' hG2 (fun t e => (hT t (mem_looks (by rw [← e]; exact hy))).getD L2.size) hok) hx
      obtain ⟨σ, m', hle, hs3, hsim⟩ := op_sim (st := { st with fr := { st.fr with draw := some { d with listed := d.listed.setIfInBounds r true, lag := d.lag.filter fun j => !isBefore d.ops d.ops.size j r, cur := some r } } })
        (base := base) hF2 hC2 hm' rfl ho hwc (fun c hc => aop_defer hx hc) hsays h
      exact ⟨σ, m', Ren.le_trans hup.le hle, hs.trans hs3, hsim⟩
    · cases h
  · -- one more lags
    split at h
    · rename_i i v hff
      cases h
      obtain ⟨hi, hself, hbeh, hfl⟩ := firstFloat_some _ hff
      refine Goes.of (.refl _ _) ⟨hF.fn, hF.kind, hF.round, hF.mode, hF.defers, ?_⟩ hC hH
      unfold BodyR
      simp only [hm]
      refine ⟨fuel, t, lc, k', htd, ?_, L.float (Ren.le_refl ρ) (fun _ _ q => q) hi hself hbeh v ?_⟩
      · simp only [hcur]
        exact htodo
      · intro b hb
        unfold madeBlk at hb
        cases hmk : (d.ops[i]?).bind (makes E.P) with
        | none => rw [hmk] at hb; cases hb
        | some p => rw [floats_makes hmk] at hfl; cases hfl
    · split at h
      case h_2 => cases h
      rename_i i ob dd hfm
      cases h
      obtain ⟨hi, hself, hbeh, hmk, hlt⟩ := firstMake_some _ hfm
      have hdst : dstOf d.ops i = some dd := by
        cases ho : d.ops[i]? with
        | none => simp [ho] at hmk
        | some o =>
          rw [ho] at hmk
          have hmk : makes E.P o = some (ob, dd) := hmk
          unfold dstOf
          rw [ho]
          exact (makes_spec hmk).1
      have hle := Ren.le_more ρ
      have hgr : Ren.Grow [] ρ ρ.more := ⟨hle, fun _ _ q => .inl q⟩
      refine Goes.of' hle (.refl _ _) ⟨hF.fn, hF.kind, hF.round.mono hle, hF.mode.mono hle, hF.defers.mono hle, ?_⟩ (hC.up hgr) (hH.reserve ob)
      unfold BodyR
      simp only [hm]
      have hn := hH.n
      refine ⟨fuel, t, lc, k', htd.mono hle, ?_, ?_⟩
      · simp only [hcur]
        exact htodo
      · have hF3 := L.float (σ := ρ.more) hle (fun _ _ q => q) hi hself hbeh (.pointer (some ⟨st.H.next, 0, none⟩)) (by
          intro b hb
          rw [hdst] at hb
          unfold madeBlk at hb
          rw [hmk] at hb
          simp only [putT, Array.getElem?_setIfInBounds, if_true] at hb
          rw [if_pos hlt] at hb
          cases hb
          refine ⟨show st.H.next < ρ.n + 1 by omega, fun q => ?_⟩
          have : st.H.next < ρ.n := ρ.lt _ q
          omega)
        rw [hdst] at hF3
        exact hF3

theorem astep_sim (ok : EnvOK E) (hmix : E.P.follows .mixedOrders = true) (hG : GR E.G ρ) {st st' : ASt} {m : Machine} (hS : Sim E N w0 base ρ st m) (h : astep E st = some st') : Goes E N w0 base ρ st' m := by
  obtain ⟨fr', cs', w, rfl, hF, hC, hH⟩ := hS
  unfold astep at h
  split at h
  · rename_i hm
    split at h
    · rename_i d hd
      exact draw_sim ok hG hF hC hH hm hd h
    · rename_i hd
      exact exec_sim ok hmix hG hF hC hH hm hd h
  · rename_i hm
    exact unwind_sim ok hF hC hH hm h

theorem arun_sim (ok : EnvOK E) (hmix : E.P.follows .mixedOrders = true) {f : FuncId} : ∀ (n : Nat) {ρ : Ren} {st : ASt} {m : Machine} {v : Value} {H' : AHeap}, GR E.G ρ → Sim E N w0 base ρ st m → arun E f n st = some (v, H') →
    ∃ σ fr w' v', ρ.le σ ∧ Steps E.P m (lone fr base w') ∧ fr.fn = f ∧ fr.leaving E.P w' (.returned v') ∧ VR σ v v' ∧ HR N (bare w0) σ H' w'
  | 0, _, _, _, _, _, _, _, h => by cases h
  | n + 1, ρ, st, m, v, H', hG, hS, h => by
    unfold arun at h
    split at h
    · rename_i hl
      simp only [Option.map_eq_some_iff, Prod.mk.injEq] at h
      obtain ⟨v0, hv, rfl, rfl⟩ := h
      obtain ⟨fr', cs', w, rfl, hF, hC, hH⟩ := hS
      unfold lastA at hl
      simp only [Bool.and_eq_true, List.isEmpty_iff] at hl
      obtain ⟨⟨⟨⟨h0, h1⟩, h2⟩, h3⟩, h4⟩ := hl
      have hmr : st.fr.mode = .returning := by
        revert h4
        cases st.fr.mode <;> simp
      have hk : st.fr.kind = .normal := by
        revert h3
        cases st.fr.kind <;> simp
      obtain ⟨fn, v', q1, q2, q3⟩ := results_sim hF hH (by rw [hmr]; intro e; cases e) hv
      rw [h1] at hC
      cases cs' with
      | cons _ _ => exact hC.elim
      | nil =>
        have hds := hF.defers
        rw [h2] at hds
        have hd' : fr'.defers = [] := by
          cases hd' : fr'.defers with
          | nil => rfl
          | cons _ _ => rw [hd'] at hds; exact hds.elim
        have hmode := hF.mode
        rw [hmr] at hmode
        have hmr' : fr'.mode = .returning := by
          cases hmr' : fr'.mode with
          | returning => rfl
          | _ => rw [hmr'] at hmode; exact hmode.elim
        exact ⟨ρ, fr', w, v', Ren.le_refl _, .refl _ _, by rw [hF.fn]; exact eq_of_beq h0, ⟨hmr', hd', by rw [hF.kind, hk], fn, q1, q2⟩, q3, hH⟩
    · split at h
      case h_2 => cases h
      rename_i st' hst
      obtain ⟨σ, m', hle, hs, hS'⟩ := astep_sim ok hmix hG hS hst
      obtain ⟨τ, fr, w', v', h1, h2, h3, h4, h5, h6⟩ := arun_sim ok hmix n (hG.mono hle) hS' h
      exact ⟨τ, fr, w', v', Ren.le_trans hle h1, hs.trans h2, h3, h4, h5, h6⟩

/-- What the abstract machine comes to, a call comes to. -/
theorem arun_calls (ok : EnvOK E) (hmix : E.P.follows .mixedOrders = true) (hG : GR E.G ρ) {H : AHeap} (hH : HR N (bare w0) ρ H w) {f : FuncId} {x x' : Array Value} (hx : AsR ρ x x') {fr : AFrame} (hent : enterA E.P f x .normal = some fr) {n : Nat} {v : Value} {H' : AHeap}
    (hrun : arun E f n { fr, cs := [], H } = some (v, H')) : Calls E.P f x' w (fun e w' => ∃ σ v', e = .returned v' ∧ ρ.le σ ∧ VR σ v v' ∧ HR N (bare w0) σ H' w') := by
  intro cs
  have hS : Sim E N w0 cs ρ { fr, cs := [], H } (lone (Frame.enter E.P f x' .normal) cs w) := ⟨_, [], w, rfl, FR.enter hx hent, trivial, hH⟩
  obtain ⟨σ, fr2, w', v', h1, h2, h3, h4, h5, h6⟩ := arun_sim ok hmix n hG hS hrun
  exact ⟨.returned v', w', fr2, ⟨σ, v', rfl, h1, h5, h6⟩, h2, h3, h4⟩

end
end Go.Ev
