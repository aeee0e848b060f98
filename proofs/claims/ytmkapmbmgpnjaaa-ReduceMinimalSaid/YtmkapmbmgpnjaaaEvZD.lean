import Derived.Test.YtmkapmbmgpnjaaaEvY
namespace Go.Ev
open Go.RowKit

section
variable {P : Program} {fr : Frame} {cs : List Frame} {w w' : World} {ops : Array Oper} {i : Nat} {rest : List Nat} {k : List Item} {o : Oper}

structure AtOp (fr : Frame) (ops : Array Oper) (i : Nat) (rest : List Nat) (k : List Item) (o : Oper) : Prop where
  mode : fr.mode = .run
  todo : fr.todo = .inRegion ops (i :: rest) :: k
  op : ops[i]? = some o
  wanted : Region.wanted o (yielded ops fr.tmps) = true
  defer : fr.roundOf = none ∨ ∀ c, o.op ≠ .defer c

theorem AtOp.go (A : AtOp fr ops i rest k o) {fr2 : Frame} {cs2 : List Frame} (h : (stepG.apply P true fr cs none (execOp (evalT fr.tmps) o) w).bare = .go { frame := fr2, callers := cs2, status := .running, dying := none } w') :
    step P (lone fr cs w) = .next (lone fr2 cs2 w') := by
  refine step_lone_go ?_
  rw [stepG_oper A.mode A.todo A.op A.wanted A.defer]
  exact h

theorem step_skip' (A : AtOp fr ops i rest k o) (hr : (execOp (evalT fr.tmps) o).run P w = .ok .skip w') : step P (lone fr cs w) = .next (lone (fr.finish undef) cs w') :=
  A.go (by simp [stepG.apply, hr])

theorem step_enter (A : AtOp fr ops i rest k o) {f : FuncId} {x : Array Value} (hr : (execOp (evalT fr.tmps) o).run P w = .ok (.enter f x) w') : step P (lone fr cs w) = .next (lone (Frame.enter P f x .normal) (fr :: cs) w') :=
  A.go (by simp [stepG.apply, hr, A.todo])

theorem step_round (A : AtOp fr ops i rest k o) {l : Nat} {f : FuncId} {x : Array Value} {a b : Code} (hr : (execOp (evalT fr.tmps) o).run P w = .ok (.round l f x a b) w') : step P (lone fr cs w) = .next (lone (Frame.round l f x a b .normal) (fr :: cs) w') :=
  A.go (by simp [stepG.apply, hr])

theorem step_defer (A : AtOp fr ops i rest k o) {d : Deferred} (hr : (execOp (evalT fr.tmps) o).run P w = .ok (.defer d) w') : step P (lone fr cs w) = .next (lone ({ fr with defers := d :: fr.defers }.finish undef) cs w') :=
  A.go (by simp [stepG.apply, hr])

theorem step_panic (A : AtOp fr ops i rest k o) {v : Value} (hr : (execOp (evalT fr.tmps) o).run P w = .halt (.panic v) w') : step P (lone fr cs w) = .next (lone (fr.raise [{ v, recovered := false }]) cs w') :=
  A.go (by simp [stepG.apply, hr])

theorem step_recover (A : AtOp fr ops i rest k o) (hn : fr.roundOf = none) (hr : (execOp (evalT fr.tmps) o).run P w = .ok .recover w') :
    step P (lone fr cs w) = .next (match tryRecover fr cs with
      | some (v, cs2) => lone (fr.finish v) cs2 w'
      | none => lone (fr.finish .nilIface) cs w') := by
  cases h : tryRecover fr cs with
  | none => exact A.go (by simp [stepG.apply, hr, hn, h])
  | some p => exact A.go (by simp [stepG.apply, hr, hn, h])

end

section
variable {E : Env} {N : Nat} {w0 : World} {base : List Frame} {ρ : Ren} {w : World}

theorem aop_defer {tmps : Array Value} {H H' : AHeap} {o : Oper} {x : AOut} (h : aop E tmps H o = some (x, H')) {c : Call} (hc : o.op = .defer c) : ∃ d, x = .next (.defer d) := by
  unfold aop aopR at h
  simp only [hc] at h
  split at h
  case isFalse => cases h
  split at h
  case h_2 => cases h
  split at h
  case h_2 => cases h
  split at h
  · cases h
  · cases h; exact ⟨_, rfl⟩

theorem op_sim {st st' : ASt} {fr' : Frame} {cs' : List Frame} {ops : Array Oper} {i : Nat} {rest : List Nat} {k : List Item} {o : Oper} {x : AOut} {H' : AHeap}
    (hF : FR E.P ρ st.fr fr') (hC : CsR E.P ρ st.cs cs') (hm : fr'.mode = .run) (ht : fr'.todo = .inRegion ops (i :: rest) :: k) (ho : ops[i]? = some o) (hw : Region.wanted o (yielded ops fr'.tmps) = true)
    (hx : ∀ c, o.op = .defer c → ∃ d, x = .next (.defer d)) (hsays : OpSays E N (pinned w0 ρ) ρ (execOp (evalT fr'.tmps) o) w x H') (hdone : opDone E st x H' = some st') : Goes E N w0 base ρ st' (lone fr' (cs' ++ base) w) := by
  have A : AtOp fr' ops i rest k o := by
    refine ⟨hm, ht, ho, hw, ?_⟩
    cases hr : fr'.roundOf with
    | none => exact .inl rfl
    | some l =>
      refine .inr fun c hc => ?_
      obtain ⟨d, rfl⟩ := hx c hc
      unfold opDone at hdone
      have hrd := hF.round
      rw [hr] at hrd
      cases q : st.fr.roundOf with
      | none => rw [q] at hrd; exact hrd.elim
      | some l2 => simp only [q, Option.isSome_some, Bool.true_or, if_true] at hdone; cases hdone
  cases x with
  | panic v =>
    obtain ⟨v', h1, h2, h3⟩ := hsays
    unfold opDone at hdone
    simp only at hdone
    split at hdone
    case isFalse => cases hdone
    rename_i hl
    cases hdone
    exact Goes.of (.one (step_panic A h1)) (hF.raise hl ⟨⟨h2, rfl, rfl⟩, trivial⟩) hC h3.unpin
  | next n =>
    obtain ⟨σ, n', w', hle, h1, h2, h3⟩ := hsays
    have hgr := h3.grows hle
    have h3 := h3.unpin
    have hF := hF.up hgr
    have hC := hC.up hgr
    unfold opDone at hdone
    simp only at hdone
    cases h2 with
    | value hv =>
      simp only [Option.map_eq_some_iff] at hdone
      obtain ⟨f1, hf, rfl⟩ := hdone
      exact Goes.of' hle (.one (step_value hm ht ho hw A.defer h1)) (hF.finish hv hf) hC h3
    | skip =>
      simp only [Option.map_eq_some_iff] at hdone
      obtain ⟨f1, hf, rfl⟩ := hdone
      exact Goes.of' hle (.one (step_skip' A h1)) (hF.finish (VR.undef σ) hf) hC h3
    | enter f hargs =>
      simp only [Option.map_eq_some_iff] at hdone
      obtain ⟨f1, hf, rfl⟩ := hdone
      exact Goes.of' (cs' := fr' :: cs') hle (.one (step_enter A h1)) (FR.enter hargs hf) ⟨hF, hC⟩ h3
    | round f a b hl hargs =>
      cases hdone
      refine Goes.of' (cs' := fr' :: cs') hle (.one (step_round A h1)) ⟨rfl, rfl, hl, trivial, trivial, ?_⟩ ⟨hF, hC⟩ h3
      unfold BodyR
      exact ⟨hargs, .code a, .beginRound, .code b, trivial⟩
    | defer hd =>
      rename_i d d'
      simp only at hdone
      split at hdone
      case isTrue => cases hdone
      simp only [Option.map_eq_some_iff] at hdone
      obtain ⟨f1, hf, rfl⟩ := hdone
      have hF2 : FR E.P σ { st.fr with defers := d :: st.fr.defers } { fr' with defers := d' :: fr'.defers } := ⟨hF.fn, hF.kind, hF.round, hF.mode, ⟨hd, hF.defers⟩, hF.body⟩
      exact Goes.of' hle (.one (step_defer A h1)) (hF2.finish (VR.undef σ) hf) hC h3
    | recover =>
      simp only at hdone
      split at hdone
      case isTrue => cases hdone
      rename_i hcond
      simp only [Bool.or_eq_true, not_or, Bool.not_eq_true, Option.isSome_eq_false_iff, Option.isNone_iff_eq_none] at hcond
      obtain ⟨⟨hrn, hdn⟩, hk⟩ := hcond
      have hrn' : fr'.roundOf = none := by
        have := hF.round
        rw [hrn] at this
        cases q : fr'.roundOf with
        | none => rfl
        | some l => rw [q] at this; exact this.elim
      have hk' : fr'.kind = .deferred := by
        rw [hF.kind]
        cases q : st.fr.kind <;> first | rfl | (rw [q] at hk; simp at hk; done)
      have hs := step_recover (cs := cs' ++ base) A hrn' h1
      split at hdone
      case h_2 => cases hdone
      rename_i c rest' hcs
      rw [hcs] at hC
      cases cs' with
      | nil => exact hC.elim
      | cons c' cs2 =>
        obtain ⟨hc, hC2⟩ := hC
        have hmode := hc.mode
        split at hdone
        · rename_i v older hmc
          simp only [Option.map_eq_some_iff] at hdone
          obtain ⟨f1, hf, rfl⟩ := hdone
          rw [hmc] at hmode
          cases hmc' : c'.mode with
          | panicking ch =>
            rw [hmc'] at hmode
            cases ch with
            | nil => exact hmode.elim
            | cons p ps =>
              obtain ⟨⟨hv, hrec, hgx⟩, hps⟩ := hmode
              obtain ⟨pv, prec, pgx⟩ := p
              simp only at hv hrec hgx
              subst hrec hgx
              have htry : tryRecover fr' (c' :: cs2 ++ base) = some (pv, { c' with mode := .panicking ({ v := pv, recovered := true } :: ps) } :: (cs2 ++ base)) := by
                simp only [tryRecover, hk', List.cons_append, hmc']
              rw [htry] at hs
              simp only at hs
              refine Goes.of' (cs' := { c' with mode := .panicking ({ v := pv, recovered := true } :: ps) } :: cs2) hle (.one hs) (hF.finish hv hf) ⟨?_, hC2⟩ h3
              refine ⟨hc.fn, hc.kind, hc.round, ⟨⟨hv, rfl, rfl⟩, hps⟩, hc.defers, ?_⟩
              have hb := hc.body
              unfold BodyR at hb ⊢
              rw [hmc] at hb
              exact hb
          | _ => rw [hmc'] at hmode; exact hmode.elim
        · rename_i hno
          simp only [Option.map_eq_some_iff] at hdone
          obtain ⟨f1, hf, rfl⟩ := hdone
          have htry : tryRecover fr' (c' :: cs2 ++ base) = none := by
            simp only [tryRecover, hk', List.cons_append]
            split
            · rename_i v2 older2 hm2
              exfalso
              rw [hm2] at hmode
              cases hmc : c.mode with
              | panicking ch =>
                rw [hmc] at hmode
                cases ch with
                | nil => exact hmode.elim
                | cons p ps =>
                  obtain ⟨⟨hv, hrec, hgx⟩, hps⟩ := hmode
                  obtain ⟨pv, prec, pgx⟩ := p
                  simp only at hrec hgx
                  subst hrec hgx
                  exact hno _ _ hmc
              | _ => rw [hmc] at hmode; exact hmode.elim
            · rfl
          rw [htry] at hs
          simp only at hs
          refine Goes.of' (cs' := c' :: cs2) hle (.one hs) (hF.finish .nilIface hf) ?_ h3
          show CsR E.P σ st.cs _
          rw [hcs]
          exact ⟨hc, hC2⟩

end
end Go.Ev

namespace Go.Ev
open Go.RowKit

def leaves : List Item → Option (Option Code)
  | [] => some none
  | .code .ret :: _ => some (some .ret)
  | .code (.exit id) :: k => if (exitTo id k).isNone then some (some (.exit id)) else none
  | .code (.goto l) :: k => if (gotoIn l k).isNone then some (some (.goto l)) else none
  | _ => none

section
variable {P : Program} {fr : Frame} {cs : List Frame} {w w' : World}

theorem leave_fn {j : Option Code} (hm : fr.mode = .run) (hl : leaves fr.todo = some j) (hr : fr.roundOf = none) (hj : j = none ∨ j = some .ret) :
    step P (lone fr cs w) = .next (lone { fr with mode := .returning } cs w) := by
  refine step_lone_go ?_
  unfold leaves at hl
  split at hl
  · rename_i ht
    simp [stepG, hm, stepG.exec, ht, hr]
  · rename_i ht
    simp [stepG, hm, stepG.exec, ht, hr]
  · split at hl
    · cases hl; rcases hj with hj | hj <;> cases hj
    · cases hl
  · split at hl
    · cases hl; rcases hj with hj | hj <;> cases hj
    · cases hl
  · cases hl

theorem leave_round {j : Option Code} {l : Nat} {v : Value} {fr2 : Frame} {cs2 : List Frame} (hm : fr.mode = .run) (hl : leaves fr.todo = some j) (hr : fr.roundOf = some l) (hrun : (Instr.endRound l j).run P w = .ok v w')
    (hd : doReturn P true fr cs none v w' = .go { frame := fr2, callers := cs2, status := .running, dying := none } w') :
    step P (lone fr cs w) = .next (lone fr2 cs2 w') := by
  refine step_lone_go ?_
  unfold leaves at hl
  split at hl
  · rename_i ht
    cases hl
    simp [stepG, hm, stepG.exec, ht, hr, hrun, hd]
  · rename_i ht
    cases hl
    simp [stepG, hm, stepG.exec, ht, hr, hrun, hd]
  · rename_i ht
    split at hl
    case isFalse => cases hl
    rename_i hn
    cases hl
    have hn : exitTo _ _ = none := Option.isNone_iff_eq_none.1 hn
    simp [stepG, hm, stepG.exec, ht, hr, hrun, hd, hn]
  · rename_i ht
    split at hl
    case isFalse => cases hl
    rename_i hn
    cases hl
    have hn : gotoIn _ _ = none := Option.isNone_iff_eq_none.1 hn
    simp [stepG, hm, stepG.exec, ht, hr, hrun, hd, hn]
  · cases hl

end

section
variable {E : Env} {N : Nat} {w0 : World} {base : List Frame} {ρ : Ren} {w : World}

theorem PesR.drop {ρ : Ren} : ∀ {a b : List PanicEntry}, PesR ρ a b → PesR ρ (a.dropWhile (!·.goexit)) (b.dropWhile (!·.goexit))
  | [], [], _ => trivial
  | p :: ps, q :: qs, h => by
    have hg : q.goexit = p.goexit := h.1.2.2
    rw [List.dropWhile_cons, List.dropWhile_cons, hg]
    split
    · exact PesR.drop h.2
    · exact h

def settle (caller : Frame) : Frame :=
  match caller.mode with
  | .panicking ({ recovered := true, .. } :: older) =>
    match older.dropWhile (!·.goexit) with
    | [] => { caller with mode := .returning }
    | rest => { caller with mode := .panicking rest }
  | _ => caller

theorem FR.settle {c : AFrame} {c' : Frame} (h : FR E.P ρ c c') : FR E.P ρ { c with mode := settleA c.mode } (Ev.settle c') := by
  have hm := h.mode
  have hb := h.body
  unfold BodyR at hb
  cases h1 : c.mode with
  | run =>
    rw [h1] at hm
    cases h2 : c'.mode with
    | run =>
      have e1 : Ev.settle c' = c' := by unfold Ev.settle; rw [h2]
      have e2 : ({ c with mode := settleA .run } : AFrame) = c := by cases c; simp only at h1; subst h1; rfl
      rw [e1, e2]
      exact h
    | _ => rw [h2] at hm; exact hm.elim
  | returning =>
    rw [h1] at hm
    cases h2 : c'.mode with
    | returning =>
      have e1 : Ev.settle c' = c' := by unfold Ev.settle; rw [h2]
      have e2 : ({ c with mode := settleA .returning } : AFrame) = c := by cases c; simp only at h1; subst h1; rfl
      rw [e1, e2]
      exact h
    | _ => rw [h2] at hm; exact hm.elim
  | panicking ch =>
    rw [h1] at hm hb
    simp only at hb
    cases h2 : c'.mode with
    | panicking ch' =>
      rw [h2] at hm
      cases ch with
      | nil =>
        cases ch' with
        | cons _ _ => exact hm.elim
        | nil =>
          have e1 : Ev.settle c' = c' := by unfold Ev.settle; rw [h2]
          have e2 : ({ c with mode := settleA (.panicking []) } : AFrame) = c := by cases c; simp only at h1; subst h1; rfl
          rw [e1, e2]
          exact h
      | cons p ps =>
        cases ch' with
        | nil => exact hm.elim
        | cons q qs =>
          obtain ⟨⟨hv, hrec, hgx⟩, hps⟩ := hm
          obtain ⟨pv, prec, pgx⟩ := p
          obtain ⟨qv, qrec, qgx⟩ := q
          simp only at hv hrec hgx
          subst hrec hgx
          cases qrec with
          | false =>
            have e1 : Ev.settle c' = c' := by unfold Ev.settle; rw [h2]
            have e2 : ({ c with mode := settleA (.panicking ({ v := pv, recovered := false, goexit := qgx } :: ps)) } : AFrame) = c := by cases c; simp only at h1; subst h1; rfl
            rw [e1, e2]
            exact h
          | true =>
            have hdrop := hps.drop
            have e1 : Ev.settle c' = (match qs.dropWhile (!·.goexit) with
              | [] => { c' with mode := .returning }
              | rest => { c' with mode := .panicking rest }) := by unfold Ev.settle; rw [h2]
            have e2 : settleA (.panicking ({ v := pv, recovered := true, goexit := qgx } :: ps)) = (match ps.dropWhile (!·.goexit) with
              | [] => .returning
              | rest => .panicking rest) := rfl
            rw [e1, e2]
            generalize ps.dropWhile (!·.goexit) = a at hdrop
            generalize qs.dropWhile (!·.goexit) = b at hdrop
            cases a with
            | nil =>
              cases b with
              | cons _ _ => exact hdrop.elim
              | nil => exact ⟨h.fn, h.kind, h.round, trivial, h.defers, hb⟩
            | cons x xs =>
              cases b with
              | nil => exact hdrop.elim
              | cons y ys => exact ⟨h.fn, h.kind, h.round, hdrop, h.defers, hb⟩
    | _ => rw [h2] at hm; exact hm.elim

theorem return_sim {st st' : ASt} {fr' : Frame} {cs' : List Frame} {v v' : Value} {H' : AHeap} (hF : FR E.P ρ st.fr fr') (hC : CsR E.P ρ st.cs cs') (hv : VR ρ v v') (hr : returnA st v H' = some st') :
    ∃ fr2 cs2, doReturn E.P true fr' (cs' ++ base) none v' w = .go { frame := fr2, callers := cs2 ++ base, status := .running, dying := none } w ∧ FR E.P ρ st'.fr fr2 ∧ CsR E.P ρ st'.cs cs2 ∧ st'.H = H' := by
  unfold returnA at hr
  split at hr
  case h_2 => cases hr
  rename_i c rest hcs
  rw [hcs] at hC
  cases cs' with
  | nil => exact hC.elim
  | cons c' cs2 =>
    obtain ⟨hc, hC2⟩ := hC
    have hk := hF.kind
    split at hr
    · rename_i hkn
      simp only [Option.map_eq_some_iff] at hr
      obtain ⟨c1, hf, rfl⟩ := hr
      rw [hkn] at hk
      exact ⟨c'.finish v', cs2, by simp only [doReturn, List.cons_append, hk], hc.finish hv hf, hC2, rfl⟩
    · rename_i hkn
      cases hr
      rw [hkn] at hk
      refine ⟨Ev.settle c', cs2, ?_, hc.settle, hC2, rfl⟩
      simp only [doReturn, List.cons_append, hk]
      rfl
    · cases hr

theorem leave_sim {st st' : ASt} {fr' : Frame} {cs' : List Frame} {j : Option Code} (hF : FR E.P ρ st.fr fr') (hC : CsR E.P ρ st.cs cs') (hH : HR N (bare w0) ρ st.H w) (hm : st.fr.mode = .run) (ht : AsR ρ st.fr.tmps fr'.tmps)
    (hl : leaves fr'.todo = some j) (h : leaveA E st j = some st') : Goes E N w0 base ρ st' (lone fr' (cs' ++ base) w) := by
  have hm' : fr'.mode = .run := (ModeR.run hF.mode).1 hm
  have hslots : SlotsR E.P ρ st.fr.fn st.fr.tmps fr'.tmps := fun fn _ t _ => ht.slot t
  unfold leaveA at h
  have hrd := hF.round
  split at h
  · rename_i hr
    rw [hr] at hrd
    have hr' : fr'.roundOf = none := by
      cases q : fr'.roundOf with
      | none => rfl
      | some l => rw [q] at hrd; exact hrd.elim
    have fin : ∀ (hj : j = none ∨ j = some .ret), Goes E N w0 base ρ { st with fr := { st.fr with mode := .returning } } (lone fr' (cs' ++ base) w) := fun hj =>
      Goes.of (.one (leave_fn hm' hl hr' hj)) ⟨hF.fn, hF.kind, hF.round, trivial, hF.defers, hslots⟩ hC hH
    split at h
    · cases h; exact fin (.inl rfl)
    · cases h; exact fin (.inr rfl)
    · cases h
  · rename_i l hr
    rw [hr] at hrd
    cases q : fr'.roundOf with
    | none => rw [q] at hrd; exact hrd.elim
    | some l' =>
      rw [q] at hrd
      split at h
      case h_2 => cases h
      rename_i v H' hrun
      have := absRun_sound (SR.endRound (P := E.P) hrd j) st.H w hH.pinned
      rw [hrun] at this
      obtain ⟨σ, v', w', hle, h1, h2, h3⟩ := this
      obtain ⟨fr2, cs2, q1, q2, q3, q4⟩ := return_sim (w := w') (base := base) (hF.up (h3.grows hle)) (hC.up (h3.grows hle)) h2 h
      exact Goes.of' hle (.one (leave_round hm' hl q h1 q1)) q2 q3 (by rw [q4]; exact h3.unpin)

end
end Go.Ev

namespace Go.Ev
open Go.RowKit

section
variable {E : Env} {N : Nat} {w0 : World} {base : List Frame} {ρ : Ren} {w : World}

theorem step_go {P : Program} {fr fr2 : Frame} {cs cs2 : List Frame} {w w2 : World} (hm : fr.mode = .run)
    (h : (stepG.exec P true true fr cs none w).bare = .go { frame := fr2, callers := cs2, status := .running, dying := none } w2) : step P (lone fr cs w) = .next (lone fr2 cs2 w2) := by
  refine step_lone_go ?_
  have : stepG P true { frame := fr, callers := cs, status := .running, dying := none } w = stepG.exec P true true fr cs none w := by
    simp only [stepG, hm]
  rw [this]
  exact h

theorem to_sim {st : ASt} {fr' : Frame} {cs' : List Frame} {t t' : List Item} (hF : FR E.P ρ st.fr fr') (hC : CsR E.P ρ st.cs cs') (hH : HR N (bare w0) ρ st.H w) (hm : st.fr.mode = .run) (hd : st.fr.draw = none) (ht : AsR ρ st.fr.tmps fr'.tmps)
    (htd : TdR ρ t t') (hs : (stepG.exec E.P true true fr' (cs' ++ base) none w).bare = .go { frame := { fr' with todo := t' }, callers := cs' ++ base, status := .running, dying := none } w) :
    Goes E N w0 base ρ { st with fr := { st.fr with todo := t } } (lone fr' (cs' ++ base) w) := by
  have hm' : fr'.mode = .run := (ModeR.run hF.mode).1 hm
  refine Goes.of (.one (step_go hm' hs)) ⟨hF.fn, hF.kind, hF.round, hF.mode, hF.defers, ?_⟩ hC hH
  unfold BodyR
  simp only [hm, hd]
  exact ⟨ht, htd⟩

theorem TdR.cons_inv {x : Item} {xs l : List Item} (h : TdR ρ (x :: xs) l) : ∃ y ys, l = y :: ys ∧ ItR ρ x y ∧ TdR ρ xs ys := by
  cases l with
  | nil => exact h.elim
  | cons y ys => exact ⟨y, ys, rfl, h.1, h.2⟩

theorem TdR.code_inv {c : Code} {xs l : List Item} (h : TdR ρ (.code c :: xs) l) : ∃ ys, l = .code c :: ys ∧ TdR ρ xs ys := by
  obtain ⟨y, ys, rfl, h1, h2⟩ := h.cons_inv
  cases h1
  exact ⟨ys, rfl, h2⟩

theorem step_rangeFunc {P : Program} {fr : Frame} {cs : List Frame} {w w' : World} {f : Operand} {params : Array Tmp} {assign body : Code} {k : List Item} {l : Nat} {mark : List Deferred} {g : FuncId} {first cap : Array Value} {fn : Func} {c : Code}
    (hm : fr.mode = .run) (hq : fr.todo = .code (.rangeFunc f params assign body) :: k) (h3 : (Instr.enterLoop fr.fn fr.tmps params assign body fr.roundOf).run P w = .ok (l, mark) w') (hf : evalT fr.tmps f = .func (.func g) first cap)
    (q1 : P.funcs[g]? = some fn) (q2 : fn.name ≠ "runtime.NumGoroutine") (q3 : fn.body = some c) :
    step P (lone fr cs w) = .next (lone (Frame.enter P g ((first ++ #[.func (.yield l) #[] #[]]) ++ cap) .normal) ({ fr with todo := .inRangeFunc l :: k, defers := mark ++ fr.defers } :: cs) w') := by
  refine step_go hm ?_
  have hev : Frame.eval { fr with todo := .inRangeFunc l :: k, defers := mark ++ fr.defers } = evalT fr.tmps := by funext x; cases x <;> rfl
  have hcallrun : (callFunc g ((first ++ #[.func (.yield l) #[] #[]]) ++ cap)).run P w' = .ok (.enter g ((first ++ #[.func (.yield l) #[] #[]]) ++ cap)) w' := by
    unfold callFunc
    simp [q1, q2, q3]
  have happ : (do let d ← resolve (evalT fr.tmps) { callee := .value f, args := #[.const (.func (.yield l) #[] #[])], argTypes := #[] } 0; invoke d.target d.args : Sem Next) = callFunc g ((first ++ #[.func (.yield l) #[] #[]]) ++ cap) := by
    unfold resolve
    have hm1 : (#[.const (.func (.yield l) #[] #[])] : Array Operand).map (evalT fr.tmps) = #[.func (.yield l) #[] #[]] := by simp [evalT]
    simp only [hf, hm1]
    rfl
  simp only [stepG.exec, hq, Sem.runT_eq, h3, GStep.bare_after]
  rw [hev, happ]
  generalize ((first ++ #[.func (.yield l) #[] #[]]) ++ cap) = args at hcallrun ⊢
  simp [stepG.apply, hcallrun]

def rangeA (E : Env) (st : ASt) (f : Operand) (params : Array Tmp) (assign body : Code) (k : List Item) : Option ASt :=
  if okOperand E.G f then
    match absRun E.P (Instr.enterLoop st.fr.fn st.fr.tmps params assign body st.fr.roundOf) st.H with
    | some ((l, mark), H') =>
      let fr := { st.fr with todo := .inRangeFunc l :: k, defers := mark ++ st.fr.defers }
      (match evalT st.fr.tmps f with
      | .func (.func g) first cap => if E.callOK g then (enterA E.P g (appA (appA first #[.func (.yield l) #[] #[]]) cap) .normal).map fun n => { fr := n, cs := fr :: st.cs, H := H' } else none
      | _ => none)
    | none => none
  else none

theorem range_sim (ok : EnvOK E) (hG : GR E.G ρ) {st st' : ASt} {fr' : Frame} {cs' : List Frame} (hF : FR E.P ρ st.fr fr') (hC : CsR E.P ρ st.cs cs') (hH : HR N (bare w0) ρ st.H w) (hm : st.fr.mode = .run) (hd : st.fr.draw = none)
    (ht : AsR ρ st.fr.tmps fr'.tmps) {f : Operand} {params : Array Tmp} {assign body : Code} {k ys : List Item} (hq : fr'.todo = .code (.rangeFunc f params assign body) :: ys) (h2 : TdR ρ k ys)
    (h : rangeA E st f params assign body k = some st') : Goes E N w0 base ρ st' (lone fr' (cs' ++ base) w) := by
  have hm' : fr'.mode = .run := (ModeR.run hF.mode).1 hm
  unfold rangeA at h
  split at h
  case isFalse => cases h
  rename_i hok
  split at h
  case h_2 => cases h
  rename_i l mark H' hrun
  have hs := absRun_sound (SR.enterLoop (P := E.P) st.fr.fn ht params assign body hF.round) st.H w hH.pinned
  rw [hrun] at hs
  obtain ⟨σ, ⟨l', mark'⟩, w', hle, h3, ⟨hl, hmk⟩, h5⟩ := hs
  simp only at h hl hmk
  have hv := (evalT_rel hG ht hok).mono hle
  split at h
  case h_2 => cases h
  rename_i g first cap hfv
  split at h
  case isFalse => cases h
  rename_i hcall
  simp only [Option.map_eq_some_iff, appA_eq] at h
  obtain ⟨n, hn, rfl⟩ := h
  rw [hfv] at hv
  generalize hfv' : evalT fr'.tmps f = u at hv
  cases hv
  rename_i f2 first' cap' hff g1 g2 g3 g4
  have hfn : f2 = .func g := by cases f2 <;> first | (cases hff; done) | (cases hff; rfl)
  subst hfn
  obtain ⟨fn, cd, q1, q2, q3⟩ := ok.call g hcall
  have hy : AsR σ #[.func (.yield l) #[] #[]] #[.func (.yield l') #[] #[]] := by
    refine ⟨rfl, ?_⟩
    intro i v v' h6 h7
    cases i with
    | zero =>
      simp at h6 h7
      subst h6 h7
      exact .func (show FnR σ (.yield l) (.yield l') from hl) rfl (by simp) rfl (by simp)
    | succ i => simp at h6
  have hargs : AsR σ ((first ++ #[.func (.yield l) #[] #[]]) ++ cap) ((first' ++ #[.func (.yield l') #[] #[]]) ++ cap') := (AsR.append ⟨g1, g2⟩ hy).append ⟨g3, g4⟩
  have hfr : fr'.fn = st.fr.fn := hF.fn
  rw [← hfr] at h3
  have hstep := step_rangeFunc (cs := cs' ++ base) hm' hq h3 hfv' q1 q2 q3
  have hF2 : FR E.P σ { st.fr with todo := .inRangeFunc l :: k, defers := mark ++ st.fr.defers } { fr' with todo := .inRangeFunc l' :: ys, defers := mark' ++ fr'.defers } := by
    refine ⟨hF.fn, hF.kind, hF.round.mono hle, hF.mode.mono hle, hmk.append (hF.defers.mono hle), ?_⟩
    unfold BodyR
    simp only [hm, hd]
    exact ⟨ht.mono hle, .inRangeFunc hl, h2.mono hle⟩
  have hent := FR.enter hargs hn
  generalize ((first' ++ #[.func (.yield l') #[] #[]]) ++ cap') = args at hstep hent
  rw [← List.cons_append] at hstep
  exact Goes.of' hle (.one hstep) hent ⟨hF2, hC.up (h5.grows hle)⟩ h5.unpin

set_option maxHeartbeats 1000000 in
theorem exec_sim (ok : EnvOK E) (hmix : E.P.follows .mixedOrders = true) (hG : GR E.G ρ) {st st' : ASt} {fr' : Frame} {cs' : List Frame} (hF : FR E.P ρ st.fr fr') (hC : CsR E.P ρ st.cs cs') (hH : HR N (bare w0) ρ st.H w) (hm : st.fr.mode = .run) (hd : st.fr.draw = none)
    (h : execA E st = some st') : Goes E N w0 base ρ st' (lone fr' (cs' ++ base) w) := by
  have hm' : fr'.mode = .run := (ModeR.run hF.mode).1 hm
  have hb := hF.body
  unfold BodyR at hb
  simp only [hm, hd] at hb
  obtain ⟨ht, htd⟩ := hb
  have to := fun {t t' : List Item} (htd : TdR ρ t t') hs => to_sim (base := base) hF hC hH hm hd ht htd hs
  unfold execA at h
  simp only at h
  split at h
  · -- []
    rename_i htodo
    rw [htodo] at htd
    cases hq : fr'.todo with
    | cons _ _ => rw [hq] at htd; exact htd.elim
    | nil => exact leave_sim hF hC hH hm ht (by rw [hq]; rfl) h
  · rename_i htodo
    rw [htodo] at htd
    obtain ⟨ys, hq, _⟩ := htd.code_inv
    exact leave_sim hF hC hH hm ht (by rw [hq]; rfl) h
  · rename_i htodo
    rw [htodo] at htd
    obtain ⟨ys, hq, h2⟩ := htd.code_inv
    cases h
    exact to h2 (by simp [stepG.exec, hq])
  · rename_i htodo
    rw [htodo] at htd
    obtain ⟨ys, hq, h2⟩ := htd.code_inv
    cases h
    exact to h2 (by simp [stepG.exec, hq])
  · rename_i htodo
    rw [htodo] at htd
    obtain ⟨y, ys, hq, h1, h2⟩ := htd.cons_inv
    cases h1
    cases h
    exact to h2 (by simp [stepG.exec, hq])
  · rename_i htodo
    rw [htodo] at htd
    obtain ⟨y, ys, hq, h1, h2⟩ := htd.cons_inv
    cases h1
    cases h
    exact to h2 (by simp [stepG.exec, hq])
  · -- seq
    rename_i a b k htodo
    rw [htodo] at htd
    obtain ⟨ys, hq, h2⟩ := htd.code_inv
    cases h
    exact to (t' := .code a :: .code b :: ys) ⟨.code a, .code b, h2⟩ (by simp [stepG.exec, hq])
  · -- cond
    rename_i c thn els k htodo
    rw [htodo] at htd
    obtain ⟨ys, hq, h2⟩ := htd.code_inv
    split at h
    case isFalse => cases h
    rename_i hok
    have hv := evalT_rel hG ht hok
    split at h
    case h_2 => cases h
    rename_i b hbv
    rw [hbv] at hv
    have hv' : evalT fr'.tmps c = .bool b := by
      generalize evalT fr'.tmps c = u at hv
      cases hv
      rfl
    cases h
    exact to (t' := .code (if b then thn else els) :: ys) ⟨.code _, h2⟩ (by simp [stepG.exec, hq, eval_evalT, hv'])
  · -- block
    rename_i id body k htodo
    rw [htodo] at htd
    obtain ⟨ys, hq, h2⟩ := htd.code_inv
    cases h
    exact to (t' := .code body :: .inBlock id :: ys) ⟨.code _, .inBlock _, h2⟩ (by simp [stepG.exec, hq])
  · -- loop
    rename_i body k htodo
    rw [htodo] at htd
    obtain ⟨ys, hq, h2⟩ := htd.code_inv
    cases h
    exact to (t' := .code body :: .inLoop body :: ys) ⟨.code _, .inLoop _, h2⟩ (by simp [stepG.exec, hq])
  · rename_i body k htodo
    rw [htodo] at htd
    obtain ⟨y, ys, hq, h1, h2⟩ := htd.cons_inv
    cases h1
    cases h
    exact to (t' := .code body :: .inLoop body :: ys) ⟨.code _, .inLoop _, h2⟩ (by simp [stepG.exec, hq])
  · -- scope
    rename_i body k htodo
    rw [htodo] at htd
    obtain ⟨ys, hq, h2⟩ := htd.code_inv
    cases h
    exact to (t' := .code body :: .inScope body :: ys) ⟨.code _, .inScope _, h2⟩ (by simp [stepG.exec, hq])
  · -- exit
    rename_i id k htodo
    rw [htodo] at htd
    obtain ⟨ys, hq, h2⟩ := htd.code_inv
    rcases exitTo_rel id h2 with ⟨e1, e2⟩ | ⟨k1, k2, e1, e2, e3⟩
    · rw [e1] at h
      exact leave_sim hF hC hH hm ht (by rw [hq]; simp [leaves, e2]) h
    · rw [e1] at h
      cases h
      exact to e3 (by simp [stepG.exec, hq, e2])
  · -- goto
    rename_i l k htodo
    rw [htodo] at htd
    obtain ⟨ys, hq, h2⟩ := htd.code_inv
    rcases gotoIn_rel l h2 with ⟨e1, e2⟩ | ⟨k1, k2, e1, e2, e3⟩
    · rw [e1] at h
      exact leave_sim hF hC hH hm ht (by rw [hq]; simp [leaves, e2]) h
    · rw [e1] at h
      cases h
      exact to e3 (by simp [stepG.exec, hq, e2])
  · -- rangeFunc
    rename_i f params assign body k htodo
    rw [htodo] at htd
    obtain ⟨ys, hq, h2⟩ := htd.code_inv
    exact range_sim ok hG hF hC hH hm hd ht hq h2 h
  · -- beginRound
    rename_i k htodo
    rw [htodo] at htd
    obtain ⟨y, ys, hq, h1, h2⟩ := htd.cons_inv
    cases h1
    have hrd := hF.round
    split at h
    case h_2 => cases h
    rename_i l hr
    rw [hr] at hrd
    cases hr' : fr'.roundOf with
    | none => rw [hr'] at hrd; exact hrd.elim
    | some l' =>
      rw [hr'] at hrd
      split at h
      case h_2 => cases h
      rename_i u H' hrun
      cases h
      have hs := absRun_sound (SR.beginRound (P := E.P) hrd) st.H w hH.pinned
      rw [hrun] at hs
      obtain ⟨σ, u', w', hle, h3, _, h5⟩ := hs
      have hF2 := hF.up (h5.grows hle)
      refine Goes.of' (fr' := { fr' with todo := ys }) hle (.one (step_go hm' ?_)) ⟨hF2.fn, hF2.kind, hF2.round, hF2.mode, hF2.defers, ?_⟩ (hC.up (h5.grows hle)) h5.unpin
      · have hfin : fr'.finish undef = { fr' with todo := ys } := by simp only [Frame.finish, hq]
        simp only [stepG.exec, hq]
        simp [stepG.apply, hr', h3, hfin]
      · unfold BodyR
        simp only [hm, hd]
        exact ⟨ht.mono hle, h2.mono hle⟩
  · -- endRangeFunc
    rename_i l k htodo
    rw [htodo] at htd
    obtain ⟨y, ys, hq, h1, h2⟩ := htd.cons_inv
    cases h1
    rename_i l' hl
    split at h
    case h_2 => cases h
    rename_i jump H' hrun
    cases h
    have hs := absRun_sound (SR.endLoop (P := E.P) hl) st.H w hH.pinned
    rw [hrun] at hs
    obtain ⟨σ, j', w', hle, h3, rfl, h5⟩ := hs
    have hF2 := hF.up (h5.grows hle)
    refine Goes.of' (fr' := { fr' with todo := (jump.map Item.code).toList ++ ys }) hle (.one (step_go hm' ?_)) ⟨hF2.fn, hF2.kind, hF2.round, hF2.mode, hF2.defers, ?_⟩ (hC.up (h5.grows hle)) h5.unpin
    · simp only [stepG.exec, hq, Sem.runT_eq, h3, GStep.bare_after]
      rfl
    · unfold BodyR
      simp only [hm, hd]
      refine ⟨ht.mono hle, ?_⟩
      cases jump with
      | none => exact h2.mono hle
      | some c => exact ⟨.code c, h2.mono hle⟩
  · -- region
    rename_i id ops draw k htodo
    rw [htodo] at htd
    obtain ⟨ys, hq, h2⟩ := htd.code_inv
    split at h
    · rename_i hdr
      cases h
      subst hdr
      refine Goes.of (fr' := { fr' with todo := .inRegion ops (Region.schedule (E.P.follows .mixedOrders) ops (w.tape w.drawn (.order fr'.fn id))) :: ys }) (w := { w with drawn := w.drawn + 1 }) (.one (step_go hm' ?_)) ⟨hF.fn, hF.kind, hF.round, hF.mode, hF.defers, ?_⟩ hC (hH.drawn _)
      · simp [stepG.exec, hq, choose, Sem.run, Question.forced, Question.cut]
      · unfold BodyR
        simp only [hm]
        refine ⟨ops.size, w.tape w.drawn (.order fr'.fn id), Array.replicate ops.size false, ys, h2, ?_, Lag.start ht⟩
        simp only [hmix, Region.schedule, Bool.true_or, if_true, Region.linearise]
    · rename_i hdr
      cases h
      have hdr : draw = false := by simpa using hdr
      subst hdr
      exact to (t' := .inRegion ops (List.range ops.size) :: ys) ⟨.inRegion _ _, h2⟩ (by simp [stepG.exec, hq])
  · -- a region's end
    rename_i ops k htodo
    rw [htodo] at htd
    obtain ⟨y, ys, hq, h1, h2⟩ := htd.cons_inv
    cases h1
    cases h
    exact to h2 (by simp [stepG.exec, hq])
  · -- an operation
    rename_i ops i rest k htodo
    rw [htodo] at htd
    obtain ⟨y, ys, hq, h1, h2⟩ := htd.cons_inv
    cases h1
    split at h
    case h_2 => cases h
    rename_i o ho
    have hT : ∀ t ∈ o.looksAt ops, TmpR ρ st.fr.tmps fr'.tmps t := fun t _ v v' q1 q2 => ht.2 t v v' q1 q2
    split at h
    · rename_i hw
      have hwc := wanted_rel ht.1.symm hT hw
      simp only [Option.map_eq_some_iff] at h
      obtain ⟨f1, hf, rfl⟩ := h
      exact Goes.of (.one (step_unwanted hm' hq (by rw [ho]; exact hwc))) (hF.finish (VR.undef ρ) hf) hC hH
    · rename_i hw
      have hwc := wanted_rel ht.1.symm hT hw
      split at h
      case h_2 => cases h
      rename_i x H' hx
      exact op_sim hF hC hm' hq ho hwc (fun c hc => aop_defer hx hc) (aop_spec (r' := evalT fr'.tmps) ok hH.pinned (fun y _ hok => evalT_rel hG ht hok) hx) h
    · cases h
  · cases h

end
end Go.Ev

namespace Go.Ev
open Go.RowKit

section
variable {E : Env} {N : Nat} {w0 : World} {base : List Frame} {ρ : Ren} {w : World}

theorem stepG_unwind {P : Program} {fr : Frame} {cs : List Frame} {w : World} (hm : fr.mode ≠ .run) :
    stepG P true { frame := fr, callers := cs, status := .running, dying := none } w = unwind P true fr cs none w := by
  cases h : fr.mode with
  | run => exact absurd h hm
  | returning => simp only [stepG, h]
  | panicking c => simp only [stepG, h]

theorem FR.quiet {fr : AFrame} {fr' : Frame} (k : FR E.P ρ fr fr') {ds ds' : List Deferred} (hd : DsR ρ ds ds') : FR E.P ρ { fr with defers := ds } { fr' with defers := ds' } := by
  refine ⟨k.fn, k.kind, k.round, k.mode, hd, ?_⟩
  have hb := k.body
  unfold BodyR at hb ⊢
  exact hb

theorem FR.quietSlots {fr : AFrame} {fr' : Frame} (k : FR E.P ρ fr fr') (hm : fr.mode ≠ .run) : SlotsR E.P ρ fr.fn fr.tmps fr'.tmps := by
  have hb := k.body
  unfold BodyR at hb
  split at hb
  · rename_i h; exact absurd h hm
  · exact hb

theorem results_sim {st : ASt} {fr' : Frame} (hF : FR E.P ρ st.fr fr') (hH : HR N (bare w0) ρ st.H w) (hm : st.fr.mode ≠ .run) {v : Value} (h : resultsA E st = some v) :
    ∃ fn v', E.P.funcs[fr'.fn]? = some fn ∧ (results fn fr'.tmps).run E.P w = .ok v' w ∧ VR ρ v v' := by
  unfold resultsA at h
  split at h
  case h_2 => cases h
  rename_i fn hfn
  obtain ⟨v', h1, h2⟩ := absRunQ_sound (SR.results (P := E.P) (hF.quietSlots hm fn hfn)) hH v h
  exact ⟨fn, v', by rw [hF.fn]; exact hfn, h1, h2⟩

theorem unwind_sim (ok : EnvOK E) {st st' : ASt} {fr' : Frame} {cs' : List Frame} (hF : FR E.P ρ st.fr fr') (hC : CsR E.P ρ st.cs cs') (hH : HR N (bare w0) ρ st.H w) (hm : st.fr.mode ≠ .run)
    (h : unwindA E st = some st') : Goes E N w0 base ρ st' (lone fr' (cs' ++ base) w) := by
  have hm' : fr'.mode ≠ .run := fun e => hm ((ModeR.run hF.mode).2 e)
  have hds := hF.defers
  unfold unwindA at h
  split at h
  · rename_i r args ds hd
    rw [hd] at hds
    cases hd' : fr'.defers with
    | nil => rw [hd'] at hds; exact hds.elim
    | cons d' ds' =>
      rw [hd'] at hds
      obtain ⟨⟨htr, hargs⟩, hds2⟩ := hds
      obtain ⟨tgt', args'⟩ := d'
      simp only at htr hargs
      cases htr
      rename_i r' hr
      split at h
      case h_2 => cases h
      rename_i calls H' hrun
      cases h
      have hs := absRun_sound (SR.takeDeferred (P := E.P) hr) st.H w hH.pinned
      rw [hrun] at hs
      obtain ⟨σ, calls', w', hle, h3, h4, h5⟩ := hs
      refine Goes.of' (fr' := { fr' with defers := calls' ++ ds' }) hle (.one (step_lone_go ?_)) ((hF.up (h5.grows hle)).quiet (h4.append (hds2.mono hle))) (hC.up (h5.grows hle)) h5.unpin
      rw [stepG_unwind hm']
      unfold unwind
      simp only [hd', Sem.runT_eq, h3, GStep.bare_after]
      rfl
  · rename_i g cap args ds hd
    rw [hd] at hds
    cases hd' : fr'.defers with
    | nil => rw [hd'] at hds; exact hds.elim
    | cons d' ds' =>
      rw [hd'] at hds
      obtain ⟨⟨htr, hargs⟩, hds2⟩ := hds
      obtain ⟨tgt', args'⟩ := d'
      simp only at htr hargs
      cases htr
      rename_i f' cap' hff hcap
      have hfn : f' = .func g := by cases f' <;> first | (cases hff; done) | (cases hff; rfl)
      subst hfn
      split at h
      case isFalse => cases h
      rename_i hcall
      simp only [Option.map_eq_some_iff, appA_eq] at h
      obtain ⟨n, hn, rfl⟩ := h
      obtain ⟨fn, cd, q1, q2, q3⟩ := ok.call g hcall
      have hent := FR.enter (hargs.append hcap) hn
      have hrun : (invoke (.fn (.func g) cap') args').run E.P w = .ok (.enter g (args' ++ cap')) w := by
        unfold invoke callFunc
        simp [q1, q2, q3]
      have hstep : step E.P (lone fr' (cs' ++ base) w) = .next (lone (Frame.enter E.P g (args' ++ cap') .deferred) ({ fr' with defers := ds' } :: (cs' ++ base)) w) := by
        refine step_lone_go ?_
        rw [stepG_unwind hm']
        unfold unwind
        simp only [hd']
        unfold callDeferred
        simp [hrun]
      rw [← List.cons_append] at hstep
      exact Goes.of (.one hstep) hent ⟨hF.quiet hds2, hC⟩ hH
  · cases h
  · rename_i hd
    rw [hd] at hds
    have hd' : fr'.defers = [] := by
      cases hd' : fr'.defers with
      | nil => rfl
      | cons _ _ => rw [hd'] at hds; exact hds.elim
    have hmode := hF.mode
    split at h
    · cases h
    · rename_i chain hmc
      rw [hmc] at hmode
      split at h
      case h_2 => cases h
      rename_i c rest hcs
      split at h
      case isFalse => cases h
      rename_i hcond
      cases h
      rw [Bool.and_eq_true] at hcond
      obtain ⟨hl, hfe⟩ := hcond
      obtain ⟨fn, hfn⟩ := Option.isSome_iff_exists.1 hfe
      rw [hcs] at hC
      cases cs' with
      | nil => exact hC.elim
      | cons c' cs2 =>
        obtain ⟨hc, hC2⟩ := hC
        cases hmc' : fr'.mode with
        | panicking chain' =>
          rw [hmc'] at hmode
          refine Goes.of (fr' := c'.raise chain') (cs' := cs2) (.one (step_lone_go ?_)) (hc.raise hl hmode) hC2 hH
          rw [stepG_unwind hm']
          have hcat : fr'.catches E.P = false := by unfold Frame.catches; rw [hF.fn, hfn]
          simp [unwind, hd', hmc', hcat]
        | _ => rw [hmc'] at hmode; exact hmode.elim
    · rename_i hmr
      rw [hmr] at hmode
      split at h
      case h_2 => cases h
      rename_i v hv
      obtain ⟨fn, v', h1, h2, h3⟩ := results_sim hF hH hm hv
      obtain ⟨fr2, cs2, q1, q2, q3, q4⟩ := return_sim (w := w) (base := base) hF hC h3 h
      have hmr' : fr'.mode = .returning := by
        cases hmr' : fr'.mode with
        | returning => rfl
        | _ => rw [hmr'] at hmode; exact hmode.elim
      refine Goes.of (.one (step_lone_go ?_)) q2 q3 (by rw [q4]; exact hH)
      rw [stepG_unwind hm']
      simp [unwind, hd', hmr', h1, h2, q1]

theorem firstFloat_some {ops : Array Oper} {tmps : Array Value} {H : AHeap} {lag : List Nat} : ∀ (l : List Nat) {i : Nat} {v : Value}, firstFloat E ops tmps H lag l = some (i, v) →
    i ∈ l ∧ selfOK ops i = true ∧ lag.all (fun j => behindOK ops j i) = true ∧ floats E ops tmps H i = some v
  | [], _, _, h => by cases h
  | x :: l, i, v, h => by
    unfold firstFloat at h
    split at h
    · rename_i hc
      rw [Bool.and_eq_true] at hc
      split at h
      · rename_i hf; cases h; exact ⟨by simp, hc.1, hc.2, hf⟩
      · obtain ⟨h1, h2⟩ := firstFloat_some l h
        exact ⟨by simp [h1], h2⟩
    · obtain ⟨h1, h2⟩ := firstFloat_some l h
      exact ⟨by simp [h1], h2⟩

theorem firstMake_some {ops : Array Oper} {n : Nat} {lag : List Nat} : ∀ (l : List Nat) {i : Nat} {o : Obj} {d : Tmp}, firstMake E ops n lag l = some (i, o, d) →
    i ∈ l ∧ selfOK ops i = true ∧ lag.all (fun j => behindOK ops j i) = true ∧ (ops[i]?).bind (makes E.P) = some (o, d) ∧ d < n
  | [], _, _, _, h => by cases h
  | x :: l, i, o, d, h => by
    unfold firstMake at h
    split at h
    · rename_i hc
      rw [Bool.and_eq_true] at hc
      split at h
      · rename_i hm
        split at h
        · rename_i hlt; cases h; exact ⟨by simp, hc.1, hc.2, hm, hlt⟩
        · obtain ⟨h1, h2⟩ := firstMake_some l h
          exact ⟨by simp [h1], h2⟩
      · obtain ⟨h1, h2⟩ := firstMake_some l h
        exact ⟨by simp [h1], h2⟩
    · obtain ⟨h1, h2⟩ := firstMake_some l h
      exact ⟨by simp [h1], h2⟩

theorem apartA_spec {P : Program} {fr : AFrame} {cs : List AFrame} (h : apartA P fr cs = true) : nodup (fr.pends P) = true ∧ ∀ c ∈ cs, ∀ b ∈ c.pends P, b ∉ fr.pends P := by
  unfold apartA at h
  split at h
  · rename_i hq
    rw [hq]
    exact ⟨rfl, fun _ _ _ _ q => by cases q⟩
  · rename_i l hq
    rw [Bool.and_eq_true] at h
    refine ⟨h.1, fun c hc b hb => ?_⟩
    have h2 := h.2
    rw [List.all_eq_true] at h2
    have h3 := h2 c hc
    rw [List.all_eq_true] at h3
    simpa using h3 b hb

theorem Up.grows {P : Program} {ops : Array Oper} {lag : List Nat} {tmps : Array Value} {ρ σ : Ren} (h : Up P ops lag tmps ρ σ) : Ren.Grow (lag.filterMap (madeBlk P ops tmps)) ρ σ := ⟨h.le, fun i _ hi => h.on i hi⟩

theorem draw_sim (ok : EnvOK E) (hG : GR E.G ρ) {st st' : ASt} {fr' : Frame} {cs' : List Frame} (hF : FR E.P ρ st.fr fr') (hC : CsR E.P ρ st.cs cs') (hH : HR N (bare w0) ρ st.H w) (hm : st.fr.mode = .run) {d : Draw} (hd : st.fr.draw = some d)
    (h : drawStep E st d = some st') : Goes E N w0 base ρ st' (lone fr' (cs' ++ base) w) := by
  have hm' : fr'.mode = .run := (ModeR.run hF.mode).1 hm
  have hb := hF.body
  unfold BodyR at hb
  simp only [hm, hd] at hb
  obtain ⟨fuel, t, lc, k', htd, htodo, L⟩ := hb
  have hpd : st.fr.pends E.P = d.lag.filterMap (madeBlk E.P d.ops st.fr.tmps) := by unfold AFrame.pends; rw [hd]
  unfold drawStep at h
  split at h
  · cases h
  rename_i hcur
  rw [hcur] at htodo
  simp only at htodo
  split at h
  · -- the end
    rename_i hready
    split at h
    case isFalse => cases h
    rename_i hcond
    cases h
    rw [Bool.and_eq_true, Bool.and_eq_true] at hcond
    obtain ⟨hnd, hsep⟩ := apartA_spec hcond.2
    rw [hpd] at hnd hsep
    obtain ⟨σ, w2, tmps2, hup, hH2, hs, ht2⟩ := replay_end ok (cs' ++ base) hcond.1.2 hnd hready fuel t lc fr' ρ w hG hH L hm' htodo
    have hs2 : step E.P (lone { fr' with tmps := tmps2, todo := .inRegion d.ops [] :: k' } (cs' ++ base) w2) = .next (lone { fr' with tmps := tmps2, todo := k' } (cs' ++ base) w2) :=
      step_go hm' (by simp [stepG.exec])
    refine Goes.of' hup.le (hs.trans (.one hs2)) ⟨hF.fn, hF.kind, hF.round.mono hup.le, hF.mode.mono hup.le, hF.defers.mono hup.le, ?_⟩ (hC.mono hup.grows hsep) hH2
    unfold BodyR
    simp only [hm]
    exact ⟨ht2, htd.mono hup.le⟩
  · -- the turn of one
    rename_i r hready
    simp only at h
    split at h
    case isFalse => cases h
    rename_i hcond
    rw [Bool.and_eq_true, Bool.and_eq_true] at hcond
    obtain ⟨⟨hstill, hap⟩, hapart⟩ := hcond
    obtain ⟨hnd, hsep⟩ := apartA_spec hapart
    rw [hpd] at hnd hsep
    split at h
    case h_2 => cases h
    rename_i o ho
    obtain ⟨ρ1, w2, tmps2, lc2, f2, t2, hup, hH2, hs, L2, hr2⟩ := replay ok (cs' ++ base) hstill hnd hready fuel t lc fr' ρ w hG hH L hm' htodo
    have hra : r ∈ Region.ready .any d.ops d.listed := by rw [hready]; simp
    have L3 := L2.force hra hr2
    have hG2 := hG.mono hup.le
    have hC2 := hC.mono hup.grows hsep
    have hlo : looksOf d.ops r = o.looksAt d.ops := by unfold looksOf; rw [ho]; rfl
    have hT : ∀ t ∈ o.looksAt d.ops, TmpR ρ1 st.fr.tmps tmps2 t := fun t ht => L2.looksForced hr2 hap (by rw [hlo]; exact ht)
    have hF2 : FR E.P ρ1 { st.fr with draw := some { d with listed := d.listed.setIfInBounds r true, lag := d.lag.filter fun j => !isBefore d.ops d.ops.size j r, cur := some r } }
        { fr' with tmps := tmps2, todo := .inRegion d.ops (r :: Region.linearise.go .any d.ops f2 t2 (lc2.setIfInBounds r true) []) :: k' } := by
      refine ⟨hF.fn, hF.kind, hF.round.mono hup.le, hF.mode.mono hup.le, hF.defers.mono hup.le, ?_⟩
      unfold BodyR
      simp only [hm]
      exact ⟨f2, t2, lc2.setIfInBounds r true, k', htd.mono hup.le, rfl, L3⟩
    split at h
    · rename_i hw
      have hwc := wanted_rel L2.size hT hw
      simp only [Option.map_eq_some_iff] at h
      obtain ⟨f1, hf, rfl⟩ := h
      have hstep := step_unwanted (P := E.P) (fr := { fr' with tmps := tmps2, todo := .inRegion d.ops (r :: Region.linearise.go .any d.ops f2 t2 (lc2.setIfInBounds r true) []) :: k' }) (cs := cs' ++ base) (w := w2) hm' rfl (by rw [ho]; exact hwc)
      exact Goes.of' hup.le (hs.trans (.one hstep)) (hF2.finish (VR.undef ρ1) hf) hC2 hH2
    · rename_i hw
      have hwc := wanted_rel L2.size hT hw
      split at h
      case h_2 => cases h
      rename_i x H' hx
      have hsays := aop_spec (w := w2) (w0 := pinned w0 ρ1) (N := N) (r' := evalT tmps2) ok hH2.pinned (fun y hy hok => evalT_rel' hG2 (fun t e => (hT t (mem_looks (by rw [← e]; exact hy))).getD L2.size) hok) hx
      obtain ⟨σ, m', hle, hs3, hsim⟩ := op_sim (st := { st with fr := { st.fr with draw := some { d with listed := d.listed.setIfInBounds r true, lag := d.lag.filter fun j => !isBefore d.ops d.ops.size j r, cur := some r } } })
        (base := base) hF2 hC2 hm' rfl ho hwc (fun c hc => aop_defer hx hc) hsays h
      exact ⟨σ, m', Ren.le_trans hup.le hle, hs.trans hs3, hsim⟩
    · cases h
  · -- one more lags
    split at h
    · rename_i i v hff
      cases h
      obtain ⟨hi, hself, hbeh, hfl⟩ := firstFloat_some _ hff
      refine Goes.of (.refl _ _) ⟨hF.fn, hF.kind, hF.round, hF.mode, hF.defers, ?_⟩ hC hH
      unfold BodyR
      simp only [hm]
      refine ⟨fuel, t, lc, k', htd, ?_, L.float (Ren.le_refl ρ) (fun _ _ q => q) hi hself hbeh v ?_⟩
      · simp only [hcur]
        exact htodo
      · intro b hb
        unfold madeBlk at hb
        cases hmk : (d.ops[i]?).bind (makes E.P) with
        | none => rw [hmk] at hb; cases hb
        | some p => rw [floats_makes hmk] at hfl; cases hfl
    · split at h
      case h_2 => cases h
      rename_i i ob dd hfm
      cases h
      obtain ⟨hi, hself, hbeh, hmk, hlt⟩ := firstMake_some _ hfm
      have hdst : dstOf d.ops i = some dd := by
        cases ho : d.ops[i]? with
        | none => simp [ho] at hmk
        | some o =>
          rw [ho] at hmk
          have hmk : makes E.P o = some (ob, dd) := hmk
          unfold dstOf
          rw [ho]
          exact (makes_spec hmk).1
      have hle := Ren.le_more ρ
      have hgr : Ren.Grow [] ρ ρ.more := ⟨hle, fun _ _ q => .inl q⟩
      refine Goes.of' hle (.refl _ _) ⟨hF.fn, hF.kind, hF.round.mono hle, hF.mode.mono hle, hF.defers.mono hle, ?_⟩ (hC.up hgr) (hH.reserve ob)
      unfold BodyR
      simp only [hm]
      have hn := hH.n
      refine ⟨fuel, t, lc, k', htd.mono hle, ?_, ?_⟩
      · simp only [hcur]
        exact htodo
      · have hF3 := L.float (σ := ρ.more) hle (fun _ _ q => q) hi hself hbeh (mkVal ob st.H.next) (by
          intro b hb
          rw [hdst] at hb
          unfold madeBlk at hb
          rw [hmk] at hb
          simp only [putT, Array.getElem?_setIfInBounds, if_true] at hb
          rw [if_pos hlt] at hb
          obtain rfl : st.H.next = b := by
            cases ob <;> (cases hb; rfl)
          refine ⟨show st.H.next < ρ.n + 1 by omega, fun q => ?_⟩
          have : st.H.next < ρ.n := ρ.lt _ q
          omega)
        rw [hdst] at hF3
        exact hF3

theorem astep_sim (ok : EnvOK E) (hmix : E.P.follows .mixedOrders = true) (hG : GR E.G ρ) {st st' : ASt} {m : Machine} (hS : Sim E N w0 base ρ st m) (h : astep E st = some st') : Goes E N w0 base ρ st' m := by
  obtain ⟨fr', cs', w, rfl, hF, hC, hH⟩ := hS
  unfold astep at h
  split at h
  · rename_i hm
    split at h
    · rename_i d hd
      exact draw_sim ok hG hF hC hH hm hd h
    · rename_i hd
      exact exec_sim ok hmix hG hF hC hH hm hd h
  · rename_i hm
    exact unwind_sim ok hF hC hH hm h

theorem arun_sim (ok : EnvOK E) (hmix : E.P.follows .mixedOrders = true) {f : FuncId} : ∀ (n : Nat) {ρ : Ren} {st : ASt} {m : Machine} {v : Value} {H' : AHeap}, GR E.G ρ → Sim E N w0 base ρ st m → arun E f n st = some (v, H') →
    ∃ σ fr w' v', ρ.le σ ∧ Steps E.P m (lone fr base w') ∧ fr.fn = f ∧ fr.leaving E.P w' (.returned v') ∧ VR σ v v' ∧ HR N (bare w0) σ H' w'
  | 0, _, _, _, _, _, _, _, h => by cases h
  | n + 1, ρ, st, m, v, H', hG, hS, h => by
    unfold arun at h
    split at h
    · rename_i hl
      simp only [Option.map_eq_some_iff, Prod.mk.injEq] at h
      obtain ⟨v0, hv, rfl, rfl⟩ := h
      obtain ⟨fr', cs', w, rfl, hF, hC, hH⟩ := hS
      unfold lastA at hl
      simp only [Bool.and_eq_true, List.isEmpty_iff] at hl
      obtain ⟨⟨⟨⟨h0, h1⟩, h2⟩, h3⟩, h4⟩ := hl
      have hmr : st.fr.mode = .returning := by
        revert h4
        cases st.fr.mode <;> simp
      have hk : st.fr.kind = .normal := by
        revert h3
        cases st.fr.kind <;> simp
      obtain ⟨fn, v', q1, q2, q3⟩ := results_sim hF hH (by rw [hmr]; intro e; cases e) hv
      rw [h1] at hC
      cases cs' with
      | cons _ _ => exact hC.elim
      | nil =>
        have hds := hF.defers
        rw [h2] at hds
        have hd' : fr'.defers = [] := by
          cases hd' : fr'.defers with
          | nil => rfl
          | cons _ _ => rw [hd'] at hds; exact hds.elim
        have hmode := hF.mode
        rw [hmr] at hmode
        have hmr' : fr'.mode = .returning := by
          cases hmr' : fr'.mode with
          | returning => rfl
          | _ => rw [hmr'] at hmode; exact hmode.elim
        exact ⟨ρ, fr', w, v', Ren.le_refl _, .refl _ _, by rw [hF.fn]; exact eq_of_beq h0, ⟨hmr', hd', by rw [hF.kind, hk], fn, q1, q2⟩, q3, hH⟩
    · split at h
      case h_2 => cases h
      rename_i st' hst
      obtain ⟨σ, m', hle, hs, hS'⟩ := astep_sim ok hmix hG hS hst
      obtain ⟨τ, fr, w', v', h1, h2, h3, h4, h5, h6⟩ := arun_sim ok hmix n (hG.mono hle) hS' h
      exact ⟨τ, fr, w', v', Ren.le_trans hle h1, hs.trans h2, h3, h4, h5, h6⟩

theorem arun_calls (ok : EnvOK E) (hmix : E.P.follows .mixedOrders = true) (hG : GR E.G ρ) {H : AHeap} (hH : HR N (bare w0) ρ H w) {f : FuncId} {x x' : Array Value} (hx : AsR ρ x x') {fr : AFrame} (hent : enterA E.P f x .normal = some fr) {n : Nat} {v : Value} {H' : AHeap}
    (hrun : arun E f n { fr, cs := [], H } = some (v, H')) : Calls E.P f x' w (fun e w' => ∃ σ v', e = .returned v' ∧ ρ.le σ ∧ VR σ v v' ∧ HR N (bare w0) σ H' w') := by
  intro cs
  have hS : Sim E N w0 cs ρ { fr, cs := [], H } (lone (Frame.enter E.P f x' .normal) cs w) := ⟨_, [], w, rfl, FR.enter hx hent, trivial, hH⟩
  obtain ⟨σ, fr2, w', v', h1, h2, h3, h4, h5, h6⟩ := arun_sim ok hmix n hG hS hrun
  exact ⟨.returned v', w', fr2, ⟨σ, v', rfl, h1, h5, h6⟩, h2, h3, h4⟩

end
end Go.Ev

namespace Go.Ev
open Go.RowKit

def runA (E : Env) : Nat → ASt → Option ASt
  | 0, st => some st
  | n + 1, st => match astep E st with
    | some st' => runA E n st'
    | none => none

def Reaches (E : Env) (st st' : ASt) : Prop := ∃ n, runA E n st = some st'

section
variable {E : Env} {N : Nat} {w0 : World} {base : List Frame} {ρ : Ren} {w : World}

theorem runA_add : ∀ (n k : Nat) {st st1 st2 : ASt}, runA E n st = some st1 → runA E k st1 = some st2 → runA E (n + k) st = some st2
  | 0, k, st, st1, st2, h, h2 => by cases h; rw [Nat.zero_add]; exact h2
  | n + 1, k, st, st1, st2, h, h2 => by
    have e : n + 1 + k = (n + k) + 1 := by omega
    rw [e]
    unfold runA at h ⊢
    split at h
    · rename_i s hs
      exact runA_add n k h h2
    · cases h

theorem Reaches.trans {a b c : ASt} (h : Reaches E a b) (k : Reaches E b c) : Reaches E a c := by
  obtain ⟨n, hn⟩ := h
  obtain ⟨m, hm⟩ := k
  exact ⟨n + m, runA_add n m hn hm⟩

theorem runA_sim (ok : EnvOK E) (hmix : E.P.follows .mixedOrders = true) : ∀ (n : Nat) {ρ : Ren} {st st' : ASt} {m : Machine}, GR E.G ρ → Sim E N w0 base ρ st m → runA E n st = some st' → Goes E N w0 base ρ st' m
  | 0, ρ, st, st', m, _, hS, h => by cases h; exact ⟨ρ, m, Ren.le_refl _, .refl _ _, hS⟩
  | n + 1, ρ, st, st', m, hG, hS, h => by
    unfold runA at h
    split at h
    case h_2 => cases h
    rename_i s hs
    obtain ⟨σ, m1, hle, h1, hS1⟩ := astep_sim ok hmix hG hS hs
    obtain ⟨τ, m2, hle2, h2, hS2⟩ := runA_sim ok hmix n (hG.mono hle) hS1 h
    exact ⟨τ, m2, Ren.le_trans hle hle2, h1.trans h2, hS2⟩

theorem arun_calls_parts (ok : EnvOK E) (hmix : E.P.follows .mixedOrders = true) (hG : GR E.G ρ) {H : AHeap} (hH : HR N (bare w0) ρ H w) {f : FuncId} {x x' : Array Value} (hx : AsR ρ x x') {fr : AFrame} (hent : enterA E.P f x .normal = some fr)
    {st : ASt} (hre : Reaches E { fr, cs := [], H } st) {n : Nat} {v : Value} {H' : AHeap} (hrun : arun E f n st = some (v, H')) :
    Calls E.P f x' w (fun e w' => ∃ σ v', e = .returned v' ∧ ρ.le σ ∧ VR σ v v' ∧ HR N (bare w0) σ H' w') := by
  intro cs
  have hS : Sim E N w0 cs ρ { fr, cs := [], H } (lone (Frame.enter E.P f x' .normal) cs w) := ⟨_, [], w, rfl, FR.enter hx hent, trivial, hH⟩
  obtain ⟨k, hk⟩ := hre
  obtain ⟨τ, m1, hle, hs1, hS1⟩ := runA_sim ok hmix k hG hS hk
  obtain ⟨σ, fr2, w', v', h1, h2, h3, h4, h5, h6⟩ := arun_sim ok hmix n (hG.mono hle) hS1 hrun
  exact ⟨.returned v', w', fr2, ⟨σ, v', rfl, Ren.le_trans hle h1, h5, h6⟩, hs1.trans h2, h3, h4⟩

theorem HR.forget {w0 : Base} {H H2 : AHeap} (h : HR N w0 ρ H w) (hn : H2.next = H.next) (hb : ∀ i b, H2.blk i = some b → H.blk i = some b) (hg : ∀ i g, H.grp i = some g → H2.grp i = some g ∨ ∀ j b, H2.blk j = some b → b.root ≠ i) : HR N w0 ρ H2 w := by
  refine ⟨by rw [hn]; exact h.n, h.base, h.below, h.lt, fun i b q => h.dom i b (hb i b q), fun i b c e fr on q => h.cells i b c e fr on (hb i b q), fun i b on q => h.objs i b on (hb i b q), fun i b on q => h.own i b on (hb i b q), fun i b on q => h.old i b on (hb i b q),
    fun i j bi bj on1 on2 q1 q2 => h.sep i j bi bj on1 on2 (hb i bi q1) (hb j bj q2), fun i b on q q2 q3 => ?_, fun i b q => by rw [hn]; exact h.root i b (hb i b q), h.off⟩
  obtain ⟨g, h1, h2, h3⟩ := h.grp i b on (hb i b q) q2 q3
  rcases hg _ _ h1 with q4 | q4
  · exact ⟨g, q4, h2, h3⟩
  · exact absurd rfl (q4 i b q)

end
end Go.Ev

