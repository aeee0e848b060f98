import Derived.Test.YtblklpjkmegaaaaGreatDoorEvY
namespace Go.Ev
open Go.RowKit

section
variable {P : Program} {fr : Frame} {cs : List Frame} {w w' : World} {ops : Array Oper} {i : Nat} {rest : List Nat} {k : List Item} {o : Oper}

/-- A frame at an operation that is carried out. -/
structure AtOp (fr : Frame) (ops : Array Oper) (i : Nat) (rest : List Nat) (k : List Item) (o : Oper) : Prop where
  mode : fr.mode = .run
  todo : fr.todo = .inRegion ops (i :: rest) :: k
  op : ops[i]? = some o
  wanted : Region.wanted o (yielded ops fr.tmps) = true
  defer : fr.roundOf = none ∨ ∀ c, o.op ≠ .defer c

theorem AtOp.go (A : AtOp fr ops i rest k o) {fr2 : Frame} {cs2 : List Frame} (h : (stepG.apply P true fr cs none (execOp (evalT fr.tmps) o) w).bare = .go { frame := fr2, callers := cs2, status := .running, dying := none } w') :
    step P (lone fr cs w) = .next (lone fr2 cs2 w') := by
  refine step_lone_go ?_
  rw [stepG_oper A.mode A.todo A.op A.wanted A.defer]
  exact h

theorem step_skip' (A : AtOp fr ops i rest k o) (hr : (execOp (evalT fr.tmps) o).run P w = .ok .skip w') : step P (lone fr cs w) = .next (lone (fr.finish undef) cs w') :=
  A.go (by simp [stepG.apply, hr])

theorem step_enter (A : AtOp fr ops i rest k o) {f : FuncId} {x : Array Value} (hr : (execOp (evalT fr.tmps) o).run P w = .ok (.enter f x) w') : step P (lone fr cs w) = .next (lone (Frame.enter P f x .normal) (fr :: cs) w') :=
  A.go (by simp [stepG.apply, hr, A.todo])

theorem step_round (A : AtOp fr ops i rest k o) {l : Nat} {f : FuncId} {x : Array Value} {a b : Code} (hr : (execOp (evalT fr.tmps) o).run P w = .ok (.round l f x a b) w') : step P (lone fr cs w) = .next (lone (Frame.round l f x a b .normal) (fr :: cs) w') :=
  A.go (by simp [stepG.apply, hr])

theorem step_defer (A : AtOp fr ops i rest k o) {d : Deferred} (hr : (execOp (evalT fr.tmps) o).run P w = .ok (.defer d) w') : step P (lone fr cs w) = .next (lone ({ fr with defers := d :: fr.defers }.finish undef) cs w') :=
  A.go (by simp [stepG.apply, hr])

theorem step_panic (A : AtOp fr ops i rest k o) {v : Value} (hr : (execOp (evalT fr.tmps) o).run P w = .halt (.panic v) w') : step P (lone fr cs w) = .next (lone (fr.raise [{ v, recovered := false }]) cs w') :=
  A.go (by simp [stepG.apply, hr])

theorem step_recover (A : AtOp fr ops i rest k o) (hn : fr.roundOf = none) (hr : (execOp (evalT fr.tmps) o).run P w = .ok .recover w') :
    step P (lone fr cs w) = .next (match tryRecover fr cs with
      | some (v, cs2) => lone (fr.finish v) cs2 w'
      | none => lone (fr.finish .nilIface) cs w') := by
  cases h : tryRecover fr cs with
  | none => exact A.go (by simp [stepG.apply, hr, hn, h])
  | some p => exact A.go (by simp [stepG.apply, hr, hn, h])

end

section
variable {E : Env} {N : Nat} {w0 : World} {base : List Frame} {ρ : Ren} {w : World}

theorem aop_defer {tmps : Array Value} {H H' : AHeap} {o : Oper} {x : AOut} (h : aop E tmps H o = some (x, H')) {c : Call} (hc : o.op = .defer c) : ∃ d, x = .next (.defer d) := by
  unfold aop aopR at h
  simp only [hc] at h
  split at h
  case isFalse => cases h
  split at h
  case h_2 => cases h
  split at h
  case h_2 => cases h
  split at h
  · cases h
  · cases h; exact ⟨_, rfl⟩

theorem op_sim {st st' : ASt} {fr' : Frame} {cs' : List Frame} {ops : Array Oper} {i : Nat} {rest : List Nat} {k : List Item} {o : Oper} {x : AOut} {H' : AHeap}
    (hF : FR E.P ρ st.fr fr') (hC : CsR E.P ρ st.cs cs') (hm : fr'.mode = .run) (ht : fr'.todo = .inRegion ops (i :: rest) :: k) (ho : ops[i]? = some o) (hw : Region.wanted o (yielded ops fr'.tmps) = true)
    (hx : ∀ c, o.op = .defer c → ∃ d, x = .next (.defer d)) (hsays : OpSays E N (pinned w0 ρ) ρ (execOp (evalT fr'.tmps) o) w x H') (hdone : opDone E st x H' = some st') : Goes E N w0 base ρ st' (lone fr' (cs' ++ base) w) := by
  have A : AtOp fr' ops i rest k o := by
    refine ⟨hm, ht, ho, hw, ?_⟩
    cases hr : fr'.roundOf with
    | none => exact .inl rfl
    | some l =>
      refine .inr fun c hc => ?_
      obtain ⟨d, rfl⟩ := hx c hc
      unfold opDone at hdone
      have hrd := hF.round
      rw [hr] at hrd
      cases q : st.fr.roundOf with
      | none => rw [q] at hrd; exact hrd.elim
      | some l2 => simp only [q, Option.isSome_some, Bool.true_or, if_true] at hdone; cases hdone
  cases x with
  | panic v =>
    obtain ⟨v', h1, h2, h3⟩ := hsays
    unfold opDone at hdone
    simp only at hdone
    split at hdone
    case isFalse => cases hdone
    rename_i hl
    cases hdone
    exact Goes.of (.one (step_panic A h1)) (hF.raise hl ⟨⟨h2, rfl, rfl⟩, trivial⟩) hC h3.unpin
  | next n =>
    obtain ⟨σ, n', w', hle, h1, h2, h3⟩ := hsays
    have hgr := h3.grows hle
    have h3 := h3.unpin
    have hF := hF.up hgr
    have hC := hC.up hgr
    unfold opDone at hdone
    simp only at hdone
    cases h2 with
    | value hv =>
      simp only [Option.map_eq_some_iff] at hdone
      obtain ⟨f1, hf, rfl⟩ := hdone
      exact Goes.of' hle (.one (step_value hm ht ho hw A.defer h1)) (hF.finish hv hf) hC h3
    | skip =>
      simp only [Option.map_eq_some_iff] at hdone
      obtain ⟨f1, hf, rfl⟩ := hdone
      exact Goes.of' hle (.one (step_skip' A h1)) (hF.finish (VR.undef σ) hf) hC h3
    | enter f hargs =>
      simp only [Option.map_eq_some_iff] at hdone
      obtain ⟨f1, hf, rfl⟩ := hdone
      exact Goes.of' (cs' := fr' :: cs') hle (.one (step_enter A h1)) (FR.enter hargs hf) ⟨hF, hC⟩ h3
    | round f a b hl hargs =>
      cases hdone
      refine Goes.of' (cs' := fr' :: cs') hle (.one (step_round A h1)) ⟨rfl, rfl, hl, trivial, trivial, ?_⟩ ⟨hF, hC⟩ h3
      unfold BodyR
      exact ⟨hargs, .code a, .beginRound, .code b, trivial⟩
    | defer hd =>
      rename_i d d'
      simp only at hdone
      split at hdone
      case isTrue => cases hdone
      simp only [Option.map_eq_some_iff] at hdone
      obtain ⟨f1, hf, rfl⟩ := hdone
      have hF2 : FR E.P σ { st.fr with defers := d :: st.fr.defers } { fr' with defers := d' :: fr'.defers } := ⟨hF.fn, hF.kind, hF.round, hF.mode, ⟨hd, hF.defers⟩, hF.body⟩
      exact Goes.of' hle (.one (step_defer A h1)) (hF2.finish (VR.undef σ) hf) hC h3
    | recover =>
      simp only at hdone
      split at hdone
      case isTrue => cases hdone
      rename_i hcond
      simp only [Bool.or_eq_true, not_or, Bool.not_eq_true, Option.isSome_eq_false_iff, Option.isNone_iff_eq_none] at hcond
      obtain ⟨⟨hrn, hdn⟩, hk⟩ := hcond
      have hrn' : fr'.roundOf = none := by
        have := hF.round
        rw [hrn] at this
        cases q : fr'.roundOf with
        | none => rfl
        | some l => rw [q] at this; exact this.elim
      have hk' : fr'.kind = .deferred := by
        rw [hF.kind]
        cases q : st.fr.kind <;> first | rfl | (rw [q] at hk; simp at hk; done)
      have hs := step_recover (cs := cs' ++ base) A hrn' h1
      split at hdone
      case h_2 => cases hdone
      rename_i c rest' hcs
      rw [hcs] at hC
      cases cs' with
      | nil => exact hC.elim
      | cons c' cs2 =>
        obtain ⟨hc, hC2⟩ := hC
        have hmode := hc.mode
        split at hdone
        · rename_i v older hmc
          simp only [Option.map_eq_some_iff] at hdone
          obtain ⟨f1, hf, rfl⟩ := hdone
          rw [hmc] at hmode
          cases hmc' : c'.mode with
          | panicking ch =>
            rw [hmc'] at hmode
            cases ch with
            | nil => exact hmode.elim
            | cons p ps =>
              obtain ⟨⟨hv, hrec, hgx⟩, hps⟩ := hmode
              obtain ⟨pv, prec, pgx⟩ := p
              simp only at hv hrec hgx
              subst hrec hgx
              have htry : tryRecover fr' (c' :: cs2 ++ base) = some (pv, { c' with mode := .panicking ({ v := pv, recovered := true } :: ps) } :: (cs2 ++ base)) := by
                simp only [tryRecover, hk', List.cons_append, hmc']
              rw [htry] at hs
              simp only at hs
              refine Goes.of' (cs' := { c' with mode := .panicking ({ v := pv, recovered := true } :: ps) } :: cs2) hle (.one hs) (hF.finish hv hf) ⟨?_, hC2⟩ h3
              refine ⟨hc.fn, hc.kind, hc.round, ⟨⟨hv, rfl, rfl⟩, hps⟩, hc.defers, ?_⟩
              have hb := hc.body
              unfold BodyR at hb ⊢
              rw [hmc] at hb
              exact hb
          | _ => rw [hmc'] at hmode; exact hmode.elim
        · rename_i hno
          simp only [Option.map_eq_some_iff] at hdone
          obtain ⟨f1, hf, rfl⟩ := hdone
          have htry : tryRecover fr' (c' :: cs2 ++ base) = none := by
            simp only [tryRecover, hk', List.cons_append]
            split
            · rename_i v2 older2 hm2
              exfalso
              rw [hm2] at hmode
              cases hmc : c.mode with
              | panicking ch =>
                rw [hmc] at hmode
                cases ch with
                | nil => exact hmode.elim
                | cons p ps =>
                  obtain ⟨⟨hv, hrec, hgx⟩, hps⟩ := hmode
                  obtain ⟨pv, prec, pgx⟩ := p
                  simp only at hrec hgx
                  subst hrec hgx
                  exact hno _ _ hmc
              | _ => rw [hmc] at hmode; exact hmode.elim
            · rfl
          rw [htry] at hs
          simp only at hs
          refine Goes.of' (cs' := c' :: cs2) hle (.one hs) (hF.finish .nilIface hf) ?_ h3
          show CsR E.P σ st.cs _
          rw [hcs]
          exact ⟨hc, hC2⟩

end
end Go.Ev
