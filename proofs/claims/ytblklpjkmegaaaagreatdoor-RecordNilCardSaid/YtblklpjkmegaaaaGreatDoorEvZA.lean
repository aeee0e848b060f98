import Derived.Test.YtblklpjkmegaaaaGreatDoorEvZ
namespace Go.Ev
open Go.RowKit

/-- Where a frame's body is left, and how. -/
def leaves : List Item → Option (Option Code)
  | [] => some none
  | .code .ret :: _ => some (some .ret)
  | .code (.exit id) :: k => if (exitTo id k).isNone then some (some (.exit id)) else none
  | .code (.goto l) :: k => if (gotoIn l k).isNone then some (some (.goto l)) else none
  | _ => none

section
variable {P : Program} {fr : Frame} {cs : List Frame} {w w' : World}

theorem leave_fn {j : Option Code} (hm : fr.mode = .run) (hl : leaves fr.todo = some j) (hr : fr.roundOf = none) (hj : j = none ∨ j = some .ret) :
    step P (lone fr cs w) = .next (lone { fr with mode := .returning } cs w) := by
  refine step_lone_go ?_
  unfold leaves at hl
  split at hl
  · rename_i ht
    simp [stepG, hm, stepG.exec, ht, hr]
  · rename_i ht
    simp [stepG, hm, stepG.exec, ht, hr]
  · split at hl
    · cases hl; rcases hj with hj | hj <;> cases hj
    · cases hl
  · split at hl
    · cases hl; rcases hj with hj | hj <;> cases hj
    · cases hl
  · cases hl

theorem leave_round {j : Option Code} {l : Nat} {v : Value} {fr2 : Frame} {cs2 : List Frame} (hm : fr.mode = .run) (hl : leaves fr.todo = some j) (hr : fr.roundOf = some l) (hrun : (Instr.endRound l j).run P w = .ok v w')
    (hd : doReturn P true fr cs none v w' = .go { frame := fr2, callers := cs2, status := .running, dying := none } w') :
    step P (lone fr cs w) = .next (lone fr2 cs2 w') := by
  refine step_lone_go ?_
  unfold leaves at hl
  split at hl
  · rename_i ht
    cases hl
    simp [stepG, hm, stepG.exec, ht, hr, hrun, hd]
  · rename_i ht
    cases hl
    simp [stepG, hm, stepG.exec, ht, hr, hrun, hd]
  · rename_i ht
    split at hl
    case isFalse => cases hl
    rename_i hn
    cases hl
    have hn : exitTo _ _ = none := Option.isNone_iff_eq_none.1 hn
    simp [stepG, hm, stepG.exec, ht, hr, hrun, hd, hn]
  · rename_i ht
    split at hl
    case isFalse => cases hl
    rename_i hn
    cases hl
    have hn : gotoIn _ _ = none := Option.isNone_iff_eq_none.1 hn
    simp [stepG, hm, stepG.exec, ht, hr, hrun, hd, hn]
  · cases hl

end

section
variable {E : Env} {N : Nat} {w0 : World} {base : List Frame} {ρ : Ren} {w : World}

theorem PesR.drop {ρ : Ren} : ∀ {a b : List PanicEntry}, PesR ρ a b → PesR ρ (a.dropWhile (!·.goexit)) (b.dropWhile (!·.goexit))
  | [], [], _ => trivial
  | p :: ps, q :: qs, h => by
    have hg : q.goexit = p.goexit := h.1.2.2
    rw [List.dropWhile_cons, List.dropWhile_cons, hg]
    split
    · exact PesR.drop h.2
    · exact h

def settle (caller : Frame) : Frame :=
  match caller.mode with
  | .panicking ({ recovered := true, .. } :: older) =>
    match older.dropWhile (!·.goexit) with
    | [] => { caller with mode := .returning }
    | rest => { caller with mode := .panicking rest }
  | _ => caller

theorem FR.settle {c : AFrame} {c' : Frame} (h : FR E.P ρ c c') : FR E.P ρ { c with mode := settleA c.mode } (Ev.settle c') := by
  have hm := h.mode
  have hb := h.body
  unfold BodyR at hb
  cases h1 : c.mode with
  | run =>
    rw [h1] at hm
    cases h2 : c'.mode with
    | run =>
      have e1 : Ev.settle c' = c' := by unfold Ev.settle; rw [h2]
      have e2 : ({ c with mode := settleA .run } : AFrame) = c := by cases c; simp only at h1; subst h1; rfl
      rw [e1, e2]
      exact h
    | _ => rw [h2] at hm; exact hm.elim
  | returning =>
    rw [h1] at hm
    cases h2 : c'.mode with
    | returning =>
      have e1 : Ev.settle c' = c' := by unfold Ev.settle; rw [h2]
      have e2 : ({ c with mode := settleA .returning } : AFrame) = c := by cases c; simp only at h1; subst h1; rfl
      rw [e1, e2]
      exact h
    | _ => rw [h2] at hm; exact hm.elim
  | panicking ch =>
    rw [h1] at hm hb
    simp only at hb
    cases h2 : c'.mode with
    | panicking ch' =>
      rw [h2] at hm
      cases ch with
      | nil =>
        cases ch' with
        | cons _ _ => exact hm.elim
        | nil =>
          have e1 : Ev.settle c' = c' := by unfold Ev.settle; rw [h2]
          have e2 : ({ c with mode := settleA (.panicking []) } : AFrame) = c := by cases c; simp only at h1; subst h1; rfl
          rw [e1, e2]
          exact h
      | cons p ps =>
        cases ch' with
        | nil => exact hm.elim
        | cons q qs =>
          obtain ⟨⟨hv, hrec, hgx⟩, hps⟩ := hm
          obtain ⟨pv, prec, pgx⟩ := p
          obtain ⟨qv, qrec, qgx⟩ := q
          simp only at hv hrec hgx
          subst hrec hgx
          cases qrec with
          | false =>
            have e1 : Ev.settle c' = c' := by unfold Ev.settle; rw [h2]
            have e2 : ({ c with mode := settleA (.panicking ({ v := pv, recovered := false, goexit := qgx } :: ps)) } : AFrame) = c := by cases c; simp only at h1; subst h1; rfl
            rw [e1, e2]
            exact h
          | true =>
            have hdrop := hps.drop
            have e1 : Ev.settle c' = (match qs.dropWhile (!·.goexit) with
              | [] => { c' with mode := .returning }
              | rest => { c' with mode := .panicking rest }) := by unfold Ev.settle; rw [h2]
            have e2 : settleA (.panicking ({ v := pv, recovered := true, goexit := qgx } :: ps)) = (match ps.dropWhile (!·.goexit) with
              | [] => .returning
              | rest => .panicking rest) := rfl
            rw [e1, e2]
            generalize ps.dropWhile (!·.goexit) = a at hdrop
            generalize qs.dropWhile (!·.goexit) = b at hdrop
            cases a with
            | nil =>
              cases b with
              | cons _ _ => exact hdrop.elim
              | nil => exact ⟨h.fn, h.kind, h.round, trivial, h.defers, hb⟩
            | cons x xs =>
              cases b with
              | nil => exact hdrop.elim
              | cons y ys => exact ⟨h.fn, h.kind, h.round, hdrop, h.defers, hb⟩
    | _ => rw [h2] at hm; exact hm.elim

/-- A frame ends with a value. -/
theorem return_sim {st st' : ASt} {fr' : Frame} {cs' : List Frame} {v v' : Value} {H' : AHeap} (hF : FR E.P ρ st.fr fr') (hC : CsR E.P ρ st.cs cs') (hv : VR ρ v v') (hr : returnA st v H' = some st') :
    ∃ fr2 cs2, doReturn E.P true fr' (cs' ++ base) none v' w = .go { frame := fr2, callers := cs2 ++ base, status := .running, dying := none } w ∧ FR E.P ρ st'.fr fr2 ∧ CsR E.P ρ st'.cs cs2 ∧ st'.H = H' := by
  unfold returnA at hr
  split at hr
  case h_2 => cases hr
  rename_i c rest hcs
  rw [hcs] at hC
  cases cs' with
  | nil => exact hC.elim
  | cons c' cs2 =>
    obtain ⟨hc, hC2⟩ := hC
    have hk := hF.kind
    split at hr
    · rename_i hkn
      simp only [Option.map_eq_some_iff] at hr
      obtain ⟨c1, hf, rfl⟩ := hr
      rw [hkn] at hk
      exact ⟨c'.finish v', cs2, by simp only [doReturn, List.cons_append, hk], hc.finish hv hf, hC2, rfl⟩
    · rename_i hkn
      cases hr
      rw [hkn] at hk
      refine ⟨Ev.settle c', cs2, ?_, hc.settle, hC2, rfl⟩
      simp only [doReturn, List.cons_append, hk]
      rfl
    · cases hr

theorem leave_sim {st st' : ASt} {fr' : Frame} {cs' : List Frame} {j : Option Code} (hF : FR E.P ρ st.fr fr') (hC : CsR E.P ρ st.cs cs') (hH : HR N (bare w0) ρ st.H w) (hm : st.fr.mode = .run) (ht : AsR ρ st.fr.tmps fr'.tmps)
    (hl : leaves fr'.todo = some j) (h : leaveA E st j = some st') : Goes E N w0 base ρ st' (lone fr' (cs' ++ base) w) := by
  have hm' : fr'.mode = .run := (ModeR.run hF.mode).1 hm
  have hslots : SlotsR E.P ρ st.fr.fn st.fr.tmps fr'.tmps := fun fn _ t _ => ht.slot t
  unfold leaveA at h
  have hrd := hF.round
  split at h
  · rename_i hr
    rw [hr] at hrd
    have hr' : fr'.roundOf = none := by
      cases q : fr'.roundOf with
      | none => rfl
      | some l => rw [q] at hrd; exact hrd.elim
    have fin : ∀ (hj : j = none ∨ j = some .ret), Goes E N w0 base ρ { st with fr := { st.fr with mode := .returning } } (lone fr' (cs' ++ base) w) := fun hj =>
      Goes.of (.one (leave_fn hm' hl hr' hj)) ⟨hF.fn, hF.kind, hF.round, trivial, hF.defers, hslots⟩ hC hH
    split at h
    · cases h; exact fin (.inl rfl)
    · cases h; exact fin (.inr rfl)
    · cases h
  · rename_i l hr
    rw [hr] at hrd
    cases q : fr'.roundOf with
    | none => rw [q] at hrd; exact hrd.elim
    | some l' =>
      rw [q] at hrd
      split at h
      case h_2 => cases h
      rename_i v H' hrun
      have := absRun_sound (SR.endRound (P := E.P) hrd j) st.H w hH.pinned
      rw [hrun] at this
      obtain ⟨σ, v', w', hle, h1, h2, h3⟩ := this
      obtain ⟨fr2, cs2, q1, q2, q3, q4⟩ := return_sim (w := w') (base := base) (hF.up (h3.grows hle)) (hC.up (h3.grows hle)) h2 h
      exact Goes.of' hle (.one (leave_round hm' hl q h1 q1)) q2 q3 (by rw [q4]; exact h3.unpin)

end
end Go.Ev
