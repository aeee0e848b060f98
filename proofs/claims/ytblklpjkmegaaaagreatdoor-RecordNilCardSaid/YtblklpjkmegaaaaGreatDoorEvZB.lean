import Derived.Test.YtblklpjkmegaaaaGreatDoorEvZA
namespace Go.Ev
open Go.RowKit

section
variable {E : Env} {N : Nat} {w0 : World} {base : List Frame} {ρ : Ren} {w : World}

theorem step_go {P : Program} {fr fr2 : Frame} {cs cs2 : List Frame} {w w2 : World} (hm : fr.mode = .run)
    (h : (stepG.exec P true true fr cs none w).bare = .go { frame := fr2, callers := cs2, status := .running, dying := none } w2) : step P (lone fr cs w) = .next (lone fr2 cs2 w2) := by
  refine step_lone_go ?_
  have : stepG P true { frame := fr, callers := cs, status := .running, dying := none } w = stepG.exec P true true fr cs none w := by
    simp only [stepG, hm]
  rw [this]
  exact h

theorem to_sim {st : ASt} {fr' : Frame} {cs' : List Frame} {t t' : List Item} (hF : FR E.P ρ st.fr fr') (hC : CsR E.P ρ st.cs cs') (hH : HR N (bare w0) ρ st.H w) (hm : st.fr.mode = .run) (hd : st.fr.draw = none) (ht : AsR ρ st.fr.tmps fr'.tmps)
    (htd : TdR ρ t t') (hs : (stepG.exec E.P true true fr' (cs' ++ base) none w).bare = .go { frame := { fr' with todo := t' }, callers := cs' ++ base, status := .running, dying := none } w) :
    Goes E N w0 base ρ { st with fr := { st.fr with todo := t } } (lone fr' (cs' ++ base) w) := by
  have hm' : fr'.mode = .run := (ModeR.run hF.mode).1 hm
  refine Goes.of (.one (step_go hm' hs)) ⟨hF.fn, hF.kind, hF.round, hF.mode, hF.defers, ?_⟩ hC hH
  unfold BodyR
  simp only [hm, hd]
  exact ⟨ht, htd⟩

theorem TdR.cons_inv {x : Item} {xs l : List Item} (h : TdR ρ (x :: xs) l) : ∃ y ys, l = y :: ys ∧ ItR ρ x y ∧ TdR ρ xs ys := by
  cases l with
  | nil => exact h.elim
  | cons y ys => exact ⟨y, ys, rfl, h.1, h.2⟩

theorem TdR.code_inv {c : Code} {xs l : List Item} (h : TdR ρ (.code c :: xs) l) : ∃ ys, l = .code c :: ys ∧ TdR ρ xs ys := by
  obtain ⟨y, ys, rfl, h1, h2⟩ := h.cons_inv
  cases h1
  exact ⟨ys, rfl, h2⟩

theorem step_rangeFunc {P : Program} {fr : Frame} {cs : List Frame} {w w' : World} {f : Operand} {params : Array Tmp} {assign body : Code} {k : List Item} {l : Nat} {mark : List Deferred} {g : FuncId} {first cap : Array Value} {fn : Func} {c : Code}
    (hm : fr.mode = .run) (hq : fr.todo = .code (.rangeFunc f params assign body) :: k) (h3 : (Instr.enterLoop fr.fn fr.tmps params assign body fr.roundOf).run P w = .ok (l, mark) w') (hf : evalT fr.tmps f = .func (.func g) first cap)
    (q1 : P.funcs[g]? = some fn) (q2 : fn.name ≠ "runtime.NumGoroutine") (q3 : fn.body = some c) :
    step P (lone fr cs w) = .next (lone (Frame.enter P g ((first ++ #[.func (.yield l) #[] #[]]) ++ cap) .normal) ({ fr with todo := .inRangeFunc l :: k, defers := mark ++ fr.defers } :: cs) w') := by
  refine step_go hm ?_
  have hev : Frame.eval { fr with todo := .inRangeFunc l :: k, defers := mark ++ fr.defers } = evalT fr.tmps := by funext x; cases x <;> rfl
  have hcallrun : (callFunc g ((first ++ #[.func (.yield l) #[] #[]]) ++ cap)).run P w' = .ok (.enter g ((first ++ #[.func (.yield l) #[] #[]]) ++ cap)) w' := by
    unfold callFunc
    simp [q1, q2, q3]
  have happ : (do let d ← resolve (evalT fr.tmps) { callee := .value f, args := #[.const (.func (.yield l) #[] #[])], argTypes := #[] } 0; invoke d.target d.args : Sem Next) = callFunc g ((first ++ #[.func (.yield l) #[] #[]]) ++ cap) := by
    unfold resolve
    have hm1 : (#[.const (.func (.yield l) #[] #[])] : Array Operand).map (evalT fr.tmps) = #[.func (.yield l) #[] #[]] := by simp [evalT]
    simp only [hf, hm1]
    rfl
  simp only [stepG.exec, hq, Sem.runT_eq, h3, GStep.bare_after]
  rw [hev, happ]
  generalize ((first ++ #[.func (.yield l) #[] #[]]) ++ cap) = args at hcallrun ⊢
  simp [stepG.apply, hcallrun]

def rangeA (E : Env) (st : ASt) (f : Operand) (params : Array Tmp) (assign body : Code) (k : List Item) : Option ASt :=
  if okOperand E.G f then
    match absRun E.P (Instr.enterLoop st.fr.fn st.fr.tmps params assign body st.fr.roundOf) st.H with
    | some ((l, mark), H') =>
      let fr := { st.fr with todo := .inRangeFunc l :: k, defers := mark ++ st.fr.defers }
      (match evalT st.fr.tmps f with
      | .func (.func g) first cap => if E.callOK g then (enterA E.P g (appA (appA first #[.func (.yield l) #[] #[]]) cap) .normal).map fun n => { fr := n, cs := fr :: st.cs, H := H' } else none
      | _ => none)
    | none => none
  else none

theorem range_sim (ok : EnvOK E) (hG : GR E.G ρ) {st st' : ASt} {fr' : Frame} {cs' : List Frame} (hF : FR E.P ρ st.fr fr') (hC : CsR E.P ρ st.cs cs') (hH : HR N (bare w0) ρ st.H w) (hm : st.fr.mode = .run) (hd : st.fr.draw = none)
    (ht : AsR ρ st.fr.tmps fr'.tmps) {f : Operand} {params : Array Tmp} {assign body : Code} {k ys : List Item} (hq : fr'.todo = .code (.rangeFunc f params assign body) :: ys) (h2 : TdR ρ k ys)
    (h : rangeA E st f params assign body k = some st') : Goes E N w0 base ρ st' (lone fr' (cs' ++ base) w) := by
  have hm' : fr'.mode = .run := (ModeR.run hF.mode).1 hm
  unfold rangeA at h
  split at h
  case isFalse => cases h
  rename_i hok
  split at h
  case h_2 => cases h
  rename_i l mark H' hrun
  have hs := absRun_sound (SR.enterLoop (P := E.P) st.fr.fn ht params assign body hF.round) st.H w hH.pinned
  rw [hrun] at hs
  obtain ⟨σ, ⟨l', mark'⟩, w', hle, h3, ⟨hl, hmk⟩, h5⟩ := hs
  simp only at h hl hmk
  have hv := (evalT_rel hG ht hok).mono hle
  split at h
  case h_2 => cases h
  rename_i g first cap hfv
  split at h
  case isFalse => cases h
  rename_i hcall
  simp only [Option.map_eq_some_iff, appA_eq] at h
  obtain ⟨n, hn, rfl⟩ := h
  rw [hfv] at hv
  generalize hfv' : evalT fr'.tmps f = u at hv
  cases hv
  rename_i f2 first' cap' hff g1 g2 g3 g4
  have hfn : f2 = .func g := by cases f2 <;> first | (cases hff; done) | (cases hff; rfl)
  subst hfn
  obtain ⟨fn, cd, q1, q2, q3⟩ := ok.call g hcall
  have hy : AsR σ #[.func (.yield l) #[] #[]] #[.func (.yield l') #[] #[]] := by
    refine ⟨rfl, ?_⟩
    intro i v v' h6 h7
    cases i with
    | zero =>
      simp at h6 h7
      subst h6 h7
      exact .func (show FnR σ (.yield l) (.yield l') from hl) rfl (by simp) rfl (by simp)
    | succ i => simp at h6
  have hargs : AsR σ ((first ++ #[.func (.yield l) #[] #[]]) ++ cap) ((first' ++ #[.func (.yield l') #[] #[]]) ++ cap') := (AsR.append ⟨g1, g2⟩ hy).append ⟨g3, g4⟩
  have hfr : fr'.fn = st.fr.fn := hF.fn
  rw [← hfr] at h3
  have hstep := step_rangeFunc (cs := cs' ++ base) hm' hq h3 hfv' q1 q2 q3
  have hF2 : FR E.P σ { st.fr with todo := .inRangeFunc l :: k, defers := mark ++ st.fr.defers } { fr' with todo := .inRangeFunc l' :: ys, defers := mark' ++ fr'.defers } := by
    refine ⟨hF.fn, hF.kind, hF.round.mono hle, hF.mode.mono hle, hmk.append (hF.defers.mono hle), ?_⟩
    unfold BodyR
    simp only [hm, hd]
    exact ⟨ht.mono hle, .inRangeFunc hl, h2.mono hle⟩
  have hent := FR.enter hargs hn
  generalize ((first' ++ #[.func (.yield l') #[] #[]]) ++ cap') = args at hstep hent
  rw [← List.cons_append] at hstep
  exact Goes.of' hle (.one hstep) hent ⟨hF2, hC.up (h5.grows hle)⟩ h5.unpin

set_option maxHeartbeats 1000000 in
theorem exec_sim (ok : EnvOK E) (hmix : E.P.follows .mixedOrders = true) (hG : GR E.G ρ) {st st' : ASt} {fr' : Frame} {cs' : List Frame} (hF : FR E.P ρ st.fr fr') (hC : CsR E.P ρ st.cs cs') (hH : HR N (bare w0) ρ st.H w) (hm : st.fr.mode = .run) (hd : st.fr.draw = none)
    (h : execA E st = some st') : Goes E N w0 base ρ st' (lone fr' (cs' ++ base) w) := by
  have hm' : fr'.mode = .run := (ModeR.run hF.mode).1 hm
  have hb := hF.body
  unfold BodyR at hb
  simp only [hm, hd] at hb
  obtain ⟨ht, htd⟩ := hb
  have to := fun {t t' : List Item} (htd : TdR ρ t t') hs => to_sim (base := base) hF hC hH hm hd ht htd hs
  unfold execA at h
  simp only at h
  split at h
  · -- []
    rename_i htodo
    rw [htodo] at htd
    cases hq : fr'.todo with
    | cons _ _ => rw [hq] at htd; exact htd.elim
    | nil => exact leave_sim hF hC hH hm ht (by rw [hq]; rfl) h
  · rename_i htodo
    rw [htodo] at htd
    obtain ⟨ys, hq, _⟩ := htd.code_inv
    exact leave_sim hF hC hH hm ht (by rw [hq]; rfl) h
  · rename_i htodo
    rw [htodo] at htd
    obtain ⟨ys, hq, h2⟩ := htd.code_inv
    cases h
    exact to h2 (by simp [stepG.exec, hq])
  · rename_i htodo
    rw [htodo] at htd
    obtain ⟨ys, hq, h2⟩ := htd.code_inv
    cases h
    exact to h2 (by simp [stepG.exec, hq])
  · rename_i htodo
    rw [htodo] at htd
    obtain ⟨y, ys, hq, h1, h2⟩ := htd.cons_inv
    cases h1
    cases h
    exact to h2 (by simp [stepG.exec, hq])
  · rename_i htodo
    rw [htodo] at htd
    obtain ⟨y, ys, hq, h1, h2⟩ := htd.cons_inv
    cases h1
    cases h
    exact to h2 (by simp [stepG.exec, hq])
  · -- seq
    rename_i a b k htodo
    rw [htodo] at htd
    obtain ⟨ys, hq, h2⟩ := htd.code_inv
    cases h
    exact to (t' := .code a :: .code b :: ys) ⟨.code a, .code b, h2⟩ (by simp [stepG.exec, hq])
  · -- cond
    rename_i c thn els k htodo
    rw [htodo] at htd
    obtain ⟨ys, hq, h2⟩ := htd.code_inv
    split at h
    case isFalse => cases h
    rename_i hok
    have hv := evalT_rel hG ht hok
    split at h
    case h_2 => cases h
    rename_i b hbv
    rw [hbv] at hv
    have hv' : evalT fr'.tmps c = .bool b := by
      generalize evalT fr'.tmps c = u at hv
      cases hv
      rfl
    cases h
    exact to (t' := .code (if b then thn else els) :: ys) ⟨.code _, h2⟩ (by simp [stepG.exec, hq, eval_evalT, hv'])
  · -- block
    rename_i id body k htodo
    rw [htodo] at htd
    obtain ⟨ys, hq, h2⟩ := htd.code_inv
    cases h
    exact to (t' := .code body :: .inBlock id :: ys) ⟨.code _, .inBlock _, h2⟩ (by simp [stepG.exec, hq])
  · -- loop
    rename_i body k htodo
    rw [htodo] at htd
    obtain ⟨ys, hq, h2⟩ := htd.code_inv
    cases h
    exact to (t' := .code body :: .inLoop body :: ys) ⟨.code _, .inLoop _, h2⟩ (by simp [stepG.exec, hq])
  · rename_i body k htodo
    rw [htodo] at htd
    obtain ⟨y, ys, hq, h1, h2⟩ := htd.cons_inv
    cases h1
    cases h
    exact to (t' := .code body :: .inLoop body :: ys) ⟨.code _, .inLoop _, h2⟩ (by simp [stepG.exec, hq])
  · -- scope
    rename_i body k htodo
    rw [htodo] at htd
    obtain ⟨ys, hq, h2⟩ := htd.code_inv
    cases h
    exact to (t' := .code body :: .inScope body :: ys) ⟨.code _, .inScope _, h2⟩ (by simp [stepG.exec, hq])
  · -- exit
    rename_i id k htodo
    rw [htodo] at htd
    obtain ⟨ys, hq, h2⟩ := htd.code_inv
    rcases exitTo_rel id h2 with ⟨e1, e2⟩ | ⟨k1, k2, e1, e2, e3⟩
    · rw [e1] at h
      exact leave_sim hF hC hH hm ht (by rw [hq]; simp [leaves, e2]) h
    · rw [e1] at h
      cases h
      exact to e3 (by simp [stepG.exec, hq, e2])
  · -- goto
    rename_i l k htodo
    rw [htodo] at htd
    obtain ⟨ys, hq, h2⟩ := htd.code_inv
    rcases gotoIn_rel l h2 with ⟨e1, e2⟩ | ⟨k1, k2, e1, e2, e3⟩
    · rw [e1] at h
      exact leave_sim hF hC hH hm ht (by rw [hq]; simp [leaves, e2]) h
    · rw [e1] at h
      cases h
      exact to e3 (by simp [stepG.exec, hq, e2])
  · -- rangeFunc
    rename_i f params assign body k htodo
    rw [htodo] at htd
    obtain ⟨ys, hq, h2⟩ := htd.code_inv
    exact range_sim ok hG hF hC hH hm hd ht hq h2 h
  · -- beginRound
    rename_i k htodo
    rw [htodo] at htd
    obtain ⟨y, ys, hq, h1, h2⟩ := htd.cons_inv
    cases h1
    have hrd := hF.round
    split at h
    case h_2 => cases h
    rename_i l hr
    rw [hr] at hrd
    cases hr' : fr'.roundOf with
    | none => rw [hr'] at hrd; exact hrd.elim
    | some l' =>
      rw [hr'] at hrd
      split at h
      case h_2 => cases h
      rename_i u H' hrun
      cases h
      have hs := absRun_sound (SR.beginRound (P := E.P) hrd) st.H w hH.pinned
      rw [hrun] at hs
      obtain ⟨σ, u', w', hle, h3, _, h5⟩ := hs
      have hF2 := hF.up (h5.grows hle)
      refine Goes.of' (fr' := { fr' with todo := ys }) hle (.one (step_go hm' ?_)) ⟨hF2.fn, hF2.kind, hF2.round, hF2.mode, hF2.defers, ?_⟩ (hC.up (h5.grows hle)) h5.unpin
      · have hfin : fr'.finish undef = { fr' with todo := ys } := by simp only [Frame.finish, hq]
        simp only [stepG.exec, hq]
        simp [stepG.apply, hr', h3, hfin]
      · unfold BodyR
        simp only [hm, hd]
        exact ⟨ht.mono hle, h2.mono hle⟩
  · -- endRangeFunc
    rename_i l k htodo
    rw [htodo] at htd
    obtain ⟨y, ys, hq, h1, h2⟩ := htd.cons_inv
    cases h1
    rename_i l' hl
    split at h
    case h_2 => cases h
    rename_i jump H' hrun
    cases h
    have hs := absRun_sound (SR.endLoop (P := E.P) hl) st.H w hH.pinned
    rw [hrun] at hs
    obtain ⟨σ, j', w', hle, h3, rfl, h5⟩ := hs
    have hF2 := hF.up (h5.grows hle)
    refine Goes.of' (fr' := { fr' with todo := (jump.map Item.code).toList ++ ys }) hle (.one (step_go hm' ?_)) ⟨hF2.fn, hF2.kind, hF2.round, hF2.mode, hF2.defers, ?_⟩ (hC.up (h5.grows hle)) h5.unpin
    · simp only [stepG.exec, hq, Sem.runT_eq, h3, GStep.bare_after]
      rfl
    · unfold BodyR
      simp only [hm, hd]
      refine ⟨ht.mono hle, ?_⟩
      cases jump with
      | none => exact h2.mono hle
      | some c => exact ⟨.code c, h2.mono hle⟩
  · -- region
    rename_i id ops draw k htodo
    rw [htodo] at htd
    obtain ⟨ys, hq, h2⟩ := htd.code_inv
    split at h
    · rename_i hdr
      cases h
      subst hdr
      refine Goes.of (fr' := { fr' with todo := .inRegion ops (Region.schedule (E.P.follows .mixedOrders) ops (w.tape w.drawn (.order fr'.fn id))) :: ys }) (w := { w with drawn := w.drawn + 1 }) (.one (step_go hm' ?_)) ⟨hF.fn, hF.kind, hF.round, hF.mode, hF.defers, ?_⟩ hC (hH.drawn _)
      · simp [stepG.exec, hq, choose, Sem.run, Question.forced, Question.cut]
      · unfold BodyR
        simp only [hm]
        refine ⟨ops.size, w.tape w.drawn (.order fr'.fn id), Array.replicate ops.size false, ys, h2, ?_, Lag.start ht⟩
        simp only [hmix, Region.schedule, Bool.true_or, if_true, Region.linearise]
    · rename_i hdr
      cases h
      have hdr : draw = false := by simpa using hdr
      subst hdr
      exact to (t' := .inRegion ops (List.range ops.size) :: ys) ⟨.inRegion _ _, h2⟩ (by simp [stepG.exec, hq])
  · -- a region's end
    rename_i ops k htodo
    rw [htodo] at htd
    obtain ⟨y, ys, hq, h1, h2⟩ := htd.cons_inv
    cases h1
    cases h
    exact to h2 (by simp [stepG.exec, hq])
  · -- an operation
    rename_i ops i rest k htodo
    rw [htodo] at htd
    obtain ⟨y, ys, hq, h1, h2⟩ := htd.cons_inv
    cases h1
    split at h
    case h_2 => cases h
    rename_i o ho
    have hT : ∀ t ∈ o.looksAt ops, TmpR ρ st.fr.tmps fr'.tmps t := fun t _ v v' q1 q2 => ht.2 t v v' q1 q2
    split at h
    · rename_i hw
      have hwc := wanted_rel ht.1.symm hT hw
      simp only [Option.map_eq_some_iff] at h
      obtain ⟨f1, hf, rfl⟩ := h
      exact Goes.of (.one (step_unwanted hm' hq (by rw [ho]; exact hwc))) (hF.finish (VR.undef ρ) hf) hC hH
    · rename_i hw
      have hwc := wanted_rel ht.1.symm hT hw
      split at h
      case h_2 => cases h
      rename_i x H' hx
      exact op_sim hF hC hm' hq ho hwc (fun c hc => aop_defer hx hc) (aop_spec (r' := evalT fr'.tmps) ok hH.pinned (fun y _ hok => evalT_rel hG ht hok) hx) h
    · cases h
  · cases h

end
end Go.Ev
