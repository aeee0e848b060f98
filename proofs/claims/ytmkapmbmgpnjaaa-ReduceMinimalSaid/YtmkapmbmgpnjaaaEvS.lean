import Derived.Test.YtmkapmbmgpnjaaaEvQ
namespace Go.Ev
open Go.RowKit

section
variable {E : Env} {N : Nat} {w0 : Base} {ρ : Ren} {H : AHeap} {w : World}

theorem absRunQ_sound {P : Program} {α β : Type} {RA : Ren → α → β → Prop} {ρ : Ren} {s : Sem α} {s' : Sem β} (hs : SR P RA ρ s s') :
    HR N w0 ρ H w → ∀ a, absRunQ P s H = some a → ∃ b, s'.run P w = .ok b w ∧ RA ρ a b := by
  intro hH
  induction hs with
  | pure h => intro a ha; cases ha; exact ⟨_, rfl, h⟩
  | @load ρ m m' a a' k k' ha hk ih =>
    intro x hx
    unfold absRunQ at hx
    split at hx
    · rename_i v hv
      obtain ⟨v', hv', hr⟩ := hH.load ha hv
      obtain ⟨b, h1, h2⟩ := ih v v' hr hH x hx
      exact ⟨b, by simp [Sem.run, hv', h1], h2⟩
    · cases hx
  | @getObj ρ r r' k k' hr hk ih =>
    intro x hx
    unfold absRunQ at hx
    split at hx
    · rename_i o ho
      obtain ⟨o', hw, hor⟩ := hH.getObj hr ho
      obtain ⟨b, h1, h2⟩ := ih o o' hor hH x hx
      refine ⟨b, ?_, h2⟩
      have := hor.notCells.2
      rw [← h1]
      simp only [Sem.run, hw]
      cases o' <;> first | rfl | (simp [isCells] at this)
    · cases hx
  | @choose ρ q q' k k' hq hq' hk ih =>
    intro x hx
    unfold absRunQ at hx
    rw [hq] at hx
    obtain ⟨b, h1, h2⟩ := ih hH x hx
    exact ⟨b, by simp [Sem.run, hq', h1], h2⟩
  | @chooseAll ρ q k k' hk ih =>
    intro x hx
    unfold absRunQ at hx
    split at hx
    · rename_i hf
      obtain ⟨b, h1, h2⟩ := ih 0 hH x hx
      exact ⟨b, by simp [Sem.run, hf, h1], h2⟩
    · cases hx
  | program hk ih => intro x hx; obtain ⟨b, h1, h2⟩ := ih hH x hx; exact ⟨b, by simp [Sem.run, h1], h2⟩
  | mark hk ih => intro x hx; obtain ⟨b, h1, h2⟩ := ih hH x hx; exact ⟨b, by simp [Sem.run, h1], h2⟩
  | chooseNo hq _ => intro x hx; unfold absRunQ at hx; rw [hq] at hx; cases hx
  | @dead ρ s s' hd =>
    intro x hx
    have : ∀ (s : Sem α) (x : α), absRunQ P s H = some x → ∃ H', absRun P s H = some (x, H') := by
      intro s
      induction s with
      | pure a => intro x hx; cases hx; exact ⟨_, rfl⟩
      | load m a k ih =>
        intro x hx
        unfold absRunQ at hx
        unfold absRun
        split at hx
        · rename_i hq; simp only [hq]; exact ih _ x hx
        · cases hx
      | getObj r k ih =>
        intro x hx
        unfold absRunQ at hx
        unfold absRun
        split at hx
        · rename_i hq; simp only [hq]; exact ih _ x hx
        · cases hx
      | choose q k ih =>
        intro x hx
        unfold absRunQ at hx
        unfold absRun
        split at hx
        · rename_i hq; simp only [hq]; exact ih _ x hx
        · cases hx
      | program k ih => intro x hx; exact ih _ x hx
      | mark m k ih => intro x hx; exact ih x hx
      | _ => intro x hx; cases hx
    obtain ⟨_, h⟩ := this s x hx
    rw [hd] at h
    cases h
  | _ => intro x hx; cases hx

def Tells (E : Env) (ρ : Ren) (s : Sem Next) (w : World) (v : Value) : Prop := ∃ v', s.run E.P w = .ok (.value v') w ∧ VR ρ v v'

theorem agenQ_spec (ok : Okay E.P) (h : HR N w0 ρ H w) {r r' : Operand → Value} {o : Oper} (hr : ∀ x, x ∈ o.op.operands → VR ρ (r x) (r' x)) {v : Value} (hx : agenQ E H r o = some v) :
    Tells E ρ (execOp r' o) w v := by
  unfold agenQ at hx
  split at hx
  case isFalse => cases hx
  rename_i hk
  simp only [Bool.and_eq_true] at hk
  split at hx
  case h_2 => cases hx
  rename_i u hrun
  cases hx
  have hop : OpsR ρ r r' o.op := by
    intro x hx
    refine ⟨hr x hx, ?_⟩
    have := hk.2
    unfold noneJunk at this
    rw [List.all_eq_true] at this
    simpa using this x (Array.mem_toList_iff.2 hx)
  obtain ⟨b, h1, h2⟩ := absRunQ_sound (gen_spec ok h hk.1 hop) h _ hrun
  cases h2
  exact ⟨_, h1, by assumption⟩

theorem apureQ_spec {r r' : Operand → Value} {o : Oper} (hs : allScalar r o.op = true) (hr : ∀ x, x ∈ o.op.operands → VR ρ (r x) (r' x)) {v : Value} (hx : apureQ E r o = some v) :
    Tells E ρ (execOp r' o) w v := by
  unfold apureQ at hx
  split at hx
  case isTrue => cases hx
  rename_i hsel
  split at hx
  case h_2 => cases hx
  rename_i v hrun
  split at hx
  case isFalse => cases hx
  rename_i hsv
  cases hx
  have he : execOp r' o = execOp r o := by
    refine execOp_congr o (fun cs b q => hsel (by rw [q]; rfl)) fun y hy => ?_
    unfold allScalar at hs
    rw [List.all_eq_true] at hs
    exact scalar.eq _ _ _ (hs y (Array.mem_toList_iff.2 hy)) (hr y hy)
  exact ⟨_, by rw [he]; exact pureRun_run _ hrun w, VR.ofScalar _ _ hsv⟩

theorem aquiet_spec (ok : EnvOK E) (h : HR N w0 ρ H w) {tmps : Array Value} {o : Oper} {r' : Operand → Value} (ht : ∀ x, x ∈ o.op.operands → okOperand E.G x = true → VR ρ (evalT tmps x) (r' x)) {v : Value} (hx : aquiet E tmps H o = some v) :
    Tells E ρ (execOp r' o) w v := by
  unfold aquiet at hx
  simp only [mapA_eq] at hx
  split at hx
  case isFalse => cases hx
  rename_i hop
  rw [List.all_eq_true] at hop
  have hr : ∀ x, x ∈ o.op.operands → VR ρ (evalT tmps x) (r' x) := fun y hy => ht y hy (hop y (Array.mem_toList_iff.2 hy))
  clear ht
  generalize evalT tmps = r at *
  obtain ⟨dst, op, type, pos, after, guard⟩ := o
  simp only at hr hx
  split at hx
  · cases hx; exact ⟨_, rfl, hr _ (by simp [Op.operands])⟩
  · cases hx; exact ⟨_, rfl, hr _ (by simp [Op.operands])⟩
  · cases hx
  · cases hx
  · cases hx
  · cases hx
  · rename_i t m k okb
    split at hx
    case isFalse => cases hx
    rename_i hk
    obtain ⟨v', q1, q2⟩ := alookup_spec ok.ok h (hr m (by simp [Op.operands])) hx
    have ek := scalar.eq _ _ _ hk (hr k (by simp [Op.operands]))
    refine ⟨_, ?_, q2⟩
    simp only [execOp, ek]
    rw [Sem.run_bind, q1]
    rfl
  · rename_i c
    have hargs : AsR ρ (c.args.map r) (c.args.map r') := AsR.map fun y hy => hr y (by simp [Op.operands, Call.operands]; exact .inr hy)
    split at hx
    · rename_i hcal
      split at hx
      case h_2 => cases hx
      rename_i s hsx
      rw [toList_one hsx] at hargs
      obtain ⟨s', he, hs⟩ := hargs.one
      obtain ⟨u', q1, q2⟩ := sliceData_spec (P := E.P) (w := w) c.argTypes type hs hx
      refine ⟨_, ?_, q2⟩
      have hb : execOp r' { dst, op := .call c, type, pos, after, guard } = (do Pure.pure (Next.value (← Builtin.unsafeSliceData_ c.argTypes type (c.args.map r')))) := by
        simp only [execOp]; unfold resolve; rw [hcal]; rfl
      rw [hb, he, Sem.run_bind, q1]
      rfl
    · split at hx
      · rename_i hsc; exact apureQ_spec hsc hr hx
      · exact agenQ_spec ok.ok h hr hx
    · cases hx
  · rename_i src dst' y
    split at hx
    · rename_i hc
      cases hx
      have hy := hr y (by simp [Op.operands])
      refine ⟨_, ?_, hy⟩
      simp only [execOp]
      rw [Sem.run_bind, convPtr_spec h hy hc]
      rfl
    · split at hx
      · rename_i hsc; exact apureQ_spec hsc hr hx
      · cases hx
  · rename_i bop t y z yt
    split at hx
    · rename_i v hv
      cases hx
      obtain ⟨q1, q2⟩ := ptrEq_spec h (hr y (by simp [Op.operands])) (hr z (by simp [Op.operands])) hv y z
      refine ⟨_, ?_, q2⟩
      simp only [execOp]
      rw [Sem.run_bind, q1]
      rfl
    · split at hx
      · rename_i hsc; exact apureQ_spec hsc hr hx
      · exact agenQ_spec ok.ok h hr hx
  · split at hx
    · exact agenQ_spec ok.ok h hr hx
    · split at hx
      · rename_i hsc; exact apureQ_spec hsc hr hx
      · exact agenQ_spec ok.ok h hr hx

theorem sameVal_eq : ∀ (n : Nat) (v u : Value), sameVal n v u = true → v = u := by
  intro n
  induction n with
  | zero => intro v u h; cases h
  | succ n ih =>
    have arr : ∀ (a b : Array Value), (a.size == b.size && (a.toList.zip b.toList).all fun (x, y) => sameVal n x y) = true → a = b := by
      intro a b h
      simp only [Bool.and_eq_true, beq_iff_eq, List.all_eq_true] at h
      obtain ⟨h1, h2⟩ := h
      apply Array.ext h1
      intro i hi hj
      refine ih _ _ (h2 (a[i], b[i]) ?_)
      rw [List.mem_iff_getElem]
      refine ⟨i, by simp; omega, by simp⟩
    intro v u h
    unfold sameVal at h
    split at h
    · simp at h; rw [h]
    · rw [Bool.and_eq_true] at h; rw [eq_of_beq h.1, eq_of_beq h.2]
    · rename_i a b
      obtain ⟨a⟩ := a
      obtain ⟨b⟩ := b
      have h2 : (a == b) = true := h
      rw [eq_of_beq h2]
    · simp at h; rw [h]
    · simp at h; rw [h.1.1, h.1.2, h.2]
    · simp at h; rw [h]
    · rfl
    · rfl
    · simp only [Bool.and_eq_true, beq_iff_eq] at h; rw [h.1, ih _ _ h.2]
    · rw [arr _ _ h]
    · rw [arr _ _ h]
    · rename_i f x c g y d
      simp only [Bool.and_eq_true] at h
      obtain ⟨⟨⟨⟨h1, h2⟩, h3⟩, h4⟩, h5⟩ := h
      have e1 : f = g := eq_of_beq h1
      have e2 : x = y := arr _ _ (by rw [Bool.and_eq_true]; exact ⟨h2, h3⟩)
      have e3 : c = d := arr _ _ (by rw [Bool.and_eq_true]; exact ⟨h4, h5⟩)
      rw [e1, e2, e3]
    · cases h

end
end Go.Ev

namespace Go.Ev
open Go.RowKit

def OBR (ρ : Ren) : Option Nat → Option Nat → Prop
  | none, none => True
  | some l, some l' => BR ρ l l'
  | _, _ => False

def PeR (ρ : Ren) (p p' : PanicEntry) : Prop := VR ρ p.v p'.v ∧ p'.recovered = p.recovered ∧ p'.goexit = p.goexit

def PesR (ρ : Ren) : List PanicEntry → List PanicEntry → Prop
  | [], [] => True
  | p :: ps, q :: qs => PeR ρ p q ∧ PesR ρ ps qs
  | _, _ => False

def ModeR (ρ : Ren) : FrameMode → FrameMode → Prop
  | .run, .run => True
  | .returning, .returning => True
  | .panicking c, .panicking c' => PesR ρ c c'
  | _, _ => False

inductive ItR (ρ : Ren) : Item → Item → Prop
  | code (c : Code) : ItR ρ (.code c) (.code c)
  | inBlock (id : Nat) : ItR ρ (.inBlock id) (.inBlock id)
  | inLoop (c : Code) : ItR ρ (.inLoop c) (.inLoop c)
  | inScope (c : Code) : ItR ρ (.inScope c) (.inScope c)
  | inRegion (ops : Array Oper) (l : List Nat) : ItR ρ (.inRegion ops l) (.inRegion ops l)
  | inRangeFunc {l l' : Nat} : BR ρ l l' → ItR ρ (.inRangeFunc l) (.inRangeFunc l')
  | endRangeFunc {l l' : Nat} : BR ρ l l' → ItR ρ (.endRangeFunc l) (.endRangeFunc l')
  | beginRound : ItR ρ .beginRound .beginRound

def TdR (ρ : Ren) : List Item → List Item → Prop
  | [], [] => True
  | x :: xs, y :: ys => ItR ρ x y ∧ TdR ρ xs ys
  | _, _ => False

theorem OBR.mono {ρ σ : Ren} (h : ρ.le σ) {a b : Option Nat} (k : OBR ρ a b) : OBR σ a b := by
  cases a <;> cases b <;> first | exact k.elim | trivial | exact BR.mono h k

theorem PesR.mono {ρ σ : Ren} (h : ρ.le σ) : ∀ {a b : List PanicEntry}, PesR ρ a b → PesR σ a b
  | [], [], _ => trivial
  | _ :: _, _ :: _, k => ⟨⟨k.1.1.mono h, k.1.2⟩, PesR.mono h k.2⟩

theorem ModeR.mono {ρ σ : Ren} (h : ρ.le σ) {a b : FrameMode} (k : ModeR ρ a b) : ModeR σ a b := by
  cases a <;> cases b <;> first | exact k.elim | trivial | exact PesR.mono h k

theorem ItR.mono {ρ σ : Ren} (h : ρ.le σ) {a b : Item} (k : ItR ρ a b) : ItR σ a b := by
  cases k with
  | inRangeFunc q => exact .inRangeFunc (q.mono h)
  | endRangeFunc q => exact .endRangeFunc (q.mono h)
  | code c => exact .code c
  | inBlock c => exact .inBlock c
  | inLoop c => exact .inLoop c
  | inScope c => exact .inScope c
  | inRegion c l => exact .inRegion c l
  | beginRound => exact .beginRound

theorem TdR.mono {ρ σ : Ren} (h : ρ.le σ) : ∀ {a b : List Item}, TdR ρ a b → TdR σ a b
  | [], [], _ => trivial
  | _ :: _, _ :: _, k => ⟨k.1.mono h, TdR.mono h k.2⟩

theorem PesR.append {ρ : Ren} : ∀ {a b c d : List PanicEntry}, PesR ρ a b → PesR ρ c d → PesR ρ (a ++ c) (b ++ d)
  | [], [], _, _, _, k => k
  | _ :: _, _ :: _, _, _, h, k => ⟨h.1, PesR.append h.2 k⟩

theorem DsR.append {ρ : Ren} : ∀ {a b c d : List Deferred}, DsR ρ a b → DsR ρ c d → DsR ρ (a ++ c) (b ++ d)
  | [], [], _, _, _, k => k
  | _ :: _, _ :: _, _, _, h, k => ⟨h.1, DsR.append h.2 k⟩

theorem exitTo_rel {ρ : Ren} (id : Nat) : ∀ {a b : List Item}, TdR ρ a b →
    (exitTo id a = none ∧ exitTo id b = none) ∨ ∃ k k', exitTo id a = some k ∧ exitTo id b = some k' ∧ TdR ρ k k'
  | [], [], _ => .inl ⟨rfl, rfl⟩
  | x :: xs, y :: ys, h => by
    have ih := exitTo_rel id h.2
    have hx := h.1
    cases hx with
    | inBlock i =>
      by_cases q : (i == id) = true
      · exact .inr ⟨xs, ys, by simp only [exitTo, q, if_true], by simp only [exitTo, q, if_true], h.2⟩
      · simp only [exitTo, q, Bool.false_eq_true, if_false]; exact ih
    | _ => exact ih

theorem gotoIn_rel {ρ : Ren} (l : Nat) : ∀ {a b : List Item}, TdR ρ a b →
    (gotoIn l a = none ∧ gotoIn l b = none) ∨ ∃ k k', gotoIn l a = some k ∧ gotoIn l b = some k' ∧ TdR ρ k k'
  | [], [], _ => .inl ⟨rfl, rfl⟩
  | x :: xs, y :: ys, h => by
    have ih := gotoIn_rel l h.2
    have hx := h.1
    cases hx with
    | inScope c =>
      cases q : findLabel c l with
      | some rest => exact .inr ⟨.code rest :: .inScope c :: xs, .code rest :: .inScope c :: ys, by simp only [gotoIn, q], by simp only [gotoIn, q], .code _, .inScope _, h.2⟩
      | none => simp only [gotoIn, q]; exact ih
    | _ => exact ih

section
variable {P : Program} {ρ : Ren}

theorem SR.getLoop {l l' : Nat} (hl : BR ρ l l') : SR P LR ρ (Instr.getLoop l) (Instr.getLoop l') := by
  unfold Instr.getLoop
  refine SR.bind (SR.getObjOne hl) fun σ o o' _ ho => ?_
  cases ho <;> first | exact .stuck _ | skip
  rename_i hlr
  exact .ret hlr

theorem SR.enterLoop (fn : FuncId) {tmps tmps' : Array Value} (ht : AsR ρ tmps tmps') (ps : Array Tmp) (a b : Code) {ar ar' : Option Nat} (ha : OBR ρ ar ar') :
    SR P (fun σ (x y : Nat × List Deferred) => BR σ x.1 y.1 ∧ DsR σ x.2 y.2) ρ (Instr.enterLoop fn tmps ps a b ar) (Instr.enterLoop fn tmps' ps a b ar') := by
  have key : ∀ (σ : Ren) (d d' : Nat) (m m' : List Deferred), ρ.le σ → BR σ d d' → DsR σ m m' →
      SR P (fun σ (x y : Nat × List Deferred) => BR σ x.1 y.1 ∧ DsR σ x.2 y.2) σ
        (Go.newObj (.loop { state := .ready, pending := none, fn, tmps, params := ps, assign := a, body := b, defers := d }) >>= fun r => Pure.pure (r, m))
        (Go.newObj (.loop { state := .ready, pending := none, fn, tmps := tmps', params := ps, assign := a, body := b, defers := d' }) >>= fun r => Pure.pure (r, m')) := by
    intro σ d d' m m' hle h1 h2
    have hl : LR σ { state := .ready, pending := none, fn, tmps, params := ps, assign := a, body := b, defers := d } { state := .ready, pending := none, fn, tmps := tmps', params := ps, assign := a, body := b, defers := d' } :=
      ⟨rfl, rfl, rfl, ht.mono hle, rfl, rfl, rfl, h1⟩
    refine SR.bind (SR.newObj (.loop hl)) fun τ r r' hle2 hr => .ret ?_
    exact ⟨hr, h2.mono hle2⟩
  cases ar with
  | none =>
    cases ar' with
    | some _ => exact ha.elim
    | none =>
      show SR P _ ρ (Go.newObj (.deferred (some [])) >>= fun r => Go.newObj (.loop { state := .ready, pending := none, fn, tmps, params := ps, assign := a, body := b, defers := r }) >>= fun l => Pure.pure (l, [({ target := .collected r, args := #[] } : Deferred)]))
        (Go.newObj (.deferred (some [])) >>= fun r => Go.newObj (.loop { state := .ready, pending := none, fn, tmps := tmps', params := ps, assign := a, body := b, defers := r }) >>= fun l => Pure.pure (l, [({ target := .collected r, args := #[] } : Deferred)]))
      refine SR.bind (SR.newObj (.deferred (show DsR ρ [] [] from trivial))) fun σ r r' hle hr => key σ r r' _ _ hle hr ⟨⟨.collected hr, rfl, ?_⟩, trivial⟩
      intro i v v' h1 _
      simp at h1
  | some l =>
    cases ar' with
    | none => exact ha.elim
    | some l' =>
      show SR P _ ρ (Instr.getLoop l >>= fun r => Go.newObj (.loop { state := .ready, pending := none, fn, tmps, params := ps, assign := a, body := b, defers := r.defers }) >>= fun l => Pure.pure (l, []))
        (Instr.getLoop l' >>= fun r => Go.newObj (.loop { state := .ready, pending := none, fn, tmps := tmps', params := ps, assign := a, body := b, defers := r.defers }) >>= fun l => Pure.pure (l, []))
      exact SR.bind (SR.getLoop ha) fun σ r r' hle hr => key σ _ _ _ _ hle hr.defers trivial

theorem LR.upd {r r' : Loop} (h : LR ρ r r') (s : LoopState) (p : Option Code) : LR ρ { r with state := s, pending := p } { r' with state := s, pending := p } :=
  ⟨rfl, rfl, h.fn, h.tmps, h.params, h.assign, h.body, h.defers⟩

theorem LR.set {r r' : Loop} (h : LR ρ r r') (s : LoopState) : LR ρ { r with state := s } { r' with state := s } :=
  ⟨rfl, h.pending, h.fn, h.tmps, h.params, h.assign, h.body, h.defers⟩

theorem SR.endRound {l l' : Nat} (hl : BR ρ l l') (j : Option Code) : SR P VR ρ (Instr.endRound l j) (Instr.endRound l' j) := by
  unfold Instr.endRound
  refine SR.bind (SR.getLoop hl) fun σ r r' hle hr => ?_
  refine SR.bind (SR.setObjOne (hl.mono hle) (.loop (hr.upd _ _))) fun τ _ _ _ _ => .ret (VR.bool _)

theorem SR.beginRound {l l' : Nat} (hl : BR ρ l l') : SR P (fun _ _ _ => True) ρ (Instr.beginRound l) (Instr.beginRound l') := by
  unfold Instr.beginRound
  refine SR.bind (SR.getLoop hl) fun σ r r' hle hr => ?_
  refine SR.bind (SR.setObjOne (hl.mono hle) (.loop (hr.set _))) fun τ _ _ _ _ => ?_
  rw [hr.state]
  cases r.state with
  | ready => exact .ret trivial
  | _ => exact SR.plainPanic trivial

theorem SR.endLoop {l l' : Nat} (hl : BR ρ l l') : SR P (fun _ a b => a = b) ρ (Instr.endLoop l) (Instr.endLoop l') := by
  unfold Instr.endLoop
  refine SR.bind (SR.getLoop hl) fun σ r r' hle hr => ?_
  rw [hr.state]
  by_cases q : (r.state == .busy) = true
  · simp only [q, if_true]
    exact SR.bind (RA := fun _ _ _ => False) (SR.plainPanic trivial) fun _ _ _ _ h => h.elim
  · simp only [q, Bool.false_eq_true, if_false]
    refine SR.bind (SR.setObjOne (hl.mono hle) (.loop (hr.set _))) fun τ _ _ _ _ => .ret hr.pending.symm

theorem SR.takeDeferred {l l' : Nat} (hl : BR ρ l l') : SR P DsR ρ (Instr.takeDeferred l) (Instr.takeDeferred l') := by
  unfold Instr.takeDeferred
  refine SR.bind (SR.getObjOne hl) fun σ o o' hle ho => ?_
  cases ho <;> first | exact .stuck _ | skip
  rename_i ds ds' hd
  exact SR.bind (SR.setObjOne (hl.mono hle) .deferredNone) fun τ _ _ hle2 _ => .ret (hd.mono hle2)

def SlotsR (P : Program) (ρ : Ren) (f : FuncId) (tmps tmps' : Array Value) : Prop :=
  ∀ fn, P.funcs[f]? = some fn → ∀ t ∈ slots fn, VR ρ (tmps.getD t undef) (tmps'.getD t undef)

theorem SR.asAddr {v v' : Value} (h : VR ρ v v') : SR P AR ρ (Go.asAddr v) (Go.asAddr v') := by
  cases h with
  | psome ha => exact .ret ha
  | pnone => exact .dead fun H => rfl
  | _ => exact .stuck _

def ResultVar.slot : ResultVar → Tmp
  | .tmp t => t
  | .cell a _ => a

def resultOf (tmps : Array Value) : ResultVar → Sem Value
  | .tmp t => Pure.pure (tmps.getD t undef)
  | .cell a t => do Go.loadVar t (← Go.asAddr (tmps.getD a undef))

theorem SR.resultOf {tmps tmps' : Array Value} {s : ResultVar} (h : VR ρ (tmps.getD (ResultVar.slot s) undef) (tmps'.getD (ResultVar.slot s) undef)) :
    SR P VR ρ (Ev.resultOf tmps s) (Ev.resultOf tmps' s) := by
  cases s with
  | tmp t => exact .ret h
  | cell a t => exact SR.bind (SR.asAddr h) fun σ x x' _ hx => SR.loadVar t hx

theorem SR.resultsL {tmps tmps' : Array Value} : ∀ (l : List ResultVar) {ρ : Ren}, (∀ s ∈ l, VR ρ (tmps.getD (ResultVar.slot s) undef) (tmps'.getD (ResultVar.slot s) undef)) →
    SR P LsR ρ (l.mapM (Ev.resultOf tmps)) (l.mapM (Ev.resultOf tmps'))
  | [], _, _ => .pure trivial
  | s :: l, ρ, h => by
    rw [List.mapM_cons, List.mapM_cons]
    refine SR.bind (SR.resultOf (h s (by simp))) fun σ v v' hle hv => ?_
    refine SR.bind (SR.resultsL l fun t ht => (h t (by simp [ht])).mono hle) fun τ vs vs' hle2 hvs => .ret ⟨hv.mono hle2, hvs⟩

theorem results_eq (fn : Func) (tmps : Array Value) : results fn tmps = (do
    let vs ← fn.results.mapM (Ev.resultOf tmps)
    Pure.pure (if h : vs.size = 1 then vs[0] else .tuple vs)) := by
  unfold results
  congr 1

theorem SR.results {fn : Func} {tmps tmps' : Array Value} (h : ∀ t ∈ slots fn, VR ρ (tmps.getD t undef) (tmps'.getD t undef)) :
    SR P VR ρ (Go.results fn tmps) (Go.results fn tmps') := by
  rw [results_eq, results_eq, Array.mapM_eq_mapM_toList, Array.mapM_eq_mapM_toList, ← bind_pure_comp, ← bind_pure_comp, bind_assoc, bind_assoc]
  refine SR.bind (SR.resultsL fn.results.toList fun s hs => h _ ?_) fun σ vs vs' hle hvs => ?_
  · unfold slots
    rw [List.mem_map]
    exact ⟨s, hs, by cases s <;> rfl⟩
  · simp only [pure_bind]
    have hlen := hvs.get.1
    refine .ret ?_
    by_cases q : vs.length = 1
    · match vs, vs', hvs, q with
      | [v], [v'], hv, _ => simpa using hv.1
    · have q' : ¬ vs'.length = 1 := by omega
      simp only [List.size_toArray, q, q', dif_neg, not_false_eq_true]
      obtain ⟨h1, h2⟩ := AsR.of_list hvs
      exact .tuple h1 h2

end
end Go.Ev

