import Derived.Test.YtcgbbglhbbhpdaaGreatDoorEvQ
namespace Go.Ev
open Go.RowKit

section
variable {E : Env} {N : Nat} {w0 : Base} {ρ : Ren} {H : AHeap} {w : World}

/-- A text that only reads leaves everything as it was. -/
theorem absRunQ_sound {P : Program} {α β : Type} {RA : Ren → α → β → Prop} {ρ : Ren} {s : Sem α} {s' : Sem β} (hs : SR P RA ρ s s') :
    HR N w0 ρ H w → ∀ a, absRunQ P s H = some a → ∃ b, s'.run P w = .ok b w ∧ RA ρ a b := by
  intro hH
  induction hs with
  | pure h => intro a ha; cases ha; exact ⟨_, rfl, h⟩
  | @load ρ m m' a a' k k' ha hk ih =>
    intro x hx
    unfold absRunQ at hx
    split at hx
    · rename_i v hv
      obtain ⟨v', hv', hr⟩ := hH.load ha hv
      obtain ⟨b, h1, h2⟩ := ih v v' hr hH x hx
      exact ⟨b, by simp [Sem.run, hv', h1], h2⟩
    · cases hx
  | @getObj ρ r r' k k' hr hk ih =>
    intro x hx
    unfold absRunQ at hx
    split at hx
    · rename_i o ho
      obtain ⟨o', hw, hor⟩ := hH.getObj hr ho
      obtain ⟨b, h1, h2⟩ := ih o o' hor hH x hx
      refine ⟨b, ?_, h2⟩
      have := hor.notCells.2
      rw [← h1]
      simp only [Sem.run, hw]
      cases o' <;> first | rfl | (simp [isCells] at this)
    · cases hx
  | @choose ρ q q' k k' hq hk ih =>
    intro x hx
    unfold absRunQ at hx
    split at hx
    · rename_i hf
      obtain ⟨b, h1, h2⟩ := ih hH x hx
      exact ⟨b, by simp [Sem.run, hq, hf, h1], h2⟩
    · cases hx
  | program hk ih => intro x hx; obtain ⟨b, h1, h2⟩ := ih hH x hx; exact ⟨b, by simp [Sem.run, h1], h2⟩
  | mark hk ih => intro x hx; obtain ⟨b, h1, h2⟩ := ih hH x hx; exact ⟨b, by simp [Sem.run, h1], h2⟩
  | chooseNo hq => intro x hx; unfold absRunQ at hx; rw [hq] at hx; cases hx
  | @dead ρ s s' hd =>
    intro x hx
    have : ∀ (s : Sem α) (x : α), absRunQ P s H = some x → ∃ H', absRun P s H = some (x, H') := by
      intro s
      induction s with
      | pure a => intro x hx; cases hx; exact ⟨_, rfl⟩
      | load m a k ih =>
        intro x hx
        unfold absRunQ at hx
        unfold absRun
        split at hx
        · rename_i hq; simp only [hq]; exact ih _ x hx
        · cases hx
      | getObj r k ih =>
        intro x hx
        unfold absRunQ at hx
        unfold absRun
        split at hx
        · rename_i hq; simp only [hq]; exact ih _ x hx
        · cases hx
      | choose q k ih =>
        intro x hx
        unfold absRunQ at hx
        unfold absRun
        split at hx
        · rename_i hq; simp only [hq]; exact ih _ x hx
        · cases hx
      | program k ih => intro x hx; exact ih _ x hx
      | mark m k ih => intro x hx; exact ih x hx
      | _ => intro x hx; cases hx
    obtain ⟨_, h⟩ := this s x hx
    rw [hd] at h
    cases h
  | _ => intro x hx; cases hx

/-- What is said of an operation that only reads. -/
def Tells (E : Env) (ρ : Ren) (s : Sem Next) (w : World) (v : Value) : Prop := ∃ v', s.run E.P w = .ok (.value v') w ∧ VR ρ v v'

theorem agenQ_spec (ok : Okay E.P) (h : HR N w0 ρ H w) {r r' : Operand → Value} {o : Oper} (hr : ∀ x, x ∈ o.op.operands → VR ρ (r x) (r' x)) {v : Value} (hx : agenQ E H r o = some v) :
    Tells E ρ (execOp r' o) w v := by
  unfold agenQ at hx
  split at hx
  case isFalse => cases hx
  rename_i hk
  simp only [Bool.and_eq_true] at hk
  split at hx
  case h_2 => cases hx
  rename_i u hrun
  cases hx
  have hop : OpsR ρ r r' o.op := by
    intro x hx
    refine ⟨hr x hx, ?_⟩
    have := hk.2
    unfold noneJunk at this
    rw [List.all_eq_true] at this
    simpa using this x (Array.mem_toList_iff.2 hx)
  obtain ⟨b, h1, h2⟩ := absRunQ_sound (gen_spec ok h hk.1 hop) h _ hrun
  cases h2
  exact ⟨_, h1, by assumption⟩

theorem apureQ_spec {r r' : Operand → Value} {o : Oper} (hs : allScalar r o.op = true) (hr : ∀ x, x ∈ o.op.operands → VR ρ (r x) (r' x)) {v : Value} (hx : apureQ E r o = some v) :
    Tells E ρ (execOp r' o) w v := by
  unfold apureQ at hx
  split at hx
  case isTrue => cases hx
  rename_i hsel
  split at hx
  case h_2 => cases hx
  rename_i v hrun
  split at hx
  case isFalse => cases hx
  rename_i hsv
  cases hx
  have he : execOp r' o = execOp r o := by
    refine execOp_congr o (fun cs b q => hsel (by rw [q]; rfl)) fun y hy => ?_
    unfold allScalar at hs
    rw [List.all_eq_true] at hs
    exact scalar.eq _ _ _ (hs y (Array.mem_toList_iff.2 hy)) (hr y hy)
  exact ⟨_, by rw [he]; exact pureRun_run _ hrun w, VR.ofScalar _ _ hsv⟩

theorem aquiet_spec (ok : EnvOK E) (h : HR N w0 ρ H w) {tmps : Array Value} {o : Oper} {r' : Operand → Value} (ht : ∀ x, x ∈ o.op.operands → okOperand E.G x = true → VR ρ (evalT tmps x) (r' x)) {v : Value} (hx : aquiet E tmps H o = some v) :
    Tells E ρ (execOp r' o) w v := by
  unfold aquiet at hx
  simp only [mapA_eq] at hx
  split at hx
  case isFalse => cases hx
  rename_i hop
  rw [List.all_eq_true] at hop
  have hr : ∀ x, x ∈ o.op.operands → VR ρ (evalT tmps x) (r' x) := fun y hy => ht y hy (hop y (Array.mem_toList_iff.2 hy))
  clear ht
  generalize evalT tmps = r at *
  obtain ⟨dst, op, type, pos, after, guard⟩ := o
  simp only at hr hx
  split at hx
  · cases hx; exact ⟨_, rfl, hr _ (by simp [Op.operands])⟩
  · cases hx; exact ⟨_, rfl, hr _ (by simp [Op.operands])⟩
  · cases hx
  · cases hx
  · cases hx
  · cases hx
  · rename_i t m k okb
    split at hx
    case isFalse => cases hx
    rename_i hk
    obtain ⟨v', q1, q2⟩ := alookup_spec ok.ok h (hr m (by simp [Op.operands])) hx
    have ek := scalar.eq _ _ _ hk (hr k (by simp [Op.operands]))
    refine ⟨_, ?_, q2⟩
    simp only [execOp, ek]
    rw [Sem.run_bind, q1]
    rfl
  · rename_i c
    have hargs : AsR ρ (c.args.map r) (c.args.map r') := AsR.map fun y hy => hr y (by simp [Op.operands, Call.operands]; exact .inr hy)
    split at hx
    · rename_i hcal
      split at hx
      case h_2 => cases hx
      rename_i s hsx
      rw [toList_one hsx] at hargs
      obtain ⟨s', he, hs⟩ := hargs.one
      obtain ⟨u', q1, q2⟩ := sliceData_spec (P := E.P) (w := w) c.argTypes type hs hx
      refine ⟨_, ?_, q2⟩
      have hb : execOp r' { dst, op := .call c, type, pos, after, guard } = (do Pure.pure (Next.value (← Builtin.unsafeSliceData_ c.argTypes type (c.args.map r')))) := by
        simp only [execOp]; unfold resolve; rw [hcal]; rfl
      rw [hb, he, Sem.run_bind, q1]
      rfl
    · split at hx
      · rename_i hsc; exact apureQ_spec hsc hr hx
      · exact agenQ_spec ok.ok h hr hx
    · cases hx
  · rename_i src dst' y
    split at hx
    · rename_i hc
      cases hx
      have hy := hr y (by simp [Op.operands])
      refine ⟨_, ?_, hy⟩
      simp only [execOp]
      rw [Sem.run_bind, convPtr_spec h hy hc]
      rfl
    · split at hx
      · rename_i hsc; exact apureQ_spec hsc hr hx
      · cases hx
  · rename_i bop t y z yt
    split at hx
    · rename_i v hv
      cases hx
      obtain ⟨q1, q2⟩ := ptrEq_spec (w := w) (hr y (by simp [Op.operands])) (hr z (by simp [Op.operands])) hv y z
      refine ⟨_, ?_, q2⟩
      simp only [execOp]
      rw [Sem.run_bind, q1]
      rfl
    · split at hx
      · rename_i hsc; exact apureQ_spec hsc hr hx
      · exact agenQ_spec ok.ok h hr hx
  · split at hx
    · exact agenQ_spec ok.ok h hr hx
    · split at hx
      · rename_i hsc; exact apureQ_spec hsc hr hx
      · exact agenQ_spec ok.ok h hr hx

theorem sameVal_eq : ∀ (n : Nat) (v u : Value), sameVal n v u = true → v = u := by
  intro n
  induction n with
  | zero => intro v u h; cases h
  | succ n ih =>
    have arr : ∀ (a b : Array Value), (a.size == b.size && (a.toList.zip b.toList).all fun (x, y) => sameVal n x y) = true → a = b := by
      intro a b h
      simp only [Bool.and_eq_true, beq_iff_eq, List.all_eq_true] at h
      obtain ⟨h1, h2⟩ := h
      apply Array.ext h1
      intro i hi hj
      refine ih _ _ (h2 (a[i], b[i]) ?_)
      rw [List.mem_iff_getElem]
      refine ⟨i, by simp; omega, by simp⟩
    intro v u h
    unfold sameVal at h
    split at h
    · simp at h; rw [h]
    · rw [Bool.and_eq_true] at h; rw [eq_of_beq h.1, eq_of_beq h.2]
    · rename_i a b
      obtain ⟨a⟩ := a
      obtain ⟨b⟩ := b
      have h2 : (a == b) = true := h
      rw [eq_of_beq h2]
    · simp at h; rw [h]
    · simp at h; rw [h.1.1, h.1.2, h.2]
    · simp at h; rw [h]
    · rfl
    · rfl
    · simp only [Bool.and_eq_true, beq_iff_eq] at h; rw [h.1, ih _ _ h.2]
    · rw [arr _ _ h]
    · rw [arr _ _ h]
    · rename_i f x c g y d
      simp only [Bool.and_eq_true] at h
      obtain ⟨⟨⟨⟨h1, h2⟩, h3⟩, h4⟩, h5⟩ := h
      have e1 : f = g := eq_of_beq h1
      have e2 : x = y := arr _ _ (by rw [Bool.and_eq_true]; exact ⟨h2, h3⟩)
      have e3 : c = d := arr _ _ (by rw [Bool.and_eq_true]; exact ⟨h4, h5⟩)
      rw [e1, e2, e3]
    · cases h

end
end Go.Ev
