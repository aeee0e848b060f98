import Derived.Test.YtmkapmbmgpnjaaaEvNU
namespace Go.Ev
open Go.RowKit

section
variable {P : Program} {N : Nat} {w0 : Base} {ρ : Ren} {H : AHeap} {w : World}

def genK (P : Program) (H : AHeap) (r : Operand → Value) (o : Oper) : Bool :=
  match o.op with
  | .alloc _ | .box .. | .load .. | .store .. | .indexAddr .. | .build .. | .buildSlice .. | .makeSlice .. | .makeMap .. | .makeInterface .. | .field .. | .index .. | .extract .. | .typeAssert .. | .pick .. | .range .. => true
  | .entry x | .next x _ => (match r x with
    | .pointer (some a) => (H.getObj a.block).isSome
    | _ => false)
  | .fieldAddr s _ n => fieldSized P s n
  | .makeFunc fn _ _ => (match fn with | .yield _ => false | _ => true)
  | .nilCheck x => match r x with
    | .func (.method _) _ _ => false
    | _ => true
  | .binOp op _ x y _ => (op == .eql || op == .neq) && nilEq (r x) (r y)
  | .slice t x lo _ _ => (match P.underlying t with
    | some (.array ..) => true
    | _ => match r x with
      | .slice (some a) n c => (match H.blk a.block with
        | some b => isCells b.obj && sliceGuard P t b.sz n c (lo.map r)
        | none => false)
      | .slice none n c => decide (n ≤ c)
      | _ => true)
  | .call c => match c.callee with
    | .builtin .len => true
    | .builtin .copy => true
    | .builtin .clear => (match (c.args.map r)[0]? with
      | some (Value.slice _ _ _) => true
      | _ => false)
    | _ => false
  | _ => false

theorem VS.sliceAt {t : TypeId} {v v' : Value} (h : VR ρ v v') {low low' high high' mx mx' : Option Value} (hl : OptR ρ low low') (hh : OptR ρ high high') (hm : OptR ρ mx mx')
    (hg : (∃ n e, P.underlying t = some (.array n e)) ∨ ((∀ a n c, v = .slice (some a) n c → sliceGuard P t (ρ.f a.block).sz n c low = true) ∧ (∀ n c, v = .slice none n c → n ≤ c))) :
    SR P VR ρ (Instr.sliceAt t v low high mx) (Instr.sliceAt t v' low' high' mx') := by
  unfold Instr.sliceAt
  rcases hg with ⟨n, e, ha⟩ | ⟨hg1, hg2⟩
  · refine SR.bind (ES.underlying t) fun σ d _ hle hd => ?_
    obtain ⟨rfl, hd⟩ := hd
    rw [ha] at hd
    cases hd
    refine SR.bind (SR.sureAddr (h.mono hle)) fun τ a a' hle2 ha => ?_
    refine SR.bind (ES.sliceBounds false n (Nat.le_refl _) (Nat.le_refl _) ((hl.mono hle).mono hle2) ((hh.mono hle).mono hle2) ((hm.mono hle).mono hle2)) fun φ p q hle4 hpq => ?_
    obtain ⟨p1, p2, p3⟩ := p
    obtain ⟨q1, q2, q3⟩ := q
    obtain ⟨h1, h2, _, _, h3, _⟩ := hpq
    simp only at h1 h2 h3
    have h4 : p3 = q3 := by omega
    subst h1 h2 h4
    refine SR.bind (ES.sizeOf e) fun ψ k _ hle5 hk => ?_
    obtain ⟨rfl, -⟩ := hk
    have ha := (ha.mono hle4).mono hle5
    by_cases q : p3 = p1
    · simp only [q, if_true]; exact .ret (VR.freshSlice ha _ _)
    · simp only [q, if_false]; exact .ret (VR.freshSlice (ha.add _) _ _)
  · refine SR.bind (ES.underlying t) fun σ d _ hle hd => ?_
    obtain ⟨rfl, hd⟩ := hd
    have hsl : SR P VR σ (Instr.slice t v low high mx) (Instr.slice t v' low' high' mx') := by
      refine VS.slice (h.mono hle) (hl.mono hle) (hh.mono hle) (hm.mono hle) ?_ hg2
      intro a n c hv
      have hb : ρ.on a.block := by
        subst hv
        cases h with
        | ssome hs => exact hs.1.1
      rw [(hle.2 _ hb).2]
      exact hg1 a n c hv
    cases d <;> first
      | exact hsl
      | skip
    rename_i n e
    refine SR.bind (SR.sureAddr (h.mono hle)) fun τ a a' hle2 ha => ?_
    refine SR.bind (ES.sliceBounds false n (Nat.le_refl _) (Nat.le_refl _) ((hl.mono hle).mono hle2) ((hh.mono hle).mono hle2) ((hm.mono hle).mono hle2)) fun φ p q hle4 hpq => ?_
    obtain ⟨p1, p2, p3⟩ := p
    obtain ⟨q1, q2, q3⟩ := q
    obtain ⟨h1, h2, _, _, h3, _⟩ := hpq
    simp only at h1 h2 h3
    have h4 : p3 = q3 := by omega
    subst h1 h2 h4
    refine SR.bind (ES.sizeOf e) fun ψ k _ hle5 hk => ?_
    obtain ⟨rfl, -⟩ := hk
    have ha := (ha.mono hle4).mono hle5
    by_cases q : p3 = p1
    · simp only [q, if_true]; exact .ret (VR.freshSlice ha _ _)
    · simp only [q, if_false]; exact .ret (VR.freshSlice (ha.add _) _ _)

theorem gen_spec (ok : Okay P) (h : HR N w0 ρ H w) {r r' : Operand → Value} {o : Oper} (hk : genK P H r o = true) (hop : OpsR ρ r r' o.op) : SR P NR ρ (execOp r o) (execOp r' o) := by
  obtain ⟨dst, op, type, pos, after, guard⟩ := o
  simp only at hop
  have one : ∀ {x : Operand}, x ∈ op.operands → VR ρ (r x) (r' x) := fun hx => (hop _ hx).1
  have nj : ∀ {x : Operand}, x ∈ op.operands → isJunk (r x) = false := fun hx => (hop _ hx).2
  cases op <;> simp only [genK] at hk <;> first
    | (cases hk; done)
    | skip
  case pick c a b =>
    simp only [Op.operands, Array.mem_def, List.mem_cons, List.not_mem_nil] at one
    simp only [execOp]
    refine SR.bind (ES.asBool (one (.inl rfl))) fun σ x _ hle e => ?_
    subst e
    refine .ret (.value ?_)
    cases x
    · exact (one (.inr (.inr (.inl rfl)))).mono hle
    · exact (one (.inr (.inl rfl))).mono hle
  case alloc e =>
    simp only [execOp]
    exact NR.ofValue (VS.alloc ok e)
  case box e v =>
    simp only [execOp]
    exact NR.ofValue (VS.box e (one (by simp [Op.operands])) (nj (by simp [Op.operands])))
  case build t ps =>
    simp only [execOp]
    refine NR.ofValue (VS.build ok t ?_)
    simp only [Array.toList_map]
    exact PartsR.map _ fun p hp => hop _ (by simp [Op.operands]; exact ⟨p.1, by simpa using hp⟩)
  case buildSlice t n ps =>
    simp only [execOp]
    refine NR.ofValue (VS.buildSlice ok t n ?_)
    simp only [Array.toList_map]
    exact PartsR.map _ fun p hp => hop _ (by simp [Op.operands]; exact ⟨p.1, by simpa using hp⟩)
  case load t a =>
    simp only [execOp]
    exact NR.ofValue (VS.loadAt t (one (by simp [Op.operands])))
  case store t a x =>
    simp only [execOp]
    exact NR.ofUnit (VS.storeAt t (one (by simp [Op.operands])) (one (by simp [Op.operands])) (nj (by simp [Op.operands])))
  case nilCheck x =>
    have hx := one (x := x) (by simp [Op.operands])
    have hj := nj (x := x) (by simp [Op.operands])
    clear nj one hop
    simp only [execOp]
    generalize r x = v at *
    generalize r' x = v' at *
    cases hx with
    | junk => cases hj
    | pnone => exact .dead fun H => dead_runtimePanic' _ H
    | nilIface => exact .dead fun H => dead_runtimePanic' _ H
    | nilFunc => exact .dead fun H => dead_runtimePanic' _ H
    | func hf h1 h2 h3 h4 =>
      rename_i f f' y y' z z'
      cases f <;> cases f' <;> first
        | (cases hf; done)
        | (cases hk; done)
        | exact SR.ret (NR.value (VR.func hf h1 h2 h3 h4))
    | bool b => exact .ret (.value (.bool b))
    | int k n => exact .ret (.value (.int k n))
    | float k n => exact .ret (.value (.float k n))
    | complex k m n => exact .ret (.value (.complex k m n))
    | string s => exact .ret (.value (.string s))
    | psome a => exact .ret (.value (.psome a))
    | snone n c => exact .ret (.value (.snone n c))
    | ssome a => exact .ret (.value (.ssome a))
    | mnone => exact .ret (.value .mnone)
    | msome a => exact .ret (.value (.msome a))
    | cnone => exact .ret (.value .cnone)
    | iface t a => exact .ret (.value (.iface t a))
    | agg a b => exact .ret (.value (.agg a b))
    | tuple a b => exact .ret (.value (.tuple a b))
  case binOp op t x y yt =>
    simp only [execOp]
    simp only [Bool.and_eq_true, Bool.or_eq_true, beq_iff_eq] at hk
    exact NR.ofValue (VS.binOpNil op t x y (one (by simp [Op.operands])) (one (by simp [Op.operands])) hk.2 hk.1)
  case makeInterface t x =>
    simp only [execOp]
    exact NR.ofValue (VS.makeInterface t (one (by simp [Op.operands])))
  case makeFunc fn first cap =>
    simp only [execOp]
    refine NR.ofValue (P := P) (s := Instr.makeFunc fn (first.map r) (cap.map r)) (s' := Instr.makeFunc fn (first.map r') (cap.map r')) ?_
    have h1 : AsR ρ (first.map r) (first.map r') := AsR.map fun x hx => one (by simp [Op.operands]; exact .inl hx)
    have h2 : AsR ρ (cap.map r) (cap.map r') := AsR.map fun x hx => one (by simp [Op.operands]; exact .inr hx)
    have hf : FnR ρ fn fn := by cases fn <;> first | (cases hk; done) | rfl
    exact SR.ret (VR.func hf h1.1 h1.2 h2.1 h2.2)
  case makeMap t c =>
    simp only [execOp]
    refine NR.ofValue (VS.makeMap t ?_)
    rcases OptR.map (x := c) (r := r) (r' := r') (ρ := ρ) (fun y hy => one (by simp [Op.operands, hy])) with hh | hh
    · exact .inl hh
    · exact .inr hh
  case makeSlice t l c =>
    simp only [execOp]
    exact NR.ofValue (VS.makeSlice ok t (one (by simp [Op.operands])) (one (by simp [Op.operands])))
  case slice t x lo hi mx =>
    simp only [execOp]
    refine NR.ofValue (VS.sliceAt (one (by simp [Op.operands])) (OptR.map fun y hy => one (by simp [Op.operands, hy])) (OptR.map fun y hy => one (by simp [Op.operands, hy])) (OptR.map fun y hy => one (by simp [Op.operands, hy])) ?_)
    split at hk
    · rename_i n e q; exact .inl ⟨n, e, q⟩
    · refine .inr ⟨fun a n c hv => ?_, fun n c hv => ?_⟩
      · rw [hv] at hk
        simp only at hk
        split at hk
        · rename_i b hb
          simp only [Bool.and_eq_true] at hk
          obtain ⟨c1, e1, f1, ho⟩ := isCells_eq hk.1
          have hvr := one (x := x) (by simp [Op.operands])
          rw [hv] at hvr
          have hon : ρ.on a.block := by
            generalize r' x = y at hvr
            cases hvr with
            | ssome hs0 => exact hs0.1.1
          obtain ⟨_, _, _, _, _, _, hz, _⟩ := h.cells _ _ _ _ _ hon hb ho
          rw [hz]
          exact hk.2
        · cases hk
      · rw [hv] at hk
        simpa using hk
  case fieldAddr s x f =>
    simp only [execOp]
    exact NR.ofValue (VS.fieldAt s f hk (one (by simp [Op.operands])))
  case field s x f =>
    simp only [execOp]
    exact NR.ofValue (VS.field s (one (by simp [Op.operands])) f)
  case indexAddr t x i =>
    simp only [execOp]
    exact NR.ofValue (VS.indexAt t (one (by simp [Op.operands])) (one (by simp [Op.operands])))
  case index t x i =>
    simp only [execOp]
    exact NR.ofValue (VS.index t (one (by simp [Op.operands])) (one (by simp [Op.operands])))
  case typeAssert x t u c =>
    simp only [execOp]
    exact NR.ofValue (VS.typeAssert ok (one (by simp [Op.operands])) t u c)
  case extract x i =>
    simp only [execOp]
    exact NR.ofValue (VS.extract (one (by simp [Op.operands])) (nj (by simp [Op.operands])) i)
  case next x str =>
    simp only [execOp]
    have hx := one (x := x) (by simp [Op.operands])
    refine NR.ofValue (VS.next str type hx ?_)
    intro k o s hv
    rw [hv] at hk hx
    simp only [Option.isSome_iff_exists] at hk
    obtain ⟨ob, hob⟩ := hk
    have hon : ρ.on k := by
      generalize r' x = y at hx
      cases hx with
      | psome ha => exact ha.1
    exact h.flat hon hob
  case entry x =>
    simp only [execOp]
    have hx := one (x := x) (by simp [Op.operands])
    refine NR.ofValue (VS.entry hx ?_)
    intro k o s hv
    rw [hv] at hk hx
    simp only [Option.isSome_iff_exists] at hk
    obtain ⟨ob, hob⟩ := hk
    have hon : ρ.on k := by
      generalize r' x = y at hx
      cases hx with
      | psome ha => exact ha.1
    exact h.flat hon hob
  case range t x =>
    simp only [execOp]
    exact NR.ofValue (VS.range t (one (by simp [Op.operands])))
  case call c =>
    obtain ⟨callee, args, ats⟩ := c
    simp only at hk
    have ha : AsR ρ (args.map r) (args.map r') := AsR.map fun x hx => one (by simp [Op.operands, Call.operands]; exact .inr hx)
    cases callee with
    | value f => cases hk
    | invoke f m => cases hk
    | builtin b =>
      cases b <;> simp only at hk <;> first
        | (cases hk; done)
        | skip
      · have hk2 : (match (args.map r)[0]? with
          | some (Value.slice _ _ _) => true
          | _ => false) = true := hk
        have hs : ∀ v, (args.map r)[0]? = some v → ∃ a n c, v = .slice a n c := by
          intro v hv
          rw [hv] at hk2
          cases v <;> first | exact ⟨_, _, _, rfl⟩ | cases hk2
        exact NR.ofValue (VS.clear ok ats type ha hs)
      · exact NR.ofValue (VS.copy ats type ha)
      · exact NR.ofValue (VS.len ats type ha)

end
end Go.Ev
