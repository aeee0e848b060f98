import Derived.Test.YtmkapmbmgpnjaaaEvS
namespace Go.Ev
open Go.RowKit

theorem eval_evalT (fr : Frame) : fr.eval = evalT fr.tmps := by
  funext x
  cases x <;> rfl

theorem stepG_oper {P : Program} {fr : Frame} {cs : List Frame} {w : World} {ops : Array Oper} {i : Nat} {rest : List Nat} {k : List Item} {o : Oper}
    (hm : fr.mode = .run) (ht : fr.todo = .inRegion ops (i :: rest) :: k) (ho : ops[i]? = some o) (hw : Region.wanted o (yielded ops fr.tmps) = true)
    (hd : fr.roundOf = none ∨ ∀ c, o.op ≠ .defer c) :
    stepG P true { frame := fr, callers := cs, status := .running, dying := none } w = stepG.apply P true fr cs none (execOp (evalT fr.tmps) o) w := by
  have h1 : stepG P true { frame := fr, callers := cs, status := .running, dying := none } w = stepG.exec P true true fr cs none w := by
    simp only [stepG, hm]
  have h2 : stepG.exec P true true fr cs none w = stepG.oper P true fr cs none w := by
    simp only [stepG.exec, ht, ho, Option.map_some, Option.getD_some, hw, if_true]
  have h3 : fr.oper? = some o := by simp only [Frame.oper?, ht, ho]
  rw [h1, h2]
  unfold stepG.oper
  rw [h3, eval_evalT]
  simp only
  split
  · rename_i l o' c hr hop
    rcases hd with hd | hd
    · rw [hd] at hr; cases hr
    · exact absurd hop (hd c)
  · rfl

theorem step_value {P : Program} {fr : Frame} {cs : List Frame} {w w' : World} {ops : Array Oper} {i : Nat} {rest : List Nat} {k : List Item} {o : Oper} {v : Value}
    (hm : fr.mode = .run) (ht : fr.todo = .inRegion ops (i :: rest) :: k) (ho : ops[i]? = some o) (hw : Region.wanted o (yielded ops fr.tmps) = true)
    (hd : fr.roundOf = none ∨ ∀ c, o.op ≠ .defer c) (hr : (execOp (evalT fr.tmps) o).run P w = .ok (.value v) w') :
    step P (lone fr cs w) = .next (lone (fr.finish v) cs w') := by
  refine step_lone_go ?_
  rw [stepG_oper hm ht ho hw hd]
  simp [stepG.apply, hr]

theorem step_unwanted {P : Program} {fr : Frame} {cs : List Frame} {w : World} {ops : Array Oper} {i : Nat} {rest : List Nat} {k : List Item}
    (hm : fr.mode = .run) (ht : fr.todo = .inRegion ops (i :: rest) :: k) (hw : ((ops[i]?).map (Region.wanted · (yielded ops fr.tmps))).getD false = false) :
    step P (lone fr cs w) = .next (lone (fr.finish undef) cs w) := by
  refine step_lone_go ?_
  simp [stepG, hm, stepG.exec, ht, hw]

def dstOf (ops : Array Oper) (i : Nat) : Option Tmp := (ops[i]?).bind (·.dst)
def looksOf (ops : Array Oper) (i : Nat) : List Tmp := ((ops[i]?).map (·.looksAt ops)).getD []

def bare (w : World) : Base := ⟨w, fun _ => False⟩

theorem fresh_spec {H : AHeap} {o : Obj} {b : Nat} (h : fresh H o b = true) : ∃ c e, o = .cells c e (0, 0) ∧ H.blk b = some ⟨.cells c e (0, 0), b, 0, false, 0⟩ ∧ H.grp b = some ⟨[(b, 0)], 0, 0⟩ := by
  unfold fresh at h
  split at h
  case h_2 => cases h
  rename_i c e fr
  split at h
  case h_2 => cases h
  rename_i k hk
  split at h
  case h_2 => cases h
  rename_i c2 e2 fr2 ho
  split at h
  case h_2 => cases h
  rename_i g hg
  have hm : ∀ (l : List (Nat × Nat)), (match l with | [p] => p.1 == b && p.2 == 0 | _ => false) = true → l = [(b, 0)] := by
    intro l hl
    split at hl
    · rename_i p
      simp only [Bool.and_eq_true, beq_iff_eq] at hl
      obtain ⟨p1, p2⟩ := p
      simp only at hl
      rw [hl.1, hl.2]
    · cases hl
  have ha : ∀ (x y : Array Value), (x.size == y.size && (x.toList.zip y.toList).all fun (u, v) => sameVal 20 u v) = true → x = y := by
    intro a d h
    simp only [Bool.and_eq_true, beq_iff_eq, List.all_eq_true] at h
    obtain ⟨h1, h2⟩ := h
    apply Array.ext h1
    intro i hi hj
    refine sameVal_eq 20 _ _ (h2 (a[i], d[i]) ?_)
    rw [List.mem_iff_getElem]
    exact ⟨i, by simp; omega, by simp⟩
  rw [Bool.and_eq_true, Bool.and_eq_true] at h
  obtain ⟨⟨h, h2⟩, h3⟩ := h
  have h2 := hm _ h2
  have h3 := ha _ _ h3
  simp only [Bool.and_eq_true, beq_iff_eq, Bool.not_eq_true'] at h
  obtain ⟨⟨⟨⟨⟨⟨⟨⟨⟨⟨q1, q2⟩, q3⟩, q4⟩, q5⟩, q6⟩, q7⟩, q8⟩, q9⟩, q10⟩, q11⟩ := h
  obtain ⟨f1, f2⟩ := fr
  obtain ⟨f3, f4⟩ := fr2
  obtain ⟨ko, kr, korg, kro, ksz⟩ := k
  obtain ⟨gm, gl, gh⟩ := g
  simp only at *
  subst q1 q2 q3 q4 q5 q6 q7 q8 q9 q10 q11 h2 h3 ho
  exact ⟨_, _, rfl, hk, hg⟩

theorem freshMap_spec {H : AHeap} {o : Obj} {b : Nat} (h : freshMap H o b = true) : o = .map #[] 0 ∧ H.blk b = some ⟨.map #[] 0, b, 0, false, 0⟩ := by
  unfold freshMap at h
  split at h
  case h_2 => cases h
  rename_i es c
  rw [Bool.and_eq_true, Bool.and_eq_true] at h
  obtain ⟨⟨h1, h2⟩, h3⟩ := h
  split at h3
  case h_2 => cases h3
  rename_i k hk
  split at h3
  case h_2 => cases h3
  rename_i es2 c2 ho
  simp only [Bool.and_eq_true, beq_iff_eq, Bool.not_eq_true'] at h3
  obtain ⟨⟨⟨⟨⟨q1, q2⟩, q3⟩, q4⟩, q5⟩, q6⟩ := h3
  obtain ⟨ko, kr, korg, kro, ksz⟩ := k
  have e1 : es = #[] := by simpa using h1
  have e2 : es2 = #[] := by simpa using q1
  have e3 : c = 0 := by simpa using h2
  simp only at *
  subst e1 e2 e3 q2 q3 q4 q5 q6 ho
  exact ⟨rfl, hk⟩

theorem makes_spec {P : Program} {o : Oper} {ob : Obj} {d : Tmp} (h : makes P o = some (ob, d)) : o.dst = some d ∧ o.guard = none ∧ (∀ c, o.op ≠ .defer c) ∧ ((∃ z t, ob = .cells (Value.cells z) t (0, 0) ∧
    (∃ i, P.info? t = some i ∧ i.zero = some z)) ∨ ob = .map #[] 0) ∧ (∀ (r : Operand → Value) (w : World), (execOp r o).run P w = .ok (.value (mkVal ob w.heap.size)) { w with heap := w.heap.push ob }) ∧
    ∀ (r : Operand → Value) (H : AHeap), absRunQ P (execOp r o) H = none := by
  unfold makes at h
  split at h
  case h_3 => cases h
  case h_2 =>
    rename_i t ho
    split at h
    case h_2 => cases h
    rename_i d' hg hd
    cases h
    refine ⟨hd, hg, (fun c hc => by rw [ho] at hc; cases hc), .inr rfl, fun r w => ?_, fun r H => ?_⟩
    · obtain ⟨dst, op, type, pos, after, guard⟩ := o
      simp only at ho
      subst ho
      rfl
    · obtain ⟨dst, op, type, pos, after, guard⟩ := o
      simp only at ho
      subst ho
      rfl
  rename_i t ho
  split at h
  case h_2 => cases h
  rename_i d' hg hd
  split at h
  case h_2 => cases h
  rename_i i hi
  split at h
  case h_2 => cases h
  rename_i z hz
  cases h
  refine ⟨hd, hg, (fun c hc => by rw [ho] at hc; cases hc), .inl ⟨z, t, rfl, ⟨i, hi, hz⟩⟩, fun r w => ?_, fun r H => ?_⟩
  · obtain ⟨dst, op, type, pos, after, guard⟩ := o
    simp only at ho
    subst ho
    simp [execOp, Instr.alloc, Go.zeroValue, Go.typeInfo, hi, hz, Go.newVar, Go.newRow, mkVal]
  · obtain ⟨dst, op, type, pos, after, guard⟩ := o
    simp only at ho
    subst ho
    simp only [execOp, Instr.alloc, Go.zeroValue, Go.typeInfo, Go.newVar, Go.newRow]
    show absRunQ P (Sem.bind (Sem.bind (Sem.bind (Sem.bind Go.program fun p => match p.info? t with | some i => Sem.pure i | none => Go.stuck "no such type") _) _) _) H = none
    simp [Sem.bind, Go.program, absRunQ, hi, hz]
    rfl

theorem floats_makes {E : Env} {ops : Array Oper} {tmps : Array Value} {H : AHeap} {i : Nat} {p : Obj × Tmp} (h : (ops[i]?).bind (makes E.P) = some p) : floats E ops tmps H i = none := by
  unfold floats
  cases ho : ops[i]? with
  | none => simp [ho] at h
  | some o =>
    rw [ho] at h
    obtain ⟨ob, d⟩ := p
    have h : makes E.P o = some (ob, d) := h
    obtain ⟨hd, hg, hdef, hob, _, hq⟩ := makes_spec h
    have hw : wantedA ops tmps o = some true := by unfold wantedA; rw [hg]
    have hop : (∃ t, o.op = .alloc t) ∨ ∃ t c, o.op = .makeMap t c := by
      unfold makes at h
      split at h
      · rename_i t ht; exact .inl ⟨t, ht⟩
      · rename_i t ht; exact .inr ⟨t, none, ht⟩
      · cases h
    simp only [hw]
    unfold aquiet
    rcases hop with ⟨t2, hop⟩ | ⟨t2, c2, hop⟩
    all_goals
      simp only [hop]
      split
      · simp only [genFirst, if_true]
        unfold agenQ
        split
        · rw [hq]
        · rfl
      · rfl

structure Lag (P : Program) (ρ : Ren) (ops : Array Oper) (la lc : Array Bool) (lag : List Nat) (fuel : Nat) (tmps tmps' : Array Value) : Prop where
  sa : la.size = ops.size
  sc : lc.size = ops.size
  sub : ∀ (i : Nat), lc[i]? = some true → la[i]? = some true
  cov : ∀ (i : Nat), la[i]? = some true → lc[i]? = some true ∨ i ∈ lag
  lagA : ∀ i ∈ lag, la[i]? = some true
  down : ∀ (i : Nat) (o : Oper), lc[i]? = some true → ops[i]? = some o → ∀ e ∈ o.after.toList, Region.binds .any e = true → lc[e.on]? = some true
  fuel : (List.range ops.size).countP (fun i => !(lc.getD i true)) ≤ fuel
  size : tmps'.size = tmps.size
  agree : ∀ (t : Nat) (v v' : Value), tmps[t]? = some v → tmps'[t]? = some v' → VR ρ v v' ∨ ∃ j ∈ lag, lc[j]? ≠ some true ∧ dstOf ops j = some t
  order : ∀ (l1 : List Nat) (i : Nat) (l2 : List Nat) (o : Oper), lag = l1 ++ i :: l2 → ops[i]? = some o → ∀ e ∈ o.after.toList, Region.binds .any e = true → lc[e.on]? = some true ∨ e.on ∈ l1
  self : ∀ i ∈ lag, ∀ d, dstOf ops i = some d → d ∉ looksOf ops i
  pair : ∀ i ∈ lag, ∀ j ∈ lag, i ≠ j → ∀ d, dstOf ops j = some d → dstOf ops i ≠ some d ∧ (d ∈ looksOf ops i → isBefore ops ops.size j i = true)
  pend : ∀ j ∈ lag, lc[j]? ≠ some true → ∀ b, madeBlk P ops tmps j = some b → b < ρ.n ∧ ¬ ρ.on b

theorem mem_ready {ops : Array Oper} {lc : Array Bool} (hs : lc.size = ops.size) {i : Nat} :
    i ∈ Region.ready .any ops lc ↔ lc[i]? = some false ∧ ∃ o, ops[i]? = some o ∧ ∀ e ∈ o.after.toList, Region.binds .any e = true → lc[e.on]? = some true := by
  unfold Region.ready
  rw [List.mem_filter, List.mem_range, Bool.and_eq_true]
  constructor
  · rintro ⟨h1, h2, h3⟩
    have h4 : i < lc.size := by omega
    refine ⟨?_, ops[i], Array.getElem?_eq_getElem h1, ?_⟩
    · rw [Array.getElem?_eq_getElem h4]
      simpa [h4] using h2
    · rw [Array.getElem?_eq_getElem h1] at h3
      simp only [Option.map_some, Option.getD_some] at h3
      rw [← Array.all_toList, List.all_eq_true] at h3
      intro e he hb
      have := h3 e he
      simp only [hb, Bool.not_true, Bool.false_or] at this
      rw [Array.getD_eq_getD_getElem?] at this
      cases q : lc[e.on]? with
      | none => rw [q] at this; cases this
      | some b => rw [q] at this; rw [show b = true from this]
  · rintro ⟨h1, o, h2, h3⟩
    have h4 := (Array.getElem?_eq_some_iff.1 h1).1
    refine ⟨by omega, ?_, ?_⟩
    · rw [Array.getD_eq_getD_getElem?, h1]; rfl
    · rw [h2]
      simp only [Option.map_some, Option.getD_some]
      rw [← Array.all_toList, List.all_eq_true]
      intro e he
      cases hb : Region.binds .any e with
      | false => rfl
      | true =>
        rw [Array.getD_eq_getD_getElem?, h3 e he hb]; rfl

theorem isBefore_listed {ops : Array Oper} {lc : Array Bool} (down : ∀ (i : Nat) (o : Oper), lc[i]? = some true → ops[i]? = some o → ∀ e ∈ o.after.toList, Region.binds .any e = true → lc[e.on]? = some true) :
    ∀ (n : Nat) (j i : Nat), (∀ (o : Oper), ops[i]? = some o → ∀ e ∈ o.after.toList, Region.binds .any e = true → lc[e.on]? = some true) → isBefore ops n j i = true → lc[j]? = some true := by
  intro n
  induction n with
  | zero => intro j i _ h; cases h
  | succ n ih =>
    intro j i hi h
    unfold isBefore at h
    cases ho : ops[i]? with
    | none => rw [ho] at h; cases h
    | some o =>
      rw [ho] at h
      simp only [Option.map_some, Option.getD_some, List.any_eq_true, Bool.and_eq_true, Bool.or_eq_true, beq_iff_eq] at h
      obtain ⟨e, he, hb, hj⟩ := h
      have hl := hi o ho e he hb
      rcases hj with rfl | hj
      · exact hl
      · exact ih j e.on (fun o' ho' => down _ _ hl ho') hj

theorem count_lt (p q : Nat → Bool) : ∀ (l : List Nat) (x : Nat), x ∈ l → p x = true → q x = false → (∀ y, q y = true → p y = true) → l.countP q < l.countP p := by
  intro l x hx hp hq hle
  induction l with
  | nil => cases hx
  | cons a l ih =>
    have hmono : l.countP q ≤ l.countP p := List.countP_mono_left fun y _ hy => hle y hy
    rw [List.countP_cons, List.countP_cons]
    rcases List.mem_cons.1 hx with rfl | hx
    · rw [hp, hq]; simp; omega
    · have := ih hx
      cases h1 : q a with
      | false => simp; omega
      | true => rw [hle a h1]; simp; omega

theorem getElem?_set_true {l : Array Bool} {x i : Nat} (hx : x < l.size) : (l.setIfInBounds x true)[i]? = if i = x then some true else l[i]? := by
  rw [Array.getElem?_setIfInBounds]
  by_cases q : x = i
  · subst q; simp [hx]
  · rw [if_neg q, if_neg (fun e => q e.symm)]

theorem fuel_dec {n : Nat} {lc : Array Bool} {x fuel : Nat} (hx : lc[x]? = some false) (hs : lc.size = n) (hf : (List.range n).countP (fun i => !(lc.getD i true)) ≤ fuel) :
    ∃ f, fuel = f + 1 ∧ (List.range n).countP (fun i => !((lc.setIfInBounds x true).getD i true)) ≤ f := by
  have hlt := (Array.getElem?_eq_some_iff.1 hx).1
  have := count_lt (fun i => !(lc.getD i true)) (fun i => !((lc.setIfInBounds x true).getD i true)) (List.range n) x (by rw [List.mem_range]; omega)
    (by rw [Array.getD_eq_getD_getElem?, hx]; rfl) (by rw [Array.getD_eq_getD_getElem?, getElem?_set_true hlt, if_pos rfl]; rfl) (by
      intro y hy
      rw [Array.getD_eq_getD_getElem?] at hy ⊢
      rw [getElem?_set_true hlt] at hy
      split at hy
      · cases hy
      · exact hy)
  exact ⟨fuel - 1, by omega, by omega⟩

end Go.Ev

namespace Go.Ev
open Go.RowKit

section
variable {E : Env} {N : Nat} {w0 : Base} {ρ : Ren} {H : AHeap} {w : World}

def TmpR (ρ : Ren) (x x' : Array Value) (t : Tmp) : Prop := ∀ v v', x[t]? = some v → x'[t]? = some v' → VR ρ v v'

theorem TmpR.getD {x x' : Array Value} (hs : x'.size = x.size) {t : Tmp} (h : TmpR ρ x x' t) : VR ρ (x.getD t undef) (x'.getD t undef) := by
  rw [Array.getD_eq_getD_getElem?, Array.getD_eq_getD_getElem?]
  cases q : x[t]? with
  | none =>
    have : x'[t]? = none := by rw [Array.getElem?_eq_none_iff] at *; omega
    rw [this]
    exact VR.undef ρ
  | some v =>
    have hlt := (Array.getElem?_eq_some_iff.1 q).1
    obtain ⟨v', hv'⟩ : ∃ v', x'[t]? = some v' := ⟨_, Array.getElem?_eq_getElem (show t < x'.size by rw [hs]; exact hlt)⟩
    rw [hv']
    exact h v v' q hv'

theorem evalT_rel' {G : Nat} {ρ : Ren} (hG : GR G ρ) {x x' : Array Value} {o : Operand} (h : ∀ t, o = .tmp t → VR ρ (x.getD t undef) (x'.getD t undef)) (ho : okOperand G o = true) : VR ρ (evalT x o) (evalT x' o) := by
  cases o with
  | tmp t => exact h t rfl
  | const v => exact plainV.sound ρ 20 v ho
  | global g =>
    have hg : g < G := by simpa [okOperand] using ho
    obtain ⟨h1, h2, h3⟩ := hG g hg
    exact .psome ⟨h1, h2.symm, by simp only; omega, rfl⟩
  | func f => exact .func rfl rfl (by simp) rfl (by simp)

theorem mem_looks {ops : Array Oper} {o : Oper} {t : Tmp} (h : Operand.tmp t ∈ o.op.operands) : t ∈ o.looksAt ops := by
  unfold Oper.looksAt
  rw [List.mem_append, List.mem_filterMap]
  exact .inl ⟨.tmp t, Array.mem_toList_iff.2 h, rfl⟩

theorem wanted_rel {ops : Array Oper} {tmps tmps' : Array Value} {o : Oper} {b : Bool} (hs : tmps'.size = tmps.size) (h : ∀ t ∈ o.looksAt ops, TmpR ρ tmps tmps' t) (hw : wantedA ops tmps o = some b) :
    Region.wanted o (yielded ops tmps') = b := by
  unfold wantedA at hw
  unfold Region.wanted
  cases hg : o.guard with
  | none => rw [hg] at hw; cases hw; rfl
  | some g =>
    obtain ⟨j, want⟩ := g
    rw [hg] at hw
    simp only at hw ⊢
    unfold yielded
    cases hd : (ops[j]?).bind (·.dst) with
    | none => rw [hd] at hw; cases hw
    | some t =>
      rw [hd] at hw
      simp only [Option.bind_some] at hw ⊢
      have ht : t ∈ o.looksAt ops := by
        unfold Oper.looksAt
        rw [List.mem_append]
        refine .inr ?_
        rw [hg]
        simp only [hd, Option.toList_some, List.mem_singleton]
      cases hv : tmps[t]? with
      | none => rw [hv] at hw; cases hw
      | some v =>
        rw [hv] at hw
        have hlt := (Array.getElem?_eq_some_iff.1 hv).1
        obtain ⟨v', hv'⟩ : ∃ v', tmps'[t]? = some v' := ⟨_, Array.getElem?_eq_getElem (show t < tmps'.size by rw [hs]; exact hlt)⟩
        have hr := h t ht v v' hv hv'
        rw [hv']
        cases v with
        | bool c => cases hr; cases hw; cases c <;> cases want <;> rfl
        | tuple vs =>
          simp only at hw
          split at hw
          · rename_i he
            cases hw
            have he : vs = #[] := by simpa using he
            subst he
            generalize hq : (Value.tuple #[]) = u at hr
            cases hr <;> first | (cases hq; done) | skip
            rfl
          · cases hw
        | _ => cases hw

theorem Lag.looks {ops : Array Oper} {la lc : Array Bool} {lag : List Nat} {fuel : Nat} {tmps tmps' : Array Value} (L : Lag E.P ρ ops la lc lag fuel tmps tmps')
    {x : Nat} (hx : x ∈ lag) (hr : x ∈ Region.ready .any ops lc) {t : Tmp} (ht : t ∈ looksOf ops x) : TmpR ρ tmps tmps' t := by
  intro v v' h1 h2
  rcases L.agree t v v' h1 h2 with h | ⟨j, hj, hl, hd⟩
  · exact h
  · by_cases q : x = j
    · subst q; exact absurd ht (L.self x hx t hd)
    · have hb := (L.pair x hx j hj q t hd).2 ht
      obtain ⟨_, o, ho, hdep⟩ := (mem_ready L.sc).1 hr
      exact absurd (isBefore_listed L.down _ _ _ (fun o' ho' => by rw [ho] at ho'; cases ho'; exact hdep) hb) hl

theorem finish_region {fr : Frame} {ops : Array Oper} {x : Nat} {rest : List Nat} {k : List Item} (ht : fr.todo = .inRegion ops (x :: rest) :: k) (v : Value) :
    fr.finish v = { fr with tmps := putT fr.tmps (dstOf ops x) v, todo := .inRegion ops rest :: k } := by
  simp only [Frame.finish, ht]
  rfl

theorem putT_size (x : Array Value) (d : Option Tmp) (v : Value) : (putT x d v).size = x.size := by
  cases d <;> simp [putT]

theorem putT_get {x : Array Value} {d : Option Tmp} {v u : Value} {t : Tmp} (h : (putT x d v)[t]? = some u) : (d = some t ∧ u = v) ∨ (d ≠ some t ∧ x[t]? = some u) := by
  cases d with
  | none => exact .inr ⟨(by intro e; cases e), h⟩
  | some d =>
    simp only [putT, Array.getElem?_setIfInBounds] at h
    by_cases q : d = t
    · subst q
      rw [if_pos rfl] at h
      split at h
      · cases h; exact .inl ⟨rfl, rfl⟩
      · cases h
    · rw [if_neg q] at h
      exact .inr ⟨(by intro e; cases e; exact q rfl), h⟩

theorem Lag.put {ops : Array Oper} {la lc : Array Bool} {lag : List Nat} {fuel : Nat} {tmps tmps' : Array Value} (L : Lag E.P ρ ops la lc lag fuel tmps tmps')
    {σ : Ren} (hle : ρ.le σ) {x : Nat} (hx : x ∈ lag) (hr : x ∈ Region.ready .any ops lc) {v' : Value} (hv : ∀ d u, dstOf ops x = some d → tmps[d]? = some u → VR σ u v')
    (hk : ∀ j ∈ lag, j ≠ x → lc[j]? ≠ some true → ∀ b, madeBlk E.P ops tmps j = some b → b < σ.n ∧ ¬ σ.on b) :
    ∃ f, fuel = f + 1 ∧ Lag E.P σ ops la (lc.setIfInBounds x true) lag f tmps (putT tmps' (dstOf ops x) v') := by
  obtain ⟨h0, o, ho, hdep⟩ := (mem_ready L.sc).1 hr
  have hlt := (Array.getElem?_eq_some_iff.1 h0).1
  obtain ⟨f, hf, hf2⟩ := fuel_dec h0 L.sc L.fuel
  have hset : ∀ (i : Nat), (lc.setIfInBounds x true)[i]? = if i = x then some true else lc[i]? := fun i => getElem?_set_true hlt
  have hmono : ∀ (i : Nat), lc[i]? = some true → (lc.setIfInBounds x true)[i]? = some true := by
    intro i hi; rw [hset]; split
    · rfl
    · exact hi
  refine ⟨f, hf, L.sa, by rw [Array.size_setIfInBounds]; exact L.sc, ?_, ?_, L.lagA, ?_, hf2, by rw [putT_size]; exact L.size, ?_, ?_, L.self, L.pair, ?_⟩
  · intro i hi
    rw [hset] at hi
    split at hi
    · rename_i q; subst q; exact L.lagA _ hx
    · exact L.sub i hi
  · intro i hi
    rcases L.cov i hi with h | h
    · exact .inl (hmono i h)
    · exact .inr h
  · intro i o' hi ho' e he hb
    rw [hset] at hi
    refine hmono _ ?_
    split at hi
    · rename_i q
      subst q
      rw [ho] at ho'
      cases ho'
      exact hdep e he hb
    · exact L.down i o' hi ho' e he hb
  · intro t v u h1 h2
    rcases putT_get h2 with ⟨q1, q2⟩ | ⟨q1, q2⟩
    · subst q2; exact .inl (hv t v q1 h1)
    · rcases L.agree t v u h1 q2 with h | ⟨j, hj, hl, hd⟩
      · exact .inl (h.mono hle)
      · refine .inr ⟨j, hj, ?_, hd⟩
        rw [hset, if_neg]
        · exact hl
        · intro e; subst e; exact q1 hd
  · intro l1 i l2 o' hl ho' e he hb
    rcases L.order l1 i l2 o' hl ho' e he hb with h | h
    · exact .inl (hmono _ h)
    · exact .inr h
  · intro j hj hl b hb
    rw [hset] at hl
    by_cases q : j = x
    · rw [if_pos q] at hl; exact absurd rfl hl
    · rw [if_neg q] at hl
      exact hk j hj q hl b hb

theorem nodup_filterMap {f : Nat → Option Nat} : ∀ {l : List Nat}, nodup (l.filterMap f) = true → ∀ {i j b : Nat}, i ∈ l → j ∈ l → f i = some b → f j = some b → i = j
  | [], _, _, _, _, h, _, _, _ => by cases h
  | a :: l, hn, i, j, b, hi, hj, fi, fj => by
    cases ha : f a with
    | none =>
      rw [List.filterMap_cons, ha] at hn
      have ni : i ≠ a := fun e => by rw [e, ha] at fi; cases fi
      have nj : j ≠ a := fun e => by rw [e, ha] at fj; cases fj
      exact nodup_filterMap hn ((List.mem_cons.1 hi).resolve_left ni) ((List.mem_cons.1 hj).resolve_left nj) fi fj
    | some c =>
      rw [List.filterMap_cons, ha] at hn
      simp only [nodup, Bool.and_eq_true, Bool.not_eq_true'] at hn
      obtain ⟨h1, h2⟩ := hn
      have hno : ∀ k, k ∈ l → f k ≠ some c := by
        intro k hk q
        have : c ∈ l.filterMap f := List.mem_filterMap.2 ⟨k, hk, q⟩
        have h1 : ¬ c ∈ l.filterMap f := by simpa using h1
        exact h1 this
      rcases List.mem_cons.1 hi with rfl | hil
      · rcases List.mem_cons.1 hj with rfl | hj
        · rfl
        · rw [ha] at fi; cases fi; exact absurd fj (hno j hj)
      · rcases List.mem_cons.1 hj with rfl | hj
        · rw [ha] at fj; cases fj; exact absurd fi (hno i hil)
        · exact nodup_filterMap h2 hil hj fi fj

end

section
variable {E : Env} {N : Nat} {w0 : World} {ρ : Ren} {H : AHeap} {w : World}

theorem lag_step (ok : EnvOK E) (h : HR N (bare w0) ρ H w) (hG : GR E.G ρ) {ops : Array Oper} {la lc : Array Bool} {lag : List Nat} {fuel : Nat} {tmps : Array Value} {fr : Frame} {x : Nat} {rest : List Nat} {k : List Item} (cs : List Frame)
    (L : Lag E.P ρ ops la lc lag fuel tmps fr.tmps) (hnd : nodup (lag.filterMap (madeBlk E.P ops tmps)) = true) (hx : x ∈ lag) (hr : x ∈ Region.ready .any ops lc) (hst : still E ops tmps H x = true) (hm : fr.mode = .run) (ht : fr.todo = .inRegion ops (x :: rest) :: k) :
    ∃ σ w2 tmps2 f, fuel = f + 1 ∧ ρ.le σ ∧ σ.n = ρ.n ∧ (∀ i, σ.on i → ρ.on i ∨ i ∈ lag.filterMap (madeBlk E.P ops tmps)) ∧ HR N (bare w0) σ H w2 ∧
      step E.P (lone fr cs w) = .next (lone { fr with tmps := tmps2, todo := .inRegion ops rest :: k } cs w2) ∧ Lag E.P σ ops la (lc.setIfInBounds x true) lag f tmps tmps2 := by
  unfold still at hst
  have hkeep : ∀ j ∈ lag, j ≠ x → lc[j]? ≠ some true → ∀ b, madeBlk E.P ops tmps j = some b → b < ρ.n ∧ ¬ ρ.on b := fun j hj _ hl b hb => L.pend j hj hl b hb
  split at hst
  · -- a variable is made
    rename_i ob d hmk
    split at hst
    case h_3 => cases hst
    case h_2 =>
      -- a map
      rename_i rb hta
      obtain ⟨hob, hblk⟩ := freshMap_spec hst
      cases ho : ops[x]? with
      | none => simp [ho] at hmk
      | some o =>
        have hmk' := hmk
        rw [ho] at hmk
        have hmk : makes E.P o = some (ob, d) := hmk
        obtain ⟨hd, hg, hdef, _, hrun, _⟩ := makes_spec hmk
        have hmb : madeBlk E.P ops tmps x = some rb := by
          unfold madeBlk
          rw [hmk']
          simp only [hta]
        obtain ⟨h0, _⟩ := (mem_ready L.sc).1 hr
        obtain ⟨hbn, hoff⟩ := L.pend x hx (by rw [h0]; simp) _ hmb
        have hS := h.settleMap hoff hbn (fun q => q) hblk
        have hle := Ren.le_settle ρ ⟨w.heap.size, 0, 0, 0⟩ hbn hoff
        have hdx : dstOf ops x = some d := by unfold dstOf; rw [ho]; exact hd
        obtain ⟨f, hf, L2⟩ := L.put hle hx hr (v' := .map (some w.heap.size)) (by
          intro d' u h1 h2
          rw [hdx] at h1
          cases h1
          rw [hta] at h2
          cases h2
          refine .msome ⟨.inr rfl, ?_⟩
          have e : (ρ.settle rb ⟨w.heap.size, 0, 0, 0⟩ hbn).f rb = ⟨w.heap.size, 0, 0, 0⟩ := if_pos rfl
          rw [e]) (by
          intro j hj hjx hl b hb
          obtain ⟨q1, q2⟩ := hkeep j hj hjx hl b hb
          refine ⟨q1, fun q => q.elim q2 (fun e => ?_)⟩
          subst e
          exact hjx (nodup_filterMap hnd hj hx hb hmb))
        refine ⟨_, _, _, f, hf, hle, rfl, ?_, hS, ?_, L2⟩
        · rintro i (hi | rfl)
          · exact .inl hi
          · exact .inr (List.mem_filterMap.2 ⟨x, hx, hmb⟩)
        · rw [← finish_region ht]
          refine step_value hm ht ho (by unfold Region.wanted; rw [hg]) (.inr hdef) ?_
          rw [hrun, hob]
          rfl
    rename_i a hta
    simp only [Bool.and_eq_true, beq_iff_eq, Option.isNone_iff_eq_none] at hst
    obtain ⟨⟨ha0, hsp⟩, hfr⟩ := hst
    cases ho : ops[x]? with
    | none => simp [ho] at hmk
    | some o =>
      have hmk' := hmk
      rw [ho] at hmk
      have hmk : makes E.P o = some (ob, d) := hmk
      obtain ⟨hd, hg, hdef, hobs, hrun, _⟩ := makes_spec hmk
      obtain ⟨z, t, hob, ⟨i, hi, hz⟩⟩ : ∃ z t, ob = .cells (Value.cells z) t (0, 0) ∧ (∃ i, E.P.info? t = some i ∧ i.zero = some z) := by
        rcases hobs with q | q
        · exact q
        · obtain ⟨c, e, q2, _, _⟩ := fresh_spec hfr
          rw [q] at q2
          cases q2
      have hmb : madeBlk E.P ops tmps x = some a.block := by
        unfold madeBlk
        rw [hmk']
        simp only [hta]
      obtain ⟨c, e, hob2, hblk, hgrp⟩ := fresh_spec hfr
      rw [hob] at hob2
      cases hob2
      obtain ⟨h0, _⟩ := (mem_ready L.sc).1 hr
      obtain ⟨hbn, hoff⟩ := L.pend x hx (by rw [h0]; simp) _ hmb
      have hgood := ok.ok.zero t i z hi hz
      have hAs : AsR ρ z.cells z.cells := (hgood.2 ρ).cells hgood.1
      have hS := h.settle hoff hbn (fun q => q) hblk hgrp hAs
      have hle := Ren.le_settle ρ ⟨w.heap.size, 0, 0, z.cells.size⟩ hbn hoff
      have hdx : dstOf ops x = some d := by unfold dstOf; rw [ho]; exact hd
      obtain ⟨f, hf, L2⟩ := L.put hle hx hr (v' := .pointer (some ⟨w.heap.size, 0, none⟩)) (by
        intro d' u h1 h2
        rw [hdx] at h1
        cases h1
        rw [hta] at h2
        cases h2
        refine .psome ⟨.inr rfl, ?_, ?_, hsp.symm⟩
        · have e : (ρ.settle a.block ⟨w.heap.size, 0, 0, z.cells.size⟩ hbn).f a.block = ⟨w.heap.size, 0, 0, z.cells.size⟩ := if_pos rfl
          rw [e]
        · have e : (ρ.settle a.block ⟨w.heap.size, 0, 0, z.cells.size⟩ hbn).f a.block = ⟨w.heap.size, 0, 0, z.cells.size⟩ := if_pos rfl
          rw [e, ha0]
          rfl) (by
        intro j hj hjx hl b hb
        obtain ⟨q1, q2⟩ := hkeep j hj hjx hl b hb
        refine ⟨q1, fun q => q.elim q2 (fun e => ?_)⟩
        subst e
        exact hjx (nodup_filterMap hnd hj hx hb hmb))
      refine ⟨_, _, _, f, hf, hle, rfl, ?_, hS, ?_, L2⟩
      · rintro i (hi | rfl)
        · exact .inl hi
        · exact .inr (List.mem_filterMap.2 ⟨x, hx, hmb⟩)
      · rw [← finish_region ht]
        refine step_value hm ht ho (by unfold Region.wanted; rw [hg]) (.inr hdef) ?_
        rw [hrun, hob]
        rfl
  · split at hst
    case h_2 => cases hst
    rename_i v hv
    have hdst : ∀ d u, dstOf ops x = some d → tmps[d]? = some u → u = v := by
      intro d u h1 h2
      unfold dstOf at h1
      rw [h1] at hst
      have := sameVal_eq _ _ _ hst
      rw [this, Array.getD_eq_getD_getElem?, h2]
      rfl
    unfold floats at hv
    split at hv
    case h_2 => cases hv
    rename_i o ho
    have hlooks : looksOf ops x = o.looksAt ops := by unfold looksOf; rw [ho]; rfl
    have hT : ∀ t ∈ o.looksAt ops, TmpR ρ tmps fr.tmps t := fun t htt => L.looks hx hr (by rw [hlooks]; exact htt)
    split at hv
    · rename_i hw
      have hwc := wanted_rel L.size hT hw
      obtain ⟨v', hrun, hvr⟩ := aquiet_spec (w := w) (r' := evalT fr.tmps) ok h (fun y hy hok => evalT_rel' hG (fun t e => (hT t (mem_looks (by rw [← e]; exact hy))).getD L.size) hok) hv
      obtain ⟨f, hf, L2⟩ := L.put (Ren.le_refl ρ) hx hr (v' := v') (fun d u h1 h2 => by rw [hdst d u h1 h2]; exact hvr) hkeep
      refine ⟨ρ, w, _, f, hf, Ren.le_refl ρ, rfl, fun _ q => .inl q, h, ?_, L2⟩
      rw [← finish_region ht]
      refine step_value hm ht ho hwc (.inr ?_) hrun
      intro c hc
      unfold aquiet at hv
      simp only [hc] at hv
      split at hv <;> cases hv
    · rename_i hw
      cases hv
      have hwc := wanted_rel L.size hT hw
      obtain ⟨f, hf, L2⟩ := L.put (Ren.le_refl ρ) hx hr (v' := undef) (fun d u h1 h2 => by rw [hdst d u h1 h2]; exact VR.undef ρ) hkeep
      refine ⟨ρ, w, _, f, hf, Ren.le_refl ρ, rfl, fun _ q => .inl q, h, ?_, L2⟩
      rw [← finish_region ht]
      refine step_unwanted hm ht ?_
      rw [ho]
      exact hwc
    · cases hv

end
end Go.Ev

namespace Go.Ev
open Go.RowKit

theorem first_not {p : Nat → Prop} : ∀ (l : List Nat), (∃ i ∈ l, ¬ p i) → ∃ l1 i l2, l = l1 ++ i :: l2 ∧ ¬ p i ∧ ∀ j ∈ l1, p j
  | [], h => by obtain ⟨i, hi, _⟩ := h; cases hi
  | a :: l, h => by
    by_cases q : p a
    · obtain ⟨i, hi, hp⟩ := h
      have : i ∈ l := by
        rcases List.mem_cons.1 hi with rfl | hi
        · exact absurd q hp
        · exact hi
      obtain ⟨l1, j, l2, h1, h2, h3⟩ := first_not l ⟨i, this, hp⟩
      refine ⟨a :: l1, j, l2, by rw [h1]; rfl, h2, ?_⟩
      intro x hx
      rcases List.mem_cons.1 hx with rfl | hx
      · exact q
      · exact h3 x hx
    · exact ⟨[], a, l, rfl, q, by intro j hj; cases hj⟩

section
variable {P : Program} {ρ : Ren} {ops : Array Oper} {la lc : Array Bool} {lag : List Nat} {fuel : Nat} {tmps tmps' : Array Value}

theorem Lag.unlisted (L : Lag P ρ ops la lc lag fuel tmps tmps') {i : Nat} (hi : i < ops.size) (h : lc[i]? ≠ some true) : lc[i]? = some false := by
  have : i < lc.size := by rw [L.sc]; exact hi
  rw [Array.getElem?_eq_getElem this] at h ⊢
  cases q : lc[i] with
  | false => rfl
  | true => rw [q] at h; exact absurd rfl h

theorem Lag.inRange (L : Lag P ρ ops la lc lag fuel tmps tmps') {i : Nat} (hi : i ∈ lag) : i < ops.size := by
  have := (Array.getElem?_eq_some_iff.1 (L.lagA i hi)).1
  rw [L.sa] at this
  exact this

theorem Lag.mem (L : Lag P ρ ops la lc lag fuel tmps tmps') {i : Nat} (h : i ∈ Region.ready .any ops lc) : i ∈ lag ∨ i ∈ Region.ready .any ops la := by
  obtain ⟨h0, o, ho, hd⟩ := (mem_ready L.sc).1 h
  have hi : i < la.size := by rw [L.sa, ← L.sc]; exact (Array.getElem?_eq_some_iff.1 h0).1
  cases q : la[i] with
  | true =>
    rcases L.cov i (by rw [Array.getElem?_eq_getElem hi, q]) with h1 | h1
    · rw [h0] at h1; cases h1
    · exact .inl h1
  | false => exact .inr ((mem_ready L.sa).2 ⟨by rw [Array.getElem?_eq_getElem hi, q], o, ho, fun e he hb => L.sub _ (hd e he hb)⟩)

theorem Lag.next (L : Lag P ρ ops la lc lag fuel tmps tmps') (h : ∃ i ∈ lag, lc[i]? ≠ some true) : ∃ i, i ∈ Region.ready .any ops lc := by
  obtain ⟨l1, i, l2, hl, h2, h3⟩ := first_not (p := fun i => lc[i]? = some true) lag h
  have hi : i ∈ lag := by rw [hl]; simp
  have hr := L.inRange hi
  refine ⟨i, (mem_ready L.sc).2 ⟨L.unlisted hr h2, ops[i], Array.getElem?_eq_getElem hr, fun e he hb => ?_⟩⟩
  rcases L.order l1 i l2 _ hl (Array.getElem?_eq_getElem hr) e he hb with q | q
  · exact q
  · exact h3 _ q

theorem Lag.next' (L : Lag P ρ ops la lc lag fuel tmps tmps') {r : Nat} (hr : r ∈ Region.ready .any ops la) : ∃ i, i ∈ Region.ready .any ops lc := by
  by_cases q : ∃ i ∈ lag, lc[i]? ≠ some true
  · exact L.next q
  · obtain ⟨h0, o, ho, hd⟩ := (mem_ready L.sa).1 hr
    have all : ∀ (i : Nat), la[i]? = some true → lc[i]? = some true := by
      intro i hi
      rcases L.cov i hi with h | h
      · exact h
      · by_cases q2 : lc[i]? = some true
        · exact q2
        · exact absurd ⟨i, h, q2⟩ q
    refine ⟨r, (mem_ready L.sc).2 ⟨L.unlisted ?_ ?_, o, ho, fun e he hb => all _ (hd e he hb)⟩⟩
    · rw [← L.sa]; exact (Array.getElem?_eq_some_iff.1 h0).1
    · intro q2; have := L.sub _ q2; rw [h0] at this; cases this

theorem go_nil (f t : Nat) (h : ∀ i, ¬ i ∈ Region.ready .any ops lc) : Region.linearise.go .any ops f t lc [] = [] := by
  cases f with
  | zero => rfl
  | succ f =>
    have : Region.ready .any ops lc = [] := List.eq_nil_iff_forall_not_mem.2 h
    simp only [Region.linearise.go]
    change (match (Region.ready .any ops lc)[t % (Region.ready .any ops lc).length]? with
      | some i => Region.linearise.go .any ops f (t / (Region.ready .any ops lc).length) (lc.setIfInBounds i true) [i]
      | none => [].reverse) = []
    rw [this]
    rfl

theorem go_cons (f t : Nat) (h : ∃ i, i ∈ Region.ready .any ops lc) :
    ∃ i t', i ∈ Region.ready .any ops lc ∧ Region.linearise.go .any ops (f + 1) t lc [] = i :: Region.linearise.go .any ops f t' (lc.setIfInBounds i true) [] := by
  have hpos : 0 < (Region.ready .any ops lc).length := by
    obtain ⟨i, hi⟩ := h
    exact List.length_pos_of_mem hi
  have hlt := Nat.mod_lt t hpos
  refine ⟨(Region.ready .any ops lc)[t % (Region.ready .any ops lc).length], t / (Region.ready .any ops lc).length, List.getElem_mem _, ?_⟩
  simp only [Region.linearise.go]
  change (match (Region.ready .any ops lc)[t % (Region.ready .any ops lc).length]? with
      | some i => Region.linearise.go .any ops f (t / (Region.ready .any ops lc).length) (lc.setIfInBounds i true) [i]
      | none => [].reverse) = _
  rw [List.getElem?_eq_getElem hlt]
  simp only
  rw [linearise_go_acc]
  rfl

end

section
variable {E : Env} {N : Nat} {w0 : World} {ρ : Ren} {H : AHeap} {w : World}

theorem todo_eta {fr : Frame} {t : List Item} (h : fr.todo = t) : { fr with tmps := fr.tmps, todo := t } = fr := by
  cases fr; simp only at h; subst h; rfl

structure Up (P : Program) (ops : Array Oper) (lag : List Nat) (tmps : Array Value) (ρ σ : Ren) : Prop where
  le : ρ.le σ
  n : σ.n = ρ.n
  on : ∀ i, σ.on i → ρ.on i ∨ i ∈ lag.filterMap (madeBlk P ops tmps)

theorem Up.refl (P : Program) (ops : Array Oper) (lag : List Nat) (tmps : Array Value) (ρ : Ren) : Up P ops lag tmps ρ ρ := ⟨Ren.le_refl ρ, rfl, fun _ h => .inl h⟩
theorem Up.trans {P : Program} {ops : Array Oper} {lag : List Nat} {tmps : Array Value} {ρ σ τ : Ren} (h : Up P ops lag tmps ρ σ) (k : Up P ops lag tmps σ τ) : Up P ops lag tmps ρ τ :=
  ⟨Ren.le_trans h.le k.le, k.n.trans h.n, fun i hi => (k.on i hi).elim (fun q => h.on i q) .inr⟩

theorem replay (ok : EnvOK E) {ops : Array Oper} {la : Array Bool} {lag : List Nat} {tmps : Array Value} {r : Nat} {k : List Item} (cs : List Frame)
    (hst : lag.all (still E ops tmps H) = true) (hnd : nodup (lag.filterMap (madeBlk E.P ops tmps)) = true) (hr : Region.ready .any ops la = [r]) : ∀ (fuel t : Nat) (lc : Array Bool) (fr : Frame) (ρ : Ren) (w : World), GR E.G ρ → HR N (bare w0) ρ H w → Lag E.P ρ ops la lc lag fuel tmps fr.tmps → fr.mode = .run →
    fr.todo = .inRegion ops (Region.linearise.go .any ops fuel t lc []) :: k →
    ∃ σ w2 tmps2 lc2 f2 t2, Up E.P ops lag tmps ρ σ ∧ HR N (bare w0) σ H w2 ∧ Steps E.P (lone fr cs w) (lone { fr with tmps := tmps2, todo := .inRegion ops (r :: Region.linearise.go .any ops f2 t2 (lc2.setIfInBounds r true) []) :: k } cs w2) ∧
      Lag E.P σ ops la lc2 lag (f2 + 1) tmps tmps2 ∧ r ∈ Region.ready .any ops lc2 := by
  intro fuel
  induction fuel with
  | zero =>
    intro t lc fr ρ w hG h L _ _
    exfalso
    obtain ⟨i, hi⟩ := L.next' (r := r) (by rw [hr]; simp)
    obtain ⟨f, hf, _⟩ := fuel_dec ((mem_ready L.sc).1 hi).1 L.sc L.fuel
    cases hf
  | succ fuel ih =>
    intro t lc fr ρ w hG h L hm ht
    obtain ⟨i, t', hi, hgo⟩ := go_cons (ops := ops) fuel t (L.next' (r := r) (by rw [hr]; simp))
    rw [hgo] at ht
    rcases L.mem hi with hl | hl
    · have hst' := hst
      rw [List.all_eq_true] at hst'
      obtain ⟨σ, w2, tmps2, f, hf, hle, hn, hon, h2, hs, L2⟩ := lag_step ok h hG cs L hnd hl hi (hst' i hl) hm ht
      have hf : f = fuel := by omega
      subst hf
      obtain ⟨τ, w3, tmps3, lc3, f3, t3, hup, h3, hs3, L3, hr3⟩ := ih t' _ { fr with tmps := tmps2, todo := .inRegion ops (Region.linearise.go .any ops f t' (lc.setIfInBounds i true) []) :: k } σ w2 (hG.mono hle) h2 L2 hm rfl
      exact ⟨τ, w3, tmps3, lc3, f3, t3, Up.trans ⟨hle, hn, hon⟩ hup, h3, .head hs hs3, L3, hr3⟩
    · rw [hr] at hl
      have : i = r := by simpa using hl
      subst this
      refine ⟨ρ, w, fr.tmps, lc, fuel, t', Up.refl .., h, ?_, L, hi⟩
      rw [todo_eta ht]
      exact .refl _ _

theorem replay_end (ok : EnvOK E) {ops : Array Oper} {la : Array Bool} {lag : List Nat} {tmps : Array Value} {k : List Item} (cs : List Frame)
    (hst : lag.all (still E ops tmps H) = true) (hnd : nodup (lag.filterMap (madeBlk E.P ops tmps)) = true) (hr : Region.ready .any ops la = []) : ∀ (fuel t : Nat) (lc : Array Bool) (fr : Frame) (ρ : Ren) (w : World), GR E.G ρ → HR N (bare w0) ρ H w → Lag E.P ρ ops la lc lag fuel tmps fr.tmps → fr.mode = .run →
    fr.todo = .inRegion ops (Region.linearise.go .any ops fuel t lc []) :: k →
    ∃ σ w2 tmps2, Up E.P ops lag tmps ρ σ ∧ HR N (bare w0) σ H w2 ∧ Steps E.P (lone fr cs w) (lone { fr with tmps := tmps2, todo := .inRegion ops [] :: k } cs w2) ∧ AsR σ tmps tmps2 := by
  have fin : ∀ (fuel t : Nat) (lc : Array Bool) (fr : Frame) (ρ : Ren) (w : World), HR N (bare w0) ρ H w → Lag E.P ρ ops la lc lag fuel tmps fr.tmps → fr.todo = .inRegion ops (Region.linearise.go .any ops fuel t lc []) :: k → (∀ i, ¬ i ∈ Region.ready .any ops lc) →
      ∃ σ w2 tmps2, Up E.P ops lag tmps ρ σ ∧ HR N (bare w0) σ H w2 ∧ Steps E.P (lone fr cs w) (lone { fr with tmps := tmps2, todo := .inRegion ops [] :: k } cs w2) ∧ AsR σ tmps tmps2 := by
    intro fuel t lc fr ρ w h L ht hn
    rw [go_nil fuel t hn] at ht
    refine ⟨ρ, w, fr.tmps, Up.refl .., h, by rw [todo_eta ht]; exact .refl _ _, L.size.symm, ?_⟩
    intro t v v' h1 h2
    rcases L.agree t v v' h1 h2 with q | ⟨j, hj, hl, _⟩
    · exact q
    · obtain ⟨i, hi⟩ := L.next ⟨j, hj, hl⟩
      exact absurd hi (hn i)
  intro fuel
  induction fuel with
  | zero =>
    intro t lc fr ρ w hG h L _ ht
    refine fin 0 t lc fr ρ w h L ht ?_
    intro i hi
    obtain ⟨f, hf, _⟩ := fuel_dec ((mem_ready L.sc).1 hi).1 L.sc L.fuel
    cases hf
  | succ fuel ih =>
    intro t lc fr ρ w hG h L hm ht
    by_cases hne : ∃ i, i ∈ Region.ready .any ops lc
    · obtain ⟨i, t', hi, hgo⟩ := go_cons (ops := ops) fuel t hne
      rw [hgo] at ht
      rcases L.mem hi with hl | hl
      · have hst' := hst
        rw [List.all_eq_true] at hst'
        obtain ⟨σ, w2, tmps2, f, hf, hle, hn, hon, h2, hs, L2⟩ := lag_step ok h hG cs L hnd hl hi (hst' i hl) hm ht
        have hf : f = fuel := by omega
        subst hf
        obtain ⟨τ, w3, tmps3, hup, h3, hs3, L3⟩ := ih t' _ { fr with tmps := tmps2, todo := .inRegion ops (Region.linearise.go .any ops f t' (lc.setIfInBounds i true) []) :: k } σ w2 (hG.mono hle) h2 L2 hm rfl
        exact ⟨τ, w3, tmps3, Up.trans ⟨hle, hn, hon⟩ hup, h3, .head hs hs3, L3⟩
      · rw [hr] at hl
        cases hl
    · exact fin _ t lc fr ρ w h L ht (fun i hi => hne ⟨i, hi⟩)

end
end Go.Ev

namespace Go.Ev
open Go.RowKit

section
variable {P : Program} {ρ : Ren} {ops : Array Oper} {la lc : Array Bool} {lag : List Nat} {fuel : Nat} {tmps tmps' : Array Value}

theorem Lag.mono {σ : Ren} (hle : ρ.le σ) (hk : ∀ j ∈ lag, ∀ b, madeBlk P ops tmps j = some b → b < ρ.n → ¬ ρ.on b → ¬ σ.on b) (L : Lag P ρ ops la lc lag fuel tmps tmps') : Lag P σ ops la lc lag fuel tmps tmps' :=
  ⟨L.sa, L.sc, L.sub, L.cov, L.lagA, L.down, L.fuel, L.size, fun t v v' h1 h2 => (L.agree t v v' h1 h2).imp (VR.mono hle) id, L.order, L.self, L.pair,
    fun j hj hl b hb => ⟨Nat.lt_of_lt_of_le (L.pend j hj hl b hb).1 hle.1, hk j hj b hb (L.pend j hj hl b hb).1 (L.pend j hj hl b hb).2⟩⟩

theorem lagApart_spec {t : Option Tmp} (h : lagApart ops lag t = true) : ∀ j ∈ lag, ∀ d, dstOf ops j = some d → t ≠ some d := by
  intro j hj d hd e
  subst e
  unfold lagApart at h
  simp only at h
  rw [List.all_eq_true] at h
  have := h j hj
  unfold dstOf at hd
  rw [hd] at this
  simp at this

theorem madeBlk_put {t : Option Tmp} {v : Value} {j : Nat} (h : ∀ d, dstOf ops j = some d → t ≠ some d) : madeBlk P ops (putT tmps t v) j = madeBlk P ops tmps j := by
  unfold madeBlk
  cases hm : (ops[j]?).bind (makes P) with
  | none => rfl
  | some p =>
    obtain ⟨ob, d⟩ := p
    simp only
    have hd : dstOf ops j = some d := by
      cases ho : ops[j]? with
      | none => simp [ho] at hm
      | some o =>
        rw [ho] at hm
        have hm : makes P o = some (ob, d) := hm
        unfold dstOf
        rw [ho]
        exact (makes_spec hm).1
    have hne := h d hd
    have : (putT tmps t v)[d]? = tmps[d]? := by
      cases t with
      | none => rfl
      | some t =>
        simp only [putT, Array.getElem?_setIfInBounds]
        rw [if_neg (fun e => hne (by rw [e]))]
    rw [this]

theorem Lag.finish (L : Lag P ρ ops la lc lag fuel tmps tmps') (d : Option Tmp) (hd : lagApart ops lag d = true) {v v' : Value} (hv : VR ρ v v') : Lag P ρ ops la lc lag fuel (putT tmps d v) (putT tmps' d v') := by
  refine ⟨L.sa, L.sc, L.sub, L.cov, L.lagA, L.down, L.fuel, by rw [putT_size, putT_size]; exact L.size, ?_, L.order, L.self, L.pair, fun j hj hl b hb => L.pend j hj hl b (by rw [madeBlk_put (lagApart_spec hd j hj)] at hb; exact hb)⟩
  intro t u u' h1 h2
  rcases putT_get h1 with ⟨q1, q2⟩ | ⟨q1, q2⟩
  · rcases putT_get h2 with ⟨q3, q4⟩ | ⟨q3, q4⟩
    · rw [q2, q4]; exact .inl hv
    · exact absurd q1 q3
  · rcases putT_get h2 with ⟨q3, q4⟩ | ⟨q3, q4⟩
    · exact absurd q3 q1
    · exact L.agree t u u' q2 q4

theorem Lag.start (h : AsR ρ tmps tmps') : Lag P ρ ops (Array.replicate ops.size false) (Array.replicate ops.size false) [] ops.size tmps tmps' := by
  have no : ∀ (i : Nat), ¬ (Array.replicate ops.size false)[i]? = some true := by
    intro i hi
    rw [Array.getElem?_replicate] at hi
    split at hi <;> cases hi
  refine ⟨by simp, by simp, fun i hi => absurd hi (no i), fun i hi => absurd hi (no i), by simp, fun i o hi => absurd hi (no i), ?_, h.1.symm, fun t v v' h1 h2 => .inl (h.2 t v v' h1 h2), ?_, by simp, by simp, fun j hj => by cases hj⟩
  · exact Nat.le_trans List.countP_le_length (by simp)
  · intro l1 i l2 o hl
    have := congrArg List.length hl
    simp at this

theorem Lag.force {r : Nat} (L : Lag P ρ ops la lc lag (fuel + 1) tmps tmps') (ha : r ∈ Region.ready .any ops la) (hc : r ∈ Region.ready .any ops lc) :
    Lag P ρ ops (la.setIfInBounds r true) (lc.setIfInBounds r true) (lag.filter fun j => !isBefore ops ops.size j r) fuel tmps tmps' := by
  obtain ⟨a0, _⟩ := (mem_ready L.sa).1 ha
  obtain ⟨c0, o, ho, hd⟩ := (mem_ready L.sc).1 hc
  have hsa := fun (i : Nat) => getElem?_set_true (l := la) (x := r) (i := i) (Array.getElem?_eq_some_iff.1 a0).1
  have hsc := fun (i : Nat) => getElem?_set_true (l := lc) (x := r) (i := i) (Array.getElem?_eq_some_iff.1 c0).1
  have hbef : ∀ j, isBefore ops ops.size j r = true → lc[j]? = some true := fun j hj =>
    isBefore_listed L.down _ _ _ (fun o' ho' => by rw [ho] at ho'; cases ho'; exact hd) hj
  have hmono : ∀ (i : Nat), lc[i]? = some true → (lc.setIfInBounds r true)[i]? = some true := by
    intro i hi; rw [hsc]; split
    · rfl
    · exact hi
  obtain ⟨f, hf, hf2⟩ := fuel_dec c0 L.sc L.fuel
  have hf : f = fuel := by omega
  subst hf
  refine ⟨by rw [Array.size_setIfInBounds]; exact L.sa, by rw [Array.size_setIfInBounds]; exact L.sc, ?_, ?_, ?_, ?_, hf2, L.size, ?_, ?_, ?_, ?_, fun j hj hl b hb => L.pend j (List.mem_filter.1 hj).1 (fun q => hl (hmono j q)) b hb⟩
  · intro i hi
    rw [hsc] at hi
    rw [hsa]
    split at hi
    · rename_i q; rw [if_pos q]
    · rename_i q; rw [if_neg q]; exact L.sub i hi
  · intro i hi
    rw [hsa] at hi
    split at hi
    · rename_i q; subst q; exact .inl (by rw [hsc, if_pos rfl])
    · rcases L.cov i hi with q | q
      · exact .inl (hmono i q)
      · by_cases hb : isBefore ops ops.size i r = true
        · exact .inl (hmono i (hbef i hb))
        · exact .inr (List.mem_filter.2 ⟨q, by simpa using hb⟩)
  · intro i hi
    rw [hsa]
    split
    · rfl
    · exact L.lagA i (List.mem_filter.1 hi).1
  · intro i o' hi ho' e he hb
    refine hmono _ ?_
    rw [hsc] at hi
    split at hi
    · rename_i q
      subst q
      rw [ho] at ho'
      cases ho'
      exact hd e he hb
    · exact L.down i o' hi ho' e he hb
  · intro t v v' h1 h2
    rcases L.agree t v v' h1 h2 with q | ⟨j, hj, hl, hdj⟩
    · exact .inl q
    · have hne : j ≠ r := by
        intro e; subst e
        have := L.lagA _ hj
        rw [a0] at this
        cases this
      refine .inr ⟨j, List.mem_filter.2 ⟨hj, ?_⟩, by rw [hsc, if_neg hne]; exact hl, hdj⟩
      cases hb : isBefore ops ops.size j r with
      | false => rfl
      | true => exact absurd (hbef j hb) hl
  · intro l1 i l2 o' hl ho' e he hb
    obtain ⟨m1, m2, e1, e2, e3⟩ := List.filter_eq_append_iff.1 hl
    obtain ⟨n1, n2, f1, f2, f3, f4⟩ := List.filter_eq_cons_iff.1 e3
    rcases L.order (m1 ++ n1) i n2 o' (by rw [e1, f1]; simp) ho' e he hb with q | q
    · exact .inl (hmono _ q)
    · by_cases hq : isBefore ops ops.size e.on r = true
      · exact .inl (hmono _ (hbef _ hq))
      · rcases List.mem_append.1 q with q | q
        · refine .inr ?_
          rw [← e2]
          exact List.mem_filter.2 ⟨q, by simpa using hq⟩
        · exact absurd (by simpa using hq) (f2 _ q)
  · intro i hi
    exact L.self i (List.mem_filter.1 hi).1
  · intro i hi j hj
    exact L.pair i (List.mem_filter.1 hi).1 j (List.mem_filter.1 hj).1

theorem Lag.float {i : Nat} {σ : Ren} (hle : ρ.le σ) (hon : ∀ b, b < ρ.n → σ.on b → ρ.on b) (L : Lag P ρ ops la lc lag fuel tmps tmps') (ha : i ∈ Region.ready .any ops la) (hs : selfOK ops i = true) (hb : lag.all (fun j => behindOK ops j i) = true) (v : Value)
    (hpi : ∀ b, madeBlk P ops (putT tmps (dstOf ops i) v) i = some b → b < σ.n ∧ ¬ σ.on b) :
    Lag P σ ops (la.setIfInBounds i true) lc (lag ++ [i]) fuel (putT tmps (dstOf ops i) v) tmps' := by
  obtain ⟨a0, o, ho, hd⟩ := (mem_ready L.sa).1 ha
  have hsa := fun (j : Nat) => getElem?_set_true (l := la) (x := i) (i := j) (Array.getElem?_eq_some_iff.1 a0).1
  rw [List.all_eq_true] at hb
  have hdo : dstOf ops i = o.dst := by unfold dstOf; rw [ho]; rfl
  have hlo : looksOf ops i = o.looksAt ops := by unfold looksOf; rw [ho]; rfl
  have hpair : ∀ j ∈ lag, (∀ d, dstOf ops i = some d → d ∉ looksOf ops j ∧ dstOf ops j ≠ some d) ∧ (∀ d, dstOf ops j = some d → d ∈ looksOf ops i → isBefore ops ops.size j i = true) := by
    intro j hj
    have := hb j hj
    unfold behindOK at this
    split at this
    case h_2 => cases this
    rename_i y x hy hx
    rw [ho] at hx
    cases hx
    have hdy : dstOf ops j = y.dst := by unfold dstOf; rw [hy]; rfl
    have hly : looksOf ops j = y.looksAt ops := by unfold looksOf; rw [hy]; rfl
    rw [Bool.and_eq_true] at this
    obtain ⟨h1, h2⟩ := this
    constructor
    · intro d hd
      rw [hdo] at hd
      rw [hd] at h1
      simp only [Bool.and_eq_true, Bool.not_eq_true', bne_iff_ne] at h1
      rw [hdy, hly]
      refine ⟨?_, h1.2⟩
      have := h1.1
      simpa using this
    · intro d hd hdl
      rw [hdy] at hd
      rw [hd] at h2
      simp only [Bool.or_eq_true, Bool.not_eq_true'] at h2
      rcases h2 with h2 | h2
      · rw [hlo] at hdl
        have : ¬ d ∈ o.looksAt ops := by simpa using h2
        exact absurd hdl this
      · exact h2
  have hnl : ¬ lc[i]? = some true := by
    intro q
    have := L.sub _ q
    rw [a0] at this
    cases this
  refine ⟨by rw [Array.size_setIfInBounds]; exact L.sa, L.sc, ?_, ?_, ?_, L.down, L.fuel, by rw [putT_size]; exact L.size, ?_, ?_, ?_, ?_, ?_⟩
  · intro j hj
    rw [hsa]
    split
    · rfl
    · exact L.sub j hj
  · intro j hj
    rw [hsa] at hj
    split at hj
    · rename_i q; subst q; exact .inr (by simp)
    · rcases L.cov j hj with q | q
      · exact .inl q
      · exact .inr (by simp [q])
  · intro j hj
    rw [hsa]
    split
    · rfl
    · rename_i q
      rcases List.mem_append.1 hj with h | h
      · exact L.lagA j h
      · exact absurd (by simpa using h) q
  · intro t u u' h1 h2
    rcases putT_get h1 with ⟨q1, q2⟩ | ⟨q1, q2⟩
    · exact .inr ⟨i, by simp, hnl, q1⟩
    · rcases L.agree t u u' q2 h2 with q | ⟨j, hj, q⟩
      · exact .inl (q.mono hle)
      · exact .inr ⟨j, by simp [hj], q⟩
  · intro l1 x l2 o' hl ho' e he hbi
    rcases List.eq_nil_or_concat l2 with rfl | ⟨m, z, rfl⟩
    · have : l1 = lag ∧ x = i := by
        have := List.append_inj' hl rfl
        exact ⟨this.1.symm, by simpa using this.2.symm⟩
      obtain ⟨rfl, rfl⟩ := this
      rw [ho] at ho'
      cases ho'
      exact L.cov _ (hd e he hbi)
    · have hl2 : lag ++ [i] = (l1 ++ x :: m) ++ [z] := by rw [hl]; simp
      have := (List.append_inj' hl2 rfl).1
      exact L.order l1 x m o' this ho' e he hbi
  · intro j hj d hdj
    rcases List.mem_append.1 hj with h | h
    · exact L.self j h d hdj
    · have : j = i := by simpa using h
      subst this
      unfold selfOK at hs
      rw [ho] at hs
      simp only at hs
      rw [hdo] at hdj
      rw [hdj] at hs
      simp only [Bool.not_eq_true'] at hs
      rw [hlo]
      simpa using hs
  · intro a hA b hB hne d hdb
    rcases List.mem_append.1 hA with h1 | h1 <;> rcases List.mem_append.1 hB with h2 | h2
    · exact L.pair a h1 b h2 hne d hdb
    · have : b = i := by simpa using h2
      subst this
      obtain ⟨q1, q2⟩ := (hpair a h1).1 d hdb
      exact ⟨q2, fun q => absurd q q1⟩
    · have : a = i := by simpa using h1
      subst this
      refine ⟨fun q => ?_, (hpair b h2).2 d hdb⟩
      exact ((hpair b h2).1 d q).2 hdb
    · have : a = i := by simpa using h1
      have : b = i := by simpa using h2
      omega
  · intro j hj hl b hbj
    rcases List.mem_append.1 hj with h | h
    · rw [madeBlk_put (fun d hd e => (((hpair j h).1 d e).2 hd))] at hbj
      obtain ⟨q1, q2⟩ := L.pend j h hl b hbj
      exact ⟨Nat.lt_of_lt_of_le q1 hle.1, fun q => q2 (hon b q1 q)⟩
    · have : j = i := by simpa using h
      subst this
      exact hpi b hbj

theorem Lag.looksForced {r : Nat} (L : Lag P ρ ops la lc lag fuel tmps tmps') (hc : r ∈ Region.ready .any ops lc) (hap : (lag.filter fun j => !isBefore ops ops.size j r).all (fun j => apartB ops r j) = true) {t : Tmp} (ht : t ∈ looksOf ops r) :
    TmpR ρ tmps tmps' t := by
  obtain ⟨c0, o, ho, hd⟩ := (mem_ready L.sc).1 hc
  intro v v' h1 h2
  rcases L.agree t v v' h1 h2 with q | ⟨j, hj, hl, hdj⟩
  · exact q
  · by_cases hb : isBefore ops ops.size j r = true
    · exact absurd (isBefore_listed L.down _ _ _ (fun o' ho' => by rw [ho] at ho'; cases ho'; exact hd) hb) hl
    · rw [List.all_eq_true] at hap
      have := hap j (List.mem_filter.2 ⟨hj, by simpa using hb⟩)
      unfold apartB at this
      split at this
      case h_2 => cases this
      rename_i x y hx hy
      obtain ⟨_, _, q3⟩ := Oper.apart_spec this
      have hdy : y.dst = some t := by unfold dstOf at hdj; rw [hy] at hdj; exact hdj
      have hlx : looksOf ops r = x.looksAt ops := by unfold looksOf; rw [hx]; rfl
      rw [hlx] at ht
      exact absurd ht (q3 t hdy)

end
end Go.Ev

namespace Go.Ev
open Go.RowKit

def DrawR (P : Program) (ρ : Ren) (d : Draw) (tmps tmps' : Array Value) (todo todo' : List Item) : Prop :=
  ∃ fuel t lc k', TdR ρ todo k' ∧ (match d.cur with
    | none => todo' = .inRegion d.ops (Region.linearise.go .any d.ops fuel t lc []) :: k'
    | some r => todo' = .inRegion d.ops (r :: Region.linearise.go .any d.ops fuel t lc []) :: k') ∧ Lag P ρ d.ops d.listed lc d.lag fuel tmps tmps'

def BodyR (P : Program) (ρ : Ren) (fr : AFrame) (tmps' : Array Value) (todo' : List Item) : Prop :=
  match fr.mode with
  | .run => (match fr.draw with
    | none => AsR ρ fr.tmps tmps' ∧ TdR ρ fr.todo todo'
    | some d => DrawR P ρ d fr.tmps tmps' fr.todo todo')
  | _ => SlotsR P ρ fr.fn fr.tmps tmps'

structure FR (P : Program) (ρ : Ren) (fr : AFrame) (fr' : Frame) : Prop where
  fn : fr'.fn = fr.fn
  kind : fr'.kind = fr.kind
  round : OBR ρ fr.roundOf fr'.roundOf
  mode : ModeR ρ fr.mode fr'.mode
  defers : DsR ρ fr.defers fr'.defers
  body : BodyR P ρ fr fr'.tmps fr'.todo

def CsR (P : Program) (ρ : Ren) : List AFrame → List Frame → Prop
  | [], [] => True
  | c :: cs, d :: ds => FR P ρ c d ∧ CsR P ρ cs ds
  | _, _ => False

section
variable {P : Program} {ρ σ : Ren}

theorem SlotsR.mono (h : ρ.le σ) {f : FuncId} {x y : Array Value} (k : SlotsR P ρ f x y) : SlotsR P σ f x y := fun fn hf t ht => (k fn hf t ht).mono h

structure Ren.Grow (S : List Nat) (ρ σ : Ren) : Prop where
  le : ρ.le σ
  on : ∀ i, i < ρ.n → σ.on i → ρ.on i ∨ i ∈ S

theorem DrawR.mono {S : List Nat} (h : Ren.Grow S ρ σ) {d : Draw} {x y : Array Value} {a b : List Item} (hS : ∀ i ∈ d.lag.filterMap (madeBlk P d.ops x), i ∉ S) (k : DrawR P ρ d x y a b) : DrawR P σ d x y a b := by
  obtain ⟨fuel, t, lc, k', h1, h2, h3⟩ := k
  refine ⟨fuel, t, lc, k', h1.mono h.le, h2, h3.mono h.le fun j hj b hb hlt hoff hon => ?_⟩
  rcases h.on b hlt hon with q | q
  · exact hoff q
  · exact hS b (List.mem_filterMap.2 ⟨j, hj, hb⟩) q

theorem BodyR.mono {S : List Nat} (h : Ren.Grow S ρ σ) {fr : AFrame} {x : Array Value} {y : List Item} (hS : ∀ i ∈ fr.pends P, i ∉ S) (k : BodyR P ρ fr x y) : BodyR P σ fr x y := by
  unfold BodyR at k ⊢
  split
  · rename_i hm
    rw [hm] at k
    simp only at k
    split
    · rename_i hd
      rw [hd] at k
      exact ⟨k.1.mono h.le, k.2.mono h.le⟩
    · rename_i d hd
      rw [hd] at k
      exact DrawR.mono h (by unfold AFrame.pends at hS; rw [hd] at hS; exact hS) k
  · rename_i hm
    split at k
    · rename_i hm2; exact absurd hm2 hm
    · exact SlotsR.mono h.le k

theorem FR.mono {S : List Nat} (h : Ren.Grow S ρ σ) {fr : AFrame} {fr' : Frame} (hS : ∀ i ∈ fr.pends P, i ∉ S) (k : FR P ρ fr fr') : FR P σ fr fr' :=
  ⟨k.fn, k.kind, k.round.mono h.le, k.mode.mono h.le, k.defers.mono h.le, k.body.mono h hS⟩

theorem FR.up (h : Ren.Grow [] ρ σ) {fr : AFrame} {fr' : Frame} (k : FR P ρ fr fr') : FR P σ fr fr' := k.mono h (fun _ _ q => by cases q)

theorem CsR.mono {S : List Nat} (h : Ren.Grow S ρ σ) : ∀ {a : List AFrame} {b : List Frame}, (∀ c ∈ a, ∀ i ∈ c.pends P, i ∉ S) → CsR P ρ a b → CsR P σ a b
  | [], [], _, _ => trivial
  | c :: _, _ :: _, hS, k => ⟨k.1.mono h (hS c (by simp)), CsR.mono h (fun c hc => hS c (by simp [hc])) k.2⟩

theorem CsR.up (h : Ren.Grow [] ρ σ) {a : List AFrame} {b : List Frame} (k : CsR P ρ a b) : CsR P σ a b := k.mono h (fun _ _ _ _ q => by cases q)

theorem ModeR.run {m m' : FrameMode} (h : ModeR ρ m m') : m = .run ↔ m' = .run := by
  cases m <;> cases m' <;> first | exact h.elim | simp

theorem AsR.slot {x x' : Array Value} (h : AsR ρ x x') (t : Tmp) : VR ρ (x.getD t undef) (x'.getD t undef) := h.getD t (VR.undef ρ)

theorem FR.slotsR {fr : AFrame} {fr' : Frame} (k : FR P ρ fr fr') (hl : lagFree P fr = true) : SlotsR P ρ fr.fn fr.tmps fr'.tmps := by
  intro fn hf t ht
  have hb := k.body
  unfold BodyR at hb
  split at hb
  · split at hb
    · exact hb.1.slot t
    · rename_i d hd
      obtain ⟨fuel, tt, lc, k', h1, h2, L⟩ := hb
      unfold lagFree at hl
      rw [hf, hd] at hl
      simp only at hl
      rw [List.all_eq_true] at hl
      refine TmpR.getD L.size ?_
      intro v v' q1 q2
      rcases L.agree t v v' q1 q2 with q | ⟨j, hj, _, hdj⟩
      · exact q
      · have := hl j hj
        unfold dstOf at hdj
        rw [hdj] at this
        simp only [Bool.not_eq_true'] at this
        have hn : ¬ t ∈ slots fn := by simpa using this
        exact absurd ht hn
  · exact hb fn hf t ht

theorem FR.raise {fr : AFrame} {fr' : Frame} (k : FR P ρ fr fr') (hl : lagFree P fr = true) {c c' : List PanicEntry} (hc : PesR ρ c c') : FR P ρ { fr.raise c with draw := none } (fr'.raise c') := by
  have hs := k.slotsR hl
  have hm := k.mode
  unfold AFrame.raise Frame.raise
  cases h1 : fr.mode with
  | run =>
    rw [h1] at hm
    cases h2 : fr'.mode with
    | run => exact ⟨k.fn, k.kind, k.round, hc, k.defers, hs⟩
    | _ => rw [h2] at hm; exact hm.elim
  | returning =>
    rw [h1] at hm
    cases h2 : fr'.mode with
    | returning => exact ⟨k.fn, k.kind, k.round, hc, k.defers, hs⟩
    | _ => rw [h2] at hm; exact hm.elim
  | panicking ch =>
    rw [h1] at hm
    cases h2 : fr'.mode with
    | panicking ch' => rw [h2] at hm; exact ⟨k.fn, k.kind, k.round, PesR.append hc hm, k.defers, hs⟩
    | _ => rw [h2] at hm; exact hm.elim

theorem FR.finish {c c1 : AFrame} {c' : Frame} (k : FR P ρ c c') {v v' : Value} (hv : VR ρ v v') (hf : c.finish v = some c1) : FR P ρ c1 (c'.finish v') := by
  have hb := k.body
  unfold BodyR at hb
  unfold AFrame.finish at hf
  split at hf
  case h_2 => cases hf
  rename_i hm
  rw [hm] at hb
  simp only at hb
  split at hf
  · rename_i d hd
    rw [hd] at hb
    split at hf
    case h_2 => cases hf
    rename_i r hr
    split at hf
    case isFalse => cases hf
    rename_i hap
    cases hf
    obtain ⟨fuel, t, lc, k', h1, h2, L⟩ := hb
    rw [hr] at h2
    simp only at h2
    rw [finish_region h2]
    refine ⟨k.fn, k.kind, k.round, k.mode, k.defers, ?_⟩
    unfold BodyR
    simp only [hm]
    exact ⟨fuel, t, lc, k', h1, rfl, L.finish (dstOf d.ops r) hap hv⟩
  · rename_i hd
    rw [hd] at hb
    simp only at hb
    obtain ⟨ht, htd⟩ := hb
    split at hf
    · rename_i ops i rest kk htodo
      cases hf
      rw [htodo] at htd
      cases h2 : c'.todo with
      | nil => rw [h2] at htd; exact htd.elim
      | cons y ys =>
        rw [h2] at htd
        obtain ⟨h3, h4⟩ := htd
        cases h3
        rw [finish_region h2]
        refine ⟨k.fn, k.kind, k.round, k.mode, k.defers, ?_⟩
        unfold BodyR
        simp only [hm, hd]
        refine ⟨?_, .inRegion _ _, h4⟩
        unfold dstOf
        cases (ops[i]?).bind (·.dst) with
        | none => exact ht
        | some t => exact ht.set t hv
    · rename_i l kk htodo
      cases hf
      rw [htodo] at htd
      cases h2 : c'.todo with
      | nil => rw [h2] at htd; exact htd.elim
      | cons y ys =>
        rw [h2] at htd
        obtain ⟨h3, h4⟩ := htd
        cases h3
        rename_i l' hl
        have : c'.finish v' = { c' with todo := .endRangeFunc l' :: ys } := by simp only [Frame.finish, h2]
        rw [this]
        refine ⟨k.fn, k.kind, k.round, k.mode, k.defers, ?_⟩
        unfold BodyR
        simp only [hm, hd]
        exact ⟨ht, .endRangeFunc hl, h4⟩
    · cases hf

end

def Sim (E : Env) (N : Nat) (w0 : World) (base : List Frame) (ρ : Ren) (st : ASt) (m : Machine) : Prop :=
  ∃ fr' cs' w, m = lone fr' (cs' ++ base) w ∧ FR E.P ρ st.fr fr' ∧ CsR E.P ρ st.cs cs' ∧ HR N (bare w0) ρ st.H w

def Goes (E : Env) (N : Nat) (w0 : World) (base : List Frame) (ρ : Ren) (st : ASt) (m : Machine) : Prop :=
  ∃ σ m', ρ.le σ ∧ Steps E.P m m' ∧ Sim E N w0 base σ st m'

section
variable {E : Env} {N : Nat} {w0 : World} {base : List Frame} {ρ : Ren}

theorem Goes.of {st : ASt} {m : Machine} {fr' : Frame} {cs' : List Frame} {w : World} (hs : Steps E.P m (lone fr' (cs' ++ base) w)) (hF : FR E.P ρ st.fr fr') (hC : CsR E.P ρ st.cs cs') (hH : HR N (bare w0) ρ st.H w) : Goes E N w0 base ρ st m :=
  ⟨ρ, _, Ren.le_refl _, hs, fr', cs', w, rfl, hF, hC, hH⟩

theorem Goes.of' {σ : Ren} (hle : ρ.le σ) {st : ASt} {m : Machine} {fr' : Frame} {cs' : List Frame} {w : World} (hs : Steps E.P m (lone fr' (cs' ++ base) w)) (hF : FR E.P σ st.fr fr') (hC : CsR E.P σ st.cs cs') (hH : HR N (bare w0) σ st.H w) : Goes E N w0 base ρ st m :=
  ⟨σ, _, hle, hs, fr', cs', w, rfl, hF, hC, hH⟩

def pinned (w0 : World) (ρ : Ren) : Base := ⟨w0, fun i => i < ρ.n ∧ ¬ ρ.on i⟩

theorem HR.pinned {H : AHeap} {w : World} (h : HR N (bare w0) ρ H w) : HR N (pinned w0 ρ) ρ H w := h.pin _ fun _ q => q
theorem HR.unpin {σ : Ren} {H : AHeap} {w : World} (h : HR N (Ev.pinned w0 ρ) σ H w) : HR N (bare w0) σ H w := h.pin _ fun _ q => q.elim
theorem HR.grows {σ : Ren} {H : AHeap} {w : World} (h : HR N (Ev.pinned w0 ρ) σ H w) (hle : ρ.le σ) : Ren.Grow [] ρ σ :=
  ⟨hle, fun i hi hon => Classical.byContradiction fun q => (h.off i ⟨hi, fun q2 => q (.inl q2)⟩).2 hon⟩

theorem FR.enter {f : FuncId} {x x' : Array Value} (hx : AsR ρ x x') {kind : CallKind} {fr : AFrame} (h : enterA E.P f x kind = some fr) : FR E.P ρ fr (Frame.enter E.P f x' kind) := by
  unfold enterA at h
  split at h
  case h_2 => cases h
  rename_i fn hf
  split at h
  case h_2 => cases h
  rename_i c hb
  cases h
  unfold Frame.enter
  simp only [hf, Option.map_some, Option.getD_some, Option.bind_some, hb]
  refine ⟨rfl, rfl, trivial, trivial, trivial, ?_⟩
  unfold BodyR
  simp only
  refine ⟨?_, .code c, trivial⟩
  rw [← hx.1]
  have e : (⟨x.toList ++ List.replicate (fn.ntmps - x.size) undef⟩ : Array Value) = x ++ Array.replicate (fn.ntmps - x.size) undef := by
    apply Array.ext'
    simp
  simp only [e]
  exact AsR.append hx (AsR.replicate _ (VR.undef ρ))

end
end Go.Ev

