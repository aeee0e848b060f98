import Derived.Test.YtblklpjkmegaaaaGreatDoorEvS
namespace Go.Ev
open Go.RowKit

theorem eval_evalT (fr : Frame) : fr.eval = evalT fr.tmps := by
  funext x
  cases x <;> rfl

/-- At an operation of a region. -/
theorem stepG_oper {P : Program} {fr : Frame} {cs : List Frame} {w : World} {ops : Array Oper} {i : Nat} {rest : List Nat} {k : List Item} {o : Oper}
    (hm : fr.mode = .run) (ht : fr.todo = .inRegion ops (i :: rest) :: k) (ho : ops[i]? = some o) (hw : Region.wanted o (yielded ops fr.tmps) = true)
    (hd : fr.roundOf = none ∨ ∀ c, o.op ≠ .defer c) :
    stepG P true { frame := fr, callers := cs, status := .running, dying := none } w = stepG.apply P true fr cs none (execOp (evalT fr.tmps) o) w := by
  have h1 : stepG P true { frame := fr, callers := cs, status := .running, dying := none } w = stepG.exec P true true fr cs none w := by
    simp only [stepG, hm]
  have h2 : stepG.exec P true true fr cs none w = stepG.oper P true fr cs none w := by
    simp only [stepG.exec, ht, ho, Option.map_some, Option.getD_some, hw, if_true]
  have h3 : fr.oper? = some o := by simp only [Frame.oper?, ht, ho]
  rw [h1, h2]
  unfold stepG.oper
  rw [h3, eval_evalT]
  simp only
  split
  · rename_i l o' c hr hop
    rcases hd with hd | hd
    · rw [hd] at hr; cases hr
    · exact absurd hop (hd c)
  · rfl

theorem step_value {P : Program} {fr : Frame} {cs : List Frame} {w w' : World} {ops : Array Oper} {i : Nat} {rest : List Nat} {k : List Item} {o : Oper} {v : Value}
    (hm : fr.mode = .run) (ht : fr.todo = .inRegion ops (i :: rest) :: k) (ho : ops[i]? = some o) (hw : Region.wanted o (yielded ops fr.tmps) = true)
    (hd : fr.roundOf = none ∨ ∀ c, o.op ≠ .defer c) (hr : (execOp (evalT fr.tmps) o).run P w = .ok (.value v) w') :
    step P (lone fr cs w) = .next (lone (fr.finish v) cs w') := by
  refine step_lone_go ?_
  rw [stepG_oper hm ht ho hw hd]
  simp [stepG.apply, hr]

theorem step_unwanted {P : Program} {fr : Frame} {cs : List Frame} {w : World} {ops : Array Oper} {i : Nat} {rest : List Nat} {k : List Item}
    (hm : fr.mode = .run) (ht : fr.todo = .inRegion ops (i :: rest) :: k) (hw : ((ops[i]?).map (Region.wanted · (yielded ops fr.tmps))).getD false = false) :
    step P (lone fr cs w) = .next (lone (fr.finish undef) cs w) := by
  refine step_lone_go ?_
  simp [stepG, hm, stepG.exec, ht, hw]

def dstOf (ops : Array Oper) (i : Nat) : Option Tmp := (ops[i]?).bind (·.dst)
def looksOf (ops : Array Oper) (i : Nat) : List Tmp := ((ops[i]?).map (·.looksAt ops)).getD []

/-- Nothing is not there yet. -/
def bare (w : World) : Base := ⟨w, fun _ => False⟩

theorem fresh_spec {H : AHeap} {o : Obj} {b : Nat} (h : fresh H o b = true) : ∃ c e, o = .cells c e (0, 0) ∧ H.blk b = some ⟨.cells c e (0, 0), b, 0, false, 0⟩ ∧ H.grp b = some ⟨[(b, 0)], 0, 0⟩ := by
  unfold fresh at h
  split at h
  case h_2 => cases h
  rename_i c e fr
  split at h
  case h_2 => cases h
  rename_i k hk
  split at h
  case h_2 => cases h
  rename_i c2 e2 fr2 ho
  split at h
  case h_2 => cases h
  rename_i g hg
  have hm : ∀ (l : List (Nat × Nat)), (match l with | [p] => p.1 == b && p.2 == 0 | _ => false) = true → l = [(b, 0)] := by
    intro l hl
    split at hl
    · rename_i p
      simp only [Bool.and_eq_true, beq_iff_eq] at hl
      obtain ⟨p1, p2⟩ := p
      simp only at hl
      rw [hl.1, hl.2]
    · cases hl
  have ha : ∀ (x y : Array Value), (x.size == y.size && (x.toList.zip y.toList).all fun (u, v) => sameVal 20 u v) = true → x = y := by
    intro a d h
    simp only [Bool.and_eq_true, beq_iff_eq, List.all_eq_true] at h
    obtain ⟨h1, h2⟩ := h
    apply Array.ext h1
    intro i hi hj
    refine sameVal_eq 20 _ _ (h2 (a[i], d[i]) ?_)
    rw [List.mem_iff_getElem]
    exact ⟨i, by simp; omega, by simp⟩
  rw [Bool.and_eq_true, Bool.and_eq_true] at h
  obtain ⟨⟨h, h2⟩, h3⟩ := h
  have h2 := hm _ h2
  have h3 := ha _ _ h3
  simp only [Bool.and_eq_true, beq_iff_eq, Bool.not_eq_true'] at h
  obtain ⟨⟨⟨⟨⟨⟨⟨⟨⟨⟨q1, q2⟩, q3⟩, q4⟩, q5⟩, q6⟩, q7⟩, q8⟩, q9⟩, q10⟩, q11⟩ := h
  obtain ⟨f1, f2⟩ := fr
  obtain ⟨f3, f4⟩ := fr2
  obtain ⟨ko, kr, korg, kro, ksz⟩ := k
  obtain ⟨gm, gl, gh⟩ := g
  simp only at *
  subst q1 q2 q3 q4 q5 q6 q7 q8 q9 q10 q11 h2 h3 ho
  exact ⟨_, _, rfl, hk, hg⟩

theorem makes_spec {P : Program} {o : Oper} {ob : Obj} {d : Tmp} (h : makes P o = some (ob, d)) : o.dst = some d ∧ o.guard = none ∧ (∀ c, o.op ≠ .defer c) ∧ ∃ z t, ob = .cells (Value.cells z) t (0, 0) ∧
    (∃ i, P.info? t = some i ∧ i.zero = some z) ∧ (∀ (r : Operand → Value) (w : World), (execOp r o).run P w = .ok (.value (.pointer (some ⟨w.heap.size, 0, none⟩))) { w with heap := w.heap.push ob }) ∧
    ∀ (r : Operand → Value) (H : AHeap), absRunQ P (execOp r o) H = none := by
  unfold makes at h
  split at h
  case h_2 => cases h
  rename_i t ho
  split at h
  case h_2 => cases h
  rename_i d' hg hd
  split at h
  case h_2 => cases h
  rename_i i hi
  split at h
  case h_2 => cases h
  rename_i z hz
  cases h
  refine ⟨hd, hg, (fun c hc => by rw [ho] at hc; cases hc), z, t, rfl, ⟨i, hi, hz⟩, fun r w => ?_, fun r H => ?_⟩
  · obtain ⟨dst, op, type, pos, after, guard⟩ := o
    simp only at ho
    subst ho
    simp [execOp, Instr.alloc, Go.zeroValue, Go.typeInfo, hi, hz, Go.newVar, Go.newRow]
  · obtain ⟨dst, op, type, pos, after, guard⟩ := o
    simp only at ho
    subst ho
    simp only [execOp, Instr.alloc, Go.zeroValue, Go.typeInfo, Go.newVar, Go.newRow]
    show absRunQ P (Sem.bind (Sem.bind (Sem.bind (Sem.bind Go.program fun p => match p.info? t with | some i => Sem.pure i | none => Go.stuck "no such type") _) _) _) H = none
    simp [Sem.bind, Go.program, absRunQ, hi, hz]
    rfl

/-- What makes a variable does not float. -/
theorem floats_makes {E : Env} {ops : Array Oper} {tmps : Array Value} {H : AHeap} {i : Nat} {p : Obj × Tmp} (h : (ops[i]?).bind (makes E.P) = some p) : floats E ops tmps H i = none := by
  unfold floats
  cases ho : ops[i]? with
  | none => simp [ho] at h
  | some o =>
    rw [ho] at h
    obtain ⟨ob, d⟩ := p
    have h : makes E.P o = some (ob, d) := h
    obtain ⟨hd, hg, hdef, z, t, hob, _, _, hq⟩ := makes_spec h
    have hw : wantedA ops tmps o = some true := by unfold wantedA; rw [hg]
    have hop : ∃ t, o.op = .alloc t := by
      unfold makes at h
      split at h
      · rename_i t ht; exact ⟨t, ht⟩
      · cases h
    obtain ⟨t2, hop⟩ := hop
    simp only [hw]
    unfold aquiet
    simp only [hop]
    split
    · simp only [genFirst, if_true]
      unfold agenQ
      split
      · rw [hq]
      · rfl
    · rfl

/-- What lags behind in a region whose order is drawn: it is done in the abstract machine, and not in the other one. -/
structure Lag (P : Program) (ρ : Ren) (ops : Array Oper) (la lc : Array Bool) (lag : List Nat) (fuel : Nat) (tmps tmps' : Array Value) : Prop where
  sa : la.size = ops.size
  sc : lc.size = ops.size
  sub : ∀ (i : Nat), lc[i]? = some true → la[i]? = some true
  cov : ∀ (i : Nat), la[i]? = some true → lc[i]? = some true ∨ i ∈ lag
  lagA : ∀ i ∈ lag, la[i]? = some true
  down : ∀ (i : Nat) (o : Oper), lc[i]? = some true → ops[i]? = some o → ∀ e ∈ o.after.toList, Region.binds .any e = true → lc[e.on]? = some true
  fuel : (List.range ops.size).countP (fun i => !(lc.getD i true)) ≤ fuel
  size : tmps'.size = tmps.size
  agree : ∀ (t : Nat) (v v' : Value), tmps[t]? = some v → tmps'[t]? = some v' → VR ρ v v' ∨ ∃ j ∈ lag, lc[j]? ≠ some true ∧ dstOf ops j = some t
  order : ∀ (l1 : List Nat) (i : Nat) (l2 : List Nat) (o : Oper), lag = l1 ++ i :: l2 → ops[i]? = some o → ∀ e ∈ o.after.toList, Region.binds .any e = true → lc[e.on]? = some true ∨ e.on ∈ l1
  self : ∀ i ∈ lag, ∀ d, dstOf ops i = some d → d ∉ looksOf ops i
  pair : ∀ i ∈ lag, ∀ j ∈ lag, i ≠ j → ∀ d, dstOf ops j = some d → dstOf ops i ≠ some d ∧ (d ∈ looksOf ops i → isBefore ops ops.size j i = true)
  pend : ∀ j ∈ lag, lc[j]? ≠ some true → ∀ b, madeBlk P ops tmps j = some b → b < ρ.n ∧ ¬ ρ.on b

theorem mem_ready {ops : Array Oper} {lc : Array Bool} (hs : lc.size = ops.size) {i : Nat} :
    i ∈ Region.ready .any ops lc ↔ lc[i]? = some false ∧ ∃ o, ops[i]? = some o ∧ ∀ e ∈ o.after.toList, Region.binds .any e = true → lc[e.on]? = some true := by
  unfold Region.ready
  rw [List.mem_filter, List.mem_range, Bool.and_eq_true]
  constructor
  · rintro ⟨h1, h2, h3⟩
    have h4 : i < lc.size := by omega
    refine ⟨?_, ops[i], Array.getElem?_eq_getElem h1, ?_⟩
    · rw [Array.getElem?_eq_getElem h4]
      simpa [h4] using h2
    · rw [Array.getElem?_eq_getElem h1] at h3
      simp only [Option.map_some, Option.getD_some] at h3
      rw [← Array.all_toList, List.all_eq_true] at h3
      intro e he hb
      have := h3 e he
      simp only [hb, Bool.not_true, Bool.false_or] at this
      rw [Array.getD_eq_getD_getElem?] at this
      cases q : lc[e.on]? with
      | none => rw [q] at this; cases this
      | some b => rw [q] at this; rw [show b = true from this]
  · rintro ⟨h1, o, h2, h3⟩
    have h4 := (Array.getElem?_eq_some_iff.1 h1).1
    refine ⟨by omega, ?_, ?_⟩
    · rw [Array.getD_eq_getD_getElem?, h1]; rfl
    · rw [h2]
      simp only [Option.map_some, Option.getD_some]
      rw [← Array.all_toList, List.all_eq_true]
      intro e he
      cases hb : Region.binds .any e with
      | false => rfl
      | true =>
        rw [Array.getD_eq_getD_getElem?, h3 e he hb]; rfl

/-- What comes ahead of a listed operation is listed. -/
theorem isBefore_listed {ops : Array Oper} {lc : Array Bool} (down : ∀ (i : Nat) (o : Oper), lc[i]? = some true → ops[i]? = some o → ∀ e ∈ o.after.toList, Region.binds .any e = true → lc[e.on]? = some true) :
    ∀ (n : Nat) (j i : Nat), (∀ (o : Oper), ops[i]? = some o → ∀ e ∈ o.after.toList, Region.binds .any e = true → lc[e.on]? = some true) → isBefore ops n j i = true → lc[j]? = some true := by
  intro n
  induction n with
  | zero => intro j i _ h; cases h
  | succ n ih =>
    intro j i hi h
    unfold isBefore at h
    cases ho : ops[i]? with
    | none => rw [ho] at h; cases h
    | some o =>
      rw [ho] at h
      simp only [Option.map_some, Option.getD_some, List.any_eq_true, Bool.and_eq_true, Bool.or_eq_true, beq_iff_eq] at h
      obtain ⟨e, he, hb, hj⟩ := h
      have hl := hi o ho e he hb
      rcases hj with rfl | hj
      · exact hl
      · exact ih j e.on (fun o' ho' => down _ _ hl ho') hj

theorem count_lt (p q : Nat → Bool) : ∀ (l : List Nat) (x : Nat), x ∈ l → p x = true → q x = false → (∀ y, q y = true → p y = true) → l.countP q < l.countP p := by
  intro l x hx hp hq hle
  induction l with
  | nil => cases hx
  | cons a l ih =>
    have hmono : l.countP q ≤ l.countP p := List.countP_mono_left fun y _ hy => hle y hy
    rw [List.countP_cons, List.countP_cons]
    rcases List.mem_cons.1 hx with rfl | hx
    · rw [hp, hq]; simp; omega
    · have := ih hx
      cases h1 : q a with
      | false => simp; omega
      | true => rw [hle a h1]; simp; omega

theorem getElem?_set_true {l : Array Bool} {x i : Nat} (hx : x < l.size) : (l.setIfInBounds x true)[i]? = if i = x then some true else l[i]? := by
  rw [Array.getElem?_setIfInBounds]
  by_cases q : x = i
  · subst q; simp [hx]
  · rw [if_neg q, if_neg (fun e => q e.symm)]

theorem fuel_dec {n : Nat} {lc : Array Bool} {x fuel : Nat} (hx : lc[x]? = some false) (hs : lc.size = n) (hf : (List.range n).countP (fun i => !(lc.getD i true)) ≤ fuel) :
    ∃ f, fuel = f + 1 ∧ (List.range n).countP (fun i => !((lc.setIfInBounds x true).getD i true)) ≤ f := by
  have hlt := (Array.getElem?_eq_some_iff.1 hx).1
  have := count_lt (fun i => !(lc.getD i true)) (fun i => !((lc.setIfInBounds x true).getD i true)) (List.range n) x (by rw [List.mem_range]; omega)
    (by rw [Array.getD_eq_getD_getElem?, hx]; rfl) (by rw [Array.getD_eq_getD_getElem?, getElem?_set_true hlt, if_pos rfl]; rfl) (by
      intro y hy
      rw [Array.getD_eq_getD_getElem?] at hy ⊢
      rw [getElem?_set_true hlt] at hy
      split at hy
      · cases hy
      · exact hy)
  exact ⟨fuel - 1, by omega, by omega⟩

end Go.Ev
