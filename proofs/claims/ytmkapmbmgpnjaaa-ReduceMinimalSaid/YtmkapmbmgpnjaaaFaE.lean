import Derived.Test.YtmkapmbmgpnjaaaFaM
namespace Go.Ev
open Go.RowKit

inductive KOp where
  | un (f : Value → Option Value) (x : Opd)
  | bi (f : Value → Value → Option Value) (x y : Opd)
  | pick (c a b : Opd)
  | call (fx : Opd) (args : List Opd)
  | ld (f : AHeap → Value → Option Value) (x : Opd)
  | st (f : AHeap → Value → Value → Option AHeap) (x y : Opd)
  | mk (ob : Obj)
  | box (t : TypeId) (x : Opd)
  | slow

def un1 (G n : Nat) (f : Value → Option Value) (x : Operand) : KOp := match opd G n x with
  | some y => .un f y
  | none => .slow
def bi2 (G n : Nat) (f : Value → Value → Option Value) (x y : Operand) : KOp := match opd G n x with
  | some a => (match opd G n y with
    | some b => .bi f a b
    | none => .slow)
  | none => .slow

def ld1 (G n : Nat) (f : AHeap → Value → Option Value) (x : Operand) : KOp := match opd G n x with
  | some y => .ld f y
  | none => .slow
def st2 (G n : Nat) (f : AHeap → Value → Value → Option AHeap) (x y : Operand) : KOp := match opd G n x with
  | some a => (match opd G n y with
    | some b => .st f a b
    | none => .slow)
  | none => .slow
noncomputable def kop (E : Env) (n : Nat) (o : Oper) : KOp :=
  match o.op with
  | .move x => un1 E.G n some x
  | .assign x => un1 E.G n some x
  | .nilCheck x => un1 E.G n nilCheckV x
  | .unOp .not _ x => un1 E.G n notV x
  | .fieldAddr s x k => (match E.P.underlying s with
    | some (.struct fs) => (match (fs[k]? : Option Field) with
      | some f => (match E.P.info? f.type with
        | some i => if i.size = 0 then .slow else un1 E.G n (fieldV f.offset) x
        | none => .slow)
      | none => .slow)
    | _ => .slow)
  | .extract x k => un1 E.G n (extractV k) x
  | .convert s d x => (match E.P.underlying s, E.P.underlying d with
    | some (.int _), some (.int k) => un1 E.G n (convV k) x
    | _, _ => .slow)
  | .load t x => (match E.P.underlying t, E.P.info? t with
    | some d, some i => if isAggD d then ld1 E.G n (loadN i.size) x else ld1 E.G n load1 x
    | _, _ => .slow)
  | .store t x y => (match E.P.info? t with
    | some i => if i.size = 1 then st2 E.G n store1 x y else st2 E.G n (storeN i.size) x y
    | none => .slow)
  | .alloc t => (match E.P.info? t with
    | some i => (match i.zero with
      | some z => .mk (.cells z.cells t (0, 0))
      | none => .slow)
    | none => .slow)
  | .box t x => (match opd E.G n x with
    | some y => .box t y
    | none => .slow)
  | .pick c a b => (match opd E.G n c, opd E.G n a, opd E.G n b with
    | some c, some a, some b => .pick c a b
    | _, _, _ => .slow)
  | .index t x y => (match E.P.underlying t with
    | some .string => bi2 E.G n indexV x y
    | _ => .slow)
  | .indexAddr t x y => (match E.P.underlying t with
    | some (.slice e) => (match E.P.info? e with
      | some i => bi2 E.G n (indexAddrV i.size) x y
      | none => .slow)
    | _ => .slow)
  | .binOp .lss _ x y _ => bi2 E.G n lssV x y
  | .binOp .leq _ x y _ => bi2 E.G n leqV x y
  | .binOp .gtr _ x y _ => bi2 E.G n gtrV x y
  | .binOp .geq _ x y _ => bi2 E.G n geqV x y
  | .binOp .add _ x y _ => bi2 E.G n addV x y
  | .binOp .sub _ x y _ => bi2 E.G n subV x y
  | .binOp .eql _ x y _ => bi2 E.G n eqlV x y
  | .binOp .neq _ x y _ => bi2 E.G n neqV x y
  | .call c => (match c.callee with
    | .value f => (match opd E.G n f, opds E.G n c.args.toList with
      | some f, some xs => .call f xs
      | _, _ => .slow)
    | .builtin .len => (match c.args.toList, (c.argTypes[0]? : Option TypeId) with
      | [x], some t => (match E.P.underlying t with
        | some .string => un1 E.G n lenSV x
        | some (.slice _) => un1 E.G n lenLV x
        | _ => .slow)
      | _, _ => .slow)
    | _ => .slow)
  | _ => .slow

inductive KR where
  | val (v : Value)
  | enter (g : FuncId) (args : List Value)
  | valH (v : Value) (H : AHeap)
  | no

noncomputable def appL {α : Type} (x y : List α) : List α := List.rec (motive := fun _ => List α) y (fun a _ ih => List.cons a ih) x
theorem appL_eq {α : Type} : ∀ (x y : List α), appL x y = x ++ y
  | [], _ => rfl
  | a :: x, y => by show a :: appL x y = _; rw [appL_eq x y]; rfl

def ofOptH (H : Option AHeap) : KR := match H with
  | some H => .valH undef H
  | none => .no
noncomputable def boxR (t : TypeId) (H : AHeap) (v : Value) : KR := match v with
  | .tuple _ => .no
  | v => .valH (.pointer (some ⟨H.next, 0, none⟩)) (newF H (.cells v.cells t (0, 0)))

def ofOpt (v : Option Value) : KR := match v with
  | some v => .val v
  | none => .no
noncomputable def pickR (c : Value) (a b : Value) : KR := match c with
  | .bool x => .val (Bool.rec (motive := fun _ => Value) b a x)
  | _ => .no
noncomputable def callR (E : Env) (f : Value) (args : List Value) : KR := match f with
  | .func (.func g) first cap => Bool.rec (motive := fun _ => KR) .no (.enter g (appL first.toList (appL args cap.toList))) (E.callOK g)
  | _ => .no

noncomputable def KOp.res (E : Env) (tm : TT) (H : AHeap) (k : KOp) : KR :=
  KOp.rec (motive := fun _ => KR) (fun f x => ofOpt (f (x.ev tm))) (fun f x y => ofOpt (f (x.ev tm) (y.ev tm))) (fun c a b => pickR (c.ev tm) (a.ev tm) (b.ev tm))
    (fun f xs => callR E (f.ev tm) (evs tm xs)) (fun f x => ofOpt (f H (x.ev tm))) (fun f x y => ofOptH (f H (x.ev tm) (y.ev tm))) (fun ob => .valH (.pointer (some ⟨H.next, 0, none⟩)) (newF H ob)) (fun t x => boxR t H (x.ev tm)) .no k

section
variable {E : Env} {N : Nat} {w0 : Base} {ρ : Ren} {H : AHeap} {w : World}

def KRSays (E : Env) (N : Nat) (w0 : Base) (ρ : Ren) (H : AHeap) (s : Sem Next) (w : World) : KR → Prop
  | .val v => OpSays E N w0 ρ s w (.next (.value v)) H
  | .valH v H' => OpSays E N w0 ρ s w (.next (.value v)) H' ∨ (v = undef ∧ OpSays E N w0 ρ s w (.next .skip) H')
  | .enter g args => OpSays E N w0 ρ s w (.next (.enter g ⟨args⟩)) H
  | .no => True

theorem Gives.says (hH : HR N w0 ρ H w) {s : Sem Next} {u : Value} (h : Gives E.P ρ s u) : OpSays E N w0 ρ s w (.next (.value u)) H := by
  obtain ⟨u', h1, h2⟩ := h
  exact ⟨ρ, _, w, Ren.le_refl _, h1 w, .value h2, hH⟩

theorem un1_says (hH : HR N w0 ρ H w) {n : Nat} {tm : TT} {r' : Operand → Value} {o : Oper} {f : Value → Option Value} {x : Operand} (hx : okOperand E.G x = true → VR ρ (evalT (tm.arr n) x) (r' x))
    (h : ∀ v u, VR ρ v (r' x) → f v = some u → Gives E.P ρ (execOp r' o) u) : KRSays E N w0 ρ H (execOp r' o) w ((un1 E.G n f x).res E tm H) := by
  unfold un1
  split
  · rename_i y hy
    obtain ⟨h1, h2⟩ := opd_spec hy tm
    show KRSays E N w0 ρ H (execOp r' o) w (ofOpt (f (y.ev tm)))
    cases hf : f (y.ev tm) with
    | none => trivial
    | some u => exact Gives.says hH (h _ u (by rw [h1]; exact hx h2) hf)
  · trivial

theorem bi2_says (hH : HR N w0 ρ H w) {n : Nat} {tm : TT} {r' : Operand → Value} {o : Oper} {f : Value → Value → Option Value} {x y : Operand} (hx : okOperand E.G x = true → VR ρ (evalT (tm.arr n) x) (r' x)) (hy : okOperand E.G y = true → VR ρ (evalT (tm.arr n) y) (r' y))
    (h : ∀ v1 v2, Two E.P ρ (execOp r' o) v1 v2 (r' x) (r' y) f) : KRSays E N w0 ρ H (execOp r' o) w ((bi2 E.G n f x y).res E tm H) := by
  unfold bi2
  split
  · rename_i a ha
    split
    · rename_i b hb
      obtain ⟨h1, h2⟩ := opd_spec ha tm
      obtain ⟨h3, h4⟩ := opd_spec hb tm
      show KRSays E N w0 ρ H (execOp r' o) w (ofOpt (f (a.ev tm) (b.ev tm)))
      cases hf : f (a.ev tm) (b.ev tm) with
      | none => trivial
      | some u => exact Gives.says hH (h _ _ u (by rw [h1]; exact hx h2) (by rw [h3]; exact hy h4) hf)
    · trivial
  · trivial

theorem gen_text (ok : EnvOK E) (hH : HR N w0 ρ H w) {n : Nat} {tm : TT} {o : Oper} {r' : Operand → Value} (hr : ∀ x, x ∈ o.op.operands → VR ρ (evalT (tm.arr n) x) (r' x)) {nx : Next} {H' : AHeap} (hg : genK E.P H (evalT (tm.arr n)) o = true) (hj : ∀ x, x ∈ o.op.operands → isJunk (evalT (tm.arr n) x) = false)
    (h : absRun E.P (execOp (evalT (tm.arr n)) o) H = some (nx, H')) : OpSays E N w0 ρ (execOp r' o) w (.next nx) H' := by
  refine agen_spec ok.ok hH hr ?_
  unfold agen
  have hn : noneJunk (evalT (tm.arr n)) o.op = true := by
    unfold noneJunk
    rw [List.all_eq_true]
    intro x hx
    rw [hj x (Array.mem_toList_iff.1 hx)]
    rfl
  rw [hg, hn, h]
  rfl

theorem ld1_says (ok : EnvOK E) (hH : HR N w0 ρ H w) {n : Nat} {tm : TT} {r' : Operand → Value} {o : Oper} {t : TypeId} {f : AHeap → Value → Option Value} {x : Operand} (ho : o.op = .load t x) (hx : okOperand E.G x = true → VR ρ (evalT (tm.arr n) x) (r' x))
    (h : ∀ v, f H (evalT (tm.arr n) x) = some v → absRun E.P (execOp (evalT (tm.arr n)) o) H = some (.value v, H) ∧ isJunk (evalT (tm.arr n) x) = false) : KRSays E N w0 ρ H (execOp r' o) w ((ld1 E.G n f x).res E tm H) := by
  unfold ld1
  split
  · rename_i y hy
    obtain ⟨h1, h2⟩ := opd_spec hy tm
    show KRSays E N w0 ρ H (execOp r' o) w (ofOpt (f H (y.ev tm)))
    cases hf : f H (y.ev tm) with
    | none => trivial
    | some v =>
      rw [h1] at hf
      obtain ⟨h3, h4⟩ := h v hf
      have hone : ∀ z, z ∈ o.op.operands → z = x := fun z hz => by rw [ho] at hz; simpa [Op.operands] using hz
      exact gen_text ok hH (fun z hz => by rw [hone z hz]; exact hx h2) (by unfold genK; rw [ho]) (fun z hz => by rw [hone z hz]; exact h4) h3
  · trivial

theorem st2_says (ok : EnvOK E) (hH : HR N w0 ρ H w) {n : Nat} {tm : TT} {r' : Operand → Value} {o : Oper} {t : TypeId} {f : AHeap → Value → Value → Option AHeap} {x y : Operand} (ho : o.op = .store t x y) (hx : okOperand E.G x = true → VR ρ (evalT (tm.arr n) x) (r' x)) (hy : okOperand E.G y = true → VR ρ (evalT (tm.arr n) y) (r' y))
    (h : ∀ H', f H (evalT (tm.arr n) x) (evalT (tm.arr n) y) = some H' → absRun E.P (execOp (evalT (tm.arr n)) o) H = some (.skip, H') ∧ isJunk (evalT (tm.arr n) x) = false ∧ isJunk (evalT (tm.arr n) y) = false) : KRSays E N w0 ρ H (execOp r' o) w ((st2 E.G n f x y).res E tm H) := by
  unfold st2
  split
  · rename_i a ha
    split
    · rename_i b hb
      obtain ⟨h1, h2⟩ := opd_spec ha tm
      obtain ⟨h3, h4⟩ := opd_spec hb tm
      show KRSays E N w0 ρ H (execOp r' o) w (ofOptH (f H (a.ev tm) (b.ev tm)))
      cases hf : f H (a.ev tm) (b.ev tm) with
      | none => trivial
      | some H' =>
        rw [h1, h3] at hf
        obtain ⟨h5, h6, h7⟩ := h H' hf
        have htwo : ∀ z, z ∈ o.op.operands → z = x ∨ z = y := fun z hz => by rw [ho] at hz; simpa [Op.operands] using hz
        refine .inr ⟨rfl, gen_text ok hH (fun z hz => ?_) (by unfold genK; rw [ho]) (fun z hz => ?_) h5⟩
        · rcases htwo z hz with rfl | rfl
          · exact hx h2
          · exact hy h4
        · rcases htwo z hz with rfl | rfl
          · exact h6
          · exact h7
    · trivial
  · trivial

theorem kop_says (ok : EnvOK E) (hH : HR N w0 ρ H w) {n : Nat} {tm : TT} {o : Oper} {r' : Operand → Value} (ht : ∀ x, x ∈ o.op.operands → okOperand E.G x = true → VR ρ (evalT (tm.arr n) x) (r' x)) :
    KRSays E N w0 ρ H (execOp r' o) w ((kop E n o).res E tm H) := by
  have no : ∀ {k : KOp}, k = .slow → KRSays E N w0 ρ H (execOp r' o) w (k.res E tm H) := fun e => by rw [e]; trivial
  unfold kop
  split
  · rename_i x ho
    exact un1_says hH (ht x (by rw [ho]; simp [Op.operands])) fun v u hv h => gives_move (.inl ho) (v := v) hv h
  · rename_i x ho
    exact un1_says hH (ht x (by rw [ho]; simp [Op.operands])) fun v u hv h => gives_move (.inr ho) (v := v) hv h
  · rename_i x ho
    exact un1_says hH (ht x (by rw [ho]; simp [Op.operands])) fun v u hv h => gives_nilCheck ho hv h
  · rename_i t x ho
    exact un1_says hH (ht x (by rw [ho]; simp [Op.operands])) fun v u hv h => gives_not ho hv h
  · rename_i s x k ho
    split
    · rename_i fs hs
      split
      · rename_i f hf
        split
        · rename_i i hi
          split
          · exact no rfl
          · rename_i hz
            exact un1_says hH (ht x (by rw [ho]; simp [Op.operands])) fun v u hv h => gives_field ho hs hf hi hz hv h
        · exact no rfl
      · exact no rfl
    · exact no rfl
  · rename_i x k ho
    exact un1_says hH (ht x (by rw [ho]; simp [Op.operands])) fun v u hv h => gives_extract ho hv h
  · rename_i s d x ho
    split
    · rename_i j k hs hd
      exact un1_says hH (ht x (by rw [ho]; simp [Op.operands])) fun v u hv h => gives_conv ho hs hd hv h
    · exact no rfl
  · rename_i t x ho
    split
    · rename_i d i hd hi
      split
      · rename_i hag
        exact ld1_says ok hH ho (ht x (by rw [ho]; simp [Op.operands])) fun v h => loadN_run ho hd hag hi h
      · rename_i hag
        exact ld1_says ok hH ho (ht x (by rw [ho]; simp [Op.operands])) fun v h => load1_run ho hd (by simpa using hag) h
    · exact no rfl
  · rename_i t x y ho
    split
    · rename_i i hi
      split
      · rename_i h1
        exact st2_says ok hH ho (ht x (by rw [ho]; simp [Op.operands])) (ht y (by rw [ho]; simp [Op.operands])) fun H' h => store1_run ho hi h1 h
      · exact st2_says ok hH ho (ht x (by rw [ho]; simp [Op.operands])) (ht y (by rw [ho]; simp [Op.operands])) fun H' h => storeN_run ho hi h
    · exact no rfl
  · rename_i t ho
    split
    · rename_i i hi
      split
      · rename_i z hz
        refine .inl ?_
        rw [newF_eq]
        refine gen_text (tm := tm) (n := n) ok hH (fun x hx => ?_) (by unfold genK; rw [ho]) (fun x hx => ?_) (alloc_run ho hi hz)
        · rw [ho] at hx; simp [Op.operands] at hx
        · rw [ho] at hx; simp [Op.operands] at hx
      · exact no rfl
    · exact no rfl
  · rename_i t x ho
    split
    · rename_i y hy
      obtain ⟨h1, h2⟩ := opd_spec hy tm
      show KRSays E N w0 ρ H (execOp r' o) w (boxR t H (y.ev tm))
      unfold boxR
      split
      · trivial
      · rename_i v hnt
        have hone : ∀ z, z ∈ o.op.operands → z = x := fun z hz => by rw [ho] at hz; simpa [Op.operands] using hz
        have hj : isJunk (evalT (tm.arr n) x) = false := by
          rw [← h1]
          revert hnt
          cases y.ev tm <;> simp [isJunk]
        refine .inl ?_
        rw [newF_eq, h1]
        exact gen_text (tm := tm) (n := n) ok hH (fun z hz => by rw [hone z hz]; exact ht x (by rw [ho]; simp [Op.operands]) h2) (by unfold genK; rw [ho]) (fun z hz => by rw [hone z hz]; exact hj) (box_run ho)
    · exact no rfl
  · rename_i c a b ho
    split
    · rename_i c2 a2 b2 hc ha hb
      obtain ⟨h1, h2⟩ := opd_spec hc tm
      obtain ⟨h3, h4⟩ := opd_spec ha tm
      obtain ⟨h5, h6⟩ := opd_spec hb tm
      have v1 := ht c (by rw [ho]; simp [Op.operands]) h2
      have v2 := ht a (by rw [ho]; simp [Op.operands]) h4
      have v3 := ht b (by rw [ho]; simp [Op.operands]) h6
      rw [← h1] at v1
      rw [← h3] at v2
      rw [← h5] at v3
      show KRSays E N w0 ρ H (execOp r' o) w (pickR (c2.ev tm) (a2.ev tm) (b2.ev tm))
      unfold pickR
      split
      · rename_i q hq
        rw [hq] at v1
        have e1 : r' c = .bool q := by generalize r' c = z at v1; cases v1; rfl
        refine Gives.says hH ⟨if q then r' a else r' b, fun w => ?_, ?_⟩
        · simp only [execOp, ho, e1]
          cases q <;> rfl
        · cases q
          · exact v3
          · exact v2
      · trivial
    · exact no rfl
  · rename_i t x y ho
    split
    · rename_i hu
      exact bi2_says hH (ht x (by rw [ho]; simp [Op.operands])) (ht y (by rw [ho]; simp [Op.operands])) fun _ _ => two_index ho hu
    · exact no rfl
  · rename_i t x y ho
    split
    · rename_i e hu
      split
      · rename_i i hi
        exact bi2_says hH (ht x (by rw [ho]; simp [Op.operands])) (ht y (by rw [ho]; simp [Op.operands])) fun _ _ => two_indexAddr ho hu hi
      · exact no rfl
    · exact no rfl
  · rename_i t x y t2 ho; exact bi2_says hH (ht x (by rw [ho]; simp [Op.operands])) (ht y (by rw [ho]; simp [Op.operands])) fun _ _ => two_lss ho
  · rename_i t x y t2 ho; exact bi2_says hH (ht x (by rw [ho]; simp [Op.operands])) (ht y (by rw [ho]; simp [Op.operands])) fun _ _ => two_leq ho
  · rename_i t x y t2 ho; exact bi2_says hH (ht x (by rw [ho]; simp [Op.operands])) (ht y (by rw [ho]; simp [Op.operands])) fun _ _ => two_gtr ho
  · rename_i t x y t2 ho; exact bi2_says hH (ht x (by rw [ho]; simp [Op.operands])) (ht y (by rw [ho]; simp [Op.operands])) fun _ _ => two_geq ho
  · rename_i t x y t2 ho; exact bi2_says hH (ht x (by rw [ho]; simp [Op.operands])) (ht y (by rw [ho]; simp [Op.operands])) fun _ _ => two_add ho
  · rename_i t x y t2 ho; exact bi2_says hH (ht x (by rw [ho]; simp [Op.operands])) (ht y (by rw [ho]; simp [Op.operands])) fun _ _ => two_sub ho
  · rename_i t x y t2 ho; exact bi2_says hH (ht x (by rw [ho]; simp [Op.operands])) (ht y (by rw [ho]; simp [Op.operands])) fun _ _ => two_eql ho
  · rename_i t x y t2 ho; exact bi2_says hH (ht x (by rw [ho]; simp [Op.operands])) (ht y (by rw [ho]; simp [Op.operands])) fun _ _ => two_neq ho
  · rename_i c ho
    split
    · rename_i f hcal
      split
      · rename_i f2 xs hf hxs
        obtain ⟨h1, h2⟩ := opd_spec hf tm
        obtain ⟨h3, h4⟩ := opds_spec hxs tm
        show KRSays E N w0 ρ H (execOp r' o) w (callR E (f2.ev tm) (evs tm xs))
        rw [h1, h3]
        unfold callR
        split
        · rename_i g first cap hg
          cases hcall : E.callOK g with
          | false => trivial
          | true =>
            show OpSays E N w0 ρ (execOp r' o) w (.next (.enter g ⟨_⟩)) H
            have hac : acall E H (evalT (tm.arr n)) o c = some (.next (.enter g (appA (appA first (mapA (evalT (tm.arr n)) c.args)) cap)), H) := by
              unfold acall
              rw [hcal]
              simp only [hg, hcall, if_true]
            have he : (⟨appL first.toList (appL (c.args.toList.map (evalT (tm.arr n))) cap.toList)⟩ : Array Value) = appA (appA first (mapA (evalT (tm.arr n)) c.args)) cap := by
              simp only [appL_eq, appA, mapA, List.append_assoc]
            rw [he]
            refine acall_spec ok hH ho (fun y hy => ht y hy ?_) hac
            rw [ho] at hy
            simp only [Op.operands, Call.operands, hcal] at hy
            rw [Array.mem_append] at hy
            rcases hy with hy | hy
            · have : y = f := by simpa using hy
              rw [this]; exact h2
            · exact h4 y (Array.mem_toList_iff.2 hy)
        · trivial
      · exact no rfl
    · rename_i hcal
      split
      · rename_i x t hargs hty
        have ha : c.args = #[x] := by
          have := congrArg List.toArray hargs
          simpa using this
        have hmem : x ∈ o.op.operands := by rw [ho]; simp [Op.operands, Call.operands, ha]
        split
        · rename_i hu; exact un1_says hH (ht x hmem) fun v u hv h => gives_lenS ho hcal ha hty hu hv h
        · rename_i e hu; exact un1_says hH (ht x hmem) fun v u hv h => gives_lenL ho hcal ha hty hu hv h
        · exact no rfl
      · exact no rfl
    · exact no rfl
  · exact no rfl

end
end Go.Ev
