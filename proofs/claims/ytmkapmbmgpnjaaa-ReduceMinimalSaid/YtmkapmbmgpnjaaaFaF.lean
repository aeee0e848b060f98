import Derived.Test.YtmkapmbmgpnjaaaFaE
namespace Go.Ev
open Go.RowKit

inductive View where
  | op (ops : Array Oper) (i : Nat) (r : List Nat) (kk : List Item) (o : Oper) (g : Option (Way × Bool)) (k : KOp) (d : Option Way)
  | cond (c : Opd) (a b : List Item)
  | draw (ops : Array Oper) (k : List Item)
  | ret (j : Option Code)
  | beg (k : List Item)
  | other

def dstW (n : Nat) (t : Option Tmp) : Option (Option Way) := match t with
  | none => some none
  | some t => if t < n then some (some (way t)) else none

def guardW (n : Nat) (ops : Array Oper) (o : Oper) : Option (Option (Way × Bool)) := match o.guard with
  | none => some none
  | some (j, want) => (match (ops[j]?).bind (·.dst) with
    | some t => if t < n then some (some (way t, want)) else none
    | none => none)

noncomputable def viewOp (E : Env) (n : Nat) (ops : Array Oper) (i : Nat) (r : List Nat) (kk : List Item) : View :=
  match ops[i]? with
  | some o => (match guardW n ops o with
    | some g => (match dstW n o.dst with
      | some d => .op ops i r kk o g (kop E n o) d
      | none => .other)
    | none => .other)
  | none => .other

noncomputable def norm (E : Env) (n : Nat) : Nat → List Item → View
  | 0, _ => .other
  | m + 1, todo => match todo with
    | [] => .ret none
    | .code .ret :: _ => .ret (some .ret)
    | .beginRound :: k => .beg k
    | .code .skip :: k => norm E n m k
    | .code (.label _) :: k => norm E n m k
    | .inBlock _ :: k => norm E n m k
    | .inScope _ :: k => norm E n m k
    | .code (.seq a b) :: k => norm E n m (.code a :: .code b :: k)
    | .code (.block id body) :: k => norm E n m (.code body :: .inBlock id :: k)
    | .code (.loop body) :: k => norm E n m (.code body :: .inLoop body :: k)
    | .inLoop body :: k => norm E n m (.code body :: .inLoop body :: k)
    | .code (.scope body) :: k => norm E n m (.code body :: .inScope body :: k)
    | .code (.exit id) :: k => (match exitTo id k with
      | some k' => norm E n m k'
      | none => .other)
    | .code (.goto l) :: k => (match gotoIn l k with
      | some k' => norm E n m k'
      | none => .other)
    | .code (.cond c a b) :: k => (match opd E.G n c with
      | some y => .cond y (.code a :: k) (.code b :: k)
      | none => .other)
    | .code (.region _ ops false) :: k => norm E n m (.inRegion ops (List.range ops.size) :: k)
    | .code (.region _ ops true) :: k => .draw ops k
    | .inRegion _ [] :: k => norm E n m k
    | .inRegion ops (i :: r) :: k => viewOp E n ops i r k
    | _ => .other

def Lies (E : Env) (n : Nat) (todo : List Item) : View → Prop
  | .op ops i r kk o g k d => todo = .inRegion ops (i :: r) :: kk ∧ ops[i]? = some o ∧ guardW n ops o = some g ∧ dstW n o.dst = some d ∧ k = kop E n o
  | .cond c a b => ∃ c0 a0 b0 k, todo = .code (.cond c0 a0 b0) :: k ∧ opd E.G n c0 = some c ∧ a = .code a0 :: k ∧ b = .code b0 :: k
  | .draw ops k => ∃ id, todo = .code (.region id ops true) :: k
  | .ret j => (j = none ∧ todo = []) ∨ (j = some .ret ∧ ∃ k, todo = .code .ret :: k)
  | .beg k => todo = .beginRound :: k
  | .other => True

theorem viewOp_lies (E : Env) (n : Nat) (ops : Array Oper) (i : Nat) (r : List Nat) (kk : List Item) : Lies E n (.inRegion ops (i :: r) :: kk) (viewOp E n ops i r kk) := by
  unfold viewOp
  split
  · rename_i o ho
    split
    · rename_i g hg
      split
      · rename_i d hd
        exact ⟨rfl, ho, hg, hd, rfl⟩
      · trivial
    · trivial
  · trivial

theorem Reaches.refl (E : Env) (st : ASt) : Reaches E st st := ⟨0, rfl⟩
theorem Reaches.one {E : Env} {st st' : ASt} (h : astep E st = some st') : Reaches E st st' := ⟨1, by simp [runA, h]⟩
theorem Reaches.head {E : Env} {st st1 st2 : ASt} (h : astep E st = some st1) (k : Reaches E st1 st2) : Reaches E st st2 := (Reaches.one h).trans k

theorem astep_exec {E : Env} {st : ASt} (hm : st.fr.mode = .run) (hd : st.fr.draw = none) : astep E st = execA E st := by
  unfold astep
  split
  · split
    · rename_i d h; rw [hd] at h; cases h
    · rfl
  · rename_i h; exact absurd hm h

theorem norm_lies (E : Env) (n : Nat) {st : ASt} (hm : st.fr.mode = .run) (hd : st.fr.draw = none) : ∀ (m : Nat) (todo : List Item),
    ∃ todo', Reaches E { st with fr := { st.fr with todo } } { st with fr := { st.fr with todo := todo' } } ∧ Lies E n todo' (norm E n m todo) := by
  intro m
  induction m with
  | zero => intro todo; exact ⟨todo, .refl _ _, trivial⟩
  | succ m ih =>
    intro todo
    have go : ∀ (t2 : List Item), execA E { st with fr := { st.fr with todo } } = some { st with fr := { st.fr with todo := t2 } } →
        ∃ todo', Reaches E { st with fr := { st.fr with todo } } { st with fr := { st.fr with todo := todo' } } ∧ Lies E n todo' (norm E n m t2) := by
      intro t2 h
      obtain ⟨t3, h1, h2⟩ := ih t2
      refine ⟨t3, .head ?_ h1, h2⟩
      exact (astep_exec (st := { st with fr := { st.fr with todo } }) hm hd).trans h
    unfold norm
    split
    · exact ⟨_, .refl _ _, .inl ⟨rfl, rfl⟩⟩
    · exact ⟨_, .refl _ _, .inr ⟨rfl, _, rfl⟩⟩
    · exact ⟨_, .refl _ _, rfl⟩
    · exact go _ rfl
    · exact go _ rfl
    · exact go _ rfl
    · exact go _ rfl
    · exact go _ rfl
    · exact go _ rfl
    · exact go _ rfl
    · exact go _ rfl
    · exact go _ rfl
    · split
      · rename_i k' hk; exact go _ (by unfold execA; simp only [hk])
      · exact ⟨_, .refl _ _, trivial⟩
    · split
      · rename_i k' hk; exact go _ (by unfold execA; simp only [hk])
      · exact ⟨_, .refl _ _, trivial⟩
    · split
      · rename_i y hy; exact ⟨_, .refl _ _, ⟨_, _, _, _, rfl, hy, rfl, rfl⟩⟩
      · exact ⟨_, .refl _ _, trivial⟩
    · exact go _ rfl
    · exact ⟨_, .refl _ _, ⟨_, rfl⟩⟩
    · exact go _ rfl
    · exact ⟨_, .refl _ _, viewOp_lies ..⟩
    · exact ⟨_, .refl _ _, trivial⟩

def slotsW (P : Program) (f : FuncId) (n : Nat) : Option (List Way) := match P.funcs[f]? with
  | some fn => fn.results.toList.foldr (fun x acc => match x, acc with
    | .tmp t, some l => if t < n then some (way t :: l) else none
    | _, _ => none) (some [])
  | none => none

noncomputable def gets (tm : TT) (l : List Way) : List Value := List.rec (motive := fun _ => List Value) [] (fun w _ ih => List.cons (tm.get w) ih) l

def packV (l : List Value) : Value := match l with
  | [v] => v
  | l => .tuple ⟨l⟩

theorem slots_run {P : Program} {tm : TT} {n : Nat} {H : AHeap} : ∀ (l : List ResultVar) (ws : List Way), (l.foldr (fun x acc => match x, acc with
    | .tmp t, some l => if t < n then some (way t :: l) else none
    | _, _ => none) (some [])) = some ws → l.mapM (resultOf (tm.arr n)) = (Pure.pure (gets tm ws) : Sem (List Value))
  | [], ws, h => by cases h; rfl
  | x :: l, ws, h => by
    rw [List.foldr_cons] at h
    split at h
    · rename_i t acc hacc
      split at h
      · rename_i hlt
        cases h
        have ih := slots_run (P := P) (tm := tm) (H := H) l acc hacc
        rw [List.mapM_cons, ih]
        show Sem.bind (Sem.pure ((tm.arr n).getD t undef)) _ = _
        rw [tm.arr_getD hlt]
        rfl
      · cases h
    · cases h

theorem slotsW_spec {E : Env} {f : FuncId} {n : Nat} {ws : List Way} (h : slotsW E.P f n = some ws) {st : ASt} (hf : st.fr.fn = f) {tm : TT} (ht : st.fr.tmps = tm.arr n) : resultsA E st = some (packV (gets tm ws)) := by
  unfold slotsW at h
  split at h
  case h_2 => cases h
  rename_i fn hfn
  unfold resultsA
  rw [hf, hfn, ht]
  simp only
  rw [results_eq, Array.mapM_eq_mapM_toList, slots_run (P := E.P) (H := st.H) _ _ h]
  show absRunQ E.P (Sem.pure _) st.H = _
  unfold absRunQ
  congr 1
  generalize gets tm ws = l
  cases l with
  | nil => simp [packV]
  | cons a l => cases l with
    | nil => simp [packV]
    | cons b l => simp [packV]

end Go.Ev
