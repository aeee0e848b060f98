import Derived.Test.YtkcjdmhcneapcaaGreatDoorFaF
namespace Go.Ev
open Go.RowKit

noncomputable def kA (fn : FuncId) (n : Nat) (tm : TT) (todo : List Item) : AFrame :=
  { fn, tmps := tm.arr n, todo, defers := [], mode := .run, kind := .normal, roundOf := none, draw := none }

/-- A frame that waits. -/
inductive KFr where
  | k (fn : FuncId) (n : Nat) (tm : TT) (ops : Array Oper) (i : Nat) (r : List Nat) (kk : List Item) (d : Option Way)
  | a (fr : AFrame)

noncomputable def KFr.toA : KFr → AFrame
  | .k fn n tm ops i r kk _ => kA fn n tm (.inRegion ops (i :: r) :: kk)
  | .a fr => fr
def KFr.ok : KFr → Prop
  | .k _ n _ ops i _ _ d => dstW n ((ops[i]?).bind (·.dst)) = some d
  | .a _ => True
def KFr.pends (P : Program) : KFr → List Nat
  | .k .. => []
  | .a fr => fr.pends P

theorem KFr.pends_eq (P : Program) (c : KFr) : c.pends P = c.toA.pends P := by cases c <;> rfl

inductive KS where
  | k (fn : FuncId) (n : Nat) (tm : TT) (todo : List Item) (cs : List KFr) (H : AHeap)
  | a (fr : AFrame) (cs : List KFr) (H : AHeap)
  | done (fn : FuncId) (v : Value) (H : AHeap)

noncomputable def toAs (cs : List KFr) : List AFrame := cs.map KFr.toA

noncomputable def putW (d : Option Way) (v : Value) (tm : TT) : TT := Option.rec (motive := fun _ => TT) tm (fun w => TT.set v w tm) d

theorem putW_arr {n : Nat} {t : Option Tmp} {d : Option Way} (h : dstW n t = some d) (v : Value) (tm : TT) : (putW d v tm).arr n = putT (tm.arr n) t v := by
  unfold dstW at h
  split at h
  · cases h; rfl
  · split at h
    · cases h; exact tm.arr_set n _ v
    · cases h

noncomputable def lenL {α : Type} (l : List α) : Nat := List.rec (motive := fun _ => Nat) 0 (fun _ _ ih => Nat.succ ih) l
theorem lenL_eq {α : Type} : ∀ (l : List α), lenL l = l.length
  | [] => rfl
  | _ :: l => by show Nat.succ (lenL l) = _; rw [lenL_eq l]; rfl

def ent (E : Env) (g : FuncId) : Option (List Item × Nat) := match E.P.funcs[g]? with
  | some fn => (match fn.body with
    | some c => some ([.code c], fn.ntmps)
    | none => none)
  | none => none

noncomputable def enterK (E : Env) (f : KFr) (g : FuncId) (args : List Value) (cs : List KFr) (H : AHeap) : Option KS := match ent E g with
  | some (todo, m) => Bool.rec (motive := fun _ => Option KS) none (some (.k g m (TT.ofArgs args) todo (f :: cs) H)) (Nat.ble (lenL args) m)
  | none => none

theorem enterK_spec {E : Env} {f : KFr} {g : FuncId} {args : List Value} {cs : List KFr} {H : AHeap} {ks : KS} (h : enterK E f g args cs H = some ks) :
    ∃ todo m, ks = .k g m (TT.ofArgs args) todo (f :: cs) H ∧ enterA E.P g ⟨args⟩ .normal = some (kA g m (TT.ofArgs args) todo) := by
  unfold enterK at h
  split at h
  case h_2 => cases h
  rename_i todo m he
  cases hb : Nat.ble (lenL args) m with
  | false => rw [hb] at h; cases h
  | true =>
    rw [hb] at h
    cases h
    refine ⟨todo, m, rfl, ?_⟩
    have hle : args.length ≤ m := by
      have := Nat.le_of_ble_eq_true hb
      rw [lenL_eq] at this
      exact this
    unfold ent at he
    split at he
    case h_2 => cases he
    rename_i fn hfn
    split at he
    case h_2 => cases he
    rename_i c hc
    cases he
    unfold enterA
    rw [hfn]
    simp only [hc]
    unfold kA
    rw [TT.ofArgs_arr _ _ hle]
    rfl

/-- One step of the abstract machine, whatever the frames are. -/
noncomputable def gen (E : Env) (fr : AFrame) (cs : List KFr) (H : AHeap) : Option KS := match astep E { fr, cs := toAs cs, H } with
  | some st => some (.a st.fr (st.cs.map KFr.a) st.H)
  | none => none

noncomputable def evalW (n : Nat) (tm : TT) (x : Operand) : Value := match x with
  | .tmp t => Bool.rec (motive := fun _ => Value) undef (tm.get (way t)) (Nat.ble (Nat.succ t) n)
  | .const v => v
  | .global g => .pointer (some ⟨g, 0, none⟩)
  | .func f => .func (.func f) #[] #[]

theorem evalW_eq (n : Nat) (tm : TT) : evalW n tm = evalT (tm.arr n) := by
  funext x
  cases x with
  | tmp t =>
    show Bool.rec _ _ _ = (tm.arr n).getD t undef
    cases h : Nat.ble (Nat.succ t) n with
    | true => rw [tm.arr_getD (Nat.le_of_ble_eq_true h)]
    | false =>
      have hn : ¬ t < n := fun q => by
        have : Nat.ble (Nat.succ t) n = true := by rw [Nat.ble_eq]; exact q
        rw [h] at this; cases this
      have hs : (tm.arr n).size ≤ t := by rw [TT.arr_size]; exact Nat.le_of_not_lt hn
      rw [Array.getD_eq_getD_getElem?, Array.getElem?_eq_none hs]
      rfl
  | const v => rfl
  | global g => rfl
  | func f => rfl

noncomputable def opK (E : Env) (fn : FuncId) (n : Nat) (tm : TT) (ops : Array Oper) (i : Nat) (r : List Nat) (kk : List Item) (o : Oper) (d : Option Way) (cs : List KFr) (H : AHeap) : Option KS :=
  match aopR E (evalW n tm) H o with
  | some (.next (.value v), H') => some (.k fn n (putW d v tm) (.inRegion ops r :: kk) cs H')
  | some (.next .skip, H') => some (.k fn n (putW d undef tm) (.inRegion ops r :: kk) cs H')
  | some (.next (.enter g args), H') => enterK E (.k fn n tm ops i r kk d) g args.toList cs H'
  | _ => gen E (kA fn n tm (.inRegion ops (i :: r) :: kk)) cs H

noncomputable def retK (E : Env) (fn : FuncId) (n : Nat) (tm : TT) (todo : List Item) (cs : List KFr) (H : AHeap) : Option KS :=
  match slotsW E.P fn n with
  | some ws => (match cs with
    | [] => some (.done fn (packV (gets tm ws)) H)
    | .k fn2 n2 tm2 ops _ r kk d :: cs' => some (.k fn2 n2 (putW d (packV (gets tm ws)) tm2) (.inRegion ops r :: kk) cs' H)
    | .a fr :: cs' => (match fr.finish (packV (gets tm ws)) with
      | some fr' => some (.a fr' cs' H)
      | none => none))
  | none => gen E (kA fn n tm todo) cs H

noncomputable def guardR (tm : TT) (g : Option (Way × Bool)) : Option Bool := match g with
  | none => some true
  | some (w, want) => (match tm.get w with
    | .bool b => some (Bool.rec (motive := fun _ => Bool) (!want) want b)
    | .tuple vs => (match vs.toList with
      | [] => some false
      | _ => none)
    | _ => none)

noncomputable def stepK (E : Env) (fn : FuncId) (n : Nat) (tm : TT) (todo : List Item) (cs : List KFr) (H : AHeap) : Option KS :=
  match norm E n 100 todo with
  | .op ops i r kk o g k d => (match guardR tm g with
    | some true => (match k.res E tm H with
      | .val v => some (.k fn n (putW d v tm) (.inRegion ops r :: kk) cs H)
      | .valH v H' => some (.k fn n (putW d v tm) (.inRegion ops r :: kk) cs H')
      | .enter f args => enterK E (.k fn n tm ops i r kk d) f args cs H
      | .no => opK E fn n tm ops i r kk o d cs H)
    | some false => some (.k fn n (putW d undef tm) (.inRegion ops r :: kk) cs H)
    | none => none)
  | .cond c a b => (match c.ev tm with
    | .bool x => some (.k fn n tm (Bool.rec (motive := fun _ => List Item) b a x) cs H)
    | _ => none)
  | .draw ops k => some (.a { kA fn n tm k with draw := some { ops, listed := Array.replicate ops.size false, lag := [], cur := none } } cs H)
  | .ret => retK E fn n tm todo cs H
  | .other => gen E (kA fn n tm todo) cs H

noncomputable def canK (fr : AFrame) : Bool := fr.defers.isEmpty && (match fr.mode with
  | .run => true
  | _ => false) && (match fr.kind with
  | .normal => true
  | _ => false) && fr.roundOf.isNone && fr.draw.isNone

theorem canK_spec {fr : AFrame} (h : canK fr = true) : fr = kA fr.fn fr.tmps.size (TT.ofArgs fr.tmps.toList) fr.todo := by
  unfold canK at h
  simp only [Bool.and_eq_true, List.isEmpty_iff, Option.isNone_iff_eq_none] at h
  obtain ⟨⟨⟨⟨h1, h2⟩, h3⟩, h4⟩, h5⟩ := h
  obtain ⟨fn, tmps, todo, defers, mode, kind, roundOf, draw⟩ := fr
  simp only at *
  subst h1 h4 h5
  have e1 : mode = .run := by revert h2; cases mode <;> simp
  have e2 : kind = .normal := by revert h3; cases kind <;> simp
  subst e1 e2
  unfold kA
  rw [TT.ofArgs_arr _ _ (by simp)]
  simp

def apartK (P : Program) (fr : AFrame) (cs : List KFr) : Bool :=
  match fr.pends P with
  | [] => true
  | l => nodup l && cs.all fun c => (c.pends P).all fun b => !l.contains b

theorem apartK_eq (P : Program) (fr : AFrame) (cs : List KFr) : apartK P fr cs = apartA P fr (toAs cs) := by
  unfold apartK apartA toAs
  generalize fr.pends P = l
  cases l with
  | nil => rfl
  | cons a l =>
    simp only [List.all_map]
    congr 2
    funext c
    simp only [Function.comp]
    rw [c.pends_eq]

noncomputable def doneK (E : Env) (fr : AFrame) (cs : List KFr) (x : AOut) (H : AHeap) : Option KS := match x with
  | .next (.value v) => (match fr.finish v with
    | some fr' => some (.a fr' cs H)
    | none => none)
  | .next .skip => (match fr.finish undef with
    | some fr' => some (.a fr' cs H)
    | none => none)
  | .next (.enter f args) => enterK E (.a fr) f args.toList cs H
  | _ => none

/-- A step in a region whose order is drawn, part by part. -/
noncomputable def drawP (E : Env) (fn : FuncId) (tmps : Array Value) (todo : List Item) (defers : List Deferred) (kind : CallKind) (roundOf : Option Nat) (ops : Array Oper) (listed : Array Bool) (lag : List Nat) (cs : List KFr) (H : AHeap) : Option KS :=
    match Region.ready .any ops listed with
    | [] => (match listed.toList.all id && lag.all (still E ops tmps H) && apartK E.P ⟨fn, tmps, todo, defers, .run, kind, roundOf, some ⟨ops, listed, lag, none⟩⟩ cs with
      | true => some (.a ⟨fn, tmps, todo, defers, .run, kind, roundOf, none⟩ cs H)
      | false => none)
    | [i] =>
      (match lag.all (still E ops tmps H) && (lag.filter fun j => !isBefore ops ops.size j i).all (fun j => apartB ops i j) && apartK E.P ⟨fn, tmps, todo, defers, .run, kind, roundOf, some ⟨ops, listed, lag, none⟩⟩ cs with
      | true => (match ops[i]? with
        | some o => (match wantedA ops tmps o with
          | some false => (match AFrame.finish ⟨fn, tmps, todo, defers, .run, kind, roundOf, some ⟨ops, listed.setIfInBounds i true, lag.filter fun j => !isBefore ops ops.size j i, some i⟩⟩ undef with
            | some fr' => some (.a fr' cs H)
            | none => none)
          | some true => (match aop E tmps H o with
            | some (x, H') => doneK E ⟨fn, tmps, todo, defers, .run, kind, roundOf, some ⟨ops, listed.setIfInBounds i true, lag.filter fun j => !isBefore ops ops.size j i, some i⟩⟩ cs x H'
            | none => none)
          | none => none)
        | none => none)
      | false => none)
    | l => match firstFloat E ops tmps H lag l with
      | some (i, v) => some (.a ⟨fn, putT tmps ((ops[i]?).bind (·.dst)) v, todo, defers, .run, kind, roundOf, some ⟨ops, listed.setIfInBounds i true, lag ++ [i], none⟩⟩ cs H)
      | none => match firstMake E ops tmps.size lag l with
        | some (i, o, t) => some (.a ⟨fn, tmps.setIfInBounds t (.pointer (some ⟨H.next, 0, none⟩)), todo, defers, .run, kind, roundOf, some ⟨ops, listed.setIfInBounds i true, lag ++ [i], none⟩⟩ cs (H.new o))
        | none => none

noncomputable def drawK (E : Env) (fr : AFrame) (d : Draw) (cs : List KFr) (H : AHeap) : Option KS :=
  AFrame.rec (motive := fun _ => Option KS) (fun fn tmps todo defers _ kind roundOf _ => Draw.rec (motive := fun _ => Option KS) (fun ops listed lag cur =>
    Option.rec (motive := fun _ => Option KS) (Array.rec (motive := fun _ => Option KS) (fun l => drawP E fn tmps todo defers kind roundOf ⟨l⟩ listed lag cs H) ops) (fun _ => none) cur) d) fr

theorem if_match {α : Type} (b : Bool) (x y : α) : (match b with | true => x | false => y) = if b then x else y := by cases b <;> rfl

theorem drawK_eq {E : Env} {fr : AFrame} {d : Draw} {cs : List KFr} {H : AHeap} (hm : fr.mode = .run) (hd : fr.draw = some d) : drawK E fr d cs H =
  match d.cur with
  | some _ => none
  | none =>
    match Region.ready .any d.ops d.listed with
    | [] => if d.listed.toList.all id && d.lag.all (still E d.ops fr.tmps H) && apartK E.P fr cs then some (.a { fr with draw := none } cs H) else none
    | [i] =>
      let lag := d.lag.filter fun j => !isBefore d.ops d.ops.size j i
      if d.lag.all (still E d.ops fr.tmps H) && lag.all (fun j => apartB d.ops i j) && apartK E.P fr cs then
        match d.ops[i]? with
        | some o =>
          let d' : Draw := { d with listed := d.listed.setIfInBounds i true, lag, cur := some i }
          match wantedA d.ops fr.tmps o with
          | some false => (match AFrame.finish { fr with draw := some d' } undef with
            | some fr' => some (.a fr' cs H)
            | none => none)
          | some true => (match aop E fr.tmps H o with
            | some (x, H') => doneK E { fr with draw := some d' } cs x H'
            | none => none)
          | none => none
        | none => none
      else none
    | l => match firstFloat E d.ops fr.tmps H d.lag l with
      | some (i, v) => some (.a { fr with tmps := putT fr.tmps ((d.ops[i]?).bind (·.dst)) v, draw := some { d with listed := d.listed.setIfInBounds i true, lag := d.lag ++ [i] } } cs H)
      | none => match firstMake E d.ops fr.tmps.size d.lag l with
        | some (i, o, t) => some (.a { fr with tmps := fr.tmps.setIfInBounds t (.pointer (some ⟨H.next, 0, none⟩)), draw := some { d with listed := d.listed.setIfInBounds i true, lag := d.lag ++ [i] } } cs (H.new o))
        | none => none := by
  obtain ⟨fn, tmps, todo, defers, mode, kind, roundOf, draw⟩ := fr
  obtain ⟨⟨ops⟩, listed, lag, cur⟩ := d
  simp only at hm hd
  subst hm hd
  cases cur with
  | some _ => rfl
  | none =>
    show drawP E fn tmps todo defers kind roundOf ⟨ops⟩ listed lag cs H = _
    unfold drawP
    simp only [if_match]

noncomputable def stepA (E : Env) (fr : AFrame) (cs : List KFr) (H : AHeap) : Option KS :=
  match fr.mode, fr.draw with
  | .run, some d => (match drawK E fr d cs H with
    | some ks => some ks
    | none => gen E fr cs H)
  | _, _ => Bool.rec (motive := fun _ => Option KS) (Bool.rec (motive := fun _ => Option KS) (gen E fr cs H) (match resultsA E { fr, cs := toAs cs, H } with
      | some v => some (.done fr.fn v H)
      | none => none) (lastA fr.fn { fr, cs := toAs cs, H }))
    (some (.k fr.fn fr.tmps.size (TT.ofArgs fr.tmps.toList) fr.todo cs H)) (canK fr)

noncomputable def krun (E : Env) (n : Nat) : KS → Option (FuncId × Value × AHeap) :=
  Nat.rec (motive := fun _ => KS → Option (FuncId × Value × AHeap)) (fun _ => none)
    (fun _ ih ks => KS.rec (motive := fun _ => Option (FuncId × Value × AHeap))
      (fun fn n tm todo cs H => Option.rec (motive := fun _ => Option (FuncId × Value × AHeap)) none ih (stepK E fn n tm todo cs H))
      (fun fr cs H => Option.rec (motive := fun _ => Option (FuncId × Value × AHeap)) none ih (stepA E fr cs H))
      (fun fn v H => some (fn, v, H)) ks) n

/-- So many steps. -/
noncomputable def kgo (E : Env) (n : Nat) : KS → Option KS :=
  Nat.rec (motive := fun _ => KS → Option KS) (fun ks => some ks)
    (fun _ ih ks => KS.rec (motive := fun _ => Option KS)
      (fun fn n tm todo cs H => Option.rec (motive := fun _ => Option KS) none ih (stepK E fn n tm todo cs H))
      (fun fr cs H => Option.rec (motive := fun _ => Option KS) none ih (stepA E fr cs H))
      (fun fn v H => some (.done fn v H)) ks) n

end Go.Ev
