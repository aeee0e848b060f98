import Derived.Test.YtblklpjkmegaaaaGreatDoorFaF
namespace Go.Ev
open Go.RowKit

noncomputable def kA (fn : FuncId) (n : Nat) (tm : TT) (todo : List Item) : AFrame :=
  { fn, tmps := tm.arr n, todo, defers := [], mode := .run, kind := .normal, roundOf := none, draw := none }

/-- A frame that waits. -/
inductive KFr where
  | k (fn : FuncId) (n : Nat) (tm : TT) (ops : Array Oper) (i : Nat) (r : List Nat) (kk : List Item) (d : Option Way)
  | d (fn : FuncId) (n : Nat) (tm : TT) (todo : List Item) (ops : Array Oper) (listed : Array Bool) (lag : List Nat) (i : Nat) (d : Option Way)
  | a (fr : AFrame)

/-- A frame in a region whose order is drawn. -/
noncomputable def dA (fn : FuncId) (n : Nat) (tm : TT) (todo : List Item) (ops : Array Oper) (listed : Array Bool) (lag : List Nat) (cur : Option Nat) : AFrame :=
  { fn, tmps := tm.arr n, todo, defers := [], mode := .run, kind := .normal, roundOf := none, draw := some ⟨ops, listed, lag, cur⟩ }

noncomputable def getW (n : Nat) (tm : TT) (t : Nat) : Option Value := Bool.rec (motive := fun _ => Option Value) none (some (tm.get (way t))) (Nat.ble (Nat.succ t) n)
theorem getW_eq (n : Nat) (tm : TT) (t : Nat) : getW n tm t = (tm.arr n)[t]? := by
  unfold getW
  cases h : Nat.ble (Nat.succ t) n with
  | true => rw [tm.arr_get (Nat.le_of_ble_eq_true h)]
  | false =>
    have hn : ¬ t < n := fun q => by
      have : Nat.ble (Nat.succ t) n = true := by rw [Nat.ble_eq]; exact q
      rw [h] at this; cases this
    have hs : (tm.arr n).size ≤ t := by rw [TT.arr_size]; exact Nat.le_of_not_lt hn
    rw [Array.getElem?_eq_none hs]

noncomputable def madeBlkW (P : Program) (ops : Array Oper) (n : Nat) (tm : TT) (i : Nat) : Option Nat :=
  match (ops[i]?).bind (makes P) with
  | some (_, d) => match getW n tm d with
    | some (.pointer (some a)) => some a.block
    | _ => none
  | none => none
theorem madeBlkW_eq (P : Program) (ops : Array Oper) (n : Nat) (tm : TT) (i : Nat) : madeBlkW P ops n tm i = madeBlk P ops (tm.arr n) i := by
  unfold madeBlkW madeBlk
  simp only [getW_eq]
  rfl

noncomputable def KFr.toA : KFr → AFrame
  | .k fn n tm ops i r kk _ => kA fn n tm (.inRegion ops (i :: r) :: kk)
  | .d fn n tm todo ops listed lag i _ => dA fn n tm todo ops listed lag (some i)
  | .a fr => fr
def KFr.ok : KFr → Prop
  | .k _ n _ ops i _ _ dw => dstW n ((ops[i]?).bind (·.dst)) = some dw
  | .d _ n _ _ ops _ _ i dw => dstW n ((ops[i]?).bind (·.dst)) = some dw
  | .a _ => True
noncomputable def KFr.pends (P : Program) : KFr → List Nat
  | .k .. => []
  | .d _ n tm _ ops _ lag _ _ => lag.filterMap (madeBlkW P ops n tm)
  | .a fr => fr.pends P

theorem KFr.pends_eq (P : Program) (c : KFr) : c.pends P = c.toA.pends P := by
  cases c with
  | k => rfl
  | a => rfl
  | d fn n tm todo ops listed lag i d =>
    show lag.filterMap (madeBlkW P ops n tm) = lag.filterMap (madeBlk P ops (tm.arr n))
    congr 1
    funext j
    exact madeBlkW_eq P ops n tm j

inductive KS where
  | k (fn : FuncId) (n : Nat) (tm : TT) (todo : List Item) (cs : List KFr) (H : AHeap)
  | d (fn : FuncId) (n : Nat) (tm : TT) (todo : List Item) (ops : Array Oper) (listed : Array Bool) (lag : List Nat) (cs : List KFr) (H : AHeap)
  | a (fr : AFrame) (cs : List KFr) (H : AHeap)
  | done (fn : FuncId) (v : Value) (H : AHeap)

noncomputable def toAs (cs : List KFr) : List AFrame := cs.map KFr.toA

noncomputable def putW (d : Option Way) (v : Value) (tm : TT) : TT := Option.rec (motive := fun _ => TT) tm (fun w => TT.set v w tm) d

theorem putW_arr {n : Nat} {t : Option Tmp} {d : Option Way} (h : dstW n t = some d) (v : Value) (tm : TT) : (putW d v tm).arr n = putT (tm.arr n) t v := by
  unfold dstW at h
  split at h
  · cases h; rfl
  · split at h
    · cases h; exact tm.arr_set n _ v
    · cases h

noncomputable def lenL {α : Type} (l : List α) : Nat := List.rec (motive := fun _ => Nat) 0 (fun _ _ ih => Nat.succ ih) l
theorem lenL_eq {α : Type} : ∀ (l : List α), lenL l = l.length
  | [] => rfl
  | _ :: l => by show Nat.succ (lenL l) = _; rw [lenL_eq l]; rfl

def ent (E : Env) (g : FuncId) : Option (List Item × Nat) := match E.P.funcs[g]? with
  | some fn => (match fn.body with
    | some c => some ([.code c], fn.ntmps)
    | none => none)
  | none => none

noncomputable def enterK (E : Env) (f : KFr) (g : FuncId) (args : List Value) (cs : List KFr) (H : AHeap) : Option KS := match ent E g with
  | some (todo, m) => Bool.rec (motive := fun _ => Option KS) none (some (.k g m (TT.ofArgs args) todo (f :: cs) H)) (Nat.ble (lenL args) m)
  | none => none

theorem enterK_spec {E : Env} {f : KFr} {g : FuncId} {args : List Value} {cs : List KFr} {H : AHeap} {ks : KS} (h : enterK E f g args cs H = some ks) :
    ∃ todo m, ks = .k g m (TT.ofArgs args) todo (f :: cs) H ∧ enterA E.P g ⟨args⟩ .normal = some (kA g m (TT.ofArgs args) todo) := by
  unfold enterK at h
  split at h
  case h_2 => cases h
  rename_i todo m he
  cases hb : Nat.ble (lenL args) m with
  | false => rw [hb] at h; cases h
  | true =>
    rw [hb] at h
    cases h
    refine ⟨todo, m, rfl, ?_⟩
    have hle : args.length ≤ m := by
      have := Nat.le_of_ble_eq_true hb
      rw [lenL_eq] at this
      exact this
    unfold ent at he
    split at he
    case h_2 => cases he
    rename_i fn hfn
    split at he
    case h_2 => cases he
    rename_i c hc
    cases he
    unfold enterA
    rw [hfn]
    simp only [hc]
    unfold kA
    rw [TT.ofArgs_arr _ _ hle]
    rfl

/-- One step of the abstract machine, whatever the frames are. -/
noncomputable def gen (E : Env) (fr : AFrame) (cs : List KFr) (H : AHeap) : Option KS := match astep E { fr, cs := toAs cs, H } with
  | some st => some (.a st.fr (st.cs.map KFr.a) st.H)
  | none => none

noncomputable def evalW (n : Nat) (tm : TT) (x : Operand) : Value := match x with
  | .tmp t => Bool.rec (motive := fun _ => Value) undef (tm.get (way t)) (Nat.ble (Nat.succ t) n)
  | .const v => v
  | .global g => .pointer (some ⟨g, 0, none⟩)
  | .func f => .func (.func f) #[] #[]

theorem evalW_eq (n : Nat) (tm : TT) : evalW n tm = evalT (tm.arr n) := by
  funext x
  cases x with
  | tmp t =>
    show Bool.rec _ _ _ = (tm.arr n).getD t undef
    cases h : Nat.ble (Nat.succ t) n with
    | true => rw [tm.arr_getD (Nat.le_of_ble_eq_true h)]
    | false =>
      have hn : ¬ t < n := fun q => by
        have : Nat.ble (Nat.succ t) n = true := by rw [Nat.ble_eq]; exact q
        rw [h] at this; cases this
      have hs : (tm.arr n).size ≤ t := by rw [TT.arr_size]; exact Nat.le_of_not_lt hn
      rw [Array.getD_eq_getD_getElem?, Array.getElem?_eq_none hs]
      rfl
  | const v => rfl
  | global g => rfl
  | func f => rfl

noncomputable def opK (E : Env) (fn : FuncId) (n : Nat) (tm : TT) (ops : Array Oper) (i : Nat) (r : List Nat) (kk : List Item) (o : Oper) (d : Option Way) (cs : List KFr) (H : AHeap) : Option KS :=
  match aopR E (evalW n tm) H o with
  | some (.next (.value v), H') => some (.k fn n (putW d v tm) (.inRegion ops r :: kk) cs H')
  | some (.next .skip, H') => some (.k fn n (putW d undef tm) (.inRegion ops r :: kk) cs H')
  | some (.next (.enter g args), H') => enterK E (.k fn n tm ops i r kk d) g args.toList cs H'
  | _ => gen E (kA fn n tm (.inRegion ops (i :: r) :: kk)) cs H

noncomputable def retK (E : Env) (fn : FuncId) (n : Nat) (tm : TT) (todo : List Item) (cs : List KFr) (H : AHeap) : Option KS :=
  match slotsW E.P fn n with
  | some ws => (match cs with
    | [] => some (.done fn (packV (gets tm ws)) H)
    | .k fn2 n2 tm2 ops _ r kk d :: cs' => some (.k fn2 n2 (putW d (packV (gets tm ws)) tm2) (.inRegion ops r :: kk) cs' H)
    | .d fn2 n2 tm2 todo2 ops listed lag i d :: cs' => Bool.rec (motive := fun _ => Option KS) none (some (.d fn2 n2 (putW d (packV (gets tm ws)) tm2) todo2 ops listed lag cs' H)) (lagApart ops lag ((ops[i]?).bind (·.dst)))
    | .a fr :: cs' => (match fr.finish (packV (gets tm ws)) with
      | some fr' => some (.a fr' cs' H)
      | none => none))
  | none => gen E (kA fn n tm todo) cs H

noncomputable def guardR (tm : TT) (g : Option (Way × Bool)) : Option Bool := match g with
  | none => some true
  | some (w, want) => (match tm.get w with
    | .bool b => some (Bool.rec (motive := fun _ => Bool) (!want) want b)
    | .tuple vs => (match vs.toList with
      | [] => some false
      | _ => none)
    | _ => none)

noncomputable def stepK (E : Env) (fn : FuncId) (n : Nat) (tm : TT) (todo : List Item) (cs : List KFr) (H : AHeap) : Option KS :=
  match norm E n 100 todo with
  | .op ops i r kk o g k d => (match guardR tm g with
    | some true => (match k.res E tm H with
      | .val v => some (.k fn n (putW d v tm) (.inRegion ops r :: kk) cs H)
      | .valH v H' => some (.k fn n (putW d v tm) (.inRegion ops r :: kk) cs H')
      | .enter f args => enterK E (.k fn n tm ops i r kk d) f args cs H
      | .no => opK E fn n tm ops i r kk o d cs H)
    | some false => some (.k fn n (putW d undef tm) (.inRegion ops r :: kk) cs H)
    | none => none)
  | .cond c a b => (match c.ev tm with
    | .bool x => some (.k fn n tm (Bool.rec (motive := fun _ => List Item) b a x) cs H)
    | _ => none)
  | .draw ops k => some (.d fn n tm k ops (Array.replicate ops.size false) [] cs H)
  | .ret => retK E fn n tm todo cs H
  | .other => gen E (kA fn n tm todo) cs H

noncomputable def canK (fr : AFrame) : Bool := fr.defers.isEmpty && (match fr.mode with
  | .run => true
  | _ => false) && (match fr.kind with
  | .normal => true
  | _ => false) && fr.roundOf.isNone && fr.draw.isNone

theorem canK_spec {fr : AFrame} (h : canK fr = true) : fr = kA fr.fn fr.tmps.size (TT.ofArgs fr.tmps.toList) fr.todo := by
  unfold canK at h
  simp only [Bool.and_eq_true, List.isEmpty_iff, Option.isNone_iff_eq_none] at h
  obtain ⟨⟨⟨⟨h1, h2⟩, h3⟩, h4⟩, h5⟩ := h
  obtain ⟨fn, tmps, todo, defers, mode, kind, roundOf, draw⟩ := fr
  simp only at *
  subst h1 h4 h5
  have e1 : mode = .run := by revert h2; cases mode <;> simp
  have e2 : kind = .normal := by revert h3; cases kind <;> simp
  subst e1 e2
  unfold kA
  rw [TT.ofArgs_arr _ _ (by simp)]
  simp

noncomputable def apartK (P : Program) (fr : AFrame) (cs : List KFr) : Bool :=
  match fr.pends P with
  | [] => true
  | l => nodup l && cs.all fun c => (c.pends P).all fun b => !l.contains b

theorem apartK_eq (P : Program) (fr : AFrame) (cs : List KFr) : apartK P fr cs = apartA P fr (toAs cs) := by
  unfold apartK apartA toAs
  generalize fr.pends P = l
  cases l with
  | nil => rfl
  | cons a l =>
    simp only [List.all_map]
    congr 2
    funext c
    simp only [Function.comp]
    rw [c.pends_eq]

noncomputable def doneK (E : Env) (fr : AFrame) (cs : List KFr) (x : AOut) (H : AHeap) : Option KS := match x with
  | .next (.value v) => (match fr.finish v with
    | some fr' => some (.a fr' cs H)
    | none => none)
  | .next .skip => (match fr.finish undef with
    | some fr' => some (.a fr' cs H)
    | none => none)
  | .next (.enter f args) => enterK E (.a fr) f args.toList cs H
  | _ => none

/-- A step in a region whose order is drawn, part by part. -/
noncomputable def drawP (E : Env) (fn : FuncId) (tmps : Array Value) (todo : List Item) (defers : List Deferred) (kind : CallKind) (roundOf : Option Nat) (ops : Array Oper) (listed : Array Bool) (lag : List Nat) (cs : List KFr) (H : AHeap) : Option KS :=
    match Region.ready .any ops listed with
    | [] => (match listed.toList.all id && lag.all (still E ops tmps H) && apartK E.P ⟨fn, tmps, todo, defers, .run, kind, roundOf, some ⟨ops, listed, lag, none⟩⟩ cs with
      | true => some (.a ⟨fn, tmps, todo, defers, .run, kind, roundOf, none⟩ cs H)
      | false => none)
    | [i] =>
      (match lag.all (still E ops tmps H) && (lag.filter fun j => !isBefore ops ops.size j i).all (fun j => apartB ops i j) && apartK E.P ⟨fn, tmps, todo, defers, .run, kind, roundOf, some ⟨ops, listed, lag, none⟩⟩ cs with
      | true => (match ops[i]? with
        | some o => (match wantedA ops tmps o with
          | some false => (match AFrame.finish ⟨fn, tmps, todo, defers, .run, kind, roundOf, some ⟨ops, listed.setIfInBounds i true, lag.filter fun j => !isBefore ops ops.size j i, some i⟩⟩ undef with
            | some fr' => some (.a fr' cs H)
            | none => none)
          | some true => (match aop E tmps H o with
            | some (x, H') => doneK E ⟨fn, tmps, todo, defers, .run, kind, roundOf, some ⟨ops, listed.setIfInBounds i true, lag.filter fun j => !isBefore ops ops.size j i, some i⟩⟩ cs x H'
            | none => none)
          | none => none)
        | none => none)
      | false => none)
    | l => match firstFloat E ops tmps H lag l with
      | some (i, v) => some (.a ⟨fn, putT tmps ((ops[i]?).bind (·.dst)) v, todo, defers, .run, kind, roundOf, some ⟨ops, listed.setIfInBounds i true, lag ++ [i], none⟩⟩ cs H)
      | none => match firstMake E ops tmps.size lag l with
        | some (i, o, t) => some (.a ⟨fn, tmps.setIfInBounds t (.pointer (some ⟨H.next, 0, none⟩)), todo, defers, .run, kind, roundOf, some ⟨ops, listed.setIfInBounds i true, lag ++ [i], none⟩⟩ cs (H.new o))
        | none => none

noncomputable def drawK (E : Env) (fr : AFrame) (d : Draw) (cs : List KFr) (H : AHeap) : Option KS :=
  AFrame.rec (motive := fun _ => Option KS) (fun fn tmps todo defers _ kind roundOf _ => Draw.rec (motive := fun _ => Option KS) (fun ops listed lag cur =>
    Option.rec (motive := fun _ => Option KS) (Array.rec (motive := fun _ => Option KS) (fun l => drawP E fn tmps todo defers kind roundOf ⟨l⟩ listed lag cs H) ops) (fun _ => none) cur) d) fr

theorem if_match {α : Type} (b : Bool) (x y : α) : (match b with | true => x | false => y) = if b then x else y := by cases b <;> rfl

theorem drawK_eq {E : Env} {fr : AFrame} {d : Draw} {cs : List KFr} {H : AHeap} (hm : fr.mode = .run) (hd : fr.draw = some d) : drawK E fr d cs H =
  match d.cur with
  | some _ => none
  | none =>
    match Region.ready .any d.ops d.listed with
    | [] => if d.listed.toList.all id && d.lag.all (still E d.ops fr.tmps H) && apartK E.P fr cs then some (.a { fr with draw := none } cs H) else none
    | [i] =>
      let lag := d.lag.filter fun j => !isBefore d.ops d.ops.size j i
      if d.lag.all (still E d.ops fr.tmps H) && lag.all (fun j => apartB d.ops i j) && apartK E.P fr cs then
        match d.ops[i]? with
        | some o =>
          let d' : Draw := { d with listed := d.listed.setIfInBounds i true, lag, cur := some i }
          match wantedA d.ops fr.tmps o with
          | some false => (match AFrame.finish { fr with draw := some d' } undef with
            | some fr' => some (.a fr' cs H)
            | none => none)
          | some true => (match aop E fr.tmps H o with
            | some (x, H') => doneK E { fr with draw := some d' } cs x H'
            | none => none)
          | none => none
        | none => none
      else none
    | l => match firstFloat E d.ops fr.tmps H d.lag l with
      | some (i, v) => some (.a { fr with tmps := putT fr.tmps ((d.ops[i]?).bind (·.dst)) v, draw := some { d with listed := d.listed.setIfInBounds i true, lag := d.lag ++ [i] } } cs H)
      | none => match firstMake E d.ops fr.tmps.size d.lag l with
        | some (i, o, t) => some (.a { fr with tmps := fr.tmps.setIfInBounds t (.pointer (some ⟨H.next, 0, none⟩)), draw := some { d with listed := d.listed.setIfInBounds i true, lag := d.lag ++ [i] } } cs (H.new o))
        | none => none := by
  obtain ⟨fn, tmps, todo, defers, mode, kind, roundOf, draw⟩ := fr
  obtain ⟨⟨ops⟩, listed, lag, cur⟩ := d
  simp only at hm hd
  subst hm hd
  cases cur with
  | some _ => rfl
  | none =>
    show drawP E fn tmps todo defers kind roundOf ⟨ops⟩ listed lag cs H = _
    unfold drawP
    simp only [if_match]

noncomputable def stepA (E : Env) (fr : AFrame) (cs : List KFr) (H : AHeap) : Option KS :=
  match fr.mode, fr.draw with
  | .run, some d => (match drawK E fr d cs H with
    | some ks => some ks
    | none => gen E fr cs H)
  | _, _ => Bool.rec (motive := fun _ => Option KS) (Bool.rec (motive := fun _ => Option KS) (gen E fr cs H) (match resultsA E { fr, cs := toAs cs, H } with
      | some v => some (.done fr.fn v H)
      | none => none) (lastA fr.fn { fr, cs := toAs cs, H }))
    (some (.k fr.fn fr.tmps.size (TT.ofArgs fr.tmps.toList) fr.todo cs H)) (canK fr)

noncomputable def wantedW (ops : Array Oper) (n : Nat) (tm : TT) (o : Oper) : Option Bool :=
  match o.guard with
  | none => some true
  | some (j, want) => match ((ops[j]?).bind (·.dst)).bind (getW n tm) with
    | some (.bool b) => some (b == want)
    | some (.tuple vs) => if vs.isEmpty then some false else none
    | _ => none
theorem wantedW_eq (ops : Array Oper) (n : Nat) (tm : TT) (o : Oper) : wantedW ops n tm o = wantedA ops (tm.arr n) o := by
  unfold wantedW wantedA
  simp only [show getW n tm = fun t => (tm.arr n)[t]? from funext (getW_eq n tm)]
  rfl

/-- What an operation that only reads gives, told by what its operands are. -/
noncomputable def aquietR (E : Env) (r : Operand → Value) (H : AHeap) (o : Oper) : Option Value :=
  if o.op.operands.toList.all (okOperand E.G) then
    match o.op with
    | .move x | .assign x => some (r x)
    | .panic _ | .defer _ | .mapUpdate .. | .insert .. => none
    | .lookup t m k ok => if scalar 20 (r k) then alookup E.P H t (r m) (r k) ok else none
    | .call c => (match c.callee with
      | .builtin .unsafeSliceData => (match (mapA r c.args).toList with
        | [s] => sliceData s
        | _ => none)
      | .builtin .len => if allScalar r o.op then apureQ E r o else agenQ E H r o
      | _ => none)
    | .convert src dst x => if convPtr E.P H src dst (r x) then some (r x) else if allScalar r o.op then apureQ E r o else none
    | .binOp op t x y _ => match ptrEq E.P op t (r x) (r y) with
      | some v => some v
      | none => if allScalar r o.op then apureQ E r o else agenQ E H r o
    | op => if genFirst op then agenQ E H r o else if allScalar r op then apureQ E r o else agenQ E H r o
  else none
theorem aquietR_eq (E : Env) (n : Nat) (tm : TT) (H : AHeap) (o : Oper) : aquietR E (evalW n tm) H o = aquiet E (tm.arr n) H o := by
  rw [evalW_eq]
  rfl

noncomputable def floatsW (E : Env) (ops : Array Oper) (n : Nat) (tm : TT) (H : AHeap) (i : Nat) : Option Value :=
  match ops[i]? with
  | some o => match wantedW ops n tm o with
    | some true => aquietR E (evalW n tm) H o
    | some false => some undef
    | none => none
  | none => none
theorem floatsW_eq (E : Env) (ops : Array Oper) (n : Nat) (tm : TT) (H : AHeap) (i : Nat) : floatsW E ops n tm H i = floats E ops (tm.arr n) H i := by
  unfold floatsW floats
  simp only [wantedW_eq, aquietR_eq]
  rfl

noncomputable def firstFloatW (E : Env) (ops : Array Oper) (n : Nat) (tm : TT) (H : AHeap) (lag : List Nat) : List Nat → Option (Nat × Value)
  | [] => none
  | i :: rest =>
    if selfOK ops i && lag.all (fun j => behindOK ops j i) then
      match floatsW E ops n tm H i with
      | some v => some (i, v)
      | none => firstFloatW E ops n tm H lag rest
    else firstFloatW E ops n tm H lag rest
theorem firstFloatW_eq (E : Env) (ops : Array Oper) (n : Nat) (tm : TT) (H : AHeap) (lag : List Nat) : ∀ l, firstFloatW E ops n tm H lag l = firstFloat E ops (tm.arr n) H lag l
  | [] => rfl
  | i :: rest => by
    unfold firstFloatW firstFloat
    simp only [floatsW_eq, firstFloatW_eq E ops n tm H lag rest]
    rfl

noncomputable def stillW (E : Env) (ops : Array Oper) (n : Nat) (tm : TT) (H : AHeap) (i : Nat) : Bool :=
  match (ops[i]?).bind (makes E.P) with
  | some (o, d) => (match getW n tm d with
    | some (.pointer (some a)) => a.off == 0 && a.spot.isNone && fresh H o a.block
    | _ => false)
  | none => match floatsW E ops n tm H i with
    | some v => match (ops[i]?).bind (·.dst) with
      | some d => sameVal 20 v (evalW n tm (.tmp d))
      | none => true
    | none => false
theorem stillW_eq (E : Env) (ops : Array Oper) (n : Nat) (tm : TT) (H : AHeap) (i : Nat) : stillW E ops n tm H i = still E ops (tm.arr n) H i := by
  unfold stillW still
  simp only [getW_eq, floatsW_eq, evalW_eq]
  rfl

noncomputable def apartD (P : Program) (l : List Nat) (cs : List KFr) : Bool :=
  match l with
  | [] => true
  | l => nodup l && cs.all fun c => (c.pends P).all fun b => !l.contains b

/-- A step in a region whose order is drawn. -/
noncomputable def drawD (E : Env) (fn : FuncId) (n : Nat) (tm : TT) (todo : List Item) (ops : Array Oper) (listed : Array Bool) (lag : List Nat) (cs : List KFr) (H : AHeap) : Option KS :=
  match Region.ready .any ops listed with
  | [] => (match listed.toList.all id && lag.all (stillW E ops n tm H) && apartD E.P (lag.filterMap (madeBlkW E.P ops n tm)) cs with
    | true => some (.k fn n tm todo cs H)
    | false => none)
  | [i] =>
    (match lag.all (stillW E ops n tm H) && (lag.filter fun j => !isBefore ops ops.size j i).all (fun j => apartB ops i j) && apartD E.P (lag.filterMap (madeBlkW E.P ops n tm)) cs with
    | true => (match ops[i]? with
      | some o => (match dstW n o.dst with
        | some d => (match wantedW ops n tm o with
          | some false => (match lagApart ops (lag.filter fun j => !isBefore ops ops.size j i) o.dst with
            | true => some (.d fn n (putW d undef tm) todo ops (listed.setIfInBounds i true) (lag.filter fun j => !isBefore ops ops.size j i) cs H)
            | false => none)
          | some true => (match aopR E (evalW n tm) H o with
            | some (.next (.value v), H') => (match lagApart ops (lag.filter fun j => !isBefore ops ops.size j i) o.dst with
              | true => some (.d fn n (putW d v tm) todo ops (listed.setIfInBounds i true) (lag.filter fun j => !isBefore ops ops.size j i) cs H')
              | false => none)
            | some (.next .skip, H') => (match lagApart ops (lag.filter fun j => !isBefore ops ops.size j i) o.dst with
              | true => some (.d fn n (putW d undef tm) todo ops (listed.setIfInBounds i true) (lag.filter fun j => !isBefore ops ops.size j i) cs H')
              | false => none)
            | some (.next (.enter f args), H') => enterK E (.d fn n tm todo ops (listed.setIfInBounds i true) (lag.filter fun j => !isBefore ops ops.size j i) i d) f args.toList cs H'
            | _ => none)
          | none => none)
        | none => none)
      | none => none)
    | false => none)
  | l => match firstFloatW E ops n tm H lag l with
    | some (i, v) => (match dstW n ((ops[i]?).bind (·.dst)) with
      | some d => some (.d fn n (putW d v tm) todo ops (listed.setIfInBounds i true) (lag ++ [i]) cs H)
      | none => none)
    | none => match firstMake E ops n lag l with
      | some (i, o, t) => some (.d fn n (TT.set (.pointer (some ⟨H.next, 0, none⟩)) (way t) tm) todo ops (listed.setIfInBounds i true) (lag ++ [i]) cs (H.new o))
      | none => none

noncomputable def stepD (E : Env) (fn : FuncId) (n : Nat) (tm : TT) (todo : List Item) (ops : Array Oper) (listed : Array Bool) (lag : List Nat) (cs : List KFr) (H : AHeap) : Option KS :=
  match drawD E fn n tm todo ops listed lag cs H with
  | some ks => some ks
  | none => gen E (dA fn n tm todo ops listed lag none) cs H

/-- So many steps. -/
noncomputable def kgo (E : Env) (n : Nat) : KS → Option KS :=
  Nat.rec (motive := fun _ => KS → Option KS) (fun ks => some ks)
    (fun _ ih ks => KS.rec (motive := fun _ => Option KS)
      (fun fn n tm todo cs H => Option.rec (motive := fun _ => Option KS) none ih (stepK E fn n tm todo cs H))
      (fun fn n tm todo ops listed lag cs H => Option.rec (motive := fun _ => Option KS) none ih (stepD E fn n tm todo ops listed lag cs H))
      (fun fr cs H => Option.rec (motive := fun _ => Option KS) none ih (stepA E fr cs H))
      (fun fn v H => some (.done fn v H)) ks) n

end Go.Ev
