import Derived.Test.YtmkapmbmgpnjaaaFaF
namespace Go.Ev
open Go.RowKit

structure FX where
  defers : List Deferred
  kind : CallKind
  roundOf : Option Nat

def nx : FX := ⟨[], .normal, none⟩

noncomputable def kA (x : FX) (fn : FuncId) (n : Nat) (tm : TT) (todo : List Item) : AFrame :=
  { fn, tmps := tm.arr n, todo, defers := x.defers, mode := .run, kind := x.kind, roundOf := x.roundOf, draw := none }

inductive KFr where
  | k (x : FX) (fn : FuncId) (n : Nat) (tm : TT) (ops : Array Oper) (i : Nat) (r : List Nat) (kk : List Item) (d : Option Way)
  | d (x : FX) (fn : FuncId) (n : Nat) (tm : TT) (todo : List Item) (ops : Array Oper) (listed : Array Bool) (lag : List Nat) (i : Nat) (d : Option Way)
  | a (fr : AFrame)

noncomputable def dA (x : FX) (fn : FuncId) (n : Nat) (tm : TT) (todo : List Item) (ops : Array Oper) (listed : Array Bool) (lag : List Nat) (cur : Option Nat) : AFrame :=
  { fn, tmps := tm.arr n, todo, defers := x.defers, mode := .run, kind := x.kind, roundOf := x.roundOf, draw := some ⟨ops, listed, lag, cur⟩ }

noncomputable def getW (n : Nat) (tm : TT) (t : Nat) : Option Value := Bool.rec (motive := fun _ => Option Value) none (some (tm.get (way t))) (Nat.ble (Nat.succ t) n)
theorem getW_eq (n : Nat) (tm : TT) (t : Nat) : getW n tm t = (tm.arr n)[t]? := by
  unfold getW
  cases h : Nat.ble (Nat.succ t) n with
  | true => rw [tm.arr_get (Nat.le_of_ble_eq_true h)]
  | false =>
    have hn : ¬ t < n := fun q => by
      have : Nat.ble (Nat.succ t) n = true := by rw [Nat.ble_eq]; exact q
      rw [h] at this; cases this
    have hs : (tm.arr n).size ≤ t := by rw [TT.arr_size]; exact Nat.le_of_not_lt hn
    rw [Array.getElem?_eq_none hs]

noncomputable def madeBlkW (P : Program) (ops : Array Oper) (n : Nat) (tm : TT) (i : Nat) : Option Nat :=
  match (ops[i]?).bind (makes P) with
  | some (_, d) => match getW n tm d with
    | some (.pointer (some a)) => some a.block
    | some (.map (some r)) => some r
    | _ => none
  | none => none
theorem madeBlkW_eq (P : Program) (ops : Array Oper) (n : Nat) (tm : TT) (i : Nat) : madeBlkW P ops n tm i = madeBlk P ops (tm.arr n) i := by
  unfold madeBlkW madeBlk
  simp only [getW_eq]
  rfl

noncomputable def KFr.toA : KFr → AFrame
  | .k x fn n tm ops i r kk _ => kA x fn n tm (.inRegion ops (i :: r) :: kk)
  | .d x fn n tm todo ops listed lag i _ => dA x fn n tm todo ops listed lag (some i)
  | .a fr => fr
def KFr.ok : KFr → Prop
  | .k _ _ n _ ops i _ _ dw => dstW n ((ops[i]?).bind (·.dst)) = some dw
  | .d _ _ n _ _ ops _ _ i dw => dstW n ((ops[i]?).bind (·.dst)) = some dw
  | .a _ => True
noncomputable def KFr.pends (P : Program) : KFr → List Nat
  | .k .. => []
  | .d _ _ n tm _ ops _ lag _ _ => lag.filterMap (madeBlkW P ops n tm)
  | .a fr => fr.pends P

theorem KFr.pends_eq (P : Program) (c : KFr) : c.pends P = c.toA.pends P := by
  cases c with
  | k => rfl
  | a => rfl
  | d x fn n tm todo ops listed lag i d =>
    show lag.filterMap (madeBlkW P ops n tm) = lag.filterMap (madeBlk P ops (tm.arr n))
    congr 1
    funext j
    exact madeBlkW_eq P ops n tm j

inductive KS where
  | k (x : FX) (fn : FuncId) (n : Nat) (tm : TT) (todo : List Item) (cs : List KFr) (H : AHeap)
  | d (x : FX) (fn : FuncId) (n : Nat) (tm : TT) (todo : List Item) (ops : Array Oper) (listed : Array Bool) (lag : List Nat) (cs : List KFr) (H : AHeap)
  | a (fr : AFrame) (cs : List KFr) (H : AHeap)
  | done (fn : FuncId) (v : Value) (H : AHeap)

noncomputable def toAs (cs : List KFr) : List AFrame := cs.map KFr.toA

noncomputable def putW (d : Option Way) (v : Value) (tm : TT) : TT := Option.rec (motive := fun _ => TT) tm (fun w => TT.set v w tm) d

theorem putW_arr {n : Nat} {t : Option Tmp} {d : Option Way} (h : dstW n t = some d) (v : Value) (tm : TT) : (putW d v tm).arr n = putT (tm.arr n) t v := by
  unfold dstW at h
  split at h
  · cases h; rfl
  · split at h
    · cases h; exact tm.arr_set n _ v
    · cases h

noncomputable def lenL {α : Type} (l : List α) : Nat := List.rec (motive := fun _ => Nat) 0 (fun _ _ ih => Nat.succ ih) l
theorem lenL_eq {α : Type} : ∀ (l : List α), lenL l = l.length
  | [] => rfl
  | _ :: l => by show Nat.succ (lenL l) = _; rw [lenL_eq l]; rfl

def ent (E : Env) (g : FuncId) : Option (List Item × Nat) := match E.P.funcs[g]? with
  | some fn => (match fn.body with
    | some c => some ([.code c], fn.ntmps)
    | none => none)
  | none => none

noncomputable def enterK (E : Env) (f : KFr) (g : FuncId) (args : List Value) (cs : List KFr) (H : AHeap) : Option KS := match ent E g with
  | some (todo, m) => Bool.rec (motive := fun _ => Option KS) none (some (.k nx g m (TT.ofArgs args) todo (f :: cs) H)) (Nat.ble (lenL args) m)
  | none => none

theorem enterK_spec {E : Env} {f : KFr} {g : FuncId} {args : List Value} {cs : List KFr} {H : AHeap} {ks : KS} (h : enterK E f g args cs H = some ks) :
    ∃ todo m, ks = .k nx g m (TT.ofArgs args) todo (f :: cs) H ∧ enterA E.P g ⟨args⟩ .normal = some (kA nx g m (TT.ofArgs args) todo) := by
  unfold enterK at h
  split at h
  case h_2 => cases h
  rename_i todo m he
  cases hb : Nat.ble (lenL args) m with
  | false => rw [hb] at h; cases h
  | true =>
    rw [hb] at h
    cases h
    refine ⟨todo, m, rfl, ?_⟩
    have hle : args.length ≤ m := by
      have := Nat.le_of_ble_eq_true hb
      rw [lenL_eq] at this
      exact this
    unfold ent at he
    split at he
    case h_2 => cases he
    rename_i fn hfn
    split at he
    case h_2 => cases he
    rename_i c hc
    cases he
    unfold enterA
    rw [hfn]
    simp only [hc]
    unfold kA
    rw [TT.ofArgs_arr _ _ hle]
    rfl

noncomputable def regen (cs : List KFr) (cs2 : List AFrame) : Option (List KFr) :=
  Bool.rec (motive := fun _ => Option (List KFr))
    (Bool.rec (motive := fun _ => Option (List KFr))
      (Bool.rec (motive := fun _ => Option (List KFr)) none
        (match cs with
          | _ :: rest => some rest
          | [] => none) (Nat.beq (lenL cs) (Nat.succ (lenL cs2))))
      (match cs2 with
        | f :: _ => some (.a f :: cs)
        | [] => none) (Nat.beq (lenL cs2) (Nat.succ (lenL cs))))
    (match cs with
      | .a _ :: rest => (match cs2 with
        | f :: _ => some (.a f :: rest)
        | [] => none)
      | cs => some cs) (Nat.beq (lenL cs) (lenL cs2))

noncomputable def gen (E : Env) (fr : AFrame) (cs : List KFr) (H : AHeap) : Option KS := match astep E { fr, cs := toAs cs, H } with
  | some st => (match regen cs st.cs with
    | some cs' => some (.a st.fr cs' st.H)
    | none => none)
  | none => none

noncomputable def evalW (n : Nat) (tm : TT) (x : Operand) : Value := match x with
  | .tmp t => Bool.rec (motive := fun _ => Value) undef (tm.get (way t)) (Nat.ble (Nat.succ t) n)
  | .const v => v
  | .global g => .pointer (some ⟨g, 0, none⟩)
  | .func f => .func (.func f) #[] #[]

theorem evalW_eq (n : Nat) (tm : TT) : evalW n tm = evalT (tm.arr n) := by
  funext x
  cases x with
  | tmp t =>
    show Bool.rec _ _ _ = (tm.arr n).getD t undef
    cases h : Nat.ble (Nat.succ t) n with
    | true => rw [tm.arr_getD (Nat.le_of_ble_eq_true h)]
    | false =>
      have hn : ¬ t < n := fun q => by
        have : Nat.ble (Nat.succ t) n = true := by rw [Nat.ble_eq]; exact q
        rw [h] at this; cases this
      have hs : (tm.arr n).size ≤ t := by rw [TT.arr_size]; exact Nat.le_of_not_lt hn
      rw [Array.getD_eq_getD_getElem?, Array.getElem?_eq_none hs]
      rfl
  | const v => rfl
  | global g => rfl
  | func f => rfl

noncomputable def opK (E : Env) (x : FX) (fn : FuncId) (n : Nat) (tm : TT) (ops : Array Oper) (i : Nat) (r : List Nat) (kk : List Item) (o : Oper) (d : Option Way) (cs : List KFr) (H : AHeap) : Option KS :=
  match aopR E (evalW n tm) H o with
  | some (.next (.value v), H') => some (.k x fn n (putW d v tm) (.inRegion ops r :: kk) cs H')
  | some (.next .skip, H') => some (.k x fn n (putW d undef tm) (.inRegion ops r :: kk) cs H')
  | some (.next (.enter g args), H') => enterK E (.k x fn n tm ops i r kk d) g args.toList cs H'
  | some (.next (.round l f tmps assign body), H') => some (.k ⟨[], .normal, some l⟩ f tmps.size (TT.ofArgs tmps.toList) [.code assign, .beginRound, .code body] (.k x fn n tm ops i r kk d :: cs) H')
  | _ => gen E (kA x fn n tm (.inRegion ops (i :: r) :: kk)) cs H

noncomputable def popK (v : Value) (cs : List KFr) (H : AHeap) : Option KS := match cs with
  | [] => none
  | .k x2 fn2 n2 tm2 ops _ r kk d :: cs' => some (.k x2 fn2 n2 (putW d v tm2) (.inRegion ops r :: kk) cs' H)
  | .d x2 fn2 n2 tm2 todo2 ops listed lag i d :: cs' => Bool.rec (motive := fun _ => Option KS) none (some (.d x2 fn2 n2 (putW d v tm2) todo2 ops listed lag cs' H)) (lagApart ops lag ((ops[i]?).bind (·.dst)))
  | .a fr :: cs' => (match fr.finish v with
    | some fr' => some (.a fr' cs' H)
    | none => none)

noncomputable def retK (E : Env) (x : FX) (j : Option Code) (fn : FuncId) (n : Nat) (tm : TT) (todo : List Item) (cs : List KFr) (H : AHeap) : Option KS :=
  match x with
  | ⟨[], .normal, none⟩ => (match slotsW E.P fn n with
    | some ws => (match cs with
      | [] => some (.done fn (packV (gets tm ws)) H)
      | cs => popK (packV (gets tm ws)) cs H)
    | none => gen E (kA nx fn n tm todo) cs H)
  | ⟨ds, .normal, some l⟩ => (match absRun E.P (Instr.endRound l j) H with
    | some (v, H') => popK v cs H'
    | none => gen E (kA ⟨ds, .normal, some l⟩ fn n tm todo) cs H)
  | x => gen E (kA x fn n tm todo) cs H

noncomputable def guardR (tm : TT) (g : Option (Way × Bool)) : Option Bool := match g with
  | none => some true
  | some (w, want) => (match tm.get w with
    | .bool b => some (Bool.rec (motive := fun _ => Bool) (!want) want b)
    | .tuple vs => (match vs.toList with
      | [] => some false
      | _ => none)
    | _ => none)

noncomputable def stepK (E : Env) (x : FX) (fn : FuncId) (n : Nat) (tm : TT) (todo : List Item) (cs : List KFr) (H : AHeap) : Option KS :=
  match norm E n 100 todo with
  | .op ops i r kk o g k d => (match guardR tm g with
    | some true => (match k.res E tm H with
      | .val v => some (.k x fn n (putW d v tm) (.inRegion ops r :: kk) cs H)
      | .valH v H' => some (.k x fn n (putW d v tm) (.inRegion ops r :: kk) cs H')
      | .enter f args => enterK E (.k x fn n tm ops i r kk d) f args cs H
      | .no => opK E x fn n tm ops i r kk o d cs H)
    | some false => some (.k x fn n (putW d undef tm) (.inRegion ops r :: kk) cs H)
    | none => none)
  | .cond c a b => (match c.ev tm with
    | .bool y => some (.k x fn n tm (Bool.rec (motive := fun _ => List Item) b a y) cs H)
    | _ => none)
  | .draw ops k => some (.d x fn n tm k ops (Array.replicate ops.size false) [] cs H)
  | .ret j => retK E x j fn n tm todo cs H
  | .beg k => (match x.roundOf with
    | some l => (match absRun E.P (Instr.beginRound l) H with
      | some (_, H') => some (.k x fn n tm k cs H')
      | none => none)
    | none => none)
  | .other => gen E (kA x fn n tm todo) cs H

noncomputable def canK (fr : AFrame) : Bool := (match fr.mode with
  | .run => true
  | _ => false) && fr.draw.isNone

theorem canK_spec {fr : AFrame} (h : canK fr = true) : fr = kA ⟨fr.defers, fr.kind, fr.roundOf⟩ fr.fn fr.tmps.size (TT.ofArgs fr.tmps.toList) fr.todo := by
  unfold canK at h
  simp only [Bool.and_eq_true, Option.isNone_iff_eq_none] at h
  obtain ⟨h2, h5⟩ := h
  obtain ⟨fn, tmps, todo, defers, mode, kind, roundOf, draw⟩ := fr
  simp only at *
  subst h5
  have e1 : mode = .run := by revert h2; cases mode <;> simp
  subst e1
  unfold kA
  rw [TT.ofArgs_arr _ _ (by simp)]
  simp

theorem canD_spec {fr : AFrame} {ops : Array Oper} {listed : Array Bool} {lag : List Nat} (hm : fr.mode = .run) (h : fr.draw = some ⟨ops, listed, lag, none⟩) : fr = dA ⟨fr.defers, fr.kind, fr.roundOf⟩ fr.fn fr.tmps.size (TT.ofArgs fr.tmps.toList) fr.todo ops listed lag none := by
  obtain ⟨fn, tmps, todo, defers, mode, kind, roundOf, draw⟩ := fr
  simp only at *
  subst h hm
  unfold dA
  rw [TT.ofArgs_arr _ _ (by simp)]
  simp

noncomputable def stepA (E : Env) (fr : AFrame) (cs : List KFr) (H : AHeap) : Option KS :=
  match fr.mode, fr.draw with
  | .run, some ⟨ops, listed, lag, none⟩ => some (.d ⟨fr.defers, fr.kind, fr.roundOf⟩ fr.fn fr.tmps.size (TT.ofArgs fr.tmps.toList) fr.todo ops listed lag cs H)
  | _, _ => Bool.rec (motive := fun _ => Option KS) (Bool.rec (motive := fun _ => Option KS) (gen E fr cs H) (match resultsA E { fr, cs := toAs cs, H } with
      | some v => some (.done fr.fn v H)
      | none => none) (lastA fr.fn { fr, cs := toAs cs, H }))
    (some (.k ⟨fr.defers, fr.kind, fr.roundOf⟩ fr.fn fr.tmps.size (TT.ofArgs fr.tmps.toList) fr.todo cs H)) (canK fr)

noncomputable def wantedW (ops : Array Oper) (n : Nat) (tm : TT) (o : Oper) : Option Bool :=
  match o.guard with
  | none => some true
  | some (j, want) => match ((ops[j]?).bind (·.dst)).bind (getW n tm) with
    | some (.bool b) => some (b == want)
    | some (.tuple vs) => if vs.isEmpty then some false else none
    | _ => none
theorem wantedW_eq (ops : Array Oper) (n : Nat) (tm : TT) (o : Oper) : wantedW ops n tm o = wantedA ops (tm.arr n) o := by
  unfold wantedW wantedA
  simp only [show getW n tm = fun t => (tm.arr n)[t]? from funext (getW_eq n tm)]
  rfl

noncomputable def aquietR (E : Env) (r : Operand → Value) (H : AHeap) (o : Oper) : Option Value :=
  if o.op.operands.toList.all (okOperand E.G) then
    match o.op with
    | .move x | .assign x => some (r x)
    | .panic _ | .defer _ | .mapUpdate .. | .insert .. => none
    | .lookup t m k ok => if scalar 20 (r k) then alookup E.P H t (r m) (r k) ok else none
    | .call c => (match c.callee with
      | .builtin .unsafeSliceData => (match (mapA r c.args).toList with
        | [s] => sliceData s
        | _ => none)
      | .builtin .len => if allScalar r o.op then apureQ E r o else agenQ E H r o
      | _ => none)
    | .convert src dst x => if convPtr E.P H src dst (r x) then some (r x) else if allScalar r o.op then apureQ E r o else none
    | .binOp op t x y _ => match ptrEq E.P H op t (r x) (r y) with
      | some v => some v
      | none => if allScalar r o.op then apureQ E r o else agenQ E H r o
    | op => if genFirst op then agenQ E H r o else if allScalar r op then apureQ E r o else agenQ E H r o
  else none
theorem aquietR_eq (E : Env) (n : Nat) (tm : TT) (H : AHeap) (o : Oper) : aquietR E (evalW n tm) H o = aquiet E (tm.arr n) H o := by
  rw [evalW_eq]
  rfl

noncomputable def floatsW (E : Env) (ops : Array Oper) (n : Nat) (tm : TT) (H : AHeap) (i : Nat) : Option Value :=
  match ops[i]? with
  | some o => match wantedW ops n tm o with
    | some true => aquietR E (evalW n tm) H o
    | some false => some undef
    | none => none
  | none => none
theorem floatsW_eq (E : Env) (ops : Array Oper) (n : Nat) (tm : TT) (H : AHeap) (i : Nat) : floatsW E ops n tm H i = floats E ops (tm.arr n) H i := by
  unfold floatsW floats
  simp only [wantedW_eq, aquietR_eq]
  rfl

noncomputable def firstFloatW (E : Env) (ops : Array Oper) (n : Nat) (tm : TT) (H : AHeap) (lag : List Nat) : List Nat → Option (Nat × Value)
  | [] => none
  | i :: rest =>
    if selfOK ops i && lag.all (fun j => behindOK ops j i) then
      match floatsW E ops n tm H i with
      | some v => some (i, v)
      | none => firstFloatW E ops n tm H lag rest
    else firstFloatW E ops n tm H lag rest
theorem firstFloatW_eq (E : Env) (ops : Array Oper) (n : Nat) (tm : TT) (H : AHeap) (lag : List Nat) : ∀ l, firstFloatW E ops n tm H lag l = firstFloat E ops (tm.arr n) H lag l
  | [] => rfl
  | i :: rest => by
    unfold firstFloatW firstFloat
    simp only [floatsW_eq, firstFloatW_eq E ops n tm H lag rest]
    rfl

noncomputable def stillW (E : Env) (ops : Array Oper) (n : Nat) (tm : TT) (H : AHeap) (i : Nat) : Bool :=
  match (ops[i]?).bind (makes E.P) with
  | some (o, d) => (match getW n tm d with
    | some (.pointer (some a)) => a.off == 0 && a.spot.isNone && fresh H o a.block
    | some (.map (some r)) => freshMap H o r
    | _ => false)
  | none => match floatsW E ops n tm H i with
    | some v => match (ops[i]?).bind (·.dst) with
      | some d => sameVal 20 v (evalW n tm (.tmp d))
      | none => true
    | none => false
theorem stillW_eq (E : Env) (ops : Array Oper) (n : Nat) (tm : TT) (H : AHeap) (i : Nat) : stillW E ops n tm H i = still E ops (tm.arr n) H i := by
  unfold stillW still
  simp only [getW_eq, floatsW_eq, evalW_eq]
  rfl

noncomputable def apartD (P : Program) (l : List Nat) (cs : List KFr) : Bool :=
  match l with
  | [] => true
  | l => nodup l && cs.all fun c => (c.pends P).all fun b => !l.contains b

noncomputable def drawD (E : Env) (x : FX) (fn : FuncId) (n : Nat) (tm : TT) (todo : List Item) (ops : Array Oper) (listed : Array Bool) (lag : List Nat) (cs : List KFr) (H : AHeap) : Option KS :=
  match Region.ready .any ops listed with
  | [] => (match listed.toList.all id && lag.all (stillW E ops n tm H) && apartD E.P (lag.filterMap (madeBlkW E.P ops n tm)) cs with
    | true => some (.k x fn n tm todo cs H)
    | false => none)
  | [i] =>
    (match lag.all (stillW E ops n tm H) && (lag.filter fun j => !isBefore ops ops.size j i).all (fun j => apartB ops i j) && apartD E.P (lag.filterMap (madeBlkW E.P ops n tm)) cs with
    | true => (match ops[i]? with
      | some o => (match dstW n o.dst with
        | some d => (match wantedW ops n tm o with
          | some false => (match lagApart ops (lag.filter fun j => !isBefore ops ops.size j i) o.dst with
            | true => some (.d x fn n (putW d undef tm) todo ops (listed.setIfInBounds i true) (lag.filter fun j => !isBefore ops ops.size j i) cs H)
            | false => none)
          | some true => (match aopR E (evalW n tm) H o with
            | some (.next (.value v), H') => (match lagApart ops (lag.filter fun j => !isBefore ops ops.size j i) o.dst with
              | true => some (.d x fn n (putW d v tm) todo ops (listed.setIfInBounds i true) (lag.filter fun j => !isBefore ops ops.size j i) cs H')
              | false => none)
            | some (.next .skip, H') => (match lagApart ops (lag.filter fun j => !isBefore ops ops.size j i) o.dst with
              | true => some (.d x fn n (putW d undef tm) todo ops (listed.setIfInBounds i true) (lag.filter fun j => !isBefore ops ops.size j i) cs H')
              | false => none)
            | some (.next (.enter f args), H') => enterK E (.d x fn n tm todo ops (listed.setIfInBounds i true) (lag.filter fun j => !isBefore ops ops.size j i) i d) f args.toList cs H'
            | _ => none)
          | none => none)
        | none => none)
      | none => none)
    | false => none)
  | l => match firstFloatW E ops n tm H lag l with
    | some (i, v) => (match dstW n ((ops[i]?).bind (·.dst)) with
      | some d => some (.d x fn n (putW d v tm) todo ops (listed.setIfInBounds i true) (lag ++ [i]) cs H)
      | none => none)
    | none => match firstMake E ops n lag l with
      | some (i, o, t) => some (.d x fn n (TT.set (mkVal o H.next) (way t) tm) todo ops (listed.setIfInBounds i true) (lag ++ [i]) cs (H.new o))
      | none => none

noncomputable def stepD (E : Env) (x : FX) (fn : FuncId) (n : Nat) (tm : TT) (todo : List Item) (ops : Array Oper) (listed : Array Bool) (lag : List Nat) (cs : List KFr) (H : AHeap) : Option KS :=
  match drawD E x fn n tm todo ops listed lag cs H with
  | some ks => some ks
  | none => gen E (dA x fn n tm todo ops listed lag none) cs H

noncomputable def kgo (E : Env) (n : Nat) : KS → Option KS :=
  Nat.rec (motive := fun _ => KS → Option KS) (fun ks => some ks)
    (fun _ ih ks => KS.rec (motive := fun _ => Option KS)
      (fun x fn n tm todo cs H => Option.rec (motive := fun _ => Option KS) none ih (stepK E x fn n tm todo cs H))
      (fun x fn n tm todo ops listed lag cs H => Option.rec (motive := fun _ => Option KS) none ih (stepD E x fn n tm todo ops listed lag cs H))
      (fun fr cs H => Option.rec (motive := fun _ => Option KS) none ih (stepA E fr cs H))
      (fun fn v H => some (.done fn v H)) ks) n

end Go.Ev

namespace Go.Ev
open Go.RowKit

def CsStep (a b : List AFrame) : Prop := b = a ∨ (∃ f, b = f :: a) ∨ ∃ c rest, a = c :: rest ∧ (b = rest ∨ (c.mode ≠ .run ∧ ∃ f, b = f :: rest))

theorem CsStep.same {a : List AFrame} : CsStep a a := .inl rfl
theorem CsStep.push {a : List AFrame} {f : AFrame} : CsStep a (f :: a) := .inr (.inl ⟨f, rfl⟩)

theorem map_cs {α : Type} {o : Option α} {g : α → ASt} {st' : ASt} {P : List AFrame → Prop} (h : o.map g = some st') (k : ∀ a, P (g a).cs) : P st'.cs := by
  cases o with
  | none => cases h
  | some a => cases h; exact k a

theorem returnA_cs {st st' : ASt} {v : Value} {H : AHeap} (h : returnA st v H = some st') : CsStep st.cs st'.cs := by
  unfold returnA at h
  split at h
  · rename_i c rest hc
    rw [hc]
    split at h
    · exact map_cs (P := CsStep (c :: rest)) h fun _ => .inr (.inr ⟨c, rest, rfl, .inl rfl⟩)
    · cases h; exact .inr (.inr ⟨c, rest, rfl, .inl rfl⟩)
    · cases h
  · cases h

theorem opDone_cs {E : Env} {st st' : ASt} {x : AOut} {H : AHeap} (h : opDone E st x H = some st') : CsStep st.cs st'.cs := by
  unfold opDone at h
  split at h
  · split at h
    · cases h; exact .same
    · cases h
  · split at h
    · exact map_cs (P := CsStep st.cs) h fun _ => .same
    · exact map_cs (P := CsStep st.cs) h fun _ => .same
    · exact map_cs (P := CsStep st.cs) h fun _ => .push
    · cases h; exact .push
    · split at h
      · cases h
      · exact map_cs (P := CsStep st.cs) h fun _ => .same
    · split at h
      · cases h
      · split at h
        · rename_i c rest hc
          split at h
          · rename_i hm
            rw [hc]
            refine map_cs (P := CsStep (c :: rest)) h fun _ => .inr (.inr ⟨c, rest, rfl, .inr ⟨?_, _, rfl⟩⟩)
            intro q
            rw [q] at hm
            cases hm
          · exact map_cs (P := CsStep st.cs) h fun _ => .same
        · cases h
    · cases h

theorem leaveA_cs {E : Env} {st st' : ASt} {j : Option Code} (h : leaveA E st j = some st') : CsStep st.cs st'.cs := by
  unfold leaveA at h
  split at h
  · split at h
    · cases h; exact .same
    · cases h; exact .same
    · cases h
  · split at h
    · exact returnA_cs h
    · cases h

theorem drawStep_cs {E : Env} {st st' : ASt} {d : Draw} (h : drawStep E st d = some st') : CsStep st.cs st'.cs := by
  unfold drawStep at h
  split at h
  · cases h
  split at h
  · split at h
    · cases h; exact .same
    · cases h
  · simp only at h
    split at h
    · split at h
      · split at h
        · exact map_cs (P := CsStep st.cs) h fun _ => .same
        · split at h
          · have := opDone_cs h; exact this
          · cases h
        · cases h
      · cases h
    · cases h
  · split at h
    · cases h; exact .same
    · split at h
      · cases h; exact .same
      · cases h

theorem execA_cs {E : Env} {st st' : ASt} (h : execA E st = some st') : CsStep st.cs st'.cs := by
  unfold execA at h
  simp only at h
  split at h
  · exact leaveA_cs h
  · exact leaveA_cs h
  · cases h; exact .same
  · cases h; exact .same
  · cases h; exact .same
  · cases h; exact .same
  · cases h; exact .same
  · split at h
    · split at h
      · cases h; exact .same
      · cases h
    · cases h
  · cases h; exact .same
  · cases h; exact .same
  · cases h; exact .same
  · cases h; exact .same
  · split at h
    · cases h; exact .same
    · exact leaveA_cs h
  · split at h
    · cases h; exact .same
    · exact leaveA_cs h
  · split at h
    · split at h
      · split at h
        · split at h
          · exact map_cs (P := CsStep st.cs) h fun _ => .push
          · cases h
        · cases h
      · cases h
    · cases h
  · split at h
    · split at h
      · cases h; exact .same
      · cases h
    · cases h
  · split at h
    · cases h; exact .same
    · cases h
  · split at h
    · cases h; exact .same
    · cases h; exact .same
  · cases h; exact .same
  · split at h
    · split at h
      · exact map_cs (P := CsStep st.cs) h fun _ => .same
      · split at h
        · exact opDone_cs h
        · cases h
      · cases h
    · cases h
  · cases h

theorem unwindA_cs {E : Env} {st st' : ASt} (h : unwindA E st = some st') : CsStep st.cs st'.cs := by
  unfold unwindA at h
  split at h
  · split at h
    · cases h; exact .same
    · cases h
  · split at h
    · exact map_cs (P := CsStep st.cs) h fun _ => .push
    · cases h
  · cases h
  · split at h
    · cases h
    · split at h
      · rename_i c rest hc
        split at h
        · cases h; rw [hc]; exact .inr (.inr ⟨c, rest, rfl, .inl rfl⟩)
        · cases h
      · cases h
    · split at h
      · exact returnA_cs h
      · cases h

theorem astep_cs {E : Env} {st st' : ASt} (h : astep E st = some st') : CsStep st.cs st'.cs := by
  unfold astep at h
  split at h
  · split at h
    · exact drawStep_cs h
    · exact execA_cs h
  · exact unwindA_cs h

theorem regen_spec {cs cs' : List KFr} {cs2 : List AFrame} (hs : CsStep (toAs cs) cs2) (hc : ∀ c ∈ cs, c.ok) (h : regen cs cs2 = some cs') : toAs cs' = cs2 ∧ ∀ c ∈ cs', c.ok := by
  have hlen : (toAs cs).length = cs.length := by unfold toAs; simp
  unfold regen at h
  rw [lenL_eq, lenL_eq] at h
  rcases beq_cases cs.length cs2.length with ⟨q1, q2⟩ | ⟨q1, q2⟩
  · rw [q1] at h
    simp only at h
    rcases hs with rfl | ⟨f, rfl⟩ | ⟨c, rest, h1, rfl | ⟨hm, f, rfl⟩⟩
    · split at h
      · rename_i fr rest
        have e : toAs (KFr.a fr :: rest) = fr :: toAs rest := rfl
        rw [e] at h
        simp only at h
        cases h
        exact ⟨rfl, hc⟩
      · cases h
        exact ⟨rfl, hc⟩
    · exfalso
      simp only [List.length_cons, hlen] at q2
      omega
    · exfalso
      have := congrArg List.length h1
      rw [hlen, List.length_cons] at this
      omega
    · cases cs with
      | nil => cases h1
      | cons k cs =>
        have h1 : k.toA :: toAs cs = c :: rest := h1
        cases h1
        cases k with
        | a fr =>
          simp only at h
          cases h
          refine ⟨rfl, fun c hc2 => ?_⟩
          rcases List.mem_cons.1 hc2 with rfl | hc2
          · trivial
          · exact hc c (by simp [hc2])
        | k => exact absurd rfl hm
        | d => exact absurd rfl hm
  · rw [q1] at h
    simp only at h
    rcases beq_cases cs2.length (Nat.succ cs.length) with ⟨q3, q4⟩ | ⟨q3, q4⟩
    · rw [q3] at h
      simp only at h
      split at h
      case h_2 => cases h
      rename_i f cs3
      cases h
      have key : cs3 = toAs cs := by
        rcases hs with h1 | ⟨g, h1⟩ | ⟨c, rest, h1, rfl | ⟨hm, g, h2⟩⟩
        · exfalso
          have := congrArg List.length h1
          rw [hlen, q4] at this
          omega
        · cases h1; rfl
        · exfalso
          have := congrArg List.length h1
          simp only [hlen, List.length_cons] at this q4
          omega
        · exfalso
          have h3 := congrArg List.length h1
          have h4 := congrArg List.length h2
          simp only [hlen, List.length_cons] at h3 h4 q4
          omega
      subst key
      refine ⟨rfl, fun c hc2 => ?_⟩
      rcases List.mem_cons.1 hc2 with rfl | hc2
      · trivial
      · exact hc c hc2
    · rw [q3] at h
      simp only at h
      rcases beq_cases cs.length (Nat.succ cs2.length) with ⟨q5, q6⟩ | ⟨q5, q6⟩
      · rw [q5] at h
        simp only at h
        split at h
        case h_2 => cases h
        rename_i k rest
        cases h
        rcases hs with rfl | ⟨g, rfl⟩ | ⟨c, r2, h1, rfl | ⟨hm, g, rfl⟩⟩
        · exfalso
          simp only [hlen, List.length_cons] at q6
          omega
        · exfalso
          simp only [List.length_cons, hlen] at q6
          omega
        · have h1 : k.toA :: toAs cs' = c :: cs2 := h1
          cases h1
          exact ⟨rfl, fun c hc2 => hc c (by simp [hc2])⟩
        · exfalso
          have := congrArg List.length h1
          simp only [hlen, List.length_cons] at this q6
          omega
      · rw [q5] at h
        cases h

end Go.Ev

