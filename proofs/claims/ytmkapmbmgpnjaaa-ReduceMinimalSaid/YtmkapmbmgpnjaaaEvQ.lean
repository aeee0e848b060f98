import Derived.Test.YtmkapmbmgpnjaaaEvP
namespace Go.Ev
open Go.RowKit

def absRunQ {α : Type} (P : Program) : Sem α → AHeap → Option α
  | .pure a, _ => some a
  | .load _ a k, H => match H.cell a with
    | some v => absRunQ P (k v) H
    | none => none
  | .getObj r k, H => match H.getObj r with
    | some o => absRunQ P (k o) H
    | none => none
  | .program k, H => absRunQ P (k P) H
  | .mark _ k, H => absRunQ P k H
  | .choose q k, H => match q.forced with
    | true => absRunQ P (k 0) H
    | false => none
  | _, _ => none

def agenQ (E : Env) (H : AHeap) (r : Operand → Value) (o : Oper) : Option Value :=
  if genK E.P H r o && noneJunk r o.op then
    match absRunQ E.P (execOp r o) H with
    | some (.value v) => some v
    | _ => none
  else none

def apureQ (E : Env) (r : Operand → Value) (o : Oper) : Option Value :=
  if isSelect o.op then none else
  match pureRun E.P (execOp r o) with
  | some (.value v) => if scalar 20 v then some v else none
  | _ => none

def aquiet (E : Env) (tmps : Array Value) (H : AHeap) (o : Oper) : Option Value :=
  let r := evalT tmps
  if o.op.operands.toList.all (okOperand E.G) then
    match o.op with
    | .move x | .assign x => some (r x)
    | .panic _ | .defer _ | .mapUpdate .. | .insert .. => none
    | .lookup t m k ok => if scalar 20 (r k) then alookup E.P H t (r m) (r k) ok else none
    | .call c => (match c.callee with
      | .builtin .unsafeSliceData => (match (mapA r c.args).toList with
        | [s] => sliceData s
        | _ => none)
      | .builtin .len => if allScalar r o.op then apureQ E r o else agenQ E H r o
      | _ => none)
    | .convert src dst x => if convPtr E.P H src dst (r x) then some (r x) else if allScalar r o.op then apureQ E r o else none
    | .binOp op t x y _ => match ptrEq E.P H op t (r x) (r y) with
      | some v => some v
      | none => if allScalar r o.op then apureQ E r o else agenQ E H r o
    | op => if genFirst op then agenQ E H r o else if allScalar r op then apureQ E r o else agenQ E H r o
  else none

structure Draw where
  ops : Array Oper
  listed : Array Bool
  lag : List Nat
  cur : Option Nat

structure AFrame where
  fn : FuncId
  tmps : Array Value
  todo : List Item
  defers : List Deferred
  mode : FrameMode
  kind : CallKind
  roundOf : Option Nat
  draw : Option Draw

structure ASt where
  fr : AFrame
  cs : List AFrame
  H : AHeap

def putT (tmps : Array Value) (dst : Option Tmp) (v : Value) : Array Value :=
  match dst with
  | some d => tmps.setIfInBounds d v
  | none => tmps

def lagApart (ops : Array Oper) (lag : List Nat) (t : Option Tmp) : Bool :=
  match t with
  | none => true
  | some t => lag.all fun j => (ops[j]?).bind (·.dst) != some t

def AFrame.finish (fr : AFrame) (v : Value) : Option AFrame :=
  match fr.mode with
  | .run => (match fr.draw with
    | some d => (match d.cur with
      | some i => if lagApart d.ops d.lag ((d.ops[i]?).bind (·.dst)) then some { fr with tmps := putT fr.tmps ((d.ops[i]?).bind (·.dst)) v, draw := some { d with cur := none } } else none
      | none => none)
    | none => (match fr.todo with
      | .inRegion ops (i :: rest) :: k => some { fr with tmps := putT fr.tmps ((ops[i]?).bind (·.dst)) v, todo := .inRegion ops rest :: k }
      | .inRangeFunc l :: k => some { fr with todo := .endRangeFunc l :: k }
      | _ => none))
  | _ => none

def AFrame.raise (fr : AFrame) (vs : List PanicEntry) : AFrame :=
  match fr.mode with
  | .panicking chain => { fr with mode := .panicking (vs ++ chain) }
  | _ => { fr with mode := .panicking vs }

def wantedA (ops : Array Oper) (tmps : Array Value) (o : Oper) : Option Bool :=
  match o.guard with
  | none => some true
  | some (j, want) => match ((ops[j]?).bind (·.dst)).bind (tmps[·]?) with
    | some (.bool b) => some (b == want)
    | some (.tuple vs) => if vs.isEmpty then some false else none
    | _ => none

def enterA (P : Program) (f : FuncId) (args : Array Value) (kind : CallKind) : Option AFrame :=
  match P.funcs[f]? with
  | some fn => match fn.body with
    | some c => some { fn := f, tmps := ⟨args.toList ++ List.replicate (fn.ntmps - args.size) undef⟩, todo := [.code c], defers := [], mode := .run, kind, roundOf := none, draw := none }
    | none => none
  | none => none

def isBefore (ops : Array Oper) : Nat → Nat → Nat → Bool
  | 0, _, _ => false
  | n + 1, j, i => ((ops[i]?).map fun o => o.after.toList.any fun e => Region.binds .any e && (e.on == j || isBefore ops n j e.on)).getD false

def apartB (ops : Array Oper) (i j : Nat) : Bool :=
  match ops[i]?, ops[j]? with
  | some x, some y => Oper.apart ops x y
  | _, _ => false

def behindOK (ops : Array Oper) (j i : Nat) : Bool :=
  match ops[j]?, ops[i]? with
  | some y, some x =>
    (match x.dst with
     | some d => !(y.looksAt ops).contains d && y.dst != some d
     | none => true) &&
    (match y.dst with
     | some d => !(x.looksAt ops).contains d || isBefore ops ops.size j i
     | none => true)
  | _, _ => false

def selfOK (ops : Array Oper) (i : Nat) : Bool :=
  match ops[i]? with
  | some x => (match x.dst with
    | some d => !(x.looksAt ops).contains d
    | none => true)
  | none => false

def floats (E : Env) (ops : Array Oper) (tmps : Array Value) (H : AHeap) (i : Nat) : Option Value :=
  match ops[i]? with
  | some o => match wantedA ops tmps o with
    | some true => aquiet E tmps H o
    | some false => some undef
    | none => none
  | none => none

def firstFloat (E : Env) (ops : Array Oper) (tmps : Array Value) (H : AHeap) (lag : List Nat) : List Nat → Option (Nat × Value)
  | [] => none
  | i :: rest =>
    if selfOK ops i && lag.all (fun j => behindOK ops j i) then
      match floats E ops tmps H i with
      | some v => some (i, v)
      | none => firstFloat E ops tmps H lag rest
    else firstFloat E ops tmps H lag rest

def makes (P : Program) (o : Oper) : Option (Obj × Tmp) :=
  match o.op with
  | .alloc t => match o.guard, o.dst with
    | none, some d => match P.info? t with
      | some i => match i.zero with
        | some z => some (.cells z.cells t (0, 0), d)
        | none => none
      | none => none
    | _, _ => none
  | .makeMap _ none => match o.guard, o.dst with
    | none, some d => some (.map #[] 0, d)
    | _, _ => none
  | _ => none

def mkVal (o : Obj) (b : Nat) : Value := match o with
  | .map .. => .map (some b)
  | _ => .pointer (some ⟨b, 0, none⟩)

def firstMake (E : Env) (ops : Array Oper) (n : Nat) (lag : List Nat) : List Nat → Option (Nat × Obj × Tmp)
  | [] => none
  | i :: rest =>
    if selfOK ops i && lag.all (fun j => behindOK ops j i) then
      match (ops[i]?).bind (makes E.P) with
      | some (o, d) => if d < n then some (i, o, d) else firstMake E ops n lag rest
      | none => firstMake E ops n lag rest
    else firstMake E ops n lag rest

def sameVal : Nat → Value → Value → Bool
  | 0, _, _ => false
  | n + 1, v, u => match v, u with
    | .bool a, .bool b => a == b
    | .int j a, .int k b => j == k && a == b
    | .string a, .string b => a == b
    | .pointer a, .pointer b => a == b
    | .slice a n c, .slice b m d => a == b && n == m && c == d
    | .map a, .map b => a == b
    | .nilFunc, .nilFunc => true
    | .nilIface, .nilIface => true
    | .iface t a, .iface k b => t == k && sameVal n a b
    | .agg a, .agg b => a.size == b.size && (a.toList.zip b.toList).all fun (x, y) => sameVal n x y
    | .tuple a, .tuple b => a.size == b.size && (a.toList.zip b.toList).all fun (x, y) => sameVal n x y
    | .func f a c, .func g b d => f == g && a.size == b.size && (a.toList.zip b.toList).all (fun (x, y) => sameVal n x y) && c.size == d.size && (c.toList.zip d.toList).all (fun (x, y) => sameVal n x y)
    | _, _ => false

def madeBlk (P : Program) (ops : Array Oper) (tmps : Array Value) (i : Nat) : Option Nat :=
  match (ops[i]?).bind (makes P) with
  | some (_, d) => match (tmps[d]? : Option Value) with
    | some (.pointer (some a)) => some a.block
    | some (.map (some r)) => some r
    | _ => none
  | none => none

def fresh (H : AHeap) (o : Obj) (b : Nat) : Bool :=
  match o with
  | .cells c e fr => (match H.blk b with
    | some k => (match k.obj with
      | .cells c2 e2 fr2 => (match H.grp b with
        | some g => fr.1 == 0 && fr.2 == 0 && fr2.1 == 0 && fr2.2 == 0 && e == e2 && k.root == b && k.org == 0 && !k.ro && k.sz == 0 && g.flo == 0 && g.fhi == 0 &&
          (match g.mem with
            | [p] => p.1 == b && p.2 == 0
            | _ => false) && (c.size == c2.size && (c.toList.zip c2.toList).all fun (x, y) => sameVal 20 x y)
        | none => false)
      | _ => false)
    | none => false)
  | _ => false

def freshMap (H : AHeap) (o : Obj) (b : Nat) : Bool :=
  match o with
  | .map es c => es.isEmpty && c == 0 && (match H.blk b with
    | some k => (match k.obj with
      | .map es2 c2 => es2.isEmpty && c2 == 0 && k.root == b && k.org == 0 && !k.ro && k.sz == 0
      | _ => false)
    | none => false)
  | _ => false

def still (E : Env) (ops : Array Oper) (tmps : Array Value) (H : AHeap) (i : Nat) : Bool :=
  match (ops[i]?).bind (makes E.P) with
  | some (o, d) => (match (tmps[d]? : Option Value) with
    | some (.pointer (some a)) => a.off == 0 && a.spot.isNone && fresh H o a.block
    | some (.map (some r)) => freshMap H o r
    | _ => false)
  | none => match floats E ops tmps H i with
    | some v => match (ops[i]?).bind (·.dst) with
      | some d => sameVal 20 v (tmps.getD d undef)
      | none => true
    | none => false

def AFrame.pends (P : Program) (fr : AFrame) : List Nat :=
  match fr.draw with
  | some d => d.lag.filterMap (madeBlk P d.ops fr.tmps)
  | none => []

def nodup : List Nat → Bool
  | [] => true
  | a :: l => !l.contains a && nodup l

def apartA (P : Program) (fr : AFrame) (cs : List AFrame) : Bool :=
  match fr.pends P with
  | [] => true
  | l => nodup l && cs.all fun c => (c.pends P).all fun b => !l.contains b

def slots (fn : Func) : List Tmp := fn.results.toList.map fun
  | .tmp t => t
  | .cell a _ => a

def lagFree (P : Program) (fr : AFrame) : Bool :=
  match P.funcs[fr.fn]? with
  | some fn => (match fr.draw with
    | some d => d.lag.all fun j => match (d.ops[j]?).bind (·.dst) with
      | some t => !(slots fn).contains t
      | none => true
    | none => true)
  | none => false

def opDone (E : Env) (st : ASt) (x : AOut) (H' : AHeap) : Option ASt :=
  match x with
  | .panic v => if lagFree E.P st.fr then some { st with fr := { st.fr.raise [{ v, recovered := false }] with draw := none }, H := H' } else none
  | .next n => match n with
    | .value v => (st.fr.finish v).map fun fr => { st with fr, H := H' }
    | .skip => (st.fr.finish undef).map fun fr => { st with fr, H := H' }
    | .enter f args => (enterA E.P f args .normal).map fun fr => { fr, cs := st.fr :: st.cs, H := H' }
    | .round l f tmps assign body => some { fr := { fn := f, tmps, todo := [.code assign, .beginRound, .code body], defers := [], mode := .run, kind := .normal, roundOf := some l, draw := none }, cs := st.fr :: st.cs, H := H' }
    | .defer d => if st.fr.roundOf.isSome || st.fr.draw.isSome then none else (AFrame.finish { st.fr with defers := d :: st.fr.defers } undef).map fun fr => { st with fr, H := H' }
    | .recover =>
      if st.fr.roundOf.isSome || st.fr.draw.isSome || st.fr.kind != .deferred then none else
      match st.cs with
      | c :: rest => match c.mode with
        | .panicking ({ v, recovered := false, goexit := false } :: older) =>
          (st.fr.finish v).map fun fr => { fr, cs := { c with mode := .panicking ({ v, recovered := true } :: older) } :: rest, H := H' }
        | _ => (st.fr.finish .nilIface).map fun fr => { st with fr, H := H' }
      | [] => none
    | _ => none

def settleA (m : FrameMode) : FrameMode :=
  match m with
  | .panicking ({ recovered := true, .. } :: older) =>
    match older.dropWhile (!·.goexit) with
    | [] => .returning
    | rest => .panicking rest
  | m => m

def returnA (st : ASt) (v : Value) (H : AHeap) : Option ASt :=
  match st.cs with
  | c :: rest => match st.fr.kind with
    | .normal => (c.finish v).map fun c => { fr := c, cs := rest, H }
    | .deferred => some { fr := { c with mode := settleA c.mode }, cs := rest, H }
    | _ => none
  | [] => none

def leaveA (E : Env) (st : ASt) (jump : Option Code) : Option ASt :=
  match st.fr.roundOf with
  | none => (match jump with
    | none => some { st with fr := { st.fr with mode := .returning } }
    | some .ret => some { st with fr := { st.fr with mode := .returning } }
    | _ => none)
  | some l => match absRun E.P (Instr.endRound l jump) st.H with
    | some (v, H') => returnA st v H'
    | none => none

def drawStep (E : Env) (st : ASt) (d : Draw) : Option ASt :=
  match d.cur with
  | some _ => none
  | none =>
    match Region.ready .any d.ops d.listed with
    | [] => if d.listed.toList.all id && d.lag.all (still E d.ops st.fr.tmps st.H) && apartA E.P st.fr st.cs then some { st with fr := { st.fr with draw := none } } else none
    | [i] =>
      let lag := d.lag.filter fun j => !isBefore d.ops d.ops.size j i
      if d.lag.all (still E d.ops st.fr.tmps st.H) && lag.all (fun j => apartB d.ops i j) && apartA E.P st.fr st.cs then
        match d.ops[i]? with
        | some o =>
          let d' : Draw := { d with listed := d.listed.setIfInBounds i true, lag, cur := some i }
          match wantedA d.ops st.fr.tmps o with
          | some false => (AFrame.finish { st.fr with draw := some d' } undef).map fun fr => { st with fr }
          | some true => match aop E st.fr.tmps st.H o with
            | some (x, H') => opDone E { st with fr := { st.fr with draw := some d' } } x H'
            | none => none
          | none => none
        | none => none
      else none
    | l => match firstFloat E d.ops st.fr.tmps st.H d.lag l with
      | some (i, v) => some { st with fr := { st.fr with tmps := putT st.fr.tmps ((d.ops[i]?).bind (·.dst)) v, draw := some { d with listed := d.listed.setIfInBounds i true, lag := d.lag ++ [i] } } }
      | none => match firstMake E d.ops st.fr.tmps.size d.lag l with
        | some (i, o, t) => some { st with fr := { st.fr with tmps := st.fr.tmps.setIfInBounds t (mkVal o st.H.next), draw := some { d with listed := d.listed.setIfInBounds i true, lag := d.lag ++ [i] } }, H := st.H.new o }
        | none => none

def execA (E : Env) (st : ASt) : Option ASt :=
  let to (todo : List Item) : Option ASt := some { st with fr := { st.fr with todo } }
  match st.fr.todo with
  | [] => leaveA E st none
  | .code .ret :: _ => leaveA E st (some .ret)
  | .code .skip :: k | .code (.label _) :: k | .inBlock _ :: k | .inScope _ :: k => to k
  | .code (.seq a b) :: k => to (.code a :: .code b :: k)
  | .code (.cond c thn els) :: k => if okOperand E.G c then (match evalT st.fr.tmps c with
    | .bool b => to (.code (if b then thn else els) :: k)
    | _ => none) else none
  | .code (.block id body) :: k => to (.code body :: .inBlock id :: k)
  | .code (.loop body) :: k | .inLoop body :: k => to (.code body :: .inLoop body :: k)
  | .code (.scope body) :: k => to (.code body :: .inScope body :: k)
  | .code (.exit id) :: k => (match exitTo id k with
    | some k' => to k'
    | none => leaveA E st (some (.exit id)))
  | .code (.goto l) :: k => (match gotoIn l k with
    | some k' => to k'
    | none => leaveA E st (some (.goto l)))
  | .code (.rangeFunc f params assign body) :: k =>
    if okOperand E.G f then
      match absRun E.P (Instr.enterLoop st.fr.fn st.fr.tmps params assign body st.fr.roundOf) st.H with
      | some ((l, mark), H') =>
        let fr := { st.fr with todo := .inRangeFunc l :: k, defers := mark ++ st.fr.defers }
        (match evalT st.fr.tmps f with
        | .func (.func g) first cap => if E.callOK g then (enterA E.P g (appA (appA first #[.func (.yield l) #[] #[]]) cap) .normal).map fun n => { fr := n, cs := fr :: st.cs, H := H' } else none
        | _ => none)
      | none => none
    else none
  | .beginRound :: k => (match st.fr.roundOf with
    | some l => (match absRun E.P (Instr.beginRound l) st.H with
      | some (_, H') => some { st with fr := { st.fr with todo := k }, H := H' }
      | none => none)
    | none => none)
  | .endRangeFunc l :: k => (match absRun E.P (Instr.endLoop l) st.H with
    | some (jump, H') => some { st with fr := { st.fr with todo := (jump.map Item.code).toList ++ k }, H := H' }
    | none => none)
  | .code (.region _ ops draw) :: k =>
    if draw then some { st with fr := { st.fr with todo := k, draw := some { ops, listed := Array.replicate ops.size false, lag := [], cur := none } } }
    else to (.inRegion ops (List.range ops.size) :: k)
  | .inRegion _ [] :: k => to k
  | .inRegion ops (i :: _) :: _ => (match ops[i]? with
    | some o => (match wantedA ops st.fr.tmps o with
      | some false => (st.fr.finish undef).map fun fr => { st with fr }
      | some true => (match aop E st.fr.tmps st.H o with
        | some (x, H') => opDone E st x H'
        | none => none)
      | none => none)
    | none => none)
  | _ => none

def resultsA (E : Env) (st : ASt) : Option Value :=
  match E.P.funcs[st.fr.fn]? with
  | some fn => absRunQ E.P (results fn st.fr.tmps) st.H
  | none => none

def unwindA (E : Env) (st : ASt) : Option ASt :=
  match st.fr.defers with
  | { target := .collected r, args := _ } :: ds => (match absRun E.P (Instr.takeDeferred r) st.H with
    | some (calls, H') => some { st with fr := { st.fr with defers := calls ++ ds }, H := H' }
    | none => none)
  | { target := .fn (.func g) cap, args } :: ds => if E.callOK g then (enterA E.P g (appA args cap) .deferred).map fun n => { st with fr := n, cs := { st.fr with defers := ds } :: st.cs } else none
  | _ :: _ => none
  | [] => match st.fr.mode with
    | .run => none
    | .panicking chain => (match st.cs with
      | c :: rest => if lagFree E.P c && (E.P.funcs[st.fr.fn]?).isSome then some { fr := { c.raise chain with draw := none }, cs := rest, H := st.H } else none
      | [] => none)
    | .returning => (match resultsA E st with
      | some v => returnA st v st.H
      | none => none)

def astep (E : Env) (st : ASt) : Option ASt :=
  match st.fr.mode with
  | .run => (match st.fr.draw with
    | some d => drawStep E st d
    | none => execA E st)
  | _ => unwindA E st

def lastA (f : FuncId) (st : ASt) : Bool :=
  st.fr.fn == f && st.cs.isEmpty && st.fr.defers.isEmpty && (match st.fr.kind with
    | .normal => true
    | _ => false) && (match st.fr.mode with
    | .returning => true
    | _ => false)

def arun (E : Env) (f : FuncId) : Nat → ASt → Option (Value × AHeap)
  | 0, _ => none
  | n + 1, st => if lastA f st then (resultsA E st).map fun v => (v, st.H) else
    match astep E st with
    | some st' => arun E f n st'
    | none => none

end Go.Ev
