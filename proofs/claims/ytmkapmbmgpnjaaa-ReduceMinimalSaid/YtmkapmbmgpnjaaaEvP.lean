import Derived.Test.YtmkapmbmgpnjaaaEvO
import Derived.Laws.Slices
import Derived.Lib.ConvBytes
import Derived.Laws.IdiomStrings
import Derived.Deep.OwnRows
namespace Go.Ev
open Go.RowKit

inductive Ext where
  | same
  | indexByte
  | room (e : TypeId)
  | entry (k : Nat)
  deriving DecidableEq

def entries : Nat → Array Value → Sem Value
  | 0 => Extern.BytealgCount.count
  | _ => Extern.BytealgIndexByte.indexByte

structure Env where
  P : Program
  G : Nat
  callOK : Nat → Bool
  ext : Nat → Option Ext

structure EnvOK (E : Env) : Prop where
  ok : Okay E.P
  call : ∀ g, E.callOK g = true → ∃ fn c, E.P.funcs[g]? = some fn ∧ fn.name ≠ "runtime.NumGoroutine" ∧ fn.body = some c
  same : ∀ g, E.ext g = some .same → ∀ (v : Value) w, (callFunc g #[v]).run E.P w = .ok (.value v) w
  index : ∀ g, E.ext g = some .indexByte → ∀ (x : Array Value) w, (callFunc g x).run E.P w = (do Pure.pure (Next.value (← Extern.BytealgIndexByte.indexByte x)) : Sem Next).run E.P w
  entry : ∀ g k, E.ext g = some (.entry k) → ∀ (x : Array Value) w, (callFunc g x).run E.P w = (do Pure.pure (Next.value (← entries k x)) : Sem Next).run E.P w
  room : ∀ g e, E.ext g = some (.room e) → ∀ (n : Nat), n ≤ 1099511627776 → ∀ w, ∃ (cs : Array Value) (d : Nat),
    (callFunc g #[.int .i64 n]).run E.P w = .ok (.value (.slice (some ⟨w.heap.size, 0, none⟩) n cs.size)) ({ w with drawn := d, heap := w.heap.push (.cells cs e (0, 0)) } : World) ∧ n ≤ cs.size

inductive AOut where
  | next (n : Next)
  | panic (v : Value)

def allScalar (r : Operand → Value) (o : Op) : Bool := o.operands.toList.all fun x => scalar 20 (r x)
def noneJunk (r : Operand → Value) (o : Op) : Bool := o.operands.toList.all fun x => !isJunk (r x)

def genFirst : Op → Bool
  | .alloc _ | .box .. | .load .. | .store .. | .fieldAddr .. | .indexAddr .. | .buildSlice .. | .makeSlice .. | .makeMap .. | .makeFunc .. => true
  | _ => false

def isSelect : Op → Bool
  | .select .. => true
  | _ => false

def agen (E : Env) (H : AHeap) (r : Operand → Value) (o : Oper) : Option (AOut × AHeap) :=
  if genK E.P H r o && noneJunk r o.op then
    match absRun E.P (execOp r o) H with
    | some (n, H') => some (.next n, H')
    | none => none
  else none

def apure (E : Env) (H : AHeap) (r : Operand → Value) (o : Oper) : Option (AOut × AHeap) :=
  if isSelect o.op then none else
  match pureRun E.P (execOp r o) with
  | some (.value v) => if scalar 20 v then some (.next (.value v), H) else none
  | _ => none

def astrBytes (P : Program) (H : AHeap) (src dst : TypeId) (v : Value) : Option (Value × AHeap) :=
  match v with
  | .string s => match P.underlying src with
    | some .string => match P.underlying dst with
      | some (.slice e) => match P.underlying e with
        | some (.int .u8) => if 1099511627776 < s.size then none else
          some (.slice (some ⟨H.next, 0, none⟩) s.size s.size, { H.growNew (s.data.map fun b => .int .u8 b.toNat) e 1 with grps := (H.growNew (s.data.map fun b => .int .u8 b.toNat) e 1).grps.set H.next { mem := [(H.next, 0)], flo := s.size, fhi := 18446744073709551616 } })
        | _ => none
      | _ => none
    | _ => none
  | _ => none

def aroomNew (H : AHeap) (e : TypeId) (x : List Value) : Option (Value × AHeap) :=
  match x with
  | [.int .i64 (.ofNat n)] => if 1099511627776 < n then none
    else some (.slice (some ⟨H.next, 0, none⟩) n n, H.growNew ⟨List.replicate n junk⟩ e 1)
  | _ => none

section
variable {P : Program} {N : Nat} {w0 : Base} {ρ : Ren} {H : AHeap} {w : World}

theorem HR.freezeAs (h : HR N w0 ρ H w) {i : Nat} (hoi : ρ.on i) {b : ABlk} {g g' : Grp} (hb : H.blk i = some b) (hro : b.ro = false) (hisc : isCells b.obj = true) (hg : H.grp b.root = some g)
    (hmem : g'.mem = g.mem) (hcov : g.flo < g.fhi → g'.flo ≤ g.flo ∧ g.fhi ≤ g'.fhi) {a' : Addr} (hab : a'.block = (ρ.f i).block) {n : Nat} (hn : n ≠ 0)
    (hpos : g'.flo + (ρ.f i).shift ≤ a'.off + b.org ∧ a'.off + n + b.org ≤ g'.fhi + (ρ.f i).shift) :
    HR N w0 ρ { H with grps := H.grps.set b.root g' } (w.freeze a' n) := by
  obtain ⟨c, e, fr, ho⟩ := isCells_eq hisc
  obtain ⟨c', e', ⟨lo, hi⟩, hw, hrest⟩ := h.cells _ _ _ _ _ hoi hb ho
  have hw' : w.heap[a'.block]? = some (.cells c' e' (lo, hi)) := by rw [hab]; exact hw
  have hh := fun k => heap_freeze hn hw' k
  have hNB := h.own _ _ hoi hb hro
  have hgrp : ∀ j, ({ H with grps := H.grps.set b.root g' } : AHeap).grp j = if j = b.root then some g' else H.grp j := fun j => Trie.get_set _ _ _ _
  obtain ⟨g0, hg0, hm0, hf0⟩ := h.grp _ b hoi hb hro hisc
  rw [hg] at hg0
  cases hg0
  refine ⟨h.n, h.base, ?_, ?_, h.dom, ?_, ?_, h.own, h.old, h.sep, ?_, h.root, h.off⟩
  · refine h.below.trans ⟨?_, ?_, ?_, by rw [freeze_size]; exact Nat.le_refl _, fun k hk => by rw [hh, if_neg (by omega)]⟩ <;> (unfold World.freeze; split <;> rfl)
  · intro j hj; rw [freeze_size]; exact h.lt j hj
  · intro j bi ci ei fi hon hi' hob
    obtain ⟨c1, e1, f1, hw1, r1⟩ := h.cells j bi ci ei fi hon hi' hob
    by_cases q : (ρ.f j).block = a'.block
    · rw [q, hw'] at hw1
      cases hw1
      exact ⟨_, _, _, by rw [hh, if_pos q], r1⟩
    · exact ⟨c1, e1, f1, by rw [hh, if_neg q]; exact hw1, r1⟩
  · intro j bi hon hi' hnc
    obtain ⟨o1, hw1, r1⟩ := h.objs j bi hon hi' hnc
    refine ⟨o1, ?_, r1⟩
    rw [hh]
    split
    · rename_i q
      rw [q, hw'] at hw1
      cases hw1
      have := r1.1.notCells.2
      cases this
    · exact hw1
  · intro j bi hon hi' hri hci
    obtain ⟨gi, hgi, hmi, hfi⟩ := h.grp j bi hon hi' hri hci
    have hsh : (ρ.f j).block = a'.block → bi.root = b.root ∧ (ρ.f j).shift + b.org = (ρ.f i).shift + bi.org := by
      intro q
      by_cases e1 : j = i
      · subst e1
        have hi2 : H.blk j = some bi := hi'
        rw [hb] at hi2
        cases hi2
        exact ⟨rfl, rfl⟩
      · have := h.sep j i bi b hon hoi hi' hb e1 hri hro (by rw [q, hab])
        exact ⟨this.2.2.1, this.2.2.2⟩
    by_cases er : bi.root = b.root
    · rw [er, hg] at hgi
      cases hgi
      refine ⟨g', by rw [hgrp, if_pos er], by rw [hmem]; exact hmi, ?_⟩
      intro cc ee lo2 hi2 hq
      rw [hh] at hq
      split at hq
      · rename_i q
        obtain ⟨_, hsh2⟩ := hsh q
        have hold := hfi c' e' lo hi (by rw [q]; exact hw')
        simp only [Option.some.injEq, Obj.cells.injEq] at hq
        obtain ⟨_, _, hq⟩ := hq
        split at hq
        · cases hq
          refine ⟨by omega, fun _ => ?_⟩
          omega
        · rename_i hne
          have hne' : lo ≠ hi := by simpa using hne
          cases hq
          have := hold.2 (by omega)
          have hgl := hcov (by omega)
          refine ⟨by omega, fun _ => ?_⟩
          have hmin : min lo a'.off = lo ∨ min lo a'.off = a'.off := by omega
          have hmax : max hi (a'.off + n) = hi ∨ max hi (a'.off + n) = a'.off + n := by omega
          constructor
          · rcases hmin with q | q <;> rw [q] <;> omega
          · rcases hmax with q | q <;> rw [q] <;> omega
      · obtain ⟨h1, h2⟩ := hfi cc ee lo2 hi2 hq
        refine ⟨h1, fun hlt => ?_⟩
        have := h2 hlt
        have hgl := hcov (by omega)
        omega
    · refine ⟨gi, by rw [hgrp, if_neg er]; exact hgi, hmi, ?_⟩
      intro cc ee lo2 hi2 hq
      rw [hh] at hq
      split at hq
      · rename_i q
        exact absurd (hsh q).1 er
      · exact hfi cc ee lo2 hi2 hq

theorem astrBytes_spec (h : HR N w0 ρ H w) {src dst : TypeId} {v v' x : Value} {H' : AHeap} (hv : VR ρ v v') (hr : astrBytes P H src dst v = some (x, H')) :
    ∃ σ x' w', ρ.le σ ∧ (Go.convert src dst v').run P w = .ok x' w' ∧ VR σ x x' ∧ HR N w0 σ H' w' := by
  unfold astrBytes at hr
  split at hr
  case h_2 => cases hr
  rename_i s
  split at hr
  case h_2 => cases hr
  rename_i hs
  split at hr
  case h_2 => cases hr
  rename_i e hd
  split at hr
  case h_2 => cases hr
  rename_i he
  split at hr
  case isTrue => cases hr
  rename_i hsz
  cases hr
  cases hv
  have hbytes : AsR ρ (s.data.map fun b => Value.int .u8 b.toNat) (s.data.map fun b => Value.int .u8 b.toNat) := by
    refine ⟨rfl, fun j u u' hu hu' => ?_⟩
    rw [hu] at hu'
    cases hu'
    rw [Array.getElem?_map] at hu
    cases hq : s.data[j]? with
    | none => rw [hq] at hu; cases hu
    | some b => rw [hq] at hu; cases hu; exact .int _ _
  have hge := Go.grownCap_ge w s.size 0 e
  have hle := Go.grownCap_le_maxLen w s.size 0 e (by simp only [maxLen]; omega)
  have hcs : (Go.Lib.bytesCells w e s).size = grownCap w s.size 0 e := by
    have : s.data.size = s.size := rfl
    simp [Go.Lib.bytesCells, this]; omega
  have h1 := (h.drawn (w.drawn + 1)).grow (c := s.data.map fun b => Value.int .u8 b.toNat) (c' := Go.Lib.bytesCells w e s) (e := e) (sz := 1) (CellsR.of_AsR hbytes _) (by omega)
  have hn := h.n
  have hself := Ren.ext_self ρ ⟨w.heap.size, 0, 1, (Go.Lib.bytesCells w e s).size⟩
  have hf : (ρ.ext ⟨w.heap.size, 0, 1, (Go.Lib.bytesCells w e s).size⟩).f H.next = ⟨w.heap.size, 0, 1, (Go.Lib.bytesCells w e s).size⟩ := by rw [hn]; exact hself
  have hb1 : (H.growNew (s.data.map fun b => Value.int .u8 b.toNat) e 1).blk H.next = some { obj := .cells (s.data.map fun b => Value.int .u8 b.toNat) e (0, 0), root := H.next, org := 0, ro := false, sz := 1 } := by
    unfold AHeap.growNew; rw [AHeap.blk_setBlk, if_pos rfl]
  have hg1 : (H.growNew (s.data.map fun b => Value.int .u8 b.toNat) e 1).grp H.next = some { mem := [(H.next, 0)], flo := 0, fhi := 0 } := by
    unfold AHeap.growNew; rw [AHeap.grp_setBlk, AHeap.grp_new, if_pos rfl]
  have h2 := HR.freezeAs h1 (i := H.next) (.inr hn) (g' := { mem := [(H.next, 0)], flo := s.size, fhi := 18446744073709551616 }) hb1 rfl rfl hg1 rfl (by intro q; cases q)
    (a' := ⟨w.heap.size, (Go.Lib.bytesCells w e s).size, none⟩) (by rw [hf]) (n := 1) (by omega) (by rw [hf]; simp only [hcs, maxLen] at hle ⊢; omega)
  refine ⟨ρ.ext ⟨w.heap.size, 0, 1, (Go.Lib.bytesCells w e s).size⟩, _, _, Ren.le_ext _ _, Go.Lib.run_convert_string_bytes w src dst e s hs hd he, ?_, ?_⟩
  · refine .ssome ⟨⟨?_, ?_, ?_, rfl⟩, hge, .inr ?_⟩
    · exact .inr (show H.next = ρ.n by omega)
    · simp only; rw [hf]
    · simp only; rw [hf]; rfl
    · simp only
      rw [hf]
      refine ⟨(Nat.one_pos : 0 < 1), ?_⟩
      show 0 + grownCap w s.size 0 e * 1 ≤ (Go.Lib.bytesCells w e s).size
      rw [hcs]
      omega
  · exact h2
end

def mapA (r : Operand → Value) (x : Array Operand) : Array Value := ⟨x.toList.map r⟩
def appA (x y : Array Value) : Array Value := ⟨x.toList ++ y.toList⟩
theorem mapA_eq (r : Operand → Value) (x : Array Operand) : mapA r x = x.map r := by
  apply Array.ext'
  simp [mapA]
theorem appA_eq (x y : Array Value) : appA x y = x ++ y := by
  apply Array.ext'
  simp [appA]

def adirect (P : Program) (t : TypeId) (name : String) : Option FuncId :=
  match P.info? t with
  | some i => match i.methods.find? (·.name == name) with
    | some m => match m.path.toList with
      | [] => match m.func with
        | some (f, false) => match P.underlying t with
          | some (.pointer _) => none
          | some _ => some f
          | none => none
        | some (f, true) => match P.underlying t with
          | some (.pointer _) => some f
          | _ => none
        | none => none
      | _ :: _ => none
    | none => none
  | none => none

theorem adirect_spec {P : Program} {t : TypeId} {name : String} {f : FuncId} (h : adirect P t name = some f) (n : Nat) (v : Value) (w : World) : (method (n + 1) t v name).run P w = .ok (f, v) w := by
  unfold adirect at h
  split at h
  case h_2 => cases h
  rename_i i hi
  split at h
  case h_2 => cases h
  rename_i m hm
  split at h
  case h_2 => cases h
  rename_i hp
  have hinfo : (typeInfo t).run P w = .ok i w := by simp [typeInfo, hi]
  split at h
  · rename_i g hg
    split at h
    case h_1 => cases h
    case h_3 => cases h
    rename_i d hnp hd
    cases h
    unfold method
    simp only [Sem.run_bind, hinfo, Result.andThen_ok, hm, hp, follow, Sem.run_pure, hg, receiverAt, run_underlying hd]
    cases d <;> first | (exact absurd hd (hnp _)) | simp [Place.get]
  · rename_i g hg
    split at h
    case h_2 => cases h
    rename_i e hd
    cases h
    unfold method
    simp only [Sem.run_bind, hinfo, Result.andThen_ok, hm, hp, follow, Sem.run_pure, hg, receiverAt, run_underlying hd, Place.get]
  · cases h

def ainvoke (E : Env) (t : TypeId) (v : Value) (name : String) : Option (FuncId × Value) :=
  match adirect E.P t name with
  | some g => if E.callOK g then some (g, v) else none
  | none => if scalar 20 v then (match pureRun E.P (method (E.P.types.size + Made.depth) t v name) with
    | some (g, u) => if scalar 20 u && E.callOK g then some (g, u) else none
    | none => none) else none

def acall (E : Env) (H : AHeap) (r : Operand → Value) (o : Oper) (c : Call) : Option (AOut × AHeap) :=
  match c.callee with
  | .value f => match r f with
    | .func (.func g) first cap =>
      if E.callOK g then some (.next (.enter g (appA (appA first (mapA r c.args)) cap)), H)
      else match E.ext g with
        | some .same => if first.isEmpty && cap.isEmpty then (match (mapA r c.args).toList with
          | [v] => some (.next (.value v), H)
          | _ => none) else none
        | some (.room e) => if first.isEmpty && cap.isEmpty then (match aroomNew H e (mapA r c.args).toList with
          | some (v, H') => some (.next (.value v), H')
          | none => none) else none
        | some (.entry k) => if first.isEmpty && cap.isEmpty && c.args.toList.all (fun x => scalar 20 (r x)) then
            match pureRun E.P (entries k (mapA r c.args)) with
            | some v => if scalar 20 v then some (.next (.value v), H) else none
            | none => none
          else none
        | some .indexByte => if first.isEmpty && cap.isEmpty && c.args.toList.all (fun x => scalar 20 (r x)) then
            match pureRun E.P (Extern.BytealgIndexByte.indexByte (mapA r c.args)) with
            | some v => if scalar 20 v then some (.next (.value v), H) else none
            | none => none
          else none
        | none => none
    | .func (.yield l) first _ =>
      match absRun E.P (Instr.yield l (appA first (mapA r c.args))) H with
      | some (n, H') => some (.next n, H')
      | none => none
    | _ => none
  | .builtin .recover => some (.next .recover, H)
  | .builtin .append => match (mapA r c.args).toList with
    | [s, x] => match aroom E.P H c.argTypes s x with
      | some (v, H') => some (.next (.value v), H')
      | none => match aappend E.P H c.argTypes s x with
        | some (v, H') => some (.next (.value v), H')
        | none => match aappendZ E.P H c.argTypes s x with
          | some (v, H') => some (.next (.value v), H')
          | none => none
    | _ => none
  | .builtin .unsafeSliceData => match (mapA r c.args).toList with
    | [s] => match sliceData s with
      | some v => some (.next (.value v), H)
      | none => none
    | _ => none
  | .builtin .unsafeString => match (mapA r c.args).toList with
    | [s, x] => match aunsafeString E.P H c.argTypes s x with
      | some (v, H') => some (.next (.value v), H')
      | none => none
    | _ => none
  | .builtin .panic => match (mapA r c.args).toList with
    | [.iface t v] => some (.panic (.iface t v), H)
    | _ => none
  | .builtin _ => if allScalar r o.op then apure E H r o else agen E H r o
  | .invoke rv name => match r rv with
    | .iface t v => match ainvoke E t v name with
      | some (g, u) => some (.next (.enter g (appA #[u] (mapA r c.args))), H)
      | none => none
    | _ => none

def readB (H : AHeap) (a : Addr) : Nat → Nat → Option (List UInt8)
  | _, 0 => some []
  | i, n + 1 => match H.cell (a.add i) with
    | some (.int .u8 (.ofNat m)) => if m < 256 then (match readB H a (i + 1) n with
      | some l => some (UInt8.ofNat m :: l)
      | none => none) else none
    | _ => none

def abytesStr (P : Program) (H : AHeap) (src dst : TypeId) (v : Value) : Option Value :=
  match v with
  | .slice (some a) n _ => match P.underlying src with
    | some (.slice e) => match P.underlying e with
      | some (.int .u8) => match P.underlying dst with
        | some .string => (match readB H a 0 n with
          | some l => some (.string ⟨l.toArray⟩)
          | none => none)
        | _ => none
      | _ => none
    | _ => none
  | _ => none

theorem readB_spec {H : AHeap} {a : Addr} : ∀ (n i : Nat) {l : List UInt8}, readB H a i n = some l → l.length = n ∧ ∀ j (h : j < l.length), H.cell (a.add (i + j)) = some (.int .u8 (l[j].toNat : Int))
  | 0, i, l, h => by cases h; exact ⟨rfl, fun j h => absurd h (Nat.not_lt_zero j)⟩
  | n + 1, i, l, h => by
    unfold readB at h
    split at h
    case h_2 => cases h
    rename_i m hc
    split at h
    case isFalse => cases h
    rename_i hm
    split at h
    case h_2 => cases h
    rename_i l2 hl2
    cases h
    obtain ⟨h1, h2⟩ := readB_spec n (i + 1) hl2
    refine ⟨by simp [h1], fun j hj => ?_⟩
    cases j with
    | zero =>
      rw [Nat.add_zero, hc]
      simp [Nat.mod_eq_of_lt hm]
    | succ j =>
      have := h2 j (by simpa using hj)
      rw [show i + (j + 1) = i + 1 + j by omega, this]
      simp

theorem abytesStr_spec {P : Program} {N : Nat} {w0 : Base} {ρ : Ren} {H : AHeap} {w : World} (h : HR N w0 ρ H w) {src dst : TypeId} {v v' u : Value} (hv : VR ρ v v') (hr : abytesStr P H src dst v = some u) : (convert src dst v').run P w = .ok u w ∧ VR ρ u u := by
  unfold abytesStr at hr
  split at hr
  case h_2 => cases hr
  rename_i a n c
  split at hr
  case h_2 => cases hr
  rename_i e hs
  split at hr
  case h_2 => cases hr
  rename_i he
  split at hr
  case h_2 => cases hr
  rename_i hd
  split at hr
  case h_2 => cases hr
  rename_i l hl
  cases hr
  obtain ⟨h1, h2⟩ := readB_spec n 0 hl
  cases hv
  rename_i a' c' hsl
  have ha : AR ρ a a' := hsl.1
  subst h1
  refine ⟨run_convert_bytes_back w src dst e a' c' l hs he hd fun j hj => ?_, .string _⟩
  have hcell := h2 j hj
  rw [Nat.zero_add] at hcell
  obtain ⟨v', q1, q2⟩ := h.load (ha.add j) hcell
  cases q2
  exact q1

def one1 : Value → Bool
  | .bool _ | .int .. | .string _ => true
  | _ => false
theorem one1_cells {z : Value} (h : one1 z = true) : z.cells = #[z] := by cases z <;> first | rfl | cases h
theorem one1_vr {ρ : Ren} {z : Value} (h : one1 z = true) : VR ρ z z := by
  cases z <;> first
    | exact .bool _
    | exact .int _ _
    | exact .string _
    | cases h

def eqz : Value → Value → Bool
  | .bool a, .bool b => a == b
  | .int k n, .int k' m => decide (k = k') && n == m
  | _, _ => false
theorem eqz_eq {x y : Value} (h : eqz x y = true) : y = x := by
  unfold eqz at h
  split at h
  · rw [eq_of_beq h]
  · rw [Bool.and_eq_true] at h
    rw [of_decide_eq_true h.1, eq_of_beq h.2]
  · cases h

def rowZ (z : Value) : Option Value :=
  if one1 z = true then some z else
  match z with
  | .agg a => match a.toList with
    | x :: l => if one1 x = true ∧ l.all (eqz x) = true then some x else none
    | [] => none
  | _ => none
theorem rowZ_cells {z x : Value} (h : rowZ z = some x) : one1 x = true ∧ 0 < z.cells.size ∧ ∀ (i : Nat) (h : i < z.cells.size), z.cells[i] = x := by
  unfold rowZ at h
  split at h
  · rename_i h1
    cases h
    refine ⟨h1, ?_⟩
    have e := one1_cells h1
    rw [e]
    refine ⟨Nat.one_pos, fun i hi => ?_⟩
    have : i = 0 := by
      have : i < 1 := hi
      omega
    subst this
    rfl
  · split at h
    case h_2 => cases h
    rename_i a _
    split at h
    case h_2 => cases h
    rename_i y l hl
    split at h
    case isFalse => cases h
    rename_i hc
    cases h
    refine ⟨hc.1, ?_⟩
    show 0 < a.size ∧ ∀ (i : Nat) (h : i < a.size), a[i] = x
    have hall : ∀ u ∈ a.toList, u = x := by
      intro u hu
      rw [hl] at hu
      rcases List.mem_cons.1 hu with rfl | hu
      · rfl
      · exact eqz_eq (List.all_eq_true.1 hc.2 u hu)
    refine ⟨?_, fun i hi => hall _ (Array.mem_toList_iff.2 (Array.getElem_mem hi))⟩
    have : a.toList.length = l.length + 1 := by rw [hl]; rfl
    rw [Array.length_toList] at this
    omega

def amakeRow (P : Program) (H : AHeap) (t : TypeId) (l c : Value) : Option (Value × AHeap) :=
  match P.underlying t with
  | some (.slice e) => match P.info? e with
    | some i => match i.zero with
      | some z => match rowZ z with
        | some x => match l with
          | .int _ (.ofNat n) => match c with
            | .int _ (.ofNat m) =>
              if n = m ∧ i.bytes * n ≤ 281474976710656 ∧ n ≤ 9223372036854775807 then
                some (.slice (some ⟨H.next, 0, none⟩) n n, H.new (.cells ⟨List.replicate (n * i.size) x⟩ e (0, 0)))
              else none
            | _ => none
          | _ => none
        | none => none
      | none => none
    | none => none
  | _ => none

theorem amakeRow_spec {P : Program} {N : Nat} {w0 : Base} {ρ : Ren} {H : AHeap} {w : World} (h : HR N w0 ρ H w) {t : TypeId} {l l' c c' v : Value} {H' : AHeap} (hl : VR ρ l l') (hc : VR ρ c c') (hr : amakeRow P H t l c = some (v, H')) :
    ∃ σ v' w', ρ.le σ ∧ (Instr.makeSlice t l' c').run P w = .ok v' w' ∧ VR σ v v' ∧ HR N w0 σ H' w' := by
  unfold amakeRow at hr
  split at hr
  case h_2 => cases hr
  rename_i e ht
  split at hr
  case h_2 => cases hr
  rename_i i hi
  split at hr
  case h_2 => cases hr
  rename_i z hz
  split at hr
  case h_2 => cases hr
  rename_i x hx
  split at hr
  case h_2 => cases hr
  rename_i k1 n
  split at hr
  case h_2 => cases hr
  rename_i k2 m
  split at hr
  case isFalse => cases hr
  rename_i hcond
  obtain ⟨rfl, hb, h63⟩ := hcond
  cases hr
  cases hl
  cases hc
  obtain ⟨h1, hpos, hall⟩ := rowZ_cells hx
  have hbb : (i.bytes : Int) * (n : Int) ≤ 281474976710656 := by
    have h : ((i.bytes * n : Nat) : Int) ≤ 281474976710656 := by omega
    rwa [Int.natCast_mul] at h
  have hrun := Go.run_make (P := P) w t e i z ht hi hz k1 k2 n n (by omega) (Int.le_refl _) hbb (by omega)
  simp only [Int.toNat_natCast] at hrun
  have hob : ObR ρ (.cells ⟨List.replicate (n * i.size) x⟩ e (0, 0)) (.cells (madeCells z.cells (n * i.size)) e) := by
    refine .cells e ⟨by simp [madeCells], fun j a b ha hb => ?_⟩
    have ea : a = x := by
      have := Array.mem_of_getElem? ha
      exact List.eq_of_mem_replicate (Array.mem_toList_iff.2 this)
    have eb : b = x := by
      simp [madeCells] at hb
      obtain ⟨y, _, hb⟩ := hb
      rw [← hb]
      have hlt : y % z.cells.size < z.cells.size := Nat.mod_lt _ hpos
      rw [getElem!_pos z.cells _ hlt]
      exact hall _ hlt
    rw [ea, eb]
    exact one1_vr h1
  have hnew := h.new hob
  have hn := h.n
  generalize hL : (⟨w.heap.size, 0, 0, objSize (.cells ⟨List.replicate (n * i.size) x⟩ e (0, 0))⟩ : Loc) = L at hnew
  have hb2 := BR.ext ρ L
  have ha : AR (ρ.ext L) ⟨H.next, 0, none⟩ ⟨w.heap.size, 0, none⟩ := by
    rw [hn]
    refine ⟨hb2.1, ?_, ?_, rfl⟩
    · show w.heap.size = ((ρ.ext L).f ρ.n).block
      rw [Ren.ext_self, ← hL]
    · show 0 = 0 + ((ρ.ext L).f ρ.n).shift
      rw [Ren.ext_self, ← hL]
      rfl
  exact ⟨_, _, _, Ren.le_ext ρ L, hrun, VR.freshSlice ha _ _, hnew⟩

def asliceEnd (P : Program) (H : AHeap) (t : TypeId) (v : Value) (lo hi mx : Option Value) : Option (Value × AHeap) :=
  match v with
  | .slice (some a) n c => match lo with
    | some (.int _ (.ofNat l)) => match hi with
      | none => match mx with
        | none => match P.underlying t with
          | some (.slice e) => match P.info? e with
            | some _ => if l = n ∧ n = c ∧ a.spot.isNone = true then some (.slice (some ⟨H.next, 0, none⟩) 0 0, { H with next := H.next + 1 }) else none
            | none => none
          | _ => none
        | some _ => none
      | some _ => none
    | _ => none
  | _ => none

theorem HR.ghost {N : Nat} {w0 : Base} {ρ : Ren} {H : AHeap} {w : World} (h : HR N w0 ρ H w) {l : Loc} (hl : l.block < w.heap.size) : HR N w0 (ρ.ext l) { H with next := H.next + 1 } w := by
  have hn := h.n
  have hle := Ren.le_ext ρ l
  have hext : ∀ i, ρ.on i → (ρ.ext l).f i = ρ.f i := fun i hi => Ren.ext_of_lt _ _ hi
  have hon : ∀ i b, (ρ.ext l).on i → H.blk i = some b → ρ.on i := fun i b hi hb => Ren.on_of _ _ hi (by have := h.dom i b hb; omega)
  refine ⟨?_, h.base, h.below, ?_, ?_, ?_, ?_, ?_, ?_, ?_, ?_, ?_, fun i hi => Ren.off_ext _ (h.off i hi)⟩
  · show H.next + 1 = ρ.n + 1
    omega
  · intro i hi
    by_cases q : i = ρ.n
    · subst q; rw [Ren.ext_self]; exact hl
    · rw [hext i (Ren.on_of _ _ hi q)]; exact h.lt i (Ren.on_of _ _ hi q)
  · intro i b hb
    have := h.dom i b hb
    show i < ρ.n + 1
    omega
  · intro i b c e fr hi hb ho
    have hi := hon i b hi hb
    obtain ⟨a1, a2, a3, a4, a5, a6, a7⟩ := h.cells i b c e fr hi hb ho
    rw [hext i hi]
    exact ⟨a1, a2, a3, a4, a5, a6.mono hle, a7⟩
  · intro i b hi hb hnc
    have hi := hon i b hi hb
    obtain ⟨a1, a2, a3⟩ := h.objs i b hi hb hnc
    rw [hext i hi]
    exact ⟨a1, a2, a3.1.mono hle, a3.2⟩
  · intro i b hi hb hr
    have hi := hon i b hi hb
    rw [hext i hi]
    exact h.own i b hi hb hr
  · intro i b hi hb hr
    have hi := hon i b hi hb
    rw [hext i hi]
    exact h.old i b hi hb hr
  · intro i j bi bj hi hj hbi hbj hne hr hr2
    have hi := hon i bi hi hbi
    have hj := hon j bj hj hbj
    rw [hext i hi, hext j hj]
    exact h.sep i j bi bj hi hj hbi hbj hne hr hr2
  · intro i b hi hb hr hc
    have hi := hon i b hi hb
    rw [hext i hi]
    exact h.grp i b hi hb hr hc
  · intro i b hb
    exact Nat.lt_succ_of_lt (h.root i b hb)

theorem asliceEnd_spec {P : Program} {N : Nat} {w0 : Base} {ρ : Ren} {H : AHeap} {w : World} (h : HR N w0 ρ H w) {t : TypeId} {v v' : Value} {lo hi mx lo' hi' mx' : Option Value} {u : Value} {H' : AHeap} (hv : VR ρ v v') (hl : OptR ρ lo lo') (hh : OptR ρ hi hi') (hm : OptR ρ mx mx')
    (hr : asliceEnd P H t v lo hi mx = some (u, H')) : ∃ σ u', ρ.le σ ∧ (Instr.sliceAt t v' lo' hi' mx').run P w = .ok u' w ∧ VR σ u u' ∧ HR N w0 σ H' w := by
  unfold asliceEnd at hr
  split at hr
  case h_2 => cases hr
  rename_i a n c
  split at hr
  case h_2 => cases hr
  rename_i k l
  split at hr
  case h_2 => cases hr
  split at hr
  case h_2 => cases hr
  split at hr
  case h_2 => cases hr
  rename_i e ht
  split at hr
  case h_2 => cases hr
  rename_i i hi0
  split at hr
  case isFalse => cases hr
  rename_i hc
  obtain ⟨rfl, rfl, hsp⟩ := hc
  have hsp : a.spot = none := by simpa using hsp
  cases hr
  obtain rfl : lo' = some (.int k (.ofNat l)) := by
    rcases hl with ⟨h1, _⟩ | ⟨x, x', h1, h2, h3⟩
    · cases h1
    · cases h1; cases h3; exact h2
  obtain rfl : hi' = none := by
    rcases hh with ⟨_, h2⟩ | ⟨x, x', h1, _⟩
    · exact h2
    · cases h1
  obtain rfl : mx' = none := by
    rcases hm with ⟨_, h2⟩ | ⟨x, x', h1, _⟩
    · exact h2
    · cases h1
  cases hv
  rename_i a' c' hs
  obtain ⟨ha, hcc, _⟩ := hs
  have hblk : a'.block < w.heap.size := by rw [ha.2.1]; exact h.lt _ ha.1
  have hel : P.elem t = e := by unfold Program.elem; rw [ht]
  have ht' : P.underlying t = some (.slice (P.elem t)) := by rw [hel]; exact ht
  have hrun : (Instr.sliceAt t (.slice (some a') l c') (some (.int k (.ofNat l))) none none).run P w = .ok (sliced (some a') l l c' i.size) w := by
    rw [run_sliceAt_slice w t _ _ _ _ ht', run_slice_l w t (some a') l c' ht' k (.ofNat l) (Int.natCast_nonneg l) (Int.le_refl _), hel]
    have hz : (sizeOf e).run P w = .ok i.size w := by
      have hti : (typeInfo e).run P w = .ok i w := by
        show (match P.info? e with | some i => (Pure.pure i : Sem TypeInfo) | none => Go.stuck "no such type").run P w = _
        rw [hi0]; rfl
      unfold Go.sizeOf
      rw [Sem.run_bind, hti]
      rfl
    rw [hz]
    rfl
  have hsub : l - l = 0 := Nat.sub_self l
  have hsp' : a'.spot = none := by rw [ha.2.2.2]; exact hsp
  have hres : ∃ b : Addr, sliced (some a') l l c' i.size = .slice (some b) 0 (c' - l) ∧ b.block = a'.block ∧ b.spot = none := by
    unfold sliced
    rw [hsub]
    split
    · exact ⟨a', rfl, rfl, hsp'⟩
    · refine ⟨a'.add (l * i.size), rfl, ?_, ?_⟩ <;> (unfold Addr.add; split <;> first | rfl | exact hsp')
  obtain ⟨b, e1, e2, e3⟩ := hres
  refine ⟨ρ.ext ⟨b.block, b.off, 1, b.off + (c' - l)⟩, _, Ren.le_ext _ _, hrun, ?_, h.ghost (by rw [e2]; exact hblk)⟩
  rw [e1]
  refine .ssome ⟨⟨?_, ?_, ?_, ?_⟩, Nat.zero_le _, .inr ?_⟩
  · show (ρ.ext _).on H.next
    rw [h.n]; exact Ren.on_self _ _
  · show b.block = ((ρ.ext _).f H.next).block
    rw [h.n, Ren.ext_self]
  · show b.off = 0 + ((ρ.ext _).f H.next).shift
    rw [h.n, Ren.ext_self, Nat.zero_add]
  · show b.spot = none
    exact e3
  · show 0 < ((ρ.ext _).f H.next).sz ∧ b.off + (c' - l) * ((ρ.ext _).f H.next).sz ≤ ((ρ.ext _).f H.next).csize
    rw [h.n, Ren.ext_self]
    exact ⟨Nat.one_pos, by simp⟩

def aopR (E : Env) (r : Operand → Value) (H : AHeap) (o : Oper) : Option (AOut × AHeap) :=
  if o.op.operands.toList.all (okOperand E.G) then
    match o.op with
    | .move x | .assign x => some (.next (.value (r x)), H)
    | .panic x => (match r x with
      | .iface t v => some (.panic (.iface t v), H)
      | _ => none)
    | .defer c => (match c.callee with
      | .value f => (match r f with
        | .func fn first cap => (match fn with
          | .yield _ => none
          | fn => some (.next (.defer { target := .fn fn cap, args := appA first (mapA r c.args) }), H))
        | _ => none)
      | _ => none)
    | .lookup t m k ok => if scalar 20 (r k) then
        match alookup E.P H t (r m) (r k) ok with
        | some v => some (.next (.value v), H)
        | none => none
      else none
    | .mapUpdate t m k x => if scalar 20 (r k) then
        match amapUpdate E.P H t (r m) (r k) (r x) with
        | some H' => some (.next .skip, H')
        | none => none
      else none
    | .insert t m k x => if scalar 20 (r k) then
        match amapUpdate E.P H t (r m) (r k) (r x) with
        | some H' => some (.next .skip, H')
        | none => none
      else none
    | .mapEntry t m k => if scalar 20 (r k) then
        match amapEntry E.P H t (r m) (r k) with
        | some (v, H') => some (.next (.value v), H')
        | none => none
      else none
    | .entryStore _ m s x => (match aentryStore H (r m) (r s) (r x) with
        | some H' => some (.next .skip, H')
        | none => none)
    | .makeSlice t l c => (match amakeRow E.P H t (r l) (r c) with
        | some (v, H') => some (.next (.value v), H')
        | none => agen E H r o)
    | .slice t x lo hi mx => (match agen E H r o with
        | some y => some y
        | none => match asliceEnd E.P H t (r x) (lo.map r) (hi.map r) (mx.map r) with
          | some (v, H') => some (.next (.value v), H')
          | none => if allScalar r o.op then apure E H r o else none)
    | .call c => acall E H r o c
    | .convert src dst x => if convPtr E.P H src dst (r x) then some (.next (.value (r x)), H) else match astrBytes E.P H src dst (r x) with
      | some (v, H') => some (.next (.value v), H')
      | none => match abytesStr E.P H src dst (r x) with
        | some v => some (.next (.value v), H)
        | none => if allScalar r o.op then apure E H r o else none
    | .binOp op t x y _ => match ptrEq E.P H op t (r x) (r y) with
      | some v => some (.next (.value v), H)
      | none => if allScalar r o.op then apure E H r o else agen E H r o
    | op => if genFirst op then agen E H r o else if allScalar r op then apure E H r o else agen E H r o
  else none

def aop (E : Env) (tmps : Array Value) (H : AHeap) (o : Oper) : Option (AOut × AHeap) := aopR E (evalT tmps) H o

section
variable {E : Env} {N : Nat} {w0 : Base} {ρ : Ren} {H : AHeap} {w : World}

def OpSays (E : Env) (N : Nat) (w0 : Base) (ρ : Ren) (s : Sem Next) (w : World) (x : AOut) (H' : AHeap) : Prop :=
  match x with
  | .next n => ∃ σ n' w', ρ.le σ ∧ s.run E.P w = .ok n' w' ∧ NR σ n n' ∧ HR N w0 σ H' w'
  | .panic v => ∃ v', s.run E.P w = .halt (.panic v') w ∧ VR ρ v v' ∧ HR N w0 ρ H' w

theorem agen_spec (ok : Okay E.P) (h : HR N w0 ρ H w) {r r' : Operand → Value} {o : Oper} (hr : ∀ x, x ∈ o.op.operands → VR ρ (r x) (r' x)) {x : AOut} {H' : AHeap} (hx : agen E H r o = some (x, H')) :
    OpSays E N w0 ρ (execOp r' o) w x H' := by
  unfold agen at hx
  split at hx
  case isFalse => cases hx
  rename_i hk
  simp only [Bool.and_eq_true] at hk
  split at hx
  case h_2 => cases hx
  rename_i n H2 hrun
  cases hx
  have hop : OpsR ρ r r' o.op := by
    intro x hx
    refine ⟨hr x hx, ?_⟩
    have := hk.2
    unfold noneJunk at this
    rw [List.all_eq_true] at this
    simpa using this x (Array.mem_toList_iff.2 hx)
  have := absRun_sound (gen_spec ok h hk.1 hop) H w h
  rw [hrun] at this
  exact this

theorem apure_spec (h : HR N w0 ρ H w) {r r' : Operand → Value} {o : Oper} (hs : allScalar r o.op = true) (hr : ∀ x, x ∈ o.op.operands → VR ρ (r x) (r' x)) {x : AOut} {H' : AHeap} (hx : apure E H r o = some (x, H')) :
    OpSays E N w0 ρ (execOp r' o) w x H' := by
  unfold apure at hx
  split at hx
  case isTrue => cases hx
  rename_i hsel
  split at hx
  case h_2 => cases hx
  rename_i v hrun
  split at hx
  case isFalse => cases hx
  rename_i hsv
  cases hx
  have he : execOp r' o = execOp r o := by
    refine execOp_congr o (fun cs b q => hsel (by rw [q]; rfl)) fun y hy => ?_
    unfold allScalar at hs
    rw [List.all_eq_true] at hs
    exact scalar.eq _ _ _ (hs y (Array.mem_toList_iff.2 hy)) (hr y hy)
  refine ⟨ρ, _, w, Ren.le_refl _, by rw [he]; exact pureRun_run _ hrun w, .value (VR.ofScalar _ _ hsv), h⟩

theorem VS.yield {P : Program} {l l' : Nat} (hl : BR ρ l l') {x x' : Array Value} (hx : AsR ρ x x') : SR P NR ρ (Instr.yield l x) (Instr.yield l' x') := by
  unfold Instr.yield Instr.getLoop
  refine SR.bind (RA := LR) ?_ fun σ a b hle hab => ?_
  · refine SR.bind (SR.getObjOne hl) fun σ o o' _ ho => ?_
    cases ho <;> first | exact .stuck _ | skip
    rename_i hlr
    exact .ret hlr
  · have hx := hx.mono hle
    rw [hab.params, hab.fn, hab.assign, hab.body, ← hx.1]
    have go : SR P NR σ (Pure.pure (Next.round l a.fn ((a.params.zip x).foldl (fun tmps (t, a) => tmps.setIfInBounds t a) a.tmps) a.assign a.body)) (Pure.pure (Next.round l' a.fn ((a.params.zip x').foldl (fun tmps (t, a) => tmps.setIfInBounds t a) b.tmps) a.assign a.body)) := by
      refine .ret (.round _ _ _ (hl.mono hle) ?_)
      rw [← Array.foldl_toList, ← Array.foldl_toList]
      have key : ∀ (ps : List Nat) (y y' : List Value) (t t' : Array Value), LsR σ y y' → AsR σ t t' → AsR σ ((ps.zip y).foldl (fun tmps p => tmps.setIfInBounds p.1 p.2) t) ((ps.zip y').foldl (fun tmps p => tmps.setIfInBounds p.1 p.2) t') := by
        intro ps
        induction ps with
        | nil => intro y y' t t' _ ht; simpa using ht
        | cons p ps ih =>
          intro y y' t t' hy ht
          cases y with
          | nil => cases y' with
            | nil => simpa using ht
            | cons _ _ => exact hy.elim
          | cons v vs => cases y' with
            | nil => exact hy.elim
            | cons u us => exact ih vs us _ _ hy.2 (ht.set _ hy.1)
      have := key a.params.toList x.toList x'.toList a.tmps b.tmps hx.toList hab.tmps
      simpa using this
    split
    · exact SR.bind (RA := fun _ _ _ => False) (SR.stuck _) fun τ _ _ _ hf => hf.elim
    · exact go

theorem toList_one {x : Array Value} {v : Value} (h : x.toList = [v]) : x = #[v] := by cases x; simp at h; subst h; rfl
theorem toList_two {x : Array Value} {v u : Value} (h : x.toList = [v, u]) : x = #[v, u] := by cases x; simp at h; subst h; rfl

theorem AsR.one {v : Value} {x' : Array Value} (h : AsR ρ #[v] x') : ∃ v', x' = #[v'] ∧ VR ρ v v' := by
  obtain ⟨v', h1, h2⟩ := h.get (i := 0) (v := v) rfl
  refine ⟨v', ?_, h2⟩
  have hs := h.1
  simp at hs
  apply Array.ext
  · simp [← hs]
  · intro i h3 h4
    have : i = 0 := by simp at h4; omega
    subst this
    obtain ⟨_, e⟩ := Array.getElem?_eq_some_iff.1 h1
    simpa using e

theorem AsR.two {v u : Value} {x' : Array Value} (h : AsR ρ #[v, u] x') : ∃ v' u', x' = #[v', u'] ∧ VR ρ v v' ∧ VR ρ u u' := by
  obtain ⟨v', h1, h2⟩ := h.get (i := 0) (v := v) rfl
  obtain ⟨u', h3, h4⟩ := h.get (i := 1) (v := u) rfl
  refine ⟨v', u', ?_, h2, h4⟩
  have hs := h.1
  simp at hs
  apply Array.ext
  · simp [← hs]
  · intro i h5 h6
    have : i = 0 ∨ i = 1 := by simp at h6; omega
    rcases this with q | q <;> subst q
    · obtain ⟨_, e⟩ := Array.getElem?_eq_some_iff.1 h1
      simpa using e
    · obtain ⟨_, e⟩ := Array.getElem?_eq_some_iff.1 h3
      simpa using e

theorem indexByte_scalar {x x' : Array Value} (h : AsR ρ x x') (hs : ∀ v ∈ x.toList, scalar 20 v = true) : x' = x := by
  refine scalar_arr (n := 20) (fun v v' => scalar.eq 20 v v') ?_ h.1 h.2
  rw [List.all_eq_true]
  exact hs

theorem ainvoke_spec {ρ : Ren} {t : TypeId} {v v' u : Value} {name : String} {g : FuncId} (hv : VR ρ v v') (h : ainvoke E t v name = some (g, u)) : ∃ u', VR ρ u u' ∧ E.callOK g = true ∧ ∀ w, (method (E.P.types.size + Made.depth) t v' name).run E.P w = .ok (g, u') w := by
  unfold ainvoke at h
  split at h
  · rename_i f hf
    split at h
    case isFalse => cases h
    rename_i hok
    cases h
    exact ⟨v', hv, hok, fun w => adirect_spec hf (E.P.types.size + 99) v' w⟩
  · split at h
    case isFalse => cases h
    rename_i hs
    split at h
    case h_2 => cases h
    rename_i g2 u2 hr
    split at h
    case isFalse => cases h
    rename_i hq
    cases h
    rw [Bool.and_eq_true] at hq
    have e : v' = v := scalar.eq 20 v v' hs hv
    subst e
    exact ⟨u, VR.ofScalar _ _ hq.1, hq.2, fun w => pureRun_run _ hr w⟩

theorem acall_spec (ok : EnvOK E) (h : HR N w0 ρ H w) {r r' : Operand → Value} {o : Oper} {c : Call} (ho : o.op = .call c) (hr : ∀ x, x ∈ o.op.operands → VR ρ (r x) (r' x)) {x : AOut} {H' : AHeap} (hx : acall E H r o c = some (x, H')) :
    OpSays E N w0 ρ (execOp r' o) w x H' := by
  have hargs : AsR ρ (c.args.map r) (c.args.map r') := AsR.map fun y hy => hr y (by rw [ho]; simp [Op.operands, Call.operands]; exact .inr hy)
  have hexec : execOp r' o = (do let d ← resolve r' c o.type; invoke d.target d.args) := by
    unfold execOp; rw [ho]
  unfold acall at hx
  simp only [mapA_eq, appA_eq] at hx
  split at hx
  · -- a function's value
    rename_i f hcal
    have hf : VR ρ (r f) (r' f) := hr f (by rw [ho]; simp [Op.operands, Call.operands, hcal])
    have hres : resolve r' c o.type = Deferred.ofValue (r' f) (c.args.map r') := by unfold resolve; rw [hcal]
    split at hx
    · rename_i g first cap hrf
      rw [hrf] at hf
      generalize hrf' : r' f = uu at hf
      cases hf
      rename_i f' first' cap' hff h1 h2 h3 h4
      have hfn : f' = .func g := by cases f' <;> first | (cases hff; done) | (cases hff; rfl)
      subst hfn
      have hcall : execOp r' o = callFunc g ((first' ++ c.args.map r') ++ cap') := by
        rw [hexec, hres, hrf']
        rfl
      have hall : AsR ρ ((first ++ c.args.map r) ++ cap) ((first' ++ c.args.map r') ++ cap') := (AsR.append ⟨h1, h2⟩ hargs).append ⟨h3, h4⟩
      split at hx
      · rename_i hok
        cases hx
        obtain ⟨fn, cd, q1, q2, q3⟩ := ok.call g hok
        refine ⟨ρ, _, w, Ren.le_refl _, ?_, .enter g hall, h⟩
        rw [hcall]
        unfold callFunc
        simp [q1, q2, q3]
      · split at hx
        · rename_i hext
          split at hx
          case isFalse => cases hx
          rename_i hemp
          split at hx
          case h_2 => cases hx
          rename_i v hv
          cases hx
          simp only [Bool.and_eq_true, Array.isEmpty_iff] at hemp
          obtain ⟨rfl, rfl⟩ := hemp
          have e1 : first' = #[] := by simpa using h1.symm
          have e2 : cap' = #[] := by simpa using h3.symm
          subst e1 e2
          rw [toList_one hv] at hargs
          obtain ⟨v', hv', hr2⟩ := hargs.one
          refine ⟨ρ, _, w, Ren.le_refl _, ?_, .value hr2, h⟩
          rw [hcall, hv']
          exact ok.same g hext v' w
        · rename_i e hext
          split at hx
          case isFalse => cases hx
          rename_i hemp
          split at hx
          case h_2 => cases hx
          rename_i v H2 hv
          cases hx
          simp only [Bool.and_eq_true, Array.isEmpty_iff] at hemp
          obtain ⟨rfl, rfl⟩ := hemp
          have e1 : first' = #[] := by simpa using h1.symm
          have e2 : cap' = #[] := by simpa using h3.symm
          subst e1 e2
          unfold aroomNew at hv
          split at hv
          case h_2 => cases hv
          rename_i n hl
          split at hv
          case isTrue => cases hv
          rename_i hn
          cases hv
          rw [toList_one hl] at hargs
          obtain ⟨v', hv', hr2⟩ := hargs.one
          cases hr2
          obtain ⟨cs, d, q1, q2⟩ := ok.room g e hext n (by omega) w
          have hcells : CellsR ρ 0 (⟨List.replicate n junk⟩ : Array Value) cs := by
            intro j v hj
            have hj2 : (Array.replicate n junk)[j]? = some v := by simpa using hj
            rw [Array.getElem?_replicate] at hj2
            split at hj2
            case isFalse => cases hj2
            rename_i hlt
            cases hj2
            exact ⟨cs[j]'(by omega), by simp [Array.getElem?_eq_getElem (show j < cs.size by omega)], .junk _⟩
          have hg := (h.drawn d).grow (c := (⟨List.replicate n junk⟩ : Array Value)) (c' := cs) (e := e) (sz := 1) hcells (by omega)
          have hnn := h.n
          have hself := Ren.ext_self ρ ⟨w.heap.size, 0, 1, cs.size⟩
          refine ⟨_, .value (.slice (some ⟨w.heap.size, 0, none⟩) n cs.size), _, Ren.le_ext _ _, ?_, .value ?_, hg⟩
          · rw [hcall, hv']
            exact q1
          · refine .ssome ⟨⟨?_, ?_, ?_, rfl⟩, q2, .inr ?_⟩
            · exact .inr (show H.next = ρ.n by omega)
            · simp only [hnn]; rw [hself]
            · simp only [hnn]; rw [hself]; rfl
            · simp only [hnn]; rw [hself]; exact ⟨(Nat.one_pos : 0 < 1), by show 0 + cs.size * 1 ≤ cs.size; omega⟩
        · rename_i k hext
          split at hx
          case isFalse => cases hx
          rename_i hemp
          split at hx
          case h_2 => cases hx
          rename_i v hv
          split at hx
          case isFalse => cases hx
          rename_i hsv
          cases hx
          simp only [Bool.and_eq_true, Array.isEmpty_iff] at hemp
          obtain ⟨⟨rfl, rfl⟩, hsc⟩ := hemp
          have e1 : first' = #[] := by simpa using h1.symm
          have e2 : cap' = #[] := by simpa using h3.symm
          subst e1 e2
          have hsame : c.args.map r' = c.args.map r := indexByte_scalar hargs (by
            intro u hu
            simp only [Array.toList_map, List.mem_map] at hu
            obtain ⟨y, hy, rfl⟩ := hu
            rw [List.all_eq_true] at hsc
            exact hsc y hy)
          refine ⟨ρ, _, w, Ren.le_refl _, ?_, .value (VR.ofScalar _ _ hsv), h⟩
          rw [hcall, hsame]
          simp only [Array.empty_append, Array.append_empty]
          rw [ok.entry g k hext, Sem.run_bind, pureRun_run _ hv]
          rfl
        · rename_i hext
          split at hx
          case isFalse => cases hx
          rename_i hemp
          split at hx
          case h_2 => cases hx
          rename_i v hv
          split at hx
          case isFalse => cases hx
          rename_i hsv
          cases hx
          simp only [Bool.and_eq_true, Array.isEmpty_iff] at hemp
          obtain ⟨⟨rfl, rfl⟩, hsc⟩ := hemp
          have e1 : first' = #[] := by simpa using h1.symm
          have e2 : cap' = #[] := by simpa using h3.symm
          subst e1 e2
          have hsame : c.args.map r' = c.args.map r := indexByte_scalar hargs (by
            intro u hu
            simp only [Array.toList_map, List.mem_map] at hu
            obtain ⟨y, hy, rfl⟩ := hu
            rw [List.all_eq_true] at hsc
            exact hsc y hy)
          refine ⟨ρ, _, w, Ren.le_refl _, ?_, .value (VR.ofScalar _ _ hsv), h⟩
          rw [hcall, hsame]
          simp only [Array.empty_append, Array.append_empty]
          rw [ok.index g hext, Sem.run_bind, pureRun_run _ hv]
          rfl
        · cases hx
    · rename_i l first cap hrf
      rw [hrf] at hf
      generalize hrf' : r' f = uu at hf
      cases hf
      rename_i f' first' cap' hff h1 h2 h3 h4
      split at hx
      case h_2 => cases hx
      rename_i n H2 hrun
      cases hx
      obtain ⟨l', rfl⟩ : ∃ l', f' = .yield l' := by cases f' <;> first | (cases hff; done) | exact ⟨_, rfl⟩
      have hcall : execOp r' o = Instr.yield l' (first' ++ c.args.map r') := by
        rw [hexec, hres, hrf']
        rfl
      have := absRun_sound (VS.yield (P := E.P) (show BR ρ l l' from hff) (AsR.append ⟨h1, h2⟩ hargs)) H w h
      rw [hrun] at this
      rw [hcall]
      exact this
    · cases hx
  · rename_i hcal
    cases hx
    refine ⟨ρ, _, w, Ren.le_refl _, ?_, .recover, h⟩
    rw [hexec]
    unfold resolve
    rw [hcal]
    rfl
  · rename_i hcal
    have hb : execOp r' o = (do Pure.pure (Next.value (← Builtin.append_ c.argTypes o.type (c.args.map r')))) := by
      rw [hexec]; unfold resolve; rw [hcal]; rfl
    split at hx
    case h_2 => cases hx
    rename_i s y hsx
    rw [toList_two hsx] at hargs
    obtain ⟨s', y', he, hs, hy⟩ := hargs.two
    rw [he] at hb
    have fin : ∀ {v : Value} {H2 : AHeap}, (∃ σ v' w', ρ.le σ ∧ (Builtin.append_ c.argTypes o.type #[s', y']).run E.P w = .ok v' w' ∧ VR σ v v' ∧ HR N w0 σ H2 w') → OpSays E N w0 ρ (execOp r' o) w (.next (.value v)) H2 := by
      rintro v H2 ⟨σ, v', w', q1, q2, q3, q4⟩
      refine ⟨σ, _, w', q1, ?_, .value q3, q4⟩
      rw [hb, Sem.run_bind, q2]
      rfl
    split at hx
    · rename_i v H2 hq
      cases hx
      exact fin (aroom_spec h o.type hs hy hq)
    · split at hx
      · rename_i v H2 hq
        cases hx
        exact fin (aappend_spec h o.type hs hy hq)
      · split at hx
        · rename_i v H2 hq
          cases hx
          exact fin (aappendZ_spec h o.type hs hy hq)
        · cases hx
  · rename_i hcal
    split at hx
    case h_2 => cases hx
    rename_i s hsx
    split at hx
    case h_2 => cases hx
    rename_i v hq
    cases hx
    rw [toList_one hsx] at hargs
    obtain ⟨s', he, hs⟩ := hargs.one
    obtain ⟨u', q1, q2⟩ := sliceData_spec (P := E.P) (w := w) c.argTypes o.type hs hq
    refine ⟨ρ, _, w, Ren.le_refl _, ?_, .value q2, h⟩
    have hb : execOp r' o = (do Pure.pure (Next.value (← Builtin.unsafeSliceData_ c.argTypes o.type (c.args.map r')))) := by
      rw [hexec]; unfold resolve; rw [hcal]; rfl
    rw [hb, he, Sem.run_bind, q1]
    rfl
  · rename_i hcal
    split at hx
    case h_2 => cases hx
    rename_i s y hsx
    split at hx
    case h_2 => cases hx
    rename_i v H2 hq
    cases hx
    rw [toList_two hsx] at hargs
    obtain ⟨s', y', he, hs, hy⟩ := hargs.two
    obtain ⟨w', q1, q2, q3⟩ := aunsafeString_spec h o.type hs hy hq
    refine ⟨ρ, _, w', Ren.le_refl _, ?_, .value q2, q3⟩
    have hb : execOp r' o = (do Pure.pure (Next.value (← Builtin.unsafeString_ c.argTypes o.type (c.args.map r')))) := by
      rw [hexec]; unfold resolve; rw [hcal]; rfl
    rw [hb, he, Sem.run_bind, q1]
    rfl
  · rename_i hcal
    split at hx
    case h_2 => cases hx
    rename_i t v hsx
    cases hx
    rw [toList_one hsx] at hargs
    obtain ⟨s', he, hs⟩ := hargs.one
    cases hs
    rename_i v' hv
    refine ⟨.iface t v', ?_, .iface t hv, h⟩
    have hb : execOp r' o = (do Pure.pure (Next.value (← Instr.panic ((c.args.map r').getD 0 .nilIface)))) := by
      rw [hexec]; unfold resolve; rw [hcal]; rfl
    rw [hb, he]
    rfl
  · split at hx
    · rename_i hsc; exact apure_spec h hsc hr hx
    · exact agen_spec ok.ok h hr hx
  · rename_i rv name hcal
    have hf : VR ρ (r rv) (r' rv) := hr rv (by rw [ho]; simp [Op.operands, Call.operands, hcal])
    split at hx
    case h_2 => cases hx
    rename_i t v hrf
    rw [hrf] at hf
    generalize hrf' : r' rv = uu at hf
    cases hf
    rename_i v' hv
    split at hx
    case h_2 => cases hx
    rename_i g u hq
    cases hx
    obtain ⟨u', hu, hok, hm⟩ := ainvoke_spec hv hq
    obtain ⟨fn, cd, q1, q2, q3⟩ := ok.call g hok
    have hres : resolve r' c o.type = Pure.pure { target := .fn (.method name) #[], args := #[r' rv] ++ c.args.map r' } := by unfold resolve; rw [hcal]
    have hex : (#[Value.iface t v'] ++ c.args.map r').extract 1 (#[Value.iface t v'] ++ c.args.map r').size = c.args.map r' := by
      apply Array.ext
      · simp
      · intro i h1 h2
        simp
    have hrun : (callMethod (.iface t v') name (c.args.map r')).run E.P w = .ok (.enter g (#[u'] ++ c.args.map r')) w := by
      have hc : (callFunc g (#[u'] ++ c.args.map r')).run E.P w = .ok (.enter g (#[u'] ++ c.args.map r')) w := by
        unfold callFunc
        simp [q1, q2, q3]
      have hp : ∀ w, (program).run E.P w = .ok E.P w := fun w => rfl
      unfold callMethod
      simp only [Sem.run_bind, hp, Result.andThen_ok, hm w]
      exact hc
    refine ⟨ρ, _, w, Ren.le_refl _, ?_, .enter g (AsR.append ((AsR.nil ρ).push hu) hargs), h⟩
    have h0 : (#[Value.iface t v'] ++ c.args.map r')[0]? = some (.iface t v') := by
      rw [Array.getElem?_append_left (by simp)]
      rfl
    rw [hexec, hres, hrf']
    show (invoke (.fn (.method name) #[]) (#[Value.iface t v'] ++ c.args.map r')).run E.P w = _
    unfold invoke
    simp only [h0, hex]
    exact hrun

theorem aopR_spec (ok : EnvOK E) (h : HR N w0 ρ H w) {r : Operand → Value} {o : Oper} {r' : Operand → Value} (ht : ∀ x, x ∈ o.op.operands → okOperand E.G x = true → VR ρ (r x) (r' x)) {x : AOut} {H' : AHeap} (hx : aopR E r H o = some (x, H')) :
    OpSays E N w0 ρ (execOp r' o) w x H' := by
  unfold aopR at hx
  simp only [mapA_eq, appA_eq] at hx
  split at hx
  case isFalse => cases hx
  rename_i hop
  rw [List.all_eq_true] at hop
  have hr : ∀ x, x ∈ o.op.operands → VR ρ (r x) (r' x) := fun y hy => ht y hy (hop y (Array.mem_toList_iff.2 hy))
  clear ht
  obtain ⟨dst, op, type, pos, after, guard⟩ := o
  simp only at hr hx
  split at hx
  · cases hx; exact ⟨ρ, _, w, Ren.le_refl _, rfl, .value (hr _ (by simp [Op.operands])), h⟩
  · cases hx; exact ⟨ρ, _, w, Ren.le_refl _, rfl, .value (hr _ (by simp [Op.operands])), h⟩
  · rename_i y
    split at hx
    case h_2 => cases hx
    rename_i t v hv
    cases hx
    have := hr y (by simp [Op.operands])
    rw [hv] at this
    generalize hq : r' y = u at this
    cases this
    rename_i v' hv'
    refine ⟨.iface t v', ?_, .iface t hv', h⟩
    simp only [execOp, hq]
    rfl
  · rename_i c
    split at hx
    case h_2 => cases hx
    rename_i f hcal
    have hargs : AsR ρ (c.args.map r) (c.args.map r') := AsR.map fun y hy => hr y (by simp [Op.operands, Call.operands]; exact .inr hy)
    have hf : VR ρ (r f) (r' f) := hr f (by simp [Op.operands, Call.operands, hcal])
    split at hx
    case h_2 => cases hx
    rename_i fn first cap hrf
    rw [hrf] at hf
    generalize hq : r' f = u at hf
    cases hf
    rename_i f' first' cap' hff h1 h2 h3 h4
    split at hx
    · cases hx
    · rename_i hny
      cases hx
      refine ⟨ρ, .defer { target := .fn f' cap', args := first' ++ c.args.map r' }, w, Ren.le_refl _, ?_, .defer ⟨.fn hff ⟨h3, h4⟩, AsR.append ⟨h1, h2⟩ hargs⟩, h⟩
      simp only [execOp]
      unfold resolve
      rw [hcal]
      simp only [hq]
      rfl
  · rename_i t m k okb
    split at hx
    case isFalse => cases hx
    rename_i hk
    split at hx
    case h_2 => cases hx
    rename_i v hl
    cases hx
    obtain ⟨v', q1, q2⟩ := alookup_spec ok.ok h (hr m (by simp [Op.operands])) hl
    have ek := scalar.eq _ _ _ hk (hr k (by simp [Op.operands]))
    refine ⟨ρ, _, w, Ren.le_refl _, ?_, .value q2, h⟩
    simp only [execOp, ek]
    rw [Sem.run_bind, q1]
    rfl
  · rename_i t m k y
    split at hx
    case isFalse => cases hx
    rename_i hk
    split at hx
    case h_2 => cases hx
    rename_i H2 hl
    cases hx
    have ek := scalar.eq _ _ _ hk (hr k (by simp [Op.operands]))
    obtain ⟨w', q1, q2⟩ := amapUpdate_spec h hk (hr m (by simp [Op.operands])) (hr y (by simp [Op.operands])) hl
    refine ⟨ρ, _, w', Ren.le_refl _, ?_, .skip, q2⟩
    simp only [execOp, ek]
    rw [Sem.run_bind, q1]
    rfl
  · rename_i t m k y
    split at hx
    case isFalse => cases hx
    rename_i hk
    split at hx
    case h_2 => cases hx
    rename_i H2 hl
    cases hx
    have ek := scalar.eq _ _ _ hk (hr k (by simp [Op.operands]))
    obtain ⟨w', q1, q2⟩ := amapUpdate_spec h hk (hr m (by simp [Op.operands])) (hr y (by simp [Op.operands])) hl
    refine ⟨ρ, _, w', Ren.le_refl _, ?_, .skip, q2⟩
    simp only [execOp, ek]
    rw [Sem.run_bind, q1]
    rfl
  · rename_i t m k
    split at hx
    case isFalse => cases hx
    rename_i hk
    split at hx
    case h_2 => cases hx
    rename_i v H2 hl
    cases hx
    have ek := scalar.eq _ _ _ hk (hr k (by simp [Op.operands]))
    obtain ⟨v', w', q1, q2, q3⟩ := amapEntry_spec ok.ok h hk (hr m (by simp [Op.operands])) hl
    refine ⟨ρ, _, w', Ren.le_refl _, ?_, .value q2, q3⟩
    simp only [execOp, ek]
    rw [Sem.run_bind, q1]
    rfl
  · rename_i t m s y
    split at hx
    case h_2 => cases hx
    rename_i H2 hl
    cases hx
    obtain ⟨w', q1, q2⟩ := aentryStore_spec (P := E.P) (t := t) h (hr m (by simp [Op.operands])) (hr s (by simp [Op.operands])) (hr y (by simp [Op.operands])) hl
    refine ⟨ρ, _, w', Ren.le_refl _, ?_, .skip, q2⟩
    simp only [execOp]
    rw [Sem.run_bind, q1]
    rfl
  · rename_i t l c
    split at hx
    · rename_i v H2 hl
      cases hx
      obtain ⟨σ, v', w', q1, q2, q3, q4⟩ := amakeRow_spec h (hr l (by simp [Op.operands])) (hr c (by simp [Op.operands])) hl
      refine ⟨σ, _, w', q1, ?_, .value q3, q4⟩
      simp only [execOp]
      rw [Sem.run_bind, q2]
      rfl
    · exact agen_spec ok.ok h hr hx
  · rename_i t y lo hi mx
    split at hx
    · rename_i z hz
      cases hx
      exact agen_spec ok.ok h hr hz
    · split at hx
      · rename_i v H2 hl
        cases hx
        have hopt : ∀ z : Option Operand, (∀ u, z = some u → u ∈ (Op.slice t y lo hi mx).operands) → OptR ρ (z.map r) (z.map r') := by
          intro z hz
          cases z with
          | none => exact .inl ⟨rfl, rfl⟩
          | some u => exact .inr ⟨_, _, rfl, rfl, hr u (hz u rfl)⟩
        obtain ⟨σ, v', q1, q2, q3, q4⟩ := asliceEnd_spec h (hr y (by simp [Op.operands])) (hopt lo (by rintro u rfl; simp [Op.operands])) (hopt hi (by rintro u rfl; simp [Op.operands])) (hopt mx (by rintro u rfl; simp [Op.operands])) hl
        refine ⟨σ, _, w, q1, ?_, .value q3, q4⟩
        simp only [execOp]
        rw [Sem.run_bind, q2]
        rfl
      · split at hx
        · rename_i hsc; exact apure_spec h hsc hr hx
        · cases hx
  · exact acall_spec ok h rfl hr hx
  · rename_i src dst' y
    split at hx
    · rename_i hc
      cases hx
      have hy := hr y (by simp [Op.operands])
      refine ⟨ρ, _, w, Ren.le_refl _, ?_, .value hy, h⟩
      simp only [execOp]
      rw [Sem.run_bind, convPtr_spec h hy hc]
      rfl
    · split at hx
      · rename_i v2 H2 hb
        cases hx
        obtain ⟨σ, x', w', q1, q2, q3, q4⟩ := astrBytes_spec h (hr y (by simp [Op.operands])) hb
        refine ⟨σ, _, w', q1, ?_, .value q3, q4⟩
        simp only [execOp]
        rw [Sem.run_bind, q2]
        rfl
      · split at hx
        · rename_i v2 hb
          cases hx
          obtain ⟨q1, q2⟩ := abytesStr_spec h (hr y (by simp [Op.operands])) hb
          refine ⟨ρ, _, w, Ren.le_refl _, ?_, .value q2, h⟩
          simp only [execOp]
          rw [Sem.run_bind, q1]
          rfl
        · split at hx
          · rename_i hsc; exact apure_spec h hsc hr hx
          · cases hx
  · rename_i bop t y z yt
    split at hx
    · rename_i v hv
      cases hx
      obtain ⟨q1, q2⟩ := ptrEq_spec h (hr y (by simp [Op.operands])) (hr z (by simp [Op.operands])) hv y z
      refine ⟨ρ, _, w, Ren.le_refl _, ?_, .value q2, h⟩
      simp only [execOp]
      rw [Sem.run_bind, q1]
      rfl
    · split at hx
      · rename_i hsc; exact apure_spec h hsc hr hx
      · exact agen_spec ok.ok h hr hx
  · split at hx
    · exact agen_spec ok.ok h hr hx
    · split at hx
      · rename_i hsc; exact apure_spec h hsc hr hx
      · exact agen_spec ok.ok h hr hx

theorem aop_spec (ok : EnvOK E) (h : HR N w0 ρ H w) {tmps : Array Value} {o : Oper} {r' : Operand → Value} (ht : ∀ x, x ∈ o.op.operands → okOperand E.G x = true → VR ρ (evalT tmps x) (r' x)) {x : AOut} {H' : AHeap} (hx : aop E tmps H o = some (x, H')) :
    OpSays E N w0 ρ (execOp r' o) w x H' := aopR_spec ok h ht hx

end
end Go.Ev
