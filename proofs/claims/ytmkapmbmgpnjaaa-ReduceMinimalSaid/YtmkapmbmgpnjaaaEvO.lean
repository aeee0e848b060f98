import Derived.Test.YtmkapmbmgpnjaaaEvN
namespace Go.Ev
open Go.RowKit

section
variable {P : Program} {N : Nat} {w0 : Base} {ρ : Ren} {H : AHeap} {w : World}

def apartP (H : AHeap) (a b : Addr) : Bool :=
  match H.blk a.block, H.blk b.block with
  | some x, some y => !x.ro && !y.ro && isCells x.obj && isCells y.obj && !(Nat.beq x.root y.root) && a.spot.isNone && b.spot.isNone &&
    (match H.grp x.root, H.grp y.root with
      | some g, some h => Nat.ble g.fhi g.flo && Nat.ble h.fhi h.flo
      | _, _ => false)
  | _, _ => false
theorem sameAddr_apart {a b : Addr} {ca cb : Array Value} {ta tb : TypeId} {fa fb : Nat × Nat} (hne : ¬ a.block = b.block) (ha : w.heap[a.block]? = some (.cells ca ta fa)) (hb : w.heap[b.block]? = some (.cells cb tb fb))
    (sa : a.spot = none) (sb : b.spot = none) (za : ∀ k, w.frozen? ⟨a.block, k, none⟩ = false) (zb : ∀ k, w.frozen? ⟨b.block, k, none⟩ = false) : (sameAddr a b).run P w = .ok false w := by
  obtain ⟨ba, oa, _⟩ := a
  obtain ⟨bb, ob, _⟩ := b
  cases sa
  cases sb
  simp [sameAddr, hne, za, zb, noView, viewAt, World.shape?, mayBeOne, stringish, ha, hb]
theorem apart_spec (h : HR N w0 ρ H w) {a a' b b' : Addr} (ha : AR ρ a a') (hb : AR ρ b b') (hq : apartP H a b = true) : ¬ a.block = b.block ∧ (sameAddr a' b').run P w = .ok false w := by
  unfold apartP at hq
  split at hq
  case h_2 => cases hq
  rename_i x y hx hy
  simp only [Bool.and_eq_true, Bool.not_eq_true', Option.isNone_iff_eq_none] at hq
  obtain ⟨⟨⟨⟨⟨⟨⟨rx, ry⟩, ix⟩, iy⟩, hr⟩, sx⟩, sy⟩, hg⟩ := hq
  split at hg
  case h_2 => cases hg
  rename_i g1 g2 e1 e2
  simp only [Bool.and_eq_true, Nat.ble_eq] at hg
  have hroot : ¬ x.root = y.root := fun e => by rw [e, Nat.beq_refl] at hr; cases hr
  have hij : ¬ a.block = b.block := fun e => by
    rw [e, hy] at hx
    cases hx
    exact hroot rfl
  refine ⟨hij, ?_⟩
  obtain ⟨oa, a2, a3, a4⟩ := ha
  obtain ⟨ob, b2, b3, b4⟩ := hb
  have hne : ¬ a'.block = b'.block := fun e => hroot (h.sep _ _ _ _ oa ob hx hy hij rx ry (by rw [← a2, ← b2, e])).2.2.1
  obtain ⟨c1, t1, f1, q1⟩ := isCells_eq ix
  obtain ⟨c2, t2, f2, q2⟩ := isCells_eq iy
  obtain ⟨c1', t1', f1', k1, _⟩ := h.cells _ _ _ _ _ oa hx q1
  obtain ⟨c2', t2', f2', k2, _⟩ := h.cells _ _ _ _ _ ob hy q2
  have frz : ∀ (i : Nat) (z : ABlk) (g : Grp), ρ.on i → H.blk i = some z → z.ro = false → isCells z.obj = true → H.grp z.root = some g → g.fhi ≤ g.flo → ∀ k, w.frozen? ⟨(ρ.f i).block, k, none⟩ = false := by
    intro i z g oi hz rz iz eg hle k
    obtain ⟨g', eg', _, hF⟩ := h.grp i z oi hz rz iz
    rw [eg] at eg'
    cases eg'
    cases q : w.frozen? ⟨(ρ.f i).block, k, none⟩ with
    | false => rfl
    | true =>
      have := hF.frozen q
      omega
  refine sameAddr_apart (ca := c1') (cb := c2') hne (by rw [a2]; exact k1) (by rw [b2]; exact k2) (by rw [a4]; exact sx) (by rw [b4]; exact sy) ?_ ?_
  · intro k
    rw [a2]
    exact frz _ _ _ oa hx rx ix e1 hg.1 k
  · intro k
    rw [b2]
    exact frz _ _ _ ob hy ry iy e2 hg.2 k

def ptrEq (P : Program) (H : AHeap) (op : BinOp) (t : TypeId) (v u : Value) : Option Value :=
  match v, u with
  | .pointer (some a), .pointer (some b) =>
    if (Nat.beq a.block b.block || apartP H a b) = true then
      match P.underlying t with
      | some (.pointer e) => match P.info? e with
        | some i => if i.size = 0 then none else
          match op with
          | .eql => some (.bool (a == b))
          | .neq => some (.bool (!(a == b)))
          | _ => none
        | none => none
      | _ => none
    else none
  | _, _ => none

theorem AR.beq {a a' b b' : Addr} (ha : AR ρ a a') (hb : AR ρ b b') (he : a.block = b.block) : a'.block = b'.block ∧ (a' == b') = (a == b) := by
  obtain ⟨_, h2, h3, h4⟩ := ha
  obtain ⟨_, k2, k3, k4⟩ := hb
  have hbl : a'.block = b'.block := by rw [h2, k2, he]
  refine ⟨hbl, ?_⟩
  have : a' = b' ↔ a = b := by
    constructor
    · intro e
      cases a; cases b; cases a'; cases b'
      simp only [Addr.mk.injEq] at *
      subst he
      exact ⟨rfl, by omega, by rw [← h4, ← k4]; exact e.2.2⟩
    · intro e
      subst e
      cases a'; cases b'
      simp only [Addr.mk.injEq] at *
      exact ⟨hbl, by omega, by rw [h4, k4]⟩
  rw [Bool.eq_iff_iff, beq_iff_eq, beq_iff_eq]
  exact this

theorem ptrEq_spec (h : HR N w0 ρ H w) {op : BinOp} {t : TypeId} {v v' u u' x : Value} (hv : VR ρ v v') (hu : VR ρ u u') (hr : ptrEq P H op t v u = some x) (y z : Operand) :
    (do eqGuard op t y z v' u'; binOp op t v' u').run P w = .ok x w ∧ VR ρ x x := by
  unfold ptrEq at hr
  split at hr
  case h_2 => cases hr
  rename_i a b
  split at hr
  case isFalse => cases hr
  rename_i he
  split at hr
  case h_2 => cases hr
  rename_i e hd
  split at hr
  case h_2 => cases hr
  rename_i i hi
  split at hr
  case isTrue => cases hr
  rename_i hsz
  cases hv
  case psome a' ha =>
    cases hu
    case psome b' hb =>
      have hsame : (sameAddr a' b').run P w = .ok (a == b) w := by
        rw [Bool.or_eq_true] at he
        rcases he with he | he
        · obtain ⟨h1, h2⟩ := ha.beq hb (Nat.eq_of_beq_eq_true he)
          unfold Go.sameAddr
          simp [h1, h2]
        · obtain ⟨h1, h2⟩ := apart_spec (P := P) h ha hb he
          have e3 : (a == b) = false := by
            cases q : a == b with
            | false => rfl
            | true => exact absurd (by rw [beq_iff_eq.1 q]) h1
          rw [h2, e3]
      have hu2 : ∀ w, (Go.underlying t).run P w = .ok (.pointer e) w := by intro w; simp [Go.underlying, hd]
      have hs2 : ∀ w, (Go.sizeOf e).run P w = .ok i.size w := by intro w; simp [Go.sizeOf, Go.typeInfo, hi]
      have heq : (Op.equal t (.pointer (some a')) (.pointer (some b'))).run P w = .ok (a == b) w := by
        unfold Op.equal
        have e9 : Op.maxDepth = 9999 + 1 := rfl
        rw [e9]
        unfold Op.equalIn
        rw [Sem.run_bind, hu2]
        simp only [Result.andThen_ok]
        rw [Sem.run_bind, hs2]
        simp only [Result.andThen_ok, ne_eq, hsz, not_false_eq_true, if_true]
        exact hsame
      cases op <;> first
        | (cases hr; done)
        | skip
      · cases hr
        refine ⟨?_, .bool _⟩
        show (do eqGuard .eql t y z (.pointer (some a')) (.pointer (some b')); binOp .eql t (.pointer (some a')) (.pointer (some b'))).run P w = _
        have hg : eqGuard .eql t y z (.pointer (some a')) (.pointer (some b')) = Pure.pure () := rfl
        rw [hg]
        show (do Pure.pure (.bool (← Op.equal t (.pointer (some a')) (.pointer (some b')))) : Sem Value).run P w = _
        rw [Sem.run_bind, heq]
        rfl
      · cases hr
        refine ⟨?_, .bool _⟩
        have hg : eqGuard .neq t y z (.pointer (some a')) (.pointer (some b')) = Pure.pure () := rfl
        rw [hg]
        show (do Pure.pure (.bool (!(← Op.equal t (.pointer (some a')) (.pointer (some b'))))) : Sem Value).run P w = _
        rw [Sem.run_bind, heq]
        rfl

def convPtr (P : Program) (H : AHeap) (src dst : TypeId) (v : Value) : Bool :=
  match v with
  | .pointer (some a) => match H.shape a.block with
    | some (some (e, n)) => match P.underlying src, P.underlying dst with
      | some (.pointer t), some .unsafePointer => (match P.info? t with
        | some i => decide (i.size ≠ 0) && decide (a.off < n)
        | none => false)
      | some .unsafePointer, some (.pointer u) => (match P.info? u with
        | some i => decide (i.size ≠ 0) && liesAt P P.depth e (n / P.cellsOf e) a.off u 1
        | none => false)
      | _, _ => false
    | _ => false
  | _ => false

theorem shape_spec (h : HR N w0 ρ H w) {r : Nat} (hon : ρ.on r) {e : TypeId} {n : Nat} (hs : H.shape r = some (some (e, n))) : w.shape? (ρ.f r).block = some (e, n) ∧ (ρ.f r).shift = 0 := by
  unfold AHeap.shape at hs
  split at hs
  · rename_i b hb
    split at hs
    · rename_i c e1 fr ho
      split at hs
      · rename_i hz
        cases hs
        obtain ⟨c', e', fr', hw, _, _, _, q3, hx⟩ := h.cells _ _ _ _ _ hon hb ho
        obtain ⟨q1, q2⟩ := hx hz
        exact ⟨by simp [World.shape?, hw, q1, q3], q2⟩
      · cases hs
    · cases hs
  · cases hs

theorem convPtr_spec (h : HR N w0 ρ H w) {src dst : TypeId} {v v' : Value} (hv : VR ρ v v') (hr : convPtr P H src dst v = true) : (convert src dst v').run P w = .ok v' w := by
  unfold convPtr at hr
  split at hr
  case h_2 => cases hr
  rename_i a
  split at hr
  case h_2 => cases hr
  rename_i e n hs
  cases hv
  case psome a' ha =>
    obtain ⟨hsh, hz⟩ := shape_spec h ha.1 hs
    obtain ⟨_, h2, h3, _⟩ := ha
    rw [← h2] at hsh
    have hoff : a'.off = a.off := by omega
    have hseen : (Conv.seenAt a').run P w = .ok a' w := by
      unfold Conv.seenAt Go.viewAt
      simp [hsh]
    split at hr
    · rename_i t hsrc hdst
      split at hr
      case h_2 => cases hr
      rename_i i hi
      simp only [Bool.and_eq_true, decide_eq_true_eq] at hr
      have hu1 : ∀ w, (Go.underlying src).run P w = .ok (.pointer t) w := by intro w; simp [Go.underlying, hsrc]
      have hu2 : ∀ w, (Go.underlying dst).run P w = .ok .unsafePointer w := by intro w; simp [Go.underlying, hdst]
      unfold convert
      rw [Sem.run_bind, hu1]
      simp only [Result.andThen_ok]
      rw [Sem.run_bind, hu2]
      simp only [Result.andThen_ok]
      unfold Conv.unsafePointer
      rw [Sem.run_bind, hu1]
      simp only [Result.andThen_ok]
      rw [Sem.run_bind, hu2]
      simp only [Result.andThen_ok]
      rw [Sem.run_bind, hseen]
      have hnn : ¬ n ≤ a'.off := by omega
      simp [Go.cellsIn, hsh, Go.sizeOf, Go.typeInfo, hi, hr.1, hnn]
    · rename_i u hsrc hdst
      split at hr
      case h_2 => cases hr
      rename_i i hi
      simp only [Bool.and_eq_true, decide_eq_true_eq] at hr
      have hu1 : ∀ w, (Go.underlying src).run P w = .ok .unsafePointer w := by intro w; simp [Go.underlying, hsrc]
      have hu2 : ∀ w, (Go.underlying dst).run P w = .ok (.pointer u) w := by intro w; simp [Go.underlying, hdst]
      unfold convert
      rw [Sem.run_bind, hu1]
      simp only [Result.andThen_ok]
      rw [Sem.run_bind, hu2]
      simp only [Result.andThen_ok]
      unfold Conv.unsafePointer
      rw [Sem.run_bind, hu1]
      simp only [Result.andThen_ok]
      rw [Sem.run_bind, hu2]
      simp only [Result.andThen_ok]
      rw [Sem.run_bind, hseen]
      have hl := hr.2
      rw [← hoff] at hl
      simp [Go.variablesAt, hsh, Go.sizeOf, Go.typeInfo, hi, hr.1, hl]
    · cases hr

def sliceData : Value → Option Value
  | .slice none _ _ => some (.pointer none)
  | .slice (some a) _ c => if c = 0 then none else some (.pointer (some a))
  | _ => none

theorem sliceData_eq (ts : Array TypeId) (t : TypeId) (a : Addr) (n c : Nat) (hc : c ≠ 0) : Builtin.unsafeSliceData_ ts t #[.slice (some a) n c] = Pure.pure (.pointer (some a)) := by
  have e : Builtin.unsafeSliceData_ ts t #[.slice (some a) n c] = (if c ≠ 0 then Pure.pure (.pointer (some a)) else do
    if (← Go.viewAt a.block).isSome then Pure.pure (.pointer (some a))
    else Pure.pure (.pointer (some ⟨← Go.newObj (.view a (← Go.elemOf t)), 0, none⟩))) := rfl
  rw [e, if_pos hc]

theorem sliceData_spec (ts : Array TypeId) (t : TypeId) {v v' u : Value} (hv : VR ρ v v') (hr : sliceData v = some u) : ∃ u', (Builtin.unsafeSliceData_ ts t #[v']).run P w = .ok u' w ∧ VR ρ u u' := by
  cases hv <;> first
    | (cases hr; done)
    | skip
  · cases hr; exact ⟨_, rfl, .pnone⟩
  · rename_i a a' n c c' hs
    have : sliceData (.slice (some a) n c) = if c = 0 then none else some (.pointer (some a)) := rfl
    rw [this] at hr
    split at hr
    · cases hr
    · rename_i hc
      cases hr
      have hc' : c' ≠ 0 := by have := hs.2.1; omega
      exact ⟨.pointer (some a'), by rw [sliceData_eq ts t a' n c' hc']; rfl, .psome hs.1⟩

def abytes (H : AHeap) (a : Addr) (acc : ByteArray) : Nat → Option ByteArray
  | 0 => some acc
  | n + 1 => match H.cell a with
    | some (.int .u8 b) => abytes H (a.add 1) (acc.push b.toNat.toUInt8) n
    | _ => none

theorem abytes_spec (h : HR N w0 ρ H w) : ∀ (n : Nat) {a a' : Addr} (acc : ByteArray) {s : ByteArray}, AR ρ a a' → abytes H a acc n = some s →
    (Go.loadBytes a' acc n).run P w = .ok s w ∧ ∀ j, j < n → ∃ x, w.cell? (a'.add j) = some x := by
  intro n
  induction n with
  | zero => intro a a' acc s _ hs; cases hs; exact ⟨rfl, fun j hj => by omega⟩
  | succ n ih =>
    intro a a' acc s ha hs
    unfold abytes at hs
    split at hs
    · rename_i b hc
      obtain ⟨v', hv', hr⟩ := h.load ha hc
      cases hr
      obtain ⟨h1, h2⟩ := ih _ (ha.add 1) hs
      refine ⟨?_, fun j hj => ?_⟩
      · unfold Go.loadBytes
        rw [Sem.run_bind]
        simp [hv', h1]
      · cases j with
        | zero => exact ⟨_, by simpa [Addr.add] using hv'⟩
        | succ j =>
          obtain ⟨x, hx⟩ := h2 j (by omega)
          refine ⟨x, ?_⟩
          rw [← hx]
          congr 1
          unfold Addr.add
          by_cases q : j = 0
          · subst q; simp
          · simp [q]; omega
    · cases hs

def aunsafeString (P : Program) (H : AHeap) (ts : Array TypeId) (v u : Value) : Option (Value × AHeap) :=
  match v, u, ts[0]? with
  | .pointer none, .int _ n, some _ => if n = 0 then some (.string .empty, H) else none
  | .pointer (some a), .int _ n, some pt =>
    if n < 0 ∨ 4611686018427387904 < n then none
    else if n = 0 then some (.string .empty, H)
    else match P.underlying pt with
      | some (.pointer u) => match H.blk a.block with
        | some b => match b.obj with
          | .cells _ e _ =>
            if a.spot.isNone ∧ P.cellsOf e = 1 ∧ 0 < P.depth ∧ sameLayout P P.depth e u = true then
              match abytes H a .empty n.toNat with
              | some s => match H.freeze a n.toNat with
                | some H' => some (.string s, H')
                | none => none
              | none => none
            else none
          | _ => none
        | none => none
      | _ => none
  | _, _, _ => none

theorem liesAt_row {e u : TypeId} {count off n : Nat} (h1 : P.cellsOf e = 1) (hd : 0 < P.depth) (hs : sameLayout P P.depth e u = true) (hl : off + n ≤ count) : liesAt P P.depth e count off u n = true := by
  obtain ⟨d, hd⟩ : ∃ d, P.depth = d + 1 := ⟨P.depth - 1, by omega⟩
  rw [hd] at hs ⊢
  unfold liesAt
  have : rowAt P (fun x => sameLayout P P.depth x u) P.depth e count off n = true := by
    rw [hd]
    unfold rowAt
    simp [h1, hl, hs, Nat.mod_one]
  rw [this]
  rfl

theorem unsafeString_eq (ts : Array TypeId) (t : TypeId) (p : Option Addr) (l : Value) : Builtin.unsafeString_ ts t #[.pointer p, l] = (do
    let n ← Go.asInt l
    let some pt := ts[0]? | Go.stuck "unsafe.String: no argument types"
    if n < 0 then Go.runtimePanic (.error "unsafe.String: len out of range")
    if n > IntKind.i64.max then Go.unsupported (.unsafePointer "String: a length above the largest int")
    match p with
    | none =>
      if n = 0 then Pure.pure (.string .empty)
      else Go.runtimePanic (.error "unsafe.String: ptr is nil and len is not zero")
    | some a =>
      if n = 0 then Pure.pure (.string .empty)
      else if ← Go.variablesAt a (← Go.elemOf pt) n.toNat then do
        let s ← Go.loadBytes a .empty n.toNat
        Go.freeze a n.toNat
        Pure.pure (.string s)
      else Go.unsupported (.unsafePointer "String: not so many bytes at ptr")) := rfl

theorem aunsafeString_spec (h : HR N w0 ρ H w) {ts : Array TypeId} (t : TypeId) {v v' u u' : Value} (hv : VR ρ v v') (hu : VR ρ u u') {x : Value} {H' : AHeap} (hr : aunsafeString P H ts v u = some (x, H')) :
    ∃ w', (Builtin.unsafeString_ ts t #[v', u']).run P w = .ok x w' ∧ VR ρ x x ∧ HR N w0 ρ H' w' := by
  unfold aunsafeString at hr
  split at hr
  · rename_i k n tt hts
    split at hr
    case isFalse => cases hr
    rename_i hn
    subst hn
    cases hr
    cases hv
    cases hu
    refine ⟨w, ?_, .string _, h⟩
    rw [unsafeString_eq]
    simp [Go.asInt, Go.asIntOf, hts, IntKind.max, IntKind.bits, IntKind.signed]
  · rename_i a k n pt hts
    cases hu
    cases hv
    case psome a' ha =>
      split at hr
      · cases hr
      · rename_i hn
        have hneg : ¬ n < 0 := by omega
        split at hr
        · rename_i h0
          cases hr
          subst h0
          refine ⟨w, ?_, .string _, h⟩
          rw [unsafeString_eq]
          simp [Go.asInt, Go.asIntOf, hts, IntKind.max, IntKind.bits, IntKind.signed]
        · rename_i h0
          split at hr
          case h_2 => cases hr
          rename_i ut hpt
          split at hr
          case h_2 => cases hr
          rename_i b hb
          split at hr
          case h_2 => cases hr
          rename_i c e fr ho
          split at hr
          case isFalse => cases hr
          rename_i hcond
          obtain ⟨hsp, hc1, hd, hsl⟩ := hcond
          split at hr
          case h_2 => cases hr
          rename_i s hs
          split at hr
          case h_2 => cases hr
          rename_i H2 hf
          cases hr
          obtain ⟨hld, hex⟩ := abytes_spec (P := P) h _ .empty ha hs
          obtain ⟨c', e', fr', hw, _, _, _, he', _⟩ := h.cells _ _ _ _ _ ha.1 hb ho
          subst he'
          have hsp' : a.spot = none := by simpa using hsp
          have ea := ha.eq_mk hsp'
          have hlt : a'.off + n.toNat ≤ c'.size := by
            obtain ⟨y, hy⟩ := hex (n.toNat - 1) (by omega)
            have e2 : a'.add (n.toNat - 1) = ⟨(ρ.f a.block).block, a'.off + (n.toNat - 1), none⟩ := by
              rw [ea]; unfold Addr.add; split
              · rename_i q; simp [q]
              · rfl
            rw [e2, cell?_of hw] at hy
            have := (Array.getElem?_eq_some_iff.1 hy).1
            omega
          have hva : (Go.variablesAt a' ut n.toNat).run P w = .ok true w := by
            have hsh : w.shape? a'.block = some (e', c'.size) := by rw [ha.2.1]; simp [World.shape?, hw]
            have hdiv : c'.size / P.cellsOf e' = c'.size := by rw [hc1, Nat.div_one]
            simp only [Go.variablesAt, Sem.run_bind, run_program, Result.andThen_ok, run_shape, hsh, Sem.run_pure, hdiv]
            rw [liesAt_row hc1 hd hsl hlt]
          have hfz := h.freeze ha (n := n.toNat) (by omega) hf
          refine ⟨_, ?_, .string _, hfz⟩
          rw [unsafeString_eq]
          simp [Go.asInt, Go.asIntOf, hts, hneg, h0, hva, Go.elemOf, run_underlying hpt, hld]
          omega
  · cases hr

end
end Go.Ev
