import Derived.Test.YtblklpjkmegaaaaGreatDoorFaB
namespace Go.Ev
open Go.RowKit

def nilCheckV (v : Value) : Option Value := match v with
  | .pointer (some a) => some (.pointer (some a))
  | _ => none
def notV (v : Value) : Option Value := match v with
  | .bool b => some (.bool (!b))
  | _ => none
noncomputable def fieldV (off : Nat) (v : Value) : Option Value := match v with
  | .pointer (some a) => some (.pointer (some (addA a off)))
  | _ => none
noncomputable def extractV (i : Nat) (v : Value) : Option Value := match v with
  | .tuple vs => (match getL vs.toList i with
    | some u => noWide u
    | none => none)
  | _ => none
noncomputable def convV (k : IntKind) (v : Value) : Option Value := match v with
  | .int _ n => some (wrapF k n)
  | _ => none
def lenSV (v : Value) : Option Value := match v with
  | .string s => some (.int .i64 (Int.ofNat s.size))
  | _ => none
def lenLV (v : Value) : Option Value := match v with
  | .slice _ n _ => some (.int .i64 (Int.ofNat n))
  | _ => none

/-- Of two numbers of one kind. -/
noncomputable def ints (f : IntKind → Int → Int → Value) (v u : Value) : Option Value := match v with
  | .int j a => (match u with
    | .int k b => Bool.rec (motive := fun _ => Option Value) none (some (f k a b)) (Nat.beq (kindNo j) (kindNo k))
    | _ => none)
  | _ => none
noncomputable def lssV := ints fun _ a b => .bool (ltI a b)
noncomputable def leqV := ints fun _ a b => .bool (leI a b)
noncomputable def gtrV := ints fun _ a b => .bool (ltI b a)
noncomputable def geqV := ints fun _ a b => .bool (leI b a)
noncomputable def addV := ints fun k a b => wrapF k (a + b)
noncomputable def subV := ints fun k a b => wrapF k (a - b)
noncomputable def eqlV (v u : Value) : Option Value := match v with
  | .int j a => (match u with
    | .int k b => Bool.rec (motive := fun _ => Option Value) none (some (.bool (eqI a b))) (Nat.beq (kindNo j) (kindNo k))
    | _ => none)
  | .string a => (match u with
    | .string b => some (.bool (eqL a.data.toList b.data.toList))
    | _ => none)
  | _ => none
noncomputable def neqV (v u : Value) : Option Value := match v with
  | .int j a => (match u with
    | .int k b => Bool.rec (motive := fun _ => Option Value) none (some (.bool (!eqI a b))) (Nat.beq (kindNo j) (kindNo k))
    | _ => none)
  | .string a => (match u with
    | .string b => some (.bool (!eqL a.data.toList b.data.toList))
    | _ => none)
  | _ => none
noncomputable def indexV (v u : Value) : Option Value := match v with
  | .string s => (match u with
    | .int _ i => Int.rec (motive := fun _ => Option Value) (fun n => (match getL s.data.toList n with
      | some b => some (.int .u8 (Int.ofNat b.toNat))
      | none => none)) (fun _ => none) i
    | _ => none)
  | _ => none
noncomputable def indexAddrV (sz : Nat) (v u : Value) : Option Value := match v with
  | .slice (some a) n _ => (match u with
    | .int _ i => Int.rec (motive := fun _ => Option Value) (fun m => Bool.rec (motive := fun _ => Option Value) none (some (.pointer (some (addA a (Nat.mul m sz))))) (Nat.ble (Nat.succ m) n)) (fun _ => none) i
    | _ => none)
  | _ => none

section
variable {P : Program} {ρ : Ren} {r' : Operand → Value}

/-- An operation that gives a value, and touches nothing. -/
def Gives (P : Program) (ρ : Ren) (s : Sem Next) (u : Value) : Prop := ∃ u', (∀ w, s.run P w = .ok (.value u') w) ∧ VR ρ u u'

theorem noWide_spec {v u : Value} (h : noWide v = some u) : u = v ∧ isJunk v = false := by
  unfold noWide at h
  split at h
  · cases h
  · rename_i hn
    cases h
    refine ⟨rfl, ?_⟩
    cases v <;> first | rfl | (exfalso; exact hn _ rfl)

theorem gives_move {o : Oper} {x : Operand} (ho : o.op = .move x ∨ o.op = .assign x) {v u : Value} (hv : VR ρ v (r' x)) (h : some v = some u) : Gives P ρ (execOp r' o) u := by
  cases h
  refine ⟨r' x, fun w => ?_, hv⟩
  rcases ho with ho | ho <;> simp [execOp, ho]

theorem gives_nilCheck {o : Oper} {x : Operand} (ho : o.op = .nilCheck x) {v u : Value} (hv : VR ρ v (r' x)) (h : nilCheckV v = some u) : Gives P ρ (execOp r' o) u := by
  unfold nilCheckV at h
  split at h
  case h_2 => cases h
  cases h
  refine ⟨r' x, fun w => ?_, hv⟩
  generalize hq : r' x = v' at hv
  cases hv
  simp [execOp, ho, hq]

theorem gives_not {o : Oper} {x : Operand} {t : TypeId} (ho : o.op = .unOp .not t x) {v u : Value} (hv : VR ρ v (r' x)) (h : notV v = some u) : Gives P ρ (execOp r' o) u := by
  unfold notV at h
  split at h
  case h_2 => cases h
  cases h
  generalize hq : r' x = v' at hv
  cases hv
  exact ⟨_, fun w => by simp [execOp, ho, hq, Op.unary], .bool _⟩

theorem gives_field {o : Oper} {x : Operand} {s : TypeId} {n : Nat} {fs : Array Field} {f : Field} {i : TypeInfo} (ho : o.op = .fieldAddr s x n) (hs : P.underlying s = some (.struct fs)) (hf : fs[n]? = some f) (hi : P.info? f.type = some i) (hz : i.size ≠ 0)
    {v u : Value} (hv : VR ρ v (r' x)) (h : fieldV f.offset v = some u) : Gives P ρ (execOp r' o) u := by
  unfold fieldV at h
  split at h
  case h_2 => cases h
  cases h
  generalize hq : r' x = v' at hv
  cases hv
  rename_i a a' ha
  refine ⟨.pointer (some (a'.add f.offset)), fun w => ?_, by rw [addA_eq]; exact .psome (ha.add _)⟩
  simp [execOp, ho, hq, Instr.fieldAt, run_underlying hs, hf, Instr.sureAddr, Go.fieldPlace, Go.sizeOf, Go.typeInfo, hi, hz]

theorem gives_extract {o : Oper} {x : Operand} {n : Nat} (ho : o.op = .extract x n) {v u : Value} (hv : VR ρ v (r' x)) (h : extractV n v = some u) : Gives P ρ (execOp r' o) u := by
  unfold extractV at h
  split at h
  case h_2 => cases h
  rename_i vs
  split at h
  case h_2 => cases h
  rename_i u0 hu0
  obtain ⟨rfl, hj⟩ := noWide_spec h
  rw [getL_eq] at hu0
  have hu0 : vs[n]? = some u := by simpa using hu0
  generalize hq : r' x = v' at hv
  generalize hw : Value.tuple vs = v0 at hv
  cases hv with
  | junk v' =>
    cases hw
    have : n = 0 := by
      have := (Array.getElem?_eq_some_iff.1 hu0).1
      simp at this; exact this
    subst this
    simp at hu0
    subst hu0
    cases h
  | tuple hs hr =>
    cases hw
    rename_i x'
    have hlt := (Array.getElem?_eq_some_iff.1 hu0).1
    have hlt' : n < x'.size := by omega
    refine ⟨x'[n], fun w => ?_, hr n _ _ hu0 (Array.getElem?_eq_getElem hlt')⟩
    simp [execOp, ho, hq, Instr.extract, hlt']
  | _ => cases hw

theorem gives_conv {o : Oper} {x : Operand} {s d : TypeId} {k j : IntKind} (ho : o.op = .convert s d x) (hs : P.underlying s = some (.int j)) (hd : P.underlying d = some (.int k)) {v u : Value} (hv : VR ρ v (r' x)) (h : convV k v = some u) : Gives P ρ (execOp r' o) u := by
  unfold convV at h
  split at h
  case h_2 => cases h
  cases h
  generalize hq : r' x = v' at hv
  cases hv
  rw [wrapF_eq]
  exact ⟨_, fun w => by simp [execOp, ho, hq, Go.convert, run_underlying hs, run_underlying hd, Conv.intToInt], .int _ _⟩

theorem gives_lenS {o : Oper} {x : Operand} {c : Call} {t : TypeId} (ho : o.op = .call c) (hc : c.callee = .builtin .len) (ha : c.args = #[x]) (ht : c.argTypes[0]? = some t) (hu : P.underlying t = some .string)
    {v u : Value} (hv : VR ρ v (r' x)) (h : lenSV v = some u) : Gives P ρ (execOp r' o) u := by
  unfold lenSV at h
  split at h
  case h_2 => cases h
  cases h
  generalize hq : r' x = v' at hv
  cases hv
  rename_i s
  refine ⟨.int .i64 (Int.ofNat s.size), fun w => ?_, .int _ _⟩
  simp [execOp, ho, hq, resolve, hc, ha, invoke, builtin, Builtin.len_, ht, run_underlying hu, goInt]

theorem gives_lenL {o : Oper} {x : Operand} {c : Call} {t e : TypeId} (ho : o.op = .call c) (hc : c.callee = .builtin .len) (ha : c.args = #[x]) (ht : c.argTypes[0]? = some t) (hu : P.underlying t = some (.slice e))
    {v u : Value} (hv : VR ρ v (r' x)) (h : lenLV v = some u) : Gives P ρ (execOp r' o) u := by
  unfold lenLV at h
  split at h
  case h_2 => cases h
  rename_i a n c2
  cases h
  have hx : ∃ a' c', r' x = .slice a' n c' := by
    generalize hq : r' x = v' at hv
    cases hv with
    | snone => exact ⟨_, _, rfl⟩
    | ssome => exact ⟨_, _, rfl⟩
  obtain ⟨a', c', hq⟩ := hx
  refine ⟨.int .i64 (Int.ofNat n), fun w => ?_, .int _ _⟩
  simp [execOp, ho, hq, resolve, hc, ha, invoke, builtin, Builtin.len_, ht, run_underlying hu, goInt]

theorem ints_spec {f : IntKind → Int → Int → Value} {v u x : Value} (h : ints f v u = some x) : ∃ k a b, v = .int k a ∧ u = .int k b ∧ x = f k a b := by
  unfold ints at h
  split at h
  case h_2 => cases h
  rename_i j a
  split at h
  case h_2 => cases h
  rename_i k b
  cases hk : Nat.beq (kindNo j) (kindNo k) with
  | false => rw [hk] at h; cases h
  | true =>
    rw [hk] at h
    have := kindNo_inj hk
    subst this
    cases h
    exact ⟨j, a, b, rfl, rfl, rfl⟩

theorem VR.int_inv {k : IntKind} {n : Int} {v : Value} (h : VR ρ (.int k n) v) : v = .int k n := by cases h; rfl
theorem VR.string_inv {s : ByteArray} {v : Value} (h : VR ρ (.string s) v) : v = .string s := by cases h; rfl

/-- The comparisons and the sums of numbers. -/
theorem gives_ints {o : Oper} {x y : Operand} {op : BinOp} {t t2 : TypeId} (ho : o.op = .binOp op t x y t2) {f : IntKind → Int → Int → Value} (hf : ∀ k a b, ∃ z, VR ρ (f k a b) z ∧ ∀ w, ((do eqGuard op t x y (.int k a) (.int k b); binOp op t (.int k a) (.int k b)) : Sem Value).run P w = .ok z w)
    {v1 v2 u : Value} (hv1 : VR ρ v1 (r' x)) (hv2 : VR ρ v2 (r' y)) (h : ints f v1 v2 = some u) : Gives P ρ (execOp r' o) u := by
  obtain ⟨k, a, b, rfl, rfl, rfl⟩ := ints_spec h
  obtain ⟨z, hz, hrun⟩ := hf k a b
  refine ⟨z, fun w => ?_, hz⟩
  have h1 := hv1.int_inv
  have h2 := hv2.int_inv
  have := hrun w
  simp only [execOp, ho, h1, h2]
  rw [Sem.run_bind, this]
  rfl

end
end Go.Ev
