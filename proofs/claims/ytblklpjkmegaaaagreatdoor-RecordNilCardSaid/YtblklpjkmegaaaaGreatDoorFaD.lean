import Derived.Test.YtblklpjkmegaaaaGreatDoorFaC
namespace Go.Ev
open Go.RowKit

theorem bytes_loop (s : ByteArray) : ∀ (n i : Nat) (r : List UInt8), s.size - i ≤ n → ByteArray.toList.loop s i r = r.reverse ++ s.data.toList.drop i := by
  intro n
  induction n with
  | zero =>
    intro i r h
    rw [ByteArray.toList.loop]
    have : ¬ i < s.size := by omega
    rw [if_neg this]
    have hl : s.data.toList.length ≤ i := by
      have : s.data.toList.length = s.size := by simp
      omega
    rw [List.drop_eq_nil_of_le hl]
    simp
  | succ n ih =>
    intro i r h
    rw [ByteArray.toList.loop]
    by_cases q : i < s.size
    · rw [if_pos q, ih (i + 1) _ (by omega)]
      have hl : i < s.data.toList.length := by
        have : s.data.toList.length = s.size := by simp
        omega
      have hd := List.drop_eq_getElem_cons hl
      rw [hd]
      have hg : s.get! i = s.data.toList[i] := by
        show s.data[i]! = _
        rw [getElem!_pos s.data i (by simpa using hl)]
        simp
      rw [hg]
      simp
    · rw [if_neg q]
      have hl : s.data.toList.length ≤ i := by
        have : s.data.toList.length = s.size := by simp
        omega
      rw [List.drop_eq_nil_of_le hl]
      simp

theorem bytes_toList (s : ByteArray) : s.toList = s.data.toList := by
  unfold ByteArray.toList
  rw [bytes_loop s s.size 0 [] (by omega)]
  simp

section
variable {P : Program} {ρ : Ren} {r' : Operand → Value}

/-- What two values give. -/
def Two (P : Program) (ρ : Ren) (s : Sem Next) (v1 v2 : Value) (r1 r2 : Value) (f : Value → Value → Option Value) : Prop := ∀ u, VR ρ v1 r1 → VR ρ v2 r2 → f v1 v2 = some u → Gives P ρ s u

theorem two_lss {o : Oper} {x y : Operand} {t t2 : TypeId} (ho : o.op = .binOp .lss t x y t2) {v1 v2 : Value} : Two P ρ (execOp r' o) v1 v2 (r' x) (r' y) lssV :=
  fun _ h1 h2 h => gives_ints ho (fun k a b => ⟨.bool (ltI a b), .bool _, fun w => by simp [eqGuard, binOp, Op.intCmp, ltI_eq]⟩) h1 h2 h
theorem two_leq {o : Oper} {x y : Operand} {t t2 : TypeId} (ho : o.op = .binOp .leq t x y t2) {v1 v2 : Value} : Two P ρ (execOp r' o) v1 v2 (r' x) (r' y) leqV :=
  fun _ h1 h2 h => gives_ints ho (fun k a b => ⟨.bool (leI a b), .bool _, fun w => by simp [eqGuard, binOp, Op.intCmp, leI_eq]⟩) h1 h2 h
theorem two_gtr {o : Oper} {x y : Operand} {t t2 : TypeId} (ho : o.op = .binOp .gtr t x y t2) {v1 v2 : Value} : Two P ρ (execOp r' o) v1 v2 (r' x) (r' y) gtrV :=
  fun _ h1 h2 h => gives_ints ho (fun k a b => ⟨.bool (ltI b a), .bool _, fun w => by simp [eqGuard, binOp, Op.intCmp, ltI_eq]⟩) h1 h2 h
theorem two_geq {o : Oper} {x y : Operand} {t t2 : TypeId} (ho : o.op = .binOp .geq t x y t2) {v1 v2 : Value} : Two P ρ (execOp r' o) v1 v2 (r' x) (r' y) geqV :=
  fun _ h1 h2 h => gives_ints ho (fun k a b => ⟨.bool (leI b a), .bool _, fun w => by simp [eqGuard, binOp, Op.intCmp, leI_eq]⟩) h1 h2 h
theorem two_add {o : Oper} {x y : Operand} {t t2 : TypeId} (ho : o.op = .binOp .add t x y t2) {v1 v2 : Value} : Two P ρ (execOp r' o) v1 v2 (r' x) (r' y) addV :=
  fun _ h1 h2 h => gives_ints ho (fun k a b => ⟨wrapF k (a + b), by rw [wrapF_eq]; exact .int _ _, fun w => by simp [eqGuard, binOp, Op.intArith, wrapF_eq]⟩) h1 h2 h
theorem two_sub {o : Oper} {x y : Operand} {t t2 : TypeId} (ho : o.op = .binOp .sub t x y t2) {v1 v2 : Value} : Two P ρ (execOp r' o) v1 v2 (r' x) (r' y) subV :=
  fun _ h1 h2 h => gives_ints ho (fun k a b => ⟨wrapF k (a - b), by rw [wrapF_eq]; exact .int _ _, fun w => by simp [eqGuard, binOp, Op.intArith, wrapF_eq]⟩) h1 h2 h

theorem two_eql {o : Oper} {x y : Operand} {t t2 : TypeId} (ho : o.op = .binOp .eql t x y t2) {v1 v2 : Value} : Two P ρ (execOp r' o) v1 v2 (r' x) (r' y) eqlV := by
  intro u h1 h2 h
  unfold eqlV at h
  split at h
  · exact gives_ints (f := fun _ a b => .bool (eqI a b)) ho (fun k a b => ⟨.bool (eqI a b), .bool _, fun w => by simp [eqGuard, binOp, Op.intCmp, eqI_eq]⟩) h1 h2 h
  · split at h
    case h_2 => cases h
    cases h
    have e1 := h1.string_inv
    have e2 := h2.string_inv
    exact ⟨_, fun w => by simp [execOp, ho, e1, e2, eqGuard, binOp, Op.stringOp, bytes_toList, eqL_eq], .bool _⟩
  · cases h

theorem two_neq {o : Oper} {x y : Operand} {t t2 : TypeId} (ho : o.op = .binOp .neq t x y t2) {v1 v2 : Value} : Two P ρ (execOp r' o) v1 v2 (r' x) (r' y) neqV := by
  intro u h1 h2 h
  unfold neqV at h
  split at h
  · exact gives_ints (f := fun _ a b => .bool (!eqI a b)) ho (fun k a b => ⟨.bool (!eqI a b), .bool _, fun w => by simp [eqGuard, binOp, Op.intCmp, eqI_eq, bne]⟩) h1 h2 h
  · split at h
    case h_2 => cases h
    cases h
    have e1 := h1.string_inv
    have e2 := h2.string_inv
    exact ⟨_, fun w => by simp [execOp, ho, e1, e2, eqGuard, binOp, Op.stringOp, bytes_toList, eqL_eq], .bool _⟩
  · cases h

theorem two_index {o : Oper} {x y : Operand} {t : TypeId} (ho : o.op = .index t x y) (ht : P.underlying t = some .string) {v1 v2 : Value} : Two P ρ (execOp r' o) v1 v2 (r' x) (r' y) indexV := by
  intro u h1 h2 h
  unfold indexV at h
  split at h
  case h_2 => cases h
  rename_i s
  split at h
  case h_2 => cases h
  rename_i k i
  have e1 := h1.string_inv
  have e2 := h2.int_inv
  cases i with
  | negSucc n => cases h
  | ofNat n =>
    simp only at h
    split at h
    case h_2 => cases h
    rename_i b hb
    cases h
    rw [getL_eq] at hb
    have hb2 : s[n]? = some b := by
      have hlt : n < s.data.size := by
        have := (List.getElem?_eq_some_iff.1 hb).1
        simpa using this
      have hlt2 : n < s.size := hlt
      rw [getElem?_pos s n hlt2]
      have : s.data.toList[n]? = some s.data[n] := by simp
      rw [this] at hb
      cases hb
      rfl
    refine ⟨.int .u8 (Int.ofNat b.toNat), fun w => ?_, .int _ _⟩
    have h0 : (0 : Int) ≤ Int.ofNat n := Int.natCast_nonneg n
    simp [execOp, ho, e1, e2, Instr.index, asIntOf, run_underlying ht, hb2]

theorem two_indexAddr {o : Oper} {x y : Operand} {t e : TypeId} {i : TypeInfo} (ho : o.op = .indexAddr t x y) (ht : P.underlying t = some (.slice e)) (hi : P.info? e = some i) {v1 v2 : Value} : Two P ρ (execOp r' o) v1 v2 (r' x) (r' y) (indexAddrV i.size) := by
  intro u h1 h2 h
  unfold indexAddrV at h
  split at h
  case h_2 => cases h
  rename_i a n c
  split at h
  case h_2 => cases h
  rename_i k m
  have e2 := h2.int_inv
  cases m with
  | negSucc m => cases h
  | ofNat m =>
    simp only at h
    cases hb : Nat.ble (Nat.succ m) n with
    | false => rw [hb] at h; cases h
    | true =>
      rw [hb] at h
      cases h
      have hlt : m < n := Nat.le_of_ble_eq_true hb
      have hx : ∃ a' c', r' x = .slice (some a') n c' ∧ AR ρ a a' := by
        generalize r' x = v' at h1
        cases h1 with
        | ssome hs => exact ⟨_, _, rfl, hs.1⟩
      obtain ⟨a', c', e1, ha⟩ := hx
      refine ⟨.pointer (some (a'.add (m * i.size))), fun w => ?_, by rw [addA_eq]; exact .psome (ha.add _)⟩
      have h0 : (0 : Int) ≤ Int.ofNat m := Int.natCast_nonneg m
      have h3 : (Int.ofNat m) < (n : Int) := by simpa using hlt
      simp [execOp, ho, e1, e2, Instr.indexAt, asIntOf, run_underlying ht, Go.sizeOf, Go.typeInfo, hi, hlt]

end
end Go.Ev
