import Derived.Test.YtobacidddkocfaaGreatDoorChecked
import Derived.WalkKit
import Derived.ProofKit
import Derived.OpenShut
import Derived.Handy
import Derived.LoopTactic
set_option maxRecDepth 100000
namespace Go.Proofs.YtobacidddkocfaaGreatDoor.Ls
open Go.ChangeShapes Go.WideShapes Go.ChangeAt Go.RowKit

theorem begins (b : Int) (w : World) : Calls Tryz.prog 23 #[.int .u8 b] w fun e w' => e = .returned (.bool (decide (97 ≤ b) && decide (b ≤ 122))) ∧ w' = w := by
  go_enter Tryz.func23, Tryz.ntmps23
  go_wp2
  all_goals go_ret
  all_goals exact ⟨by simp_all <;> omega, rfl⟩
theorem isDigit (b : Int) (w : World) : Calls Tryz.prog 57 #[.int .u8 b] w fun e w' => e = .returned (.bool (decide (48 ≤ b) && decide (b ≤ 57))) ∧ w' = w := by
  go_enter Tryz.func57, Tryz.ntmps57
  go_wp2
  all_goals go_ret
  all_goals exact ⟨by simp_all <;> omega, rfl⟩
theorem small (b : Int) (w : World) : Calls Tryz.prog 26 #[.int .u8 b] w fun e w' => e = .returned (.bool (decide (97 ≤ b) && decide (b ≤ 122))) ∧ w' = w := by
  go_enter Tryz.func26, Tryz.ntmps26
  go_wp2
  all_goals go_ret
  all_goals exact ⟨by simp_all <;> omega, rfl⟩
theorem digit (b : Int) (w : World) : Calls Tryz.prog 58 #[.int .u8 b] w fun e w' => e = .returned (.bool (decide (48 ≤ b) && decide (b ≤ 57))) ∧ w' = w := by
  go_enter Tryz.func58, Tryz.ntmps58
  go_wp2
  all_goals go_ret
  all_goals exact ⟨by simp_all <;> omega, rfl⟩

def isPart (b : Int) : Bool := (decide (97 ≤ b) && decide (b ≤ 122)) || (decide (65 ≤ b) && decide (b ≤ 90)) || (decide (48 ≤ b) && decide (b ≤ 57)) || (b == 95)

theorem part (b : Int) (w : World) : Calls Tryz.prog 29 #[.int .u8 b] w fun e w' => e = .returned (.bool (isPart b)) ∧ w' = w := by
  go_enter Tryz.func29, Tryz.ntmps29
  go_wp2_with (first
    | (go_at_call 26; refine (small _ _).mono ?_; rintro e w' ⟨rfl, rfl⟩)
    | (go_at_call 58; refine (digit _ _).mono ?_; rintro e w' ⟨rfl, rfl⟩))
  all_goals go_ret
  all_goals refine ⟨congrArg (fun q => Ending.returned (Value.bool q)) (?_ : _ = isPart b), rfl⟩
  all_goals (unfold isPart; rw [Bool.eq_iff_iff]; simp only [Bool.or_eq_true, Bool.and_eq_true, decide_eq_true_eq, beq_iff_eq, true_iff]; omega)

end Go.Proofs.YtobacidddkocfaaGreatDoor.Ls

set_option maxRecDepth 100000
namespace Go.Proofs.YtobacidddkocfaaGreatDoor.Ls
open Go.ChangeShapes Go.WideShapes Go.ChangeAt Go.RowKit

/-- The byte at a place. -/
def at' (s : ByteArray) (j : Nat) : Int := if h : j < s.size then (s[j].toNat : Int) else 0

theorem at'_eq {s : ByteArray} {k : Nat} (h : k < s.size) : at' s k = (s[k].toNat : Int) := dif_pos h

theorem isPart_true {b : Int} (h : (97 ≤ b ∧ b ≤ 122) ∨ (65 ≤ b ∧ b ≤ 90) ∨ (48 ≤ b ∧ b ≤ 57) ∨ b = 95) : isPart b = true := by
  unfold isPart
  simp only [Bool.or_eq_true, Bool.and_eq_true, decide_eq_true_eq, beq_iff_eq]
  omega
theorem isPart_false {b : Int} (h : ¬ ((97 ≤ b ∧ b ≤ 122) ∨ (65 ≤ b ∧ b ≤ 90) ∨ (48 ≤ b ∧ b ≤ 57) ∨ b = 95)) : isPart b = false := by
  cases q : isPart b with
  | false => rfl
  | true =>
    exfalso
    unfold isPart at q
    simp only [Bool.or_eq_true, Bool.and_eq_true, decide_eq_true_eq, beq_iff_eq] at q
    omega

/-- All bytes are parts of names. -/
def Parts (s : ByteArray) (k : Nat) : Prop := ∀ j, j < k → isPart (at' s j) = true
theorem Parts.zero (s : ByteArray) : Parts s 0 := fun j h => by omega
theorem Parts.succ {s : ByteArray} {k : Nat} (h : Parts s k) (hk : k < s.size) (hp : (97 ≤ (s[k].toNat : Int) ∧ (s[k].toNat : Int) ≤ 122) ∨ (65 ≤ (s[k].toNat : Int) ∧ (s[k].toNat : Int) ≤ 90) ∨ (48 ≤ (s[k].toNat : Int) ∧ (s[k].toNat : Int) ≤ 57) ∨ (s[k].toNat : Int) = 95) : Parts s (k + 1) := by
  intro j hj
  by_cases q : j = k
  · subst q; rw [at'_eq hk]; exact isPart_true hp
  · exact h j (by omega)

theorem nameLength (s : ByteArray) (hs : s.size ≤ 4096) (w : World) : Calls Tryz.prog 25 #[.string s] w fun e w' => (∃ k : Nat, e = .returned (.int .i64 k) ∧ k ≤ s.size ∧ Parts s k ∧ (k < s.size → isPart (at' s k) = false)) ∧ w' = w := by
  go_enter Tryz.func25, Tryz.ntmps25
  go_wp2
  go_loop [3] (fun i => ∃ k : Nat, k ≤ s.size ∧ i = .int .i64 k ∧ Parts s k) (fun i => s.size - (intOf i).toNat)
  case atStart => exact ⟨0, Nat.zero_le _, rfl, Parts.zero s⟩
  case round =>
    obtain ⟨k, hk, rfl, hp⟩ := hrel
    go_wp2_with (first
      | (go_at_call 23; refine (begins _ _).mono ?_; rintro e w' ⟨rfl, rfl⟩)
      | (go_at_call 57; refine (isDigit _ _).mono ?_; rintro e w' ⟨rfl, rfl⟩))
    all_goals first
      | (refine ⟨⟨k + 1, by omega, by simp, hp.succ ‹_› ?_⟩, by simp [intOf]; omega⟩
         try simp only [beq_iff_eq] at *
         omega)
      | (go_ret
         refine ⟨⟨k, rfl, hk, hp, fun h => ?_⟩, rfl⟩
         first
         | (exfalso; omega)
         | (rw [at'_eq h]
            refine isPart_false ?_
            try simp only [beq_eq_false_iff_ne, ne_eq] at *
            omega))
end Go.Proofs.YtobacidddkocfaaGreatDoor.Ls

set_option maxRecDepth 100000
namespace Go.Proofs.YtobacidddkocfaaGreatDoor.Ls
open Go.ChangeShapes Go.WideShapes Go.ChangeAt Go.RowKit

/-- The keywords. -/
def kws : List (List UInt8) := [[102, 117, 110], [108, 101, 116], [105, 102], [101, 108, 115, 101], [119, 104, 105, 108, 101], [114, 101, 116, 117, 114, 110], [116, 104, 114, 111, 119], [116, 114, 121], [99, 97, 116, 99, 104], [115, 112, 97, 119, 110],
  [106, 111, 105, 110], [108, 111, 99, 107], [117, 110, 108, 111, 99, 107], [112, 114, 105, 110, 116], [97, 115, 115, 101, 114, 116], [110, 101, 119], [108, 101, 110], [105, 110, 112, 117, 116], [99, 108, 111, 99, 107], [102, 110]]

theorem isKeyword (s : ByteArray) (w : World) : Calls Tryz.prog 24 #[.string s] w fun e w' => e = .returned (.bool (kws.contains s.toList)) ∧ w' = w := by
  go_enter Tryz.func24, Tryz.ntmps24
  go_wp2
  all_goals go_ret
  all_goals refine ⟨congrArg (fun q => Ending.returned (Value.bool q)) (?_ : _ = kws.contains s.toList), rfl⟩
  all_goals generalize s.toList = l at *
  all_goals first
    | (exfalso; simp_all; done)
    | (simp only [beq_iff_eq] at *; subst l; decide)
    | (simp_all [kws]; done)
    | (simp only [beq_iff_eq] at *; subst_vars; decide)

/-- The cells of some strings. -/
def strsOf (l : List (List UInt8)) : List Value := l.map fun z => .string ⟨z.toArray⟩

theorem keywords (w : World) : Calls Tryz.prog 28 #[] w fun e w' => e = .returned (.slice (some ⟨w.heap.size, 0, none⟩) 20 20) ∧ w' = w.alloc (.cells ⟨strsOf kws⟩ 9 (0, 0)) := by
  go_enter Tryz.func28, Tryz.ntmps28
  go_wp2
  all_goals go_ret
  all_goals exact ⟨rfl, rfl⟩

/-- The operators. -/
def ops : List (List UInt8) := [[43], [45], [42], [47], [37], [61, 61], [33, 61], [60], [60, 61], [62], [62, 61], [38], [124]]

theorem operators (w : World) : Calls Tryz.prog 30 #[] w fun e w' => e = .returned (.slice (some ⟨w.heap.size, 0, none⟩) 13 13) ∧ w' = w.alloc (.cells ⟨strsOf ops⟩ 9 (0, 0)) := by
  go_enter Tryz.func30, Tryz.ntmps30
  go_wp2
  all_goals go_ret
  all_goals exact ⟨rfl, rfl⟩

theorem toList_mk (z : List UInt8) : (⟨z.toArray⟩ : ByteArray).toList = z := by
  have h : ∀ (s : ByteArray) (n i : Nat) (r : List UInt8), s.size - i ≤ n → ByteArray.toList.loop s i r = r.reverse ++ s.data.toList.drop i := by
    intro s n
    induction n with
    | zero =>
      intro i r h
      rw [ByteArray.toList.loop]
      have : ¬ i < s.size := by omega
      rw [if_neg this]
      have hl : s.data.toList.length ≤ i := by
        have : s.data.toList.length = s.size := by simp
        omega
      rw [List.drop_eq_nil_of_le hl]
      simp
    | succ n ih =>
      intro i r h
      rw [ByteArray.toList.loop]
      by_cases q : i < s.size
      · rw [if_pos q, ih (i + 1) _ (by omega)]
        have hl : i < s.data.toList.length := by
          have : s.data.toList.length = s.size := by simp
          omega
        have hd := List.drop_eq_getElem_cons hl
        rw [hd]
        have hg : s.get! i = s.data.toList[i] := by
          show s.data[i]! = _
          rw [getElem!_pos s.data i (by simpa using hl)]
          simp
        rw [hg]
        simp
      · rw [if_neg q]
        have hl : s.data.toList.length ≤ i := by
          have : s.data.toList.length = s.size := by simp
          omega
        rw [List.drop_eq_nil_of_le hl]
        simp
  unfold ByteArray.toList
  rw [h _ _ 0 [] (Nat.le_refl _)]
  simp

/-- The place of a string in a list. -/
def Place (l : List (List UInt8)) (z : List UInt8) (r : Int) : Prop := (∃ k : Nat, r = k ∧ l[k]? = some z ∧ ∀ j, j < k → l[j]? ≠ some z) ∨ (r = -1 ∧ ∀ j, j < l.length → l[j]? ≠ some z)

theorem inL (l : List (List UInt8)) (hl : l.length ≤ 100) (s : ByteArray) (b cap : Nat) (w : World) (hw : w.heap[b]? = some (.cells ⟨strsOf l⟩ 9 (0, 0))) :
    Calls Tryz.prog 27 #[.slice (some ⟨b, 0, none⟩) l.length cap, .string s] w fun e w' => (∃ r, e = .returned (.int .i64 r) ∧ Place l s.toList r) ∧ w' = w := by
  have hcell : ∀ k (h : k < l.length), w.cell? ⟨b, k, none⟩ = some (.string ⟨(l[k]).toArray⟩) := by
    intro k h
    simp [World.cell?, hw, strsOf, h]
  go_enter Tryz.func27, Tryz.ntmps27
  go_wp2
  go_loop [5] (fun i => ∃ k : Nat, k ≤ l.length ∧ i = .int .i64 k ∧ ∀ j, j < k → l[j]? ≠ some s.toList) (fun i => l.length - (intOf i).toNat)
  case atStart => exact ⟨0, Nat.zero_le _, rfl, fun j h => by omega⟩
  case round =>
    obtain ⟨k, hk, rfl, hp⟩ := hrel
    have hc : (h : k < l.length) → w.cell? ⟨b, k, none⟩ = some (.string ⟨(l[k]).toArray⟩) := fun h => hcell k h
    go_wp2
    · go_ret
      refine ⟨⟨_, rfl, .inl ⟨k, rfl, ?_, hp⟩⟩, rfl⟩
      have hlt : k < l.length := by assumption
      have hq : (l[k] == s.toList) = true := by assumption
      rw [List.getElem?_eq_getElem hlt, eq_of_beq hq]
    · have hlt : k < l.length := by assumption
      have hq : (l[k] == s.toList) = false := by assumption
      refine ⟨⟨k + 1, by omega, by simp, fun j hj => ?_⟩, by simp [intOf]; omega⟩
      by_cases q : j = k
      · subst q
        rw [List.getElem?_eq_getElem hlt]
        intro e
        rw [Option.some.injEq] at e
        rw [e] at hq
        simp at hq
      · exact hp j (by omega)
    · have hk2 : k = l.length := by omega
      subst hk2
      go_ret
      exact ⟨⟨_, rfl, .inr ⟨rfl, hp⟩⟩, rfl⟩
end Go.Proofs.YtobacidddkocfaaGreatDoor.Ls

set_option maxRecDepth 100000
namespace Go.Proofs.YtobacidddkocfaaGreatDoor.Ls
open Go.ChangeShapes Go.WideShapes Go.ChangeAt Go.RowKit

theorem heap_new (w : World) (o : Obj) : (w.alloc o).heap[w.heap.size]? = some o := by
  show (w.heap.push o)[w.heap.size]? = some o
  simp

theorem inOps (s : ByteArray) (w : World) : Calls Tryz.prog 27 #[.slice (some ⟨w.heap.size, 0, none⟩) 13 13, .string s] (w.alloc (.cells ⟨strsOf ops⟩ 9 (0, 0))) fun e w' => (∃ r, e = .returned (.int .i64 r) ∧ Place ops s.toList r) ∧ w' = w.alloc (.cells ⟨strsOf ops⟩ 9 (0, 0)) :=
  inL ops (by decide) s w.heap.size 13 _ (heap_new w _)
theorem inKws (s : ByteArray) (w : World) : Calls Tryz.prog 27 #[.slice (some ⟨w.heap.size, 0, none⟩) 20 20, .string s] (w.alloc (.cells ⟨strsOf kws⟩ 9 (0, 0))) fun e w' => (∃ r, e = .returned (.int .i64 r) ∧ Place kws s.toList r) ∧ w' = w.alloc (.cells ⟨strsOf kws⟩ 9 (0, 0)) :=
  inL kws (by decide) s w.heap.size 20 _ (heap_new w _)

set_option maxHeartbeats 2000000 in
theorem refOperator (s : ByteArray) (w : World) : Calls Tryz.prog 9 #[.string s] w fun e w' => (∃ r, e = .returned (.int .i64 r) ∧ Place ops s.toList r) ∧ w' = w.alloc (.cells ⟨strsOf ops⟩ 9 (0, 0)) := by
  go_enter Tryz.func9, Tryz.ntmps9
  go_wp2_with (first
    | (go_at_call 30; refine (operators _).mono ?_; rintro e w' ⟨rfl, rfl⟩)
    | (go_at_call 27; refine (inOps s w).mono ?_; rintro e w' ⟨⟨r, rfl, hr⟩, rfl⟩))
  all_goals go_ret
  all_goals exact ⟨⟨_, rfl, by assumption⟩, rfl⟩

theorem run_idx (k : Nat) (hk : k < 13) (w : World) : (Instr.index 59 (Value.agg ⟨strsOf ops⟩) (.int .i64 (k : Int))).run Tryz.prog w = .ok (.string ⟨(ops[k]'hk).toArray⟩) w := by
  have h1 : (0 : Int) ≤ (k : Int) := by omega
  have h2 : ((k : Int)) < 13 := by omega
  have hk' : k < ops.length := hk
  simp [Instr.index, asIntOf, run_underlying Tryz.underlying59, run_underlying Tryz.underlying9, strsOf, hk, Go.part, Go.isAgg]
  rw [List.getElem?_eq_getElem hk']
  rfl

set_option maxHeartbeats 4000000 in
theorem operator (s : ByteArray) (w : World) (e : TypeId) (hw : w.heap[0]? = some (.cells ⟨strsOf ops⟩ e (0, 0))) :
    Calls Tryz.prog 8 #[.string s] w fun e w' => (∃ r, e = .returned (.int .i64 r) ∧ Place ops s.toList r) ∧ w' = w := by
  have hcell : ∀ k (h : k < ops.length), w.cell? ⟨0, k, none⟩ = some (.string ⟨(ops[k]).toArray⟩) := by
    intro k h
    simp [World.cell?, hw, strsOf, h]
  have h0 := hcell 0 (by decide)
  have h1 := hcell 1 (by decide)
  have h2 := hcell 2 (by decide)
  have h3 := hcell 3 (by decide)
  have h4 := hcell 4 (by decide)
  have h5 := hcell 5 (by decide)
  have h6 := hcell 6 (by decide)
  have h7 := hcell 7 (by decide)
  have h8 := hcell 8 (by decide)
  have h9 := hcell 9 (by decide)
  have h10 := hcell 10 (by decide)
  have h11 := hcell 11 (by decide)
  have h12 := hcell 12 (by decide)
  go_enter Tryz.func8, Tryz.ntmps8
  go_wp2
  clear h0 h1 h2 h3 h4 h5 h6 h7 h8 h9 h10 h11 h12 hcell
  go_loop [6] (fun i => ∃ k : Nat, k ≤ 13 ∧ i = .int .i64 k ∧ ∀ j, j < k → ops[j]? ≠ some s.toList) (fun i => 13 - (intOf i).toNat)
  case atStart => exact ⟨0, Nat.zero_le _, rfl, fun j h => by omega⟩
  case round =>
    obtain ⟨k, hk, rfl, hp⟩ := hrel
    have hr : (h : k < 13) → (Instr.index 59 (Value.agg #[Value.string ⟨(ops[0]).toArray⟩, Value.string ⟨(ops[1]).toArray⟩, Value.string ⟨(ops[2]).toArray⟩, Value.string ⟨(ops[3]).toArray⟩, Value.string ⟨(ops[4]).toArray⟩, Value.string ⟨(ops[5]).toArray⟩, Value.string ⟨(ops[6]).toArray⟩, Value.string ⟨(ops[7]).toArray⟩, Value.string ⟨(ops[8]).toArray⟩, Value.string ⟨(ops[9]).toArray⟩, Value.string ⟨(ops[10]).toArray⟩, Value.string ⟨(ops[11]).toArray⟩, Value.string ⟨(ops[12]).toArray⟩]) (.int .i64 (k : Int))).run Tryz.prog w = .ok (.string ⟨(ops[k]'h).toArray⟩) w := fun h => run_idx k h w
    go_wp2
    · have hlt : k < 13 := by omega
      rw [hr hlt]
      simp only [Result.andThen_ok, Oper.upon_value]
      rename_i hK _
      refine hK _ _ ?_
      have hlt' : k < ops.length := hlt
      go_wp2
      · go_ret
        refine ⟨⟨_, rfl, .inl ⟨k, rfl, ?_, hp⟩⟩, rfl⟩
        have hq : (ops[k] == s.toList) = true := by assumption
        rw [List.getElem?_eq_getElem hlt', eq_of_beq hq]
      · have hq : (ops[k] == s.toList) = false := by assumption
        refine ⟨⟨k + 1, by omega, by simp, fun j hj => ?_⟩, by simp [intOf]; omega⟩
        by_cases q : j = k
        · subst q
          rw [List.getElem?_eq_getElem hlt']
          intro e
          rw [Option.some.injEq] at e
          rw [e] at hq
          simp at hq
        · exact hp j (by omega)
    · have hk2 : k = 13 := by omega
      subst hk2
      go_ret
      exact ⟨⟨_, rfl, .inr ⟨rfl, hp⟩⟩, rfl⟩
end Go.Proofs.YtobacidddkocfaaGreatDoor.Ls

set_option maxRecDepth 100000
namespace Go.Proofs.YtobacidddkocfaaGreatDoor.Ls
open Go.ChangeShapes Go.WideShapes Go.ChangeAt Go.RowKit

/-- What a name is. -/
def NameSpec (s : ByteArray) : Prop := s.size ≠ 0 ∧ s.size ≤ 16 ∧ (97 ≤ at' s 0 ∧ at' s 0 ≤ 122) ∧ kws.contains s.toList = false ∧ Parts s s.size

theorem empty_size {s : ByteArray} (h : ¬ s = ByteArray.empty) : 0 < s.size := by
  rcases Nat.eq_zero_or_pos s.size with q | q
  · exfalso
    apply h
    apply ByteArray.ext
    apply Array.eq_empty_of_size_eq_zero
    exact q
  · exact q

set_option maxHeartbeats 4000000 in
theorem name (s : ByteArray) (hs : s.size ≤ 4096) (w : World) : Calls Tryz.prog 6 #[.string s] w fun e w' => ((e = .returned (.bool false) ∧ ¬ NameSpec s) ∨ (e = .returned (.bool true) ∧ NameSpec s)) ∧ w' = w := by
  go_enter Tryz.func6, Tryz.ntmps6
  go_wp2_with (first
    | (go_at_call 23; refine (begins _ _).mono ?_; rintro e w' ⟨rfl, rfl⟩)
    | (go_at_call 24; refine (isKeyword _ _).mono ?_; rintro e w' ⟨rfl, rfl⟩)
    | (go_at_call 25; refine (nameLength _ hs _).mono ?_; rintro e w' ⟨⟨k, rfl, hk1, hk2, hk3⟩, rfl⟩))
  all_goals first
    | (exfalso
       have h0 := empty_size ‹¬ s = ByteArray.empty›
       contradiction)
    | (exfalso
       have h0 := empty_size ‹¬ s = ByteArray.empty›
       omega)
    | (go_ret
       refine ⟨?_, rfl⟩
       first
       | (have hq : s = ByteArray.empty := by assumption
          exact .inl ⟨rfl, fun h => h.1 (by rw [hq]; rfl)⟩)
       | (have hq : ¬ (97 ≤ (s[0].toNat : Int) ∧ (s[0].toNat : Int) ≤ 122) := by assumption
          have h0 : 0 < s.size := by assumption
          exact .inl ⟨rfl, fun h => hq (by have := h.2.2.1; rw [at'_eq h0] at this; exact this)⟩)
       | (have hq : (16 : Int) < (s.size : Int) := by assumption
          exact .inl ⟨rfl, fun h => by have := h.2.1; omega⟩)
       | (have hq : (((s.size : Int) == 0) = true ∨ (16 : Int) < (s.size : Int)) ∨ s.toList ∈ kws := by assumption
          have h0 : 0 < s.size := by assumption
          refine .inl ⟨rfl, fun h => ?_⟩
          rcases hq with (q | q) | q
          · simp only [beq_iff_eq] at q; omega
          · have := h.2.1; omega
          · have := h.2.2.2.1
            simp only [List.contains_eq_mem, decide_eq_false_iff_not] at this
            exact this q)
       | (have hq : ((((s.size : Int) == 0) = false ∧ (s.size : Int) ≤ 16)) ∧ ¬ s.toList ∈ kws := by assumption
          have h0 : 0 < s.size := by assumption
          have hb : 97 ≤ (s[0].toNat : Int) ∧ (s[0].toNat : Int) ≤ 122 := by assumption
          by_cases hk : k = s.size
          · subst hk
            refine .inr ⟨by simp, by omega, by omega, by rw [at'_eq h0]; exact hb, by simp [hq.2], hk2⟩
          · refine .inl ⟨congrArg (fun q => Ending.returned (Value.bool q)) ?_, fun h => ?_⟩
            · rw [beq_eq_false_iff_ne]; omega
            · have h1 := h.2.2.2.2 k (by omega)
              rw [hk3 (by omega)] at h1
              cases h1))
end Go.Proofs.YtobacidddkocfaaGreatDoor.Ls

set_option maxRecDepth 100000
namespace Go.Proofs.YtobacidddkocfaaGreatDoor.Ls
open Go.ChangeShapes Go.WideShapes Go.ChangeAt Go.RowKit

theorem Place.mem {l : List (List UInt8)} {z : List UInt8} {r : Int} (h : Place l z r) : 0 ≤ r ↔ z ∈ l := by
  rcases h with ⟨k, rfl, hk, _⟩ | ⟨rfl, hn⟩
  · exact ⟨fun _ => List.mem_of_getElem? hk, fun _ => by omega⟩
  · refine ⟨fun h => by omega, fun h => ?_⟩
    exfalso
    obtain ⟨j, hj, e⟩ := List.getElem_of_mem h
    exact hn j hj (by rw [List.getElem?_eq_getElem hj, e])

theorem toList_eq (s : ByteArray) : s.toList = s.data.toList := by
  have h := toList_mk s.data.toList
  rw [Array.toArray_toList] at h
  exact h
theorem toList_nil {s : ByteArray} (h : s.toList = []) : s.size = 0 := by
  rw [toList_eq] at h
  have := congrArg List.length h
  simpa using this
theorem toList_pos {s : ByteArray} (h : ¬ s.toList = []) : 0 < s.size := by
  rcases Nat.eq_zero_or_pos s.size with q | q
  · exfalso
    apply h
    rw [toList_eq]
    apply List.eq_nil_of_length_eq_zero
    simpa using q
  · exact q

set_option maxHeartbeats 4000000 in
theorem refName (s : ByteArray) (hs : s.size ≤ 4096) (w : World) : Calls Tryz.prog 7 #[.string s] w fun e w' => ((e = .returned (.bool false) ∧ ¬ NameSpec s) ∨ (e = .returned (.bool true) ∧ NameSpec s)) ∧ (w' = w ∨ w' = w.alloc (.cells ⟨strsOf kws⟩ 9 (0, 0))) := by
  go_enter Tryz.func7, Tryz.ntmps7
  go_wp2_with (first
    | (go_at_call 26; refine (small _ _).mono ?_; rintro e w' ⟨rfl, rfl⟩)
    | (go_at_call 28; refine (keywords _).mono ?_; rintro e w' ⟨rfl, rfl⟩)
    | (go_at_call 27; refine (inKws s _).mono ?_; rintro e w' ⟨⟨r, rfl, hr⟩, rfl⟩))
  · have hq : s.toList = [] := by assumption
    go_ret
    exact ⟨.inl ⟨rfl, fun h => h.1 (toList_nil hq)⟩, .inl rfl⟩
  · have hq : (s.toList.isEmpty = true ∨ (16 : Int) < (s.size : Int)) ∨ 0 ≤ r := by assumption
    have h0 : 0 < s.size := by assumption
    have hne : ¬ s.toList = [] := by assumption
    go_ret
    refine ⟨.inl ⟨rfl, fun h => ?_⟩, .inr rfl⟩
    rcases hq with (q | q) | q
    · exact hne (List.isEmpty_iff.1 q)
    · have := h.2.1; omega
    · have h1 := h.2.2.2.1
      simp only [List.contains_eq_mem, decide_eq_false_iff_not] at h1
      exact h1 (hr.mem.1 q)
  · have hq : (s.toList.isEmpty = false ∧ (s.size : Int) ≤ 16) ∧ r < 0 := by assumption
    have h0 : 0 < s.size := by assumption
    have hb : 97 ≤ (s[0].toNat : Int) ∧ (s[0].toNat : Int) ≤ 122 := by assumption
    have hkw : kws.contains s.toList = false := by
      simp only [List.contains_eq_mem, decide_eq_false_iff_not]
      intro h
      have := hr.mem.2 h
      omega
    clear hr
    simp only [hq.1.1, Bool.false_or]
    go_loop [3] (fun i => ∃ k : Nat, k ≤ s.size ∧ i = .int .i64 k ∧ Parts s k) (fun i => s.size - (intOf i).toNat)
    case atStart => exact ⟨0, Nat.zero_le _, rfl, Parts.zero s⟩
    case round =>
      obtain ⟨k, hk, rfl, hp⟩ := hrel
      go_wp2_with (go_at_call 29; refine (part _ _).mono ?_; rintro e w' ⟨rfl, rfl⟩)
      · have hlt : k < s.size := by assumption
        have hq2 : (!isPart (s[k].toNat : Int)) = true := by assumption
        go_ret
        refine ⟨.inl ⟨rfl, fun h => ?_⟩, .inr rfl⟩
        have h1 := h.2.2.2.2 k hlt
        rw [at'_eq hlt] at h1
        rw [h1] at hq2
        cases hq2
      · have hlt : k < s.size := by assumption
        have hq2 : (!isPart (s[k].toNat : Int)) = false := by assumption
        have hpk : isPart (at' s k) = true := by rw [at'_eq hlt]; simpa using hq2
        exact ⟨⟨k + 1, by omega, by simp, fun j hj => by
          by_cases q : j = k
          · subst q; exact hpk
          · exact hp j (by omega)⟩, by simp [intOf]; omega⟩
      · have hk2 : k = s.size := by omega
        subst hk2
        go_ret
        exact ⟨.inr ⟨rfl, by omega, by omega, by rw [at'_eq h0]; exact hb, hkw, hp⟩, .inr rfl⟩
  · have hq : ¬ (97 ≤ (s[0].toNat : Int) ∧ (s[0].toNat : Int) ≤ 122) := by assumption
    have h0 : 0 < s.size := by assumption
    go_ret
    exact ⟨.inl ⟨rfl, fun h => hq (by have := h.2.2.1; rw [at'_eq h0] at this; exact this)⟩, .inl rfl⟩
  · exfalso
    have h0 := toList_pos ‹¬ s.toList = []›
    contradiction
  · have hq : (16 : Int) < (s.size : Int) := by assumption
    go_ret
    exact ⟨.inl ⟨rfl, fun h => by have := h.2.1; omega⟩, .inl rfl⟩
end Go.Proofs.YtobacidddkocfaaGreatDoor.Ls

set_option maxRecDepth 100000
namespace Go.Proofs.YtobacidddkocfaaGreatDoor.Ls
open Go.ChangeShapes Go.WideShapes Go.ChangeAt Go.RowKit

theorem name' (s : ByteArray) (hs : s.size ≤ 4096) (w : World) : Calls Tryz.prog 6 #[.string s] w fun e w' => (∃ b, e = .returned (.bool b) ∧ (b = true ↔ NameSpec s)) ∧ w' = w := by
  refine (name s hs w).mono ?_
  rintro e w' ⟨⟨rfl, h⟩ | ⟨rfl, h⟩, rfl⟩
  · exact ⟨⟨_, rfl, by simpa using h⟩, rfl⟩
  · exact ⟨⟨_, rfl, by simpa using h⟩, rfl⟩

theorem below_alloc (w : World) (o : Obj) : Below w.heap.size w (w.alloc o) := (Below.refl _ _).alloc (Nat.le_refl _) o

theorem refName' (s : ByteArray) (hs : s.size ≤ 4096) (w : World) : Calls Tryz.prog 7 #[.string s] w fun e w' => ∃ b, e = .returned (.bool b) ∧ (b = true ↔ NameSpec s) ∧ Below w.heap.size w w' := by
  refine (refName s hs w).mono ?_
  rintro e w' ⟨h1, h2⟩
  have hB : Below w.heap.size w w' := by
    rcases h2 with rfl | rfl
    · exact Below.refl _ _
    · exact below_alloc _ _
  rcases h1 with ⟨rfl, h⟩ | ⟨rfl, h⟩
  · exact ⟨_, rfl, by simpa using h, hB⟩
  · exact ⟨_, rfl, by simpa using h, hB⟩

theorem refOperator' (s : ByteArray) (w : World) : Calls Tryz.prog 9 #[.string s] w fun e w' => ∃ r, e = .returned (.int .i64 r) ∧ Place ops s.toList r ∧ Below w.heap.size w w' := by
  refine (refOperator s w).mono ?_
  rintro e w' ⟨⟨r, rfl, hr⟩, rfl⟩
  exact ⟨r, rfl, hr, below_alloc _ _⟩

theorem Place.one {l : List (List UInt8)} {z : List UInt8} {r q : Int} (h : Place l z r) (k : Place l z q) : r = q := by
  rcases h with ⟨i, rfl, h1, h2⟩ | ⟨rfl, h1⟩
  · rcases k with ⟨j, rfl, k1, k2⟩ | ⟨rfl, k1⟩
    · rcases Nat.lt_trichotomy i j with q | q | q
      · exact absurd h1 (k2 i q)
      · rw [q]
      · exact absurd k1 (h2 j q)
    · exact absurd h1 (k1 i (List.getElem?_eq_some_iff.1 h1).1)
  · rcases k with ⟨j, rfl, k1, k2⟩ | ⟨rfl, k1⟩
    · exact absurd k1 (h1 j (List.getElem?_eq_some_iff.1 k1).1)
    · rfl

set_option maxHeartbeats 4000000 in
theorem law (s : ByteArray) (w : World) (ty : TypeId) (hx : w.heap[0]? = some (.cells ⟨strsOf ops⟩ ty (0, 0))) (hl : ∀ (w2 : World), w2.heap[0]? = some (.cells ⟨strsOf ops⟩ ty (0, 0)) → Calls Tryz.prog 5 #[] w2 fun e w' => e = .returned (.bool true) ∧ Below w2.heap.size w2 w') :
    Calls Tryz.prog 3 #[.string s] w fun e w' => e = .returned (.bool true) ∧ Below w.heap.size w w' := by
  have h0 : 0 < w.heap.size := (Array.getElem?_eq_some_iff.1 hx).1
  go_enter Tryz.func3, Tryz.ntmps3
  go_wp2_with (first
    | (go_at_call 6; refine (name' s (by omega) _).mono ?_; rintro e w' ⟨⟨b, rfl, hb⟩, rfl⟩)
    | (go_at_call 7; refine (refName' s (by omega) _).mono ?_; rintro e w' ⟨b2, rfl, hb2, hB1⟩)
    | (go_at_call 8; refine (operator s _ ty ?_).mono ?_; rotate_left; rintro e w' ⟨⟨r, rfl, hr⟩, rfl⟩)
    | (go_at_call 9; refine (refOperator' s _).mono ?_; rintro e w' ⟨r2, rfl, hr2, hB2⟩)
    | (go_at_call 5; refine (hl _ ?_).mono ?_; rotate_left; rintro e w' ⟨rfl, hB3⟩))
  all_goals first
    | exact hx
    | (rw [hB1.block 0 h0]; exact hx)
    | (rw [hB2.block 0 (Nat.lt_of_lt_of_le h0 hB1.size), hB1.block 0 h0]; exact hx)
    | (exfalso
       have hne : ¬ b = b2 := by assumption
       apply hne
       rw [Bool.eq_iff_iff, hb, hb2])
    | (exfalso
       have hne : ¬ r = r2 := by assumption
       exact hne (hr.one hr2))
    | (go_ret; exact ⟨rfl, hB3⟩)
    | (go_ret; exact ⟨rfl, (hB1.trans (hB2.mono hB1.size)).trans (hB3.mono (Nat.le_trans hB1.size hB2.size))⟩)
    | (go_ret; trace_state)
end Go.Proofs.YtobacidddkocfaaGreatDoor.Ls

