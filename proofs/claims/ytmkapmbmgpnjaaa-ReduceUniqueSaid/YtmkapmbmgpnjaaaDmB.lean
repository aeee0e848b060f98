import Derived.Test.YtmkapmbmgpnjaaaDmA
import Derived.Test.YtmkapmbmgpnjaaaDlD
import Derived.Laws.MakeOwn
import Derived.Deep.RegionWith
set_option maxRecDepth 100000
set_option linter.unusedSimpArgs false
set_option linter.unusedVariables false
namespace Go.Proofs.Ytmkapmbmgpnjaaa.Se
open Go Go.Ms Go.Pg Go.Rc Go.Bi Go.Se Go.ChangeShapes Go.WideShapes Go.ChangeAt Go.RowKit Go.Deep Go.Proofs.Ytmkapmbmgpnjaaa.Bi

/-! A row of sets in memory. -/
def cellsQ (q : Q4) : List Value := [.int .u64 q.a, .int .u64 q.b, .int .u64 q.c, .int .u64 q.d]
abbrev rowQ (A : List Q4) : Obj := .cells (A.flatMap cellsQ).toArray 98 (0, 0)
abbrev setQ (q : Q4) : Value := setV q.a q.b q.c q.d
theorem flat_get : ∀ (A : List Q4) (i : Nat) (h : i < A.length), (A.flatMap cellsQ)[i * 4]? = some (.int .u64 (A[i].a : Int)) ∧ (A.flatMap cellsQ)[i * 4 + 1]? = some (.int .u64 (A[i].b : Int)) ∧ (A.flatMap cellsQ)[i * 4 + 2]? = some (.int .u64 (A[i].c : Int)) ∧ (A.flatMap cellsQ)[i * 4 + 3]? = some (.int .u64 (A[i].d : Int))
  | a :: A, 0, _ => by simp [cellsQ]
  | a :: A, i + 1, h => by
    have := flat_get A i (by simpa using h)
    rw [List.flatMap_cons]
    have e : (cellsQ a).length = 4 := rfl
    refine ⟨?_, ?_, ?_, ?_⟩
    · rw [List.getElem?_append_right (by rw [e]; omega), show (i + 1) * 4 - (cellsQ a).length = i * 4 by rw [e]; omega]
      exact this.1
    · rw [List.getElem?_append_right (by rw [e]; omega), show (i + 1) * 4 + 1 - (cellsQ a).length = i * 4 + 1 by rw [e]; omega]
      exact this.2.1
    · rw [List.getElem?_append_right (by rw [e]; omega), show (i + 1) * 4 + 2 - (cellsQ a).length = i * 4 + 2 by rw [e]; omega]
      exact this.2.2.1
    · rw [List.getElem?_append_right (by rw [e]; omega), show (i + 1) * 4 + 3 - (cellsQ a).length = i * 4 + 3 by rw [e]; omega]
      exact this.2.2.2
theorem flat_set : ∀ (A : List Q4) (i : Nat) (q : Q4), i < A.length → ((((A.flatMap cellsQ).set (i * 4) (.int .u64 q.a)).set (i * 4 + 1) (.int .u64 q.b)).set (i * 4 + 2) (.int .u64 q.c)).set (i * 4 + 3) (.int .u64 q.d) = (A.set i q).flatMap cellsQ
  | a :: A, 0, q, _ => by simp [cellsQ]
  | a :: A, i + 1, q, h => by
    have := flat_set A i q (by simpa using h)
    have e : (cellsQ a).length = 4 := rfl
    rw [List.set_cons_succ, List.flatMap_cons, List.flatMap_cons, ← this]
    rw [List.set_append_right _ _ (by rw [e]; omega), List.set_append_right _ _ (by rw [e]; omega), List.set_append_right _ _ (by rw [e]; omega), List.set_append_right _ _ (by rw [e]; omega), e]
    congr 1
    rw [show (i + 1) * 4 - 4 = i * 4 by omega, show (i + 1) * 4 + 1 - 4 = i * 4 + 1 by omega, show (i + 1) * 4 + 2 - 4 = i * 4 + 2 by omega, show (i + 1) * 4 + 3 - 4 = i * 4 + 3 by omega]
theorem getD_get {A : List Q4} {n : Nat} (h : n < A.length) : A[n] = A.getD n zeroQ := by
  rw [List.getD_eq_getElem?_getD, List.getElem?_eq_getElem h]
  rfl
theorem row_get {w : World} {g i : Nat} {A : List Q4} {q : Q4} (h : w.heap[g]? = some (rowQ A)) (hi : i < A.length) (e : A.getD i zeroQ = q) :
    w.cell? ⟨g, i * 4, none⟩ = some (.int .u64 (q.a : Int)) ∧ w.cell? ⟨g, i * 4 + 1, none⟩ = some (.int .u64 (q.b : Int)) ∧ w.cell? ⟨g, i * 4 + 2, none⟩ = some (.int .u64 (q.c : Int)) ∧ w.cell? ⟨g, i * 4 + 3, none⟩ = some (.int .u64 (q.d : Int)) := by
  have c : ∀ j, w.cell? ⟨g, j, none⟩ = (A.flatMap cellsQ)[j]? := fun j => (cell_of h j).trans (by simp)
  obtain ⟨h0, h1, h2, h3⟩ := flat_get A i hi
  rw [getD_get hi, e] at h0 h1 h2 h3
  exact ⟨(c _).trans h0, (c _).trans h1, (c _).trans h2, (c _).trans h3⟩
def putR (w : World) (B o : Nat) (q : Q4) : World := (((w.setCell ⟨B, o, none⟩ (.int .u64 q.a)).setCell ⟨B, o + 1, none⟩ (.int .u64 q.b)).setCell ⟨B, o + 2, none⟩ (.int .u64 q.c)).setCell ⟨B, o + 3, none⟩ (.int .u64 q.d)
theorem putR_row {w : World} {g i : Nat} {q : Q4} {A : List Q4} (h : w.heap[g]? = some (rowQ A)) (hi : i < A.length) : (putR w g (i * 4) q).heap[g]? = some (rowQ (A.set i q)) := by
  have h0 := heap_setCell_same _ g (i * 4) _ 98 (.int .u64 (q.a : Int)) h
  have h1 := heap_setCell_same _ g (i * 4 + 1) _ 98 (.int .u64 (q.b : Int)) h0
  have h2 := heap_setCell_same _ g (i * 4 + 2) _ 98 (.int .u64 (q.c : Int)) h1
  have h3 := heap_setCell_same _ g (i * 4 + 3) _ 98 (.int .u64 (q.d : Int)) h2
  refine h3.trans ?_
  unfold rowQ
  rw [← flat_set A i q hi]
  simp
theorem putR_other {w : World} {B o k : Nat} {q : Q4} (h : k ≠ B) : (putR w B o q).heap[k]? = w.heap[k]? := by
  unfold putR
  rw [Below.heap_setCell _ _ _ _ h, Below.heap_setCell _ _ _ _ h, Below.heap_setCell _ _ _ _ h, Below.heap_setCell _ _ _ _ h]
theorem putR_below {C B o : Nat} {q : Q4} {w0 w : World} (h : Below C w0 w) (hB : C ≤ B) : Below C w0 (putR w B o q) :=
  (((h.setCell (p := ⟨B, o, none⟩) hB _).setCell (p := ⟨B, o + 1, none⟩) hB _).setCell (p := ⟨B, o + 2, none⟩) hB _).setCell (p := ⟨B, o + 3, none⟩) hB _
theorem made_zeroQ (n : Nat) : madeCells #[.int .u64 0, .int .u64 0, .int .u64 0, .int .u64 0] (n * 4) = ((List.replicate n zeroQ).flatMap cellsQ).toArray := by
  have h1 : ∀ n, (List.replicate n zeroQ).flatMap cellsQ = List.replicate (n * 4) (.int .u64 0) := by
    intro n
    induction n with
    | zero => rfl
    | succ n ih =>
      rw [List.replicate_succ, List.flatMap_cons, ih, Nat.add_mul, Nat.add_comm, ← List.replicate_append_replicate]
      rfl
  rw [h1]
  apply Array.ext
  · simp [madeCells]
  · intro i h1 h2
    have hm : i % 4 = 0 ∨ i % 4 = 1 ∨ i % 4 = 2 ∨ i % 4 = 3 := by omega
    rcases hm with e | e | e | e <;> simp [madeCells, e]
theorem make95 (n : Nat) (hn : n ≤ 1000) (W : World) : (Instr.makeSlice 95 (.int .i64 (n : Int)) (.int .i64 (n : Int))).run Try.prog W = .ok (.slice (some ⟨W.heap.size, 0, none⟩) n n) (W.alloc (rowQ (List.replicate n zeroQ))) := by
  have g : (Try.prog.info? 98).map (fun i => (i.size, i.bytes, i.zero.map fun z => z.cells)) = some (4, 32, some #[.int .u64 0, .int .u64 0, .int .u64 0, .int .u64 0]) := by kernel_rfl
  cases hi : Try.prog.info? 98 with
  | none => rw [hi] at g; cases g
  | some i =>
    rw [hi] at g
    simp only [Option.map_some, Option.some.injEq, Prod.mk.injEq] at g
    obtain ⟨g1, g2, g3⟩ := g
    cases hz : i.zero with
    | none => rw [hz] at g3; cases g3
    | some z =>
      rw [hz] at g3
      simp only [Option.map_some, Option.some.injEq] at g3
      have h := run_make (P := Try.prog) W 95 98 i z Try.underlying95 hi hz .i64 .i64 n n (by omega) (by omega) (by rw [g2]; omega) (by omega)
      rw [g3, g1, Int.toNat_natCast, made_zeroQ] at h
      exact h
def NilRow (w : World) (v : Value) (n : Nat) : Prop := ∃ oa cap, v = .slice oa n cap ∧ ∀ i, i < n → ∃ b o, oa = some ⟨b, o, none⟩ ∧ w.cell? ⟨b, o + i, none⟩ = some (.slice none 0 0)
theorem NilRow.old {w w' : World} {v : Value} {n : Nat} (h : NilRow w v n) (hB : Below w.heap.size w w') : NilRow w' v n := by
  obtain ⟨oa, cap, e, hc⟩ := h
  exact ⟨oa, cap, e, fun i hi => by
    obtain ⟨b, o, e, hx⟩ := hc i hi
    exact ⟨b, o, e, cell_old hB hx⟩⟩
theorem nats_nil (w : World) : Nats w (.slice none 0 0) [] := ⟨none, 0, rfl, by simp, fun i hi => absurd hi (Nat.not_lt_zero i)⟩
def partQ (n k : Nat) : List Q4 := (singles k) ++ List.replicate (n - k) zeroQ
theorem singles_length (n : Nat) : (singles n).length = n := by simp [singles]
theorem partQ_length {n k : Nat} (h : k ≤ n) : (partQ n k).length = n := by
  simp [partQ, singles_length]
  omega
theorem partQ_set {n k : Nat} (h : k < n) : (partQ n k).set k (ofP (among [k])) = partQ n (k + 1) := by
  unfold partQ
  rw [List.set_append_right _ _ (by rw [singles_length]; exact Nat.le_refl _), singles_length, Nat.sub_self, show n - k = (n - (k + 1)) + 1 by omega, List.replicate_succ, List.set_cons_zero]
  unfold singles
  rw [List.range_succ, List.map_append]
  simp
theorem partQ_all (n : Nat) : partQ n n = singles n := by simp [partQ]
theorem partQ_zero (n : Nat) : partQ n 0 = List.replicate n zeroQ := by simp [partQ, singles]
theorem singles_set {n i : Nat} (h : i < n) : (singles n).set i (ofP (among [i])) = singles n := by
  have e : (singles n)[i]'(by rw [singles_length]; exact h) = ofP (among [i]) := by rw [getD_get, singles_get h]
  rw [← e]
  exact List.set_getElem_self _
theorem zero_among : ofP (among []) = zeroQ := by
  have h := sp_of (among [])
  exact sp_ext h (sp_mem zero_ok) fun n hn => by rw [mem_zero hn]; simp [among]
theorem orQ_self {q : Q4} : (⟨q.a ||| q.a, q.b ||| q.b, q.c ||| q.c, q.d ||| q.d⟩ : Q4) = q := by cases q; simp
theorem zero_or (x : Nat) : (0 : Nat) ||| x = x := by simp
end Go.Proofs.Ytmkapmbmgpnjaaa.Se
