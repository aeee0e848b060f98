import Derived.Test.YtmkapmbmgpnjaaaDlA
import Derived.Test.YtmkapmbmgpnjaaaDlD
import Derived.Laws.MakeOwn
import Derived.Deep.RegionWith
set_option maxRecDepth 100000
namespace Go.Proofs.Ytmkapmbmgpnjaaa.Se
open Go Go.Ms Go.Pg Go.Bi Go.Se Go.ChangeShapes Go.WideShapes Go.ChangeAt Go.RowKit Go.Deep Go.Proofs.Ytmkapmbmgpnjaaa.Bi

/-! The minimization of a set of changes, as a tree. -/
def descT (S : List Nat → List (List Nat)) : Nat → List Nat → Tr
  | 0, _ => .fin [] []
  | f + 1, l => scanT (S l) fun
    | some r => descT S f r
    | none => .fin (l.map Int.ofNat) []
def changesT (S : List Nat → List (List Nat)) (n : Nat) : Tr := .ask (allQ n) fun v => if v = 2 then descT S 300 (List.range n) else .err 7
structure Shrinks (n : Nat) (S : List Nat → List (List Nat)) : Prop where
  sub : ∀ l q, q ∈ S l → q.Sublist l
  less : ∀ l q, (∀ i ∈ l, i < n) → q ∈ S l → q.length < l.length
theorem desc_leaf {S : List Nat → List (List Nat)} {o : Q4 → Int} {n : Nat} (hS : Shrinks n S) {r : List Int} : ∀ {f : Nat} {l : List Nat}, l.Pairwise (· < ·) → (∀ i ∈ l, i < n) → o (ofP (among l)) = 2 → l.length < f →
    ∃ k : List Nat, leaf o (descT S f l) r = .fin (k.map Int.ofNat) [] r ∧ k.Pairwise (· < ·) ∧ (∀ i ∈ k, i < n) ∧ o (ofP (among k)) = 2 ∧ ∀ q ∈ S k, o (ofP (among q)) ≠ 2
  | 0, _, _, _, _, h => absurd h (by omega)
  | f + 1, l, hs, hl, ho, hf => by
    rw [descT]
    rcases leaf_scan (o := o) (r := r) (f := fun
      | some r => descT S f r
      | none => .fin (l.map Int.ofNat) []) (S l) with ⟨q, hq, h1, h2⟩ | ⟨h1, h2⟩
    · rw [h2]
      have hsub := hS.sub l q hq
      exact desc_leaf hS (hs.sublist hsub) (fun j hj => hl j (hsub.subset hj)) h1 (by have := hS.less l q hl hq; omega)
    · rw [h2]
      exact ⟨l, rfl, hs, hl, ho, fun q hq => h1 q hq⟩
theorem changes_leaf {S : List Nat → List (List Nat)} {o : Q4 → Int} {n : Nat} (hS : Shrinks n S) (hn : n ≤ 256) (r : List Int) :
    (o (allQ n) = 2 ∧ ∃ k : List Nat, leaf o (changesT S n) r = .fin (k.map Int.ofNat) [] r ∧ k.Pairwise (· < ·) ∧ (∀ i ∈ k, i < n) ∧ o (ofP (among k)) = 2 ∧ ∀ q ∈ S k, o (ofP (among q)) ≠ 2) ∨
    (o (allQ n) ≠ 2 ∧ leaf o (changesT S n) r = .err 7) := by
  by_cases h : o (allQ n) = 2
  · refine .inl ⟨h, ?_⟩
    have e : ofP (among (List.range n)) = allQ n := by
      unfold allQ
      congr 1
      funext i
      simp [among]
    rw [changesT, leaf, if_pos h]
    exact desc_leaf hS List.pairwise_lt_range (fun i hi => List.mem_range.1 hi) (by rw [e]; exact h) (by rw [List.length_range]; omega)
  · exact .inr ⟨h, by rw [changesT, leaf, if_neg h, leaf]⟩
theorem asks_desc {n : Nat} {S : List Nat → List (List Nat)} (hS : Shrinks n S) : ∀ {f : Nat} {l : List Nat}, (∀ i ∈ l, i < n) → Asks (LowQ n) (descT S f l)
  | 0, _, _ => .fin _ _
  | f + 1, l, h => by
    rw [descT]
    have hq : ∀ q ∈ S l, ∀ i ∈ q, i < n := fun q hq i hi => h i ((hS.sub l q hq).subset hi)
    exact asks_scan hq (fun q hq' => asks_desc hS (hq q hq')) (.fin _ _)
theorem asks_changes {n : Nat} {S : List Nat → List (List Nat)} (hS : Shrinks n S) : Asks (LowQ n) (changesT S n) := .ask small_all fun v => by
  split
  · exact asks_desc hS fun i hi => List.mem_range.1 hi
  · exact .err _

/-! What is left without a change, by a table of closures. -/
def stayA (A : List Q4) (c : Nat) (l : List Nat) : List Nat := l.filter fun i => !memQ (A.getD i zeroQ) c
def smallerA (A : List Q4) (l : List Nat) : List (List Nat) := l.map fun c => stayA A c l
theorem shrinksA {n : Nat} {A : List Q4} (h : ∀ i, i < n → memQ (A.getD i zeroQ) i = true) : Shrinks n (smallerA A) where
  sub l q hq := by
    obtain ⟨c, _, rfl⟩ := List.mem_map.1 hq
    exact List.filter_sublist
  less l q hl hq := by
    obtain ⟨c, hc, rfl⟩ := List.mem_map.1 hq
    unfold stayA
    rcases Nat.lt_or_ge (l.filter fun i => !memQ (A.getD i zeroQ) c).length l.length with h1 | h1
    · exact h1
    · have e := (List.filter_sublist (l := l) (p := fun i => !memQ (A.getD i zeroQ) c)).eq_of_length_le h1
      have h2 : c ∈ l.filter fun i => !memQ (A.getD i zeroQ) c := by rw [e]; exact hc
      have h3 := (List.mem_filter.1 h2).2
      rw [h c (hl c hc)] at h3
      cases h3
def singles (n : Nat) : List Q4 := (List.range n).map fun i => ofP (among [i])
theorem singles_get {n i : Nat} (h : i < n) : (singles n).getD i zeroQ = ofP (among [i]) := by
  unfold singles
  rw [List.getD_eq_getElem?_getD, List.getElem?_map, List.getElem?_range h]
  rfl
theorem singles_mem {n i c : Nat} (h : i < n) (hc : c < 256) : memQ ((singles n).getD i zeroQ) c = decide (c = i) := by
  rw [singles_get h, mem_of _ hc]
  simp [among]
theorem shrinks_singles {n : Nat} (hn : n ≤ 256) : Shrinks n (smallerA (singles n)) := shrinksA fun i hi => by rw [singles_mem hi (by omega)]; simp
theorem stay_singles {n c : Nat} {l : List Nat} (hl : ∀ i ∈ l, i < n) (hc : c < 256) : stayA (singles n) c l = restOf l [c] := by
  unfold stayA restOf
  apply List.filter_congr
  intro i hi
  rw [singles_mem (hl i hi) hc]
  simp [eq_comm]
abbrev changesN (n : Nat) : Tr := changesT (smallerA (singles n)) n
theorem changesN_leaf {o : Q4 → Int} {n : Nat} (hn : n ≤ 256) (r : List Int) :
    (o (allQ n) = 2 ∧ ∃ k : List Nat, leaf o (changesN n) r = .fin (k.map Int.ofNat) [] r ∧ k.Pairwise (· < ·) ∧ (∀ i ∈ k, i < n) ∧ o (ofP (among k)) = 2 ∧ ∀ i ∈ k, o (ofP (among (restOf k [i]))) ≠ 2) ∨
    (o (allQ n) ≠ 2 ∧ leaf o (changesN n) r = .err 7) := by
  rcases changes_leaf (shrinks_singles hn) hn r with ⟨h, k, h1, h2, h3, h4, h5⟩ | h
  · exact .inl ⟨h, k, h1, h2, h3, h4, fun i hi => by
      rw [← stay_singles h3 (by have := h3 i hi; omega)]
      exact h5 _ (List.mem_map.2 ⟨i, hi, rfl⟩)⟩
  · exact .inr h
theorem asks_changesN {n : Nat} (hn : n ≤ 256) : Asks (LowQ n) (changesN n) := asks_changes (shrinks_singles hn)
end Go.Proofs.Ytmkapmbmgpnjaaa.Se

set_option maxRecDepth 100000
set_option linter.unusedSimpArgs false
set_option linter.unusedVariables false
namespace Go.Proofs.Ytmkapmbmgpnjaaa.Se
open Go Go.Ms Go.Pg Go.Rc Go.Bi Go.Se Go.ChangeShapes Go.WideShapes Go.ChangeAt Go.RowKit Go.Deep Go.Proofs.Ytmkapmbmgpnjaaa.Bi

/-! A row of sets in memory. -/
def cellsQ (q : Q4) : List Value := [.int .u64 q.a, .int .u64 q.b, .int .u64 q.c, .int .u64 q.d]
abbrev rowQ (A : List Q4) : Obj := .cells (A.flatMap cellsQ).toArray 98 (0, 0)
abbrev setQ (q : Q4) : Value := setV q.a q.b q.c q.d
theorem flat_get : ∀ (A : List Q4) (i : Nat) (h : i < A.length), (A.flatMap cellsQ)[i * 4]? = some (.int .u64 (A[i].a : Int)) ∧ (A.flatMap cellsQ)[i * 4 + 1]? = some (.int .u64 (A[i].b : Int)) ∧ (A.flatMap cellsQ)[i * 4 + 2]? = some (.int .u64 (A[i].c : Int)) ∧ (A.flatMap cellsQ)[i * 4 + 3]? = some (.int .u64 (A[i].d : Int))
  | a :: A, 0, _ => by simp [cellsQ]
  | a :: A, i + 1, h => by
    have := flat_get A i (by simpa using h)
    rw [List.flatMap_cons]
    have e : (cellsQ a).length = 4 := rfl
    refine ⟨?_, ?_, ?_, ?_⟩
    · rw [List.getElem?_append_right (by rw [e]; omega), show (i + 1) * 4 - (cellsQ a).length = i * 4 by rw [e]; omega]
      exact this.1
    · rw [List.getElem?_append_right (by rw [e]; omega), show (i + 1) * 4 + 1 - (cellsQ a).length = i * 4 + 1 by rw [e]; omega]
      exact this.2.1
    · rw [List.getElem?_append_right (by rw [e]; omega), show (i + 1) * 4 + 2 - (cellsQ a).length = i * 4 + 2 by rw [e]; omega]
      exact this.2.2.1
    · rw [List.getElem?_append_right (by rw [e]; omega), show (i + 1) * 4 + 3 - (cellsQ a).length = i * 4 + 3 by rw [e]; omega]
      exact this.2.2.2
theorem flat_set : ∀ (A : List Q4) (i : Nat) (q : Q4), i < A.length → ((((A.flatMap cellsQ).set (i * 4) (.int .u64 q.a)).set (i * 4 + 1) (.int .u64 q.b)).set (i * 4 + 2) (.int .u64 q.c)).set (i * 4 + 3) (.int .u64 q.d) = (A.set i q).flatMap cellsQ
  | a :: A, 0, q, _ => by simp [cellsQ]
  | a :: A, i + 1, q, h => by
    have := flat_set A i q (by simpa using h)
    have e : (cellsQ a).length = 4 := rfl
    rw [List.set_cons_succ, List.flatMap_cons, List.flatMap_cons, ← this]
    rw [List.set_append_right _ _ (by rw [e]; omega), List.set_append_right _ _ (by rw [e]; omega), List.set_append_right _ _ (by rw [e]; omega), List.set_append_right _ _ (by rw [e]; omega), e]
    congr 1
    rw [show (i + 1) * 4 - 4 = i * 4 by omega, show (i + 1) * 4 + 1 - 4 = i * 4 + 1 by omega, show (i + 1) * 4 + 2 - 4 = i * 4 + 2 by omega, show (i + 1) * 4 + 3 - 4 = i * 4 + 3 by omega]
theorem getD_get {A : List Q4} {n : Nat} (h : n < A.length) : A[n] = A.getD n zeroQ := by
  rw [List.getD_eq_getElem?_getD, List.getElem?_eq_getElem h]
  rfl
theorem row_get {w : World} {g i : Nat} {A : List Q4} {q : Q4} (h : w.heap[g]? = some (rowQ A)) (hi : i < A.length) (e : A.getD i zeroQ = q) :
    w.cell? ⟨g, i * 4, none⟩ = some (.int .u64 (q.a : Int)) ∧ w.cell? ⟨g, i * 4 + 1, none⟩ = some (.int .u64 (q.b : Int)) ∧ w.cell? ⟨g, i * 4 + 2, none⟩ = some (.int .u64 (q.c : Int)) ∧ w.cell? ⟨g, i * 4 + 3, none⟩ = some (.int .u64 (q.d : Int)) := by
  have c : ∀ j, w.cell? ⟨g, j, none⟩ = (A.flatMap cellsQ)[j]? := fun j => (cell_of h j).trans (by simp)
  obtain ⟨h0, h1, h2, h3⟩ := flat_get A i hi
  rw [getD_get hi, e] at h0 h1 h2 h3
  exact ⟨(c _).trans h0, (c _).trans h1, (c _).trans h2, (c _).trans h3⟩
def putR (w : World) (B o : Nat) (q : Q4) : World := (((w.setCell ⟨B, o, none⟩ (.int .u64 q.a)).setCell ⟨B, o + 1, none⟩ (.int .u64 q.b)).setCell ⟨B, o + 2, none⟩ (.int .u64 q.c)).setCell ⟨B, o + 3, none⟩ (.int .u64 q.d)
theorem putR_row {w : World} {g i : Nat} {q : Q4} {A : List Q4} (h : w.heap[g]? = some (rowQ A)) (hi : i < A.length) : (putR w g (i * 4) q).heap[g]? = some (rowQ (A.set i q)) := by
  have h0 := heap_setCell_same _ g (i * 4) _ 98 (.int .u64 (q.a : Int)) h
  have h1 := heap_setCell_same _ g (i * 4 + 1) _ 98 (.int .u64 (q.b : Int)) h0
  have h2 := heap_setCell_same _ g (i * 4 + 2) _ 98 (.int .u64 (q.c : Int)) h1
  have h3 := heap_setCell_same _ g (i * 4 + 3) _ 98 (.int .u64 (q.d : Int)) h2
  refine h3.trans ?_
  unfold rowQ
  rw [← flat_set A i q hi]
  simp
theorem putR_other {w : World} {B o k : Nat} {q : Q4} (h : k ≠ B) : (putR w B o q).heap[k]? = w.heap[k]? := by
  unfold putR
  rw [Below.heap_setCell _ _ _ _ h, Below.heap_setCell _ _ _ _ h, Below.heap_setCell _ _ _ _ h, Below.heap_setCell _ _ _ _ h]
theorem putR_below {C B o : Nat} {q : Q4} {w0 w : World} (h : Below C w0 w) (hB : C ≤ B) : Below C w0 (putR w B o q) :=
  (((h.setCell (p := ⟨B, o, none⟩) hB _).setCell (p := ⟨B, o + 1, none⟩) hB _).setCell (p := ⟨B, o + 2, none⟩) hB _).setCell (p := ⟨B, o + 3, none⟩) hB _
theorem made_zeroQ (n : Nat) : madeCells #[.int .u64 0, .int .u64 0, .int .u64 0, .int .u64 0] (n * 4) = ((List.replicate n zeroQ).flatMap cellsQ).toArray := by
  have h1 : ∀ n, (List.replicate n zeroQ).flatMap cellsQ = List.replicate (n * 4) (.int .u64 0) := by
    intro n
    induction n with
    | zero => rfl
    | succ n ih =>
      rw [List.replicate_succ, List.flatMap_cons, ih, Nat.add_mul, Nat.add_comm, ← List.replicate_append_replicate]
      rfl
  rw [h1]
  apply Array.ext
  · simp [madeCells]
  · intro i h1 h2
    have hm : i % 4 = 0 ∨ i % 4 = 1 ∨ i % 4 = 2 ∨ i % 4 = 3 := by omega
    rcases hm with e | e | e | e <;> simp [madeCells, e]
theorem make95 (n : Nat) (hn : n ≤ 1000) (W : World) : (Instr.makeSlice 95 (.int .i64 (n : Int)) (.int .i64 (n : Int))).run Try.prog W = .ok (.slice (some ⟨W.heap.size, 0, none⟩) n n) (W.alloc (rowQ (List.replicate n zeroQ))) := by
  have g : (Try.prog.info? 98).map (fun i => (i.size, i.bytes, i.zero.map fun z => z.cells)) = some (4, 32, some #[.int .u64 0, .int .u64 0, .int .u64 0, .int .u64 0]) := by kernel_rfl
  cases hi : Try.prog.info? 98 with
  | none => rw [hi] at g; cases g
  | some i =>
    rw [hi] at g
    simp only [Option.map_some, Option.some.injEq, Prod.mk.injEq] at g
    obtain ⟨g1, g2, g3⟩ := g
    cases hz : i.zero with
    | none => rw [hz] at g3; cases g3
    | some z =>
      rw [hz] at g3
      simp only [Option.map_some, Option.some.injEq] at g3
      have h := run_make (P := Try.prog) W 95 98 i z Try.underlying95 hi hz .i64 .i64 n n (by omega) (by omega) (by rw [g2]; omega) (by omega)
      rw [g3, g1, Int.toNat_natCast, made_zeroQ] at h
      exact h
def NilRow (w : World) (v : Value) (n : Nat) : Prop := ∃ oa cap, v = .slice oa n cap ∧ ∀ i, i < n → ∃ b o, oa = some ⟨b, o, none⟩ ∧ w.cell? ⟨b, o + i, none⟩ = some (.slice none 0 0)
theorem NilRow.old {w w' : World} {v : Value} {n : Nat} (h : NilRow w v n) (hB : Below w.heap.size w w') : NilRow w' v n := by
  obtain ⟨oa, cap, e, hc⟩ := h
  exact ⟨oa, cap, e, fun i hi => by
    obtain ⟨b, o, e, hx⟩ := hc i hi
    exact ⟨b, o, e, cell_old hB hx⟩⟩
theorem nats_nil (w : World) : Nats w (.slice none 0 0) [] := ⟨none, 0, rfl, by simp, fun i hi => absurd hi (Nat.not_lt_zero i)⟩
def partQ (n k : Nat) : List Q4 := (singles k) ++ List.replicate (n - k) zeroQ
theorem singles_length (n : Nat) : (singles n).length = n := by simp [singles]
theorem partQ_length {n k : Nat} (h : k ≤ n) : (partQ n k).length = n := by
  simp [partQ, singles_length]
  omega
theorem partQ_set {n k : Nat} (h : k < n) : (partQ n k).set k (ofP (among [k])) = partQ n (k + 1) := by
  unfold partQ
  rw [List.set_append_right _ _ (by rw [singles_length]; exact Nat.le_refl _), singles_length, Nat.sub_self, show n - k = (n - (k + 1)) + 1 by omega, List.replicate_succ, List.set_cons_zero]
  unfold singles
  rw [List.range_succ, List.map_append]
  simp
theorem partQ_all (n : Nat) : partQ n n = singles n := by simp [partQ]
theorem partQ_zero (n : Nat) : partQ n 0 = List.replicate n zeroQ := by simp [partQ, singles]
theorem singles_set {n i : Nat} (h : i < n) : (singles n).set i (ofP (among [i])) = singles n := by
  have e : (singles n)[i]'(by rw [singles_length]; exact h) = ofP (among [i]) := by rw [getD_get, singles_get h]
  rw [← e]
  exact List.set_getElem_self _
theorem zero_among : ofP (among []) = zeroQ := by
  have h := sp_of (among [])
  exact sp_ext h (sp_mem zero_ok) fun n hn => by rw [mem_zero hn]; simp [among]
theorem orQ_self {q : Q4} : (⟨q.a ||| q.a, q.b ||| q.b, q.c ||| q.c, q.d ||| q.d⟩ : Q4) = q := by cases q; simp
theorem zero_or (x : Nat) : (0 : Nat) ||| x = x := by simp
end Go.Proofs.Ytmkapmbmgpnjaaa.Se

set_option maxRecDepth 100000
set_option linter.unusedSimpArgs false
set_option linter.unusedVariables false
namespace Go.Proofs.Ytmkapmbmgpnjaaa.Se
open Go Go.Ms Go.Pg Go.Rc Go.Bi Go.Se Go.ChangeShapes Go.WideShapes Go.ChangeAt Go.RowKit Go.Deep Go.Proofs.Ytmkapmbmgpnjaaa.Bi

/-! The closures of changes that need nothing. -/
theorem setNil {w : World} : Calls Try.prog 77 #[.slice none 0 0] w fun e w' => e = .returned (setV 0 0 0 0) ∧ Below w.heap.size w w' := by
  have := setOfQ (nats_nil w) (by simp)
  rw [zero_among] at this
  exact this
theorem setOneQ {w w' : World} {g n : Nat} (hg : w.heap.size = g) (hn : n < 256) (hw : w' = w.alloc (.cells #[.int .i64 (n : Int)] 3)) : Calls Try.prog 77 #[.slice (some ⟨g, 0, none⟩) 1 1] w' fun e w' => e = .returned (setQ (ofP (among [n]))) ∧ Below w.heap.size w w' := by
  subst hg hw
  have hb : Below w.heap.size w (w.alloc (.cells #[.int .i64 (n : Int)] 3)) := (Below.refl _ w).alloc (Nat.le_refl _) _
  refine (setOfQ (xs := [n]) (nats_one (cell_of (new_block w _) 0)) (fun m hm => by simp at hm; omega)).mono ?_
  rintro e w' ⟨rfl, h⟩
  exact ⟨rfl, hb.trans (h.mono hb.size)⟩
theorem withZero {w : World} {q : Q4} (hq : q.Ok) : Calls Try.prog 81 #[setV 0 0 0 0, setQ q] w fun e w' => e = .returned (setQ q) ∧ Below w.heap.size w w' := by
  have := withSet (w := w) (sp_mem zero_ok) (sp_mem hq)
  simpa [zeroQ] using this
theorem withSelf {w : World} {q : Q4} (hq : q.Ok) : Calls Try.prog 81 #[setQ q, setQ q] w fun e w' => e = .returned (setQ q) ∧ Below w.heap.size w w' := by
  have := withSet (w := w) (sp_mem hq) (sp_mem hq)
  simpa using this
theorem wrap_k {k : Nat} (h : k < 1000) : IntKind.i64.wrap ((k : Int) + 1) = (k : Int) + 1 := by
  simp [IntKind.wrap, IntKind.signed, IntKind.bits]
  omega

set_option maxHeartbeats 16000000 in
theorem closuresN {w : World} {v : Value} {n : Nat} (h : NilRow w v n) (hn : n ≤ 256) :
    Calls Try.prog 71 #[v] w fun e w' => ∃ g, e = .returned (.slice (some ⟨g, 0, none⟩) n n) ∧ w.heap.size ≤ g ∧ Below w.heap.size w w' ∧ w'.heap[g]? = some (rowQ (singles n)) := by
  have HR := hide h
  obtain ⟨oa, cap, rfl, hc⟩ := h
  have HC := hide hc
  have HN := hide hn
  have hmk := make95 n (by omega)
  clear hc hn
  go_enter Try.func71, Try.ntmps71
  go_wp2_with fail
  go_loopw [13] (fun i wr => ∃ k : Nat, k ≤ n ∧ i = .int .i64 (k : Int) ∧ Below w.heap.size w wr ∧ wr.heap[w.heap.size]? = some (rowQ (partQ n k))) (fun i _ => n - (intOf i).toNat)
  case atStart => exact ⟨0, Nat.zero_le _, rfl, (Below.refl _ w).alloc (Nat.le_refl _) _, by rw [partQ_zero]; exact new_block w _⟩
  case round =>
    obtain ⟨k, hk, rfl, hB, hb0⟩ := hrel
    have HB := hide hB
    have H0 := hide hb0
    clear hB hb0
    by_cases hlt : k < n
    · have hi : (k : Int) < (n : Int) := by omega
      obtain ⟨b, o, rfl, f0⟩ := HC.out k hlt
      have f := cell_old HB.out f0
      clear f0
      have hw := wrap_k (k := k) (by have := HN.out; omega)
      have HPL := hide (partQ_length (n := n) (k := k) (by omega))
      have HPS := hide (partQ_set hlt)
      have hbl : w.heap.size < wr.heap.size := block_lt H0.out
      have HK6 : Hid (k < 256) := hide (by have := HN.out; omega)
      obtain ⟨q, hq⟩ : ∃ q, q = ofP (among [k]) := ⟨_, rfl⟩
      have HQK : Hid (q.Ok) := hide (by rw [hq]; exact ofP_ok _)
      have HQ := hide hq
      rw [← hq] at HPS
      clear hq
      go_wp2_with (first
        | (go_at_call 77
           (with_reducible refine (setNil).mono ?_)
           rintro e w1 ⟨rfl, hB1⟩
           have HB1 := hide hB1
           clear hB1)
        | (go_at_call 77
           (refine (setOneQ rfl HK6.out rfl).mono ?_)
           rintro e w2 ⟨rfl, hB2⟩
           have HB2 := hide (HB1.out.trans (hB2.mono HB1.out.size))
           clear hB2
           rw [← HQ.out])
        | (go_at_call 81
           (with_reducible refine (withZero HQK.out).mono ?_)
           rintro e w3 ⟨rfl, hB3⟩
           have HB3 := hide (HB2.out.trans (hB3.mono HB2.out.size))
           have H03 := hide ((HB3.out.block _ hbl).trans H0.out)
           have hkl : k < (partQ n k).length := by rw [HPL.out]; exact hlt
           obtain ⟨q0, q1, q2, q3⟩ := row_get H03.out hkl rfl
           have r0 := Bi.frozen_of H03.out (k * 4)
           have r1 := Bi.frozen_of H03.out (k * 4 + 1)
           have r2 := Bi.frozen_of H03.out (k * 4 + 2)
           have r3 := Bi.frozen_of H03.out (k * 4 + 3)
           clear hB3)
        | fail)
      refine ⟨⟨k + 1, by omega, by go_num, putR_below (o := k * 4) (q := q) (HB.out.trans (HB3.out.mono HB.out.size)) (B := w.heap.size) (Nat.le_refl _), ?_⟩, by simp [intOf]; omega⟩
      have := putR_row (q := q) H03.out hkl
      rw [HPS.out] at this
      exact this
    · obtain rfl : k = n := by omega
      rw [partQ_all] at H0
      obtain ⟨A, hA⟩ : ∃ A, A = singles k := ⟨_, rfl⟩
      have HA := hide hA
      have HAL : Hid (A.length = k) := hide (by rw [hA]; exact singles_length k)
      rw [← hA] at H0
      clear hA
      go_wp2_with fail
      go_loopw [30] (fun i wr => ∃ t : Nat, t ≤ k ∧ i = .int .i64 (t : Int) ∧ Below w.heap.size w wr ∧ wr.heap[w.heap.size]? = some (rowQ A)) (fun i _ => k - (intOf i).toNat)
      case atStart => exact ⟨0, Nat.zero_le _, rfl, HB.out, H0.out⟩
      case round =>
        clear HB H0
        obtain ⟨t, ht, rfl, hB, hb0⟩ := hrel
        have HB := hide hB
        have H0 := hide hb0
        clear hB hb0
        by_cases hlt : t < k
        · have hi : (t : Int) < (k : Int) := by omega
          have hw := wrap_k (k := t) (by have := HN.out; omega)
          go_wp2_with fail
          go_loopw [35] (fun i wr => ∃ j : Nat, j ≤ k ∧ i = .int .i64 (j : Int) ∧ Below w.heap.size w wr ∧ wr.heap[w.heap.size]? = some (rowQ A)) (fun i _ => k - (intOf i).toNat)
          case atStart => exact ⟨0, Nat.zero_le _, rfl, HB.out, H0.out⟩
          case round =>
            clear HB H0
            obtain ⟨j, hj, rfl, hB, hb0⟩ := hrel
            have HB := hide hB
            have H0 := hide hb0
            clear hB hb0
            by_cases hjl : j < k
            · have hi2 : (j : Int) < (k : Int) := by omega
              have hw2 := wrap_k (k := j) (by have := HN.out; omega)
              have hjA : j < A.length := by rw [HAL.out]; exact hjl
              have hbl : w.heap.size < wr.heap.size := block_lt H0.out
              obtain ⟨x, ex⟩ : ∃ x, A.getD j zeroQ = x := ⟨_, rfl⟩
              have EX := hide ex
              have HXO : Hid (x.Ok) := hide (by rw [← ex, HA.out, singles_get hjl]; exact ofP_ok _)
              have HMT : Hid (memQ x t = decide (t = j)) := hide (by rw [← ex, HA.out]; exact singles_mem hjl (by have := HN.out; omega))
              have HT6 : Hid (t < 256) := hide (by have := HN.out; omega)
              obtain ⟨q0, q1, q2, q3⟩ := row_get H0.out hjA ex
              by_cases hb : t = j
              · rw [decide_eq_true hb] at HMT
                subst hb
                have HU : Hid (A.set t x = A) := hide (by rw [← ex, HA.out, singles_get hjl]; exact singles_set hjl)
                clear ex
                go_wp2_with (first
                  | (go_at_call 73
                     (with_reducible refine (hasSet (sp_mem HXO.out) HT6.out).mono ?_)
                     rintro e w1 ⟨he, hB1⟩
                     rw [HMT.out] at he
                     subst he
                     have HB1 := hide (HB.out.trans (hB1.mono HB.out.size))
                     have H01 := hide ((hB1.block _ hbl).trans H0.out)
                     have hbl1 := block_lt H01.out
                     clear q0 q1 q2 q3 hB1
                     obtain ⟨q0, q1, q2, q3⟩ := row_get H01.out hjA EX.out)
                  | fail)
                go_region_with (first
                  | (go_at_call 81
                     (with_reducible refine (withSelf HXO.out).mono ?_)
                     rintro e w2 ⟨rfl, hB2⟩
                     have HB2 := hide (HB1.out.trans (((belowN w1.heap.size w1 1).trans hB2).mono HB1.out.size))
                     have H02 := hide ((hB2.block _ hbl1).trans H01.out)
                     have r0 := Bi.frozen_of H02.out (t * 4)
                     have r1 := Bi.frozen_of H02.out (t * 4 + 1)
                     have r2 := Bi.frozen_of H02.out (t * 4 + 2)
                     have r3 := Bi.frozen_of H02.out (t * 4 + 3)
                     clear q0 q1 q2 q3
                     obtain ⟨q0, q1, q2, q3⟩ := row_get H02.out hjA EX.out
                     clear hB2)
                  | fail)
                all_goals
                  go_wp2_with fail
                  have hp := putR_row (q := x) H02.out hjA
                  rw [HU.out] at hp
                  exact ⟨⟨t + 1, by omega, by go_num, putR_below (o := t * 4) (q := x) HB2.out (B := w.heap.size) (Nat.le_refl _), hp⟩, by simp [intOf]; omega⟩
              · rw [decide_eq_false hb] at HMT
                clear ex hb
                go_wp2_with (first
                  | (go_at_call 73
                     (with_reducible refine (hasSet (sp_mem HXO.out) HT6.out).mono ?_)
                     rintro e w1 ⟨he, hB1⟩
                     rw [HMT.out] at he
                     subst he
                     have HB1 := hide (HB.out.trans (hB1.mono HB.out.size))
                     have H01 := hide ((hB1.block _ hbl).trans H0.out)
                     clear hB1)
                  | fail)
                exact ⟨⟨j + 1, by omega, by go_num, HB1.out, H01.out⟩, by simp [intOf]; omega⟩
            · obtain rfl : j = k := by omega
              go_wp2_with fail
              exact ⟨⟨t + 1, by omega, by go_num, HB.out, H0.out⟩, by simp [intOf]; omega⟩
        · obtain rfl : t = k := by omega
          go_wp2_with fail
          go_ret
          rw [HA.out] at H0
          exact ⟨_, rfl, Nat.le_refl _, HB.out, H0.out⟩
end Go.Proofs.Ytmkapmbmgpnjaaa.Se

