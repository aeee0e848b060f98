import Derived.Test.YtinllamocplgjaaClC
import Derived.Laws.MakeOwn
import Derived.Deep.RegionWith
set_option maxRecDepth 100000
namespace Go.Proofs.Ytinllamocplgjaa.Cl
open Go Go.Ms Go.Pg Go.Rc Go.Cl Go.ChangeShapes Go.WideShapes Go.ChangeAt Go.RowKit Go.Deep Go.Proofs.Ytinllamocplgjaa.Rc

def cellsA (A : List Nat) : Array Value := (A.flatMap setC).toArray
abbrev rowA (A : List Nat) : Obj := .cells (cellsA A) 69 (0, 0)
theorem flat_get : ∀ (A : List Nat) (i : Nat) (h : i < A.length), (A.flatMap setC)[i * 4]? = some (.int .u64 (A[i] : Int)) ∧ (A.flatMap setC)[i * 4 + 1]? = some (.int .u64 0) ∧ (A.flatMap setC)[i * 4 + 2]? = some (.int .u64 0) ∧ (A.flatMap setC)[i * 4 + 3]? = some (.int .u64 0)
  | a :: A, 0, _ => by simp [setC]
  | a :: A, i + 1, h => by
    have := flat_get A i (by simpa using h)
    rw [List.flatMap_cons]
    have e : (setC a).length = 4 := rfl
    refine ⟨?_, ?_, ?_, ?_⟩
    · rw [List.getElem?_append_right (by rw [e]; omega), show (i + 1) * 4 - (setC a).length = i * 4 by rw [e]; omega]
      exact this.1
    · rw [List.getElem?_append_right (by rw [e]; omega), show (i + 1) * 4 + 1 - (setC a).length = i * 4 + 1 by rw [e]; omega]
      exact this.2.1
    · rw [List.getElem?_append_right (by rw [e]; omega), show (i + 1) * 4 + 2 - (setC a).length = i * 4 + 2 by rw [e]; omega]
      exact this.2.2.1
    · rw [List.getElem?_append_right (by rw [e]; omega), show (i + 1) * 4 + 3 - (setC a).length = i * 4 + 3 by rw [e]; omega]
      exact this.2.2.2
theorem flat_set : ∀ (A : List Nat) (i z : Nat), i < A.length → ((((A.flatMap setC).set (i * 4) (.int .u64 (z : Int))).set (i * 4 + 1) (.int .u64 0)).set (i * 4 + 2) (.int .u64 0)).set (i * 4 + 3) (.int .u64 0) = (A.set i z).flatMap setC
  | a :: A, 0, z, _ => by simp [setC]
  | a :: A, i + 1, z, h => by
    have := flat_set A i z (by simpa using h)
    have e : (setC a).length = 4 := rfl
    rw [List.set_cons_succ, List.flatMap_cons, List.flatMap_cons, ← this]
    rw [List.set_append_right _ _ (by rw [e]; omega), List.set_append_right _ _ (by rw [e]; omega), List.set_append_right _ _ (by rw [e]; omega), List.set_append_right _ _ (by rw [e]; omega), e]
    congr 1
    rw [show (i + 1) * 4 - 4 = i * 4 by omega, show (i + 1) * 4 + 1 - 4 = i * 4 + 1 by omega, show (i + 1) * 4 + 2 - 4 = i * 4 + 2 by omega, show (i + 1) * 4 + 3 - 4 = i * 4 + 3 by omega]
theorem row_get {w : World} {g i : Nat} {A : List Nat} (h : w.heap[g]? = some (rowA A)) (hi : i < A.length) :
    w.cell? ⟨g, i * 4, none⟩ = some (.int .u64 (A[i] : Int)) ∧ w.cell? ⟨g, i * 4 + 1, none⟩ = some (.int .u64 0) ∧ w.cell? ⟨g, i * 4 + 2, none⟩ = some (.int .u64 0) ∧ w.cell? ⟨g, i * 4 + 3, none⟩ = some (.int .u64 0) := by
  have c : ∀ j, w.cell? ⟨g, j, none⟩ = (A.flatMap setC)[j]? := fun j => (cell_of h j).trans (by simp [cellsA])
  obtain ⟨h0, h1, h2, h3⟩ := flat_get A i hi
  exact ⟨(c _).trans h0, (c _).trans h1, (c _).trans h2, (c _).trans h3⟩
theorem row_frozen {w : World} {g : Nat} {A : List Nat} (h : w.heap[g]? = some (rowA A)) (j : Nat) : w.frozen? ⟨g, j, none⟩ = false := frozen_of h j
theorem putS_row {w : World} {g i z : Nat} {A : List Nat} (h : w.heap[g]? = some (rowA A)) (hi : i < A.length) : (putS w g (i * 4) z).heap[g]? = some (rowA (A.set i z)) := by
  have h0 := heap_setCell_same _ g (i * 4) _ 69 (.int .u64 (z : Int)) h
  have h1 := heap_setCell_same _ g (i * 4 + 1) _ 69 (.int .u64 0) h0
  have h2 := heap_setCell_same _ g (i * 4 + 2) _ 69 (.int .u64 0) h1
  have h3 := heap_setCell_same _ g (i * 4 + 3) _ 69 (.int .u64 0) h2
  refine h3.trans ?_
  unfold rowA cellsA
  rw [← flat_set A i z hi]
  simp
theorem made_zero (n : Nat) : madeCells #[.int .u64 0, .int .u64 0, .int .u64 0, .int .u64 0] (n * 4) = cellsA (List.replicate n 0) := by
  have h1 : ∀ n, (List.replicate n 0).flatMap setC = List.replicate (n * 4) (.int .u64 0) := by
    intro n
    induction n with
    | zero => rfl
    | succ n ih =>
      rw [List.replicate_succ, List.flatMap_cons, ih, Nat.add_mul, Nat.add_comm, ← List.replicate_append_replicate]
      rfl
  unfold cellsA
  rw [h1]
  apply Array.ext
  · simp [madeCells]
  · intro i h1 h2
    have hm : i % 4 = 0 ∨ i % 4 = 1 ∨ i % 4 = 2 ∨ i % 4 = 3 := by omega
    rcases hm with e | e | e | e <;> simp [madeCells, e]
theorem make64 (n : Nat) (hn : n ≤ 1000) (W : World) : (Instr.makeSlice 64 (.int .i64 (n : Int)) (.int .i64 (n : Int))).run Try.prog W = .ok (.slice (some ⟨W.heap.size, 0, none⟩) n n) (W.alloc (rowA (List.replicate n 0))) := by
  have g : (Try.prog.info? 69).map (fun i => (i.size, i.bytes, i.zero.map fun z => z.cells)) = some (4, 32, some #[.int .u64 0, .int .u64 0, .int .u64 0, .int .u64 0]) := by kernel_rfl
  cases hi : Try.prog.info? 69 with
  | none => rw [hi] at g; cases g
  | some i =>
    rw [hi] at g
    simp only [Option.map_some, Option.some.injEq, Prod.mk.injEq] at g
    obtain ⟨g1, g2, g3⟩ := g
    cases hz : i.zero with
    | none => rw [hz] at g3; cases g3
    | some z =>
      rw [hz] at g3
      simp only [Option.map_some, Option.some.injEq] at g3
      have h := run_make (P := Try.prog) W 64 69 i z Try.underlying64 hi hz .i64 .i64 n n (by omega) (by omega) (by rw [g2]; omega) (by omega)
      rw [g3, g1, Int.toNat_natCast, made_zero] at h
      exact h
abbrev NeedAt (w : World) (b p : Nat) (l : List Int) : Prop := ∃ oa cap, w.cell? ⟨b, p, none⟩ = some (.slice oa l.length cap) ∧ Ints w (.slice oa l.length cap) l
abbrev NeedsAt (w : World) (v : Value) (ls : List (List Int)) : Prop := RowAt 1 NeedAt w v ls
abbrev NeedWAt (w : World) (b p : Nat) (l : List Int) : Prop := ∃ oa cap, w.cell? ⟨b, p, none⟩ = some (.slice oa l.length cap) ∧ IntsW w (.slice oa l.length cap) l
abbrev NeedsW (w : World) (v : Value) (ls : List (List Int)) : Prop := RowAt 1 NeedWAt w v ls
theorem needs_w {w : World} {v : Value} {ls : List (List Int)} (h : NeedsAt w v ls) : NeedsW w v ls := by
  obtain ⟨oa, cap, e, hl, hc⟩ := h
  refine ⟨oa, cap, e, hl, fun i hi => ?_⟩
  obtain ⟨b, o, e2, ou, cu, h1, h2⟩ := hc i hi
  exact ⟨b, o, e2, ou, cu, h1, ints_w h2⟩
theorem w_needs {w : World} {v : Value} {ls : List (List Int)} (h : NeedsW w v ls) (hn : ∀ i (hi : i < ls.length), ls[i].length ≤ 1000) : NeedsAt w v ls := by
  obtain ⟨oa, cap, e, hl, hc⟩ := h
  refine ⟨oa, cap, e, hl, fun i hi => ?_⟩
  obtain ⟨b, o, e2, ou, cu, h1, h2⟩ := hc i hi
  exact ⟨b, o, e2, ou, cu, h1, w_ints h2 (hn i hi)⟩
theorem needW_cell {w : World} {oa : Option Addr} {k : Nat} {ls : List (List Int)} (h : ∀ i (h : i < ls.length), ∃ b o, oa = some ⟨b, o, none⟩ ∧ NeedWAt w b (o + i * 1) ls[i]) (hk : k < ls.length) : ∃ b o ou cap, oa = some ⟨b, o, none⟩ ∧ w.cell? ⟨b, o + k, none⟩ = some (.slice ou ls[k].length cap) ∧ IntsW w (.slice ou ls[k].length cap) ls[k] := by
  obtain ⟨b, o, e, ou, cap, h1, h2⟩ := h k hk
  exact ⟨b, o, ou, cap, e, by simpa using h1, h2⟩
theorem needs_below {w w' : World} {v : Value} {ls : List (List Int)} (h : NeedsAt w v ls) (hB : Below w.heap.size w w') : NeedsAt w' v ls :=
  h.imp fun _ _ _ ⟨oa, cap, h1, h2⟩ => ⟨oa, cap, cell_below hB h1, ints_below h2 hB⟩
theorem need_cell {w : World} {oa : Option Addr} {k : Nat} {ls : List (List Int)} (h : ∀ i (h : i < ls.length), ∃ b o, oa = some ⟨b, o, none⟩ ∧ NeedAt w b (o + i * 1) ls[i]) (hk : k < ls.length) : ∃ b o ou cap, oa = some ⟨b, o, none⟩ ∧ w.cell? ⟨b, o + k, none⟩ = some (.slice ou ls[k].length cap) ∧ Ints w (.slice ou ls[k].length cap) ls[k] := by
  obtain ⟨b, o, e, ou, cap, h1, h2⟩ := h k hk
  exact ⟨b, o, ou, cap, e, by simpa using h1, h2⟩
def ints (xs : List Nat) : List Int := xs.map Int.ofNat
theorem need_nat {w : World} {oa : Option Addr} {k : Nat} {xss : List (List Nat)} (h : ∀ i (h : i < (xss.map ints).length), ∃ b o, oa = some ⟨b, o, none⟩ ∧ NeedAt w b (o + i * 1) (xss.map ints)[i]) (hk : k < xss.length) : ∃ b o ou cap, oa = some ⟨b, o, none⟩ ∧ w.cell? ⟨b, o + k, none⟩ = some (.slice ou (ints xss[k]).length cap) ∧ Ints w (.slice ou (ints xss[k]).length cap) (ints xss[k]) := by
  have e : (xss.map ints)[k]'(by simpa using hk) = ints xss[k] := by simp
  have := need_cell h (k := k) (by simpa using hk)
  rwa [e] at this
def needOf (xss : List (List Nat)) (n m : Nat) : Prop := m ∈ xss.getD n []
def inits (xss : List (List Nat)) : List Nat := xss.mapIdx fun n xs => maskOf xs ||| maskOf [n]
theorem inits_length (xss : List (List Nat)) : (inits xss).length = xss.length := by simp [inits]
theorem inits_get {xss : List (List Nat)} {n : Nat} (h : n < xss.length) : (inits xss).getD n 0 = maskOf xss[n] ||| maskOf [n] := by
  simp [inits, List.getD_eq_getElem?_getD, h]
theorem inits_none {xss : List (List Nat)} {n : Nat} (h : ¬ n < xss.length) : (inits xss).getD n 0 = 0 := by
  rw [List.getD_eq_getElem?_getD, List.getElem?_eq_none (by rw [inits_length]; omega)]
  rfl
theorem good_inits {xss : List (List Nat)} (h : ∀ xs ∈ xss, ∀ m ∈ xs, m < xss.length) : Clos (needOf xss) xss.length (inits xss) := by
  have key : ∀ n b, n < xss.length → (((inits xss).getD n 0).testBit b = true ↔ needOf xss n b ∨ b = n) := by
    intro n b hn
    rw [inits_get hn, Nat.testBit_or, Bool.or_eq_true, testBit_mask, testBit_mask]
    unfold needOf
    rw [List.getD_eq_getElem?_getD, List.getElem?_eq_getElem hn]
    simp
  have inn : ∀ n b, n < xss.length → needOf xss n b → b < xss.length := by
    intro n b hn hb
    unfold needOf at hb
    rw [List.getD_eq_getElem?_getD, List.getElem?_eq_getElem hn] at hb
    exact h _ (List.getElem_mem hn) b hb
  refine ⟨inits_length _, fun n b hb => ?_, fun n hn => (key n n hn).2 (.inr rfl), fun n m hn hm => (key n m hn).2 (.inl hm), fun C hC n hn hc b hb => ?_⟩
  · by_cases hn : n < xss.length
    · rcases (key n b hn).1 hb with q | rfl
      · exact inn n b hn q
      · exact hn
    · rw [inits_none hn] at hb
      simp at hb
  · rcases (key n b hn).1 hb with q | rfl
    · exact hC n b hn hc q
    · exact hc
theorem good_lt {need : Nat → Nat → Prop} {N : Nat} {A : List Nat} (h : Clos need N A) (hN : N ≤ 20) (n : Nat) : A.getD n 0 < 2 ^ 20 := Nat.lt_of_lt_of_le (lt_of_bits fun b hb => h.low n b hb) (Nat.pow_le_pow_right (by decide) hN)
theorem thru_zero (N : Nat) (A : List Nat) : Thru N 0 A := fun _ t _ _ ht => absurd ht (Nat.not_lt_zero t)
def part (xss : List (List Nat)) (k : Nat) : List Nat := (inits xss).take k ++ List.replicate (xss.length - k) 0
theorem part_length {xss : List (List Nat)} {k : Nat} (h : k ≤ xss.length) : (part xss k).length = xss.length := by
  simp [part, inits_length]
  omega
theorem part_set {xss : List (List Nat)} {k : Nat} (h : k < xss.length) : (part xss k).set k ((inits xss).getD k 0) = part xss (k + 1) := by
  unfold part
  have h1 : k < (inits xss).length := by rw [inits_length]; exact h
  have h2 : ((inits xss).take k).length = k := by rw [List.length_take]; omega
  rw [List.set_append_right _ _ (by omega), h2, Nat.sub_self, List.take_succ_eq_append_getElem h1, List.getD_eq_getElem?_getD, List.getElem?_eq_getElem h1, show xss.length - k = (xss.length - (k + 1)) + 1 by omega, List.replicate_succ]
  simp only [List.append_assoc, List.cons_append, List.nil_append, List.set_cons_zero, Option.getD_some]
theorem part_all (xss : List (List Nat)) : part xss xss.length = inits xss := by
  unfold part
  rw [Nat.sub_self, List.take_of_length_le (by rw [inits_length]; exact Nat.le_refl _)]
  simp
theorem getD_get {A : List Nat} {n : Nat} (h : n < A.length) : A[n] = A.getD n 0 := by
  rw [List.getD_eq_getElem?_getD, List.getElem?_eq_getElem h]
  rfl
theorem upd_row {w : World} {g k j : Nat} {x : Nat} {A : List Nat} (ex : A.getD j 0 = x) (h : w.heap[g]? = some (rowA (upd A k j))) (hj : j < A.length) :
    w.cell? ⟨g, j * 4, none⟩ = some (.int .u64 (x : Int)) ∧ w.cell? ⟨g, j * 4 + 1, none⟩ = some (.int .u64 0) ∧ w.cell? ⟨g, j * 4 + 2, none⟩ = some (.int .u64 0) ∧ w.cell? ⟨g, j * 4 + 3, none⟩ = some (.int .u64 0) := by
  have h2 : j < (upd A k j).length := by rw [upd_length]; exact hj
  have := row_get h h2
  rwa [getD_get h2, upd_at, ex] at this
theorem upd_rowk {w : World} {g k j : Nat} {x : Nat} {A : List Nat} (ex : A.getD k 0 = x) (h : w.heap[g]? = some (rowA (upd A k j))) (hk : k < A.length) :
    w.cell? ⟨g, k * 4, none⟩ = some (.int .u64 (x : Int)) ∧ w.cell? ⟨g, k * 4 + 1, none⟩ = some (.int .u64 0) ∧ w.cell? ⟨g, k * 4 + 2, none⟩ = some (.int .u64 0) ∧ w.cell? ⟨g, k * 4 + 3, none⟩ = some (.int .u64 0) := by
  have h2 : k < (upd A k j).length := by rw [upd_length]; exact hk
  have := row_get h h2
  rwa [getD_get h2, upd_k, ex] at this
theorem part_zero (w : World) (xss : List (List Nat)) : (w.alloc (rowA (List.replicate xss.length 0))).heap[w.heap.size]? = some (rowA (part xss 0)) := by
  have e : part xss 0 = List.replicate xss.length 0 := by simp [part]
  rw [e]
  exact new_block w _
theorem setOne {w : World} {g n : Nat} (hg : w.heap.size = g) (hn : n < 20) : Calls Try.prog 39 #[.slice (some ⟨g, 0, none⟩) 1 1] (w.alloc (.cells #[.int .i64 (n : Int)] 3)) fun e w' => e = .returned (setV (maskOf [n])) ∧ Below w.heap.size w w' := by
  subst hg
  have hb : Below w.heap.size w (w.alloc (.cells #[.int .i64 (n : Int)] 3)) := (Below.refl _ w).alloc (Nat.le_refl _) _
  refine (setOfProg (xs := [n]) ⟨some ⟨w.heap.size, 0, none⟩, 1, rfl, by simp, fun i hi => ?_⟩ (fun m hm => by simp at hm; omega)).mono ?_
  · simp at hi
    subst hi
    refine ⟨_, _, rfl, ?_, ?_⟩
    · exact cell_of (new_block w _) 0
    · simp [Lit.wf, IntKind.min, IntKind.max, IntKind.signed, IntKind.bits]
      omega
  · rintro e w' ⟨rfl, h⟩
    exact ⟨rfl, hb.trans (h.mono hb.size)⟩

set_option maxHeartbeats 16000000 in
theorem closuresProg {w : World} {v : Value} {xss : List (List Nat)} (h : NeedsAt w v (xss.map ints)) (hN : xss.length ≤ 20) (hlow : ∀ xs ∈ xss, ∀ m ∈ xs, m < xss.length) :
    Calls Try.prog 58 #[v] w fun e w' => ∃ A g, e = .returned (.slice (some ⟨g, 0, none⟩) A.length A.length) ∧ Clos (needOf xss) xss.length A ∧ Thru xss.length xss.length A ∧ Below w.heap.size w w' ∧ w'.heap[g]? = some (rowA A) := by
  obtain ⟨oa, cap, rfl, hl, hc⟩ := h
  have HC := hide hc
  have HLW := hide hlow
  have hlen : (xss.map ints).length = xss.length := by simp
  rw [hlen] at hl ⊢
  have hmk := make64 xss.length (by omega)
  clear hc hlen hlow
  go_enter Try.func58, Try.ntmps58
  go_wp2_with fail
  go_loopw [13] (fun i wr => ∃ k : Nat, k ≤ xss.length ∧ i = .int .i64 (k : Int) ∧ Below w.heap.size w wr ∧ wr.heap[w.heap.size]? = some (rowA (part xss k))) (fun i _ => xss.length - (intOf i).toNat)
  case atStart => exact ⟨0, Nat.zero_le _, rfl, (Below.refl _ w).alloc (Nat.le_refl _) _, part_zero w xss⟩
  case round =>
    obtain ⟨k, hk, rfl, hB, hb0⟩ := hrel
    have HB := hide hB
    have H0 := hide hb0
    clear hB hb0
    by_cases hlt : k < xss.length
    · have hi : (k : Int) < (xss.length : Int) := by omega
      obtain ⟨b, o, ou, cu, rfl, f0, hI⟩ := need_nat HC.out hlt
      have f := cell_below HB.out f0
      have HI := hide (ints_below hI HB.out)
      clear f0 hI
      have hw := wrap_up hlt hl
      have HX : Hid (∀ n ∈ xss[k], n < 20) := hide fun n hn => by have := HLW.out _ (List.getElem_mem hlt) n hn; omega
      have HK : Hid (∀ n ∈ [k], n < 20) := hide fun n hn => by simp at hn; omega
      have HPL := hide (part_length (xss := xss) (k := k) (by omega))
      have HPS := hide (part_set hlt)
      rw [inits_get hlt] at HPS
      have hbl : w.heap.size < wr.heap.size := block_lt H0.out
      go_wp2_with (first
        | (go_at_call 39
           (with_reducible refine (setOfProg HI.out HX.out).mono ?_)
           rintro e w1 ⟨rfl, hB1⟩
           have HB1 := hide hB1
           clear hB1)
        | (go_at_call 39
           (with_reducible refine (setOne rfl (by omega)).mono ?_)
           rintro e w2 ⟨rfl, hB2⟩
           have HB2 := hide (HB1.out.trans (hB2.mono HB1.out.size))
           clear hB2)
        | (go_at_call 52
           (with_reducible refine (withSet (mask_lt HX.out) (mask_lt HK.out)).mono ?_)
           rintro e w3 ⟨rfl, hB3⟩
           have HB3 := hide (HB2.out.trans (hB3.mono HB2.out.size))
           have H03 := hide ((HB3.out.block _ hbl).trans H0.out)
           have hkl : k < (part xss k).length := by rw [HPL.out]; exact hlt
           obtain ⟨q0, q1, q2, q3⟩ := row_get H03.out hkl
           have r0 := row_frozen H03.out (k * 4)
           have r1 := row_frozen H03.out (k * 4 + 1)
           have r2 := row_frozen H03.out (k * 4 + 2)
           have r3 := row_frozen H03.out (k * 4 + 3)
           clear hB3)
        | fail)
      refine ⟨⟨k + 1, by omega, by go_num, putS_below (o := k * 4) (z := maskOf xss[k] ||| maskOf [k]) (HB.out.trans (HB3.out.mono HB.out.size)) (B := w.heap.size) (Nat.le_refl _), ?_⟩, by simp [intOf]; omega⟩
      have := putS_row (z := maskOf xss[k] ||| maskOf [k]) H03.out hkl
      rw [HPS.out] at this
      exact this
    · obtain rfl : k = xss.length := by omega
      rw [part_all] at H0
      have HG0 := hide (good_inits HLW.out)
      have HIL := inits_length xss
      go_wp2_with fail
      go_loopw [30] (fun i wr => ∃ (k : Nat) (A : List Nat), k ≤ xss.length ∧ i = .int .i64 (k : Int) ∧ Below w.heap.size w wr ∧ wr.heap[w.heap.size]? = some (rowA A) ∧ Clos (needOf xss) xss.length A ∧ Thru xss.length k A) (fun i _ => xss.length - (intOf i).toNat)
      case atStart => exact ⟨0, inits xss, Nat.zero_le _, rfl, HB.out, H0.out, HG0.out, thru_zero _ _⟩
      case round =>
        clear HB H0 HG0 HIL
        obtain ⟨k, A, hk, rfl, hB, hb0, hG, hT⟩ := hrel
        have HB := hide hB
        have H0 := hide hb0
        have HG := hide hG
        have HT := hide hT
        clear hB hb0 hG hT
        by_cases hlt : k < xss.length
        · have hi : (k : Int) < (xss.length : Int) := by omega
          have hw := wrap_up hlt hl
          go_wp2_with fail
          go_loopw [35] (fun i wr => ∃ j : Nat, j ≤ xss.length ∧ i = .int .i64 (j : Int) ∧ Below w.heap.size w wr ∧ wr.heap[w.heap.size]? = some (rowA (upd A k j))) (fun i _ => xss.length - (intOf i).toNat)
          case atStart => exact ⟨0, Nat.zero_le _, rfl, HB.out, by rw [upd_zero]; exact H0.out⟩
          case round =>
            clear HB H0
            obtain ⟨j, hj, rfl, hB, hb0⟩ := hrel
            have HB := hide hB
            have H0 := hide hb0
            clear hB hb0
            by_cases hjl : j < xss.length
            · have hi2 : (j : Int) < (xss.length : Int) := by omega
              have hw2 := wrap_up hjl hl
              have hjA : j < A.length := by rw [HG.out.len]; exact hjl
              have hkA : k < A.length := by rw [HG.out.len]; exact hlt
              have hX := good_lt HG.out hN j
              have hY := good_lt HG.out hN k
              obtain ⟨x, ex⟩ : ∃ x, A.getD j 0 = x := ⟨_, rfl⟩
              obtain ⟨y, ey⟩ : ∃ y, A.getD k 0 = y := ⟨_, rfl⟩
              rw [ex] at hX
              rw [ey] at hY
              have HX := hide hX
              have HY := hide hY
              have EX := hide ex
              have EY := hide ey
              clear hX hY
              have hbl : w.heap.size < wr.heap.size := block_lt H0.out
              obtain ⟨q0, q1, q2, q3⟩ := upd_row ex H0.out hjA
              cases hb : x.testBit k with
              | false =>
                have HN := hide (upd_no (A := A) (j := j) (k := k) (by rw [ex, hb]; decide))
                have HBT := hide hb
                clear hb ex ey
                go_wp2_with (first
                  | (go_at_call 59
                     (with_reducible refine (hasSet HX.out (by omega)).mono ?_)
                     rintro e w1 ⟨he, hB1⟩
                     rw [HBT.out] at he
                     subst he
                     have HB1 := hide (HB.out.trans (hB1.mono HB.out.size))
                     have H01 := hide ((hB1.block _ hbl).trans H0.out)
                     clear hB1)
                  | fail)
                exact ⟨⟨j + 1, by omega, by go_num, HB1.out, by rw [HN.out]; exact H01.out⟩, by simp [intOf]; omega⟩
              | true =>
                have hU := upd_yes hjA (by rw [ex]; exact hb)
                rw [ex, ey] at hU
                have HU := hide hU
                have HBT := hide hb
                clear hb ex ey hU
                go_wp2_with (first
                  | (go_at_call 59
                     (with_reducible refine (hasSet HX.out (by omega)).mono ?_)
                     rintro e w1 ⟨he, hB1⟩
                     rw [HBT.out] at he
                     subst he
                     have HB1 := hide (HB.out.trans (hB1.mono HB.out.size))
                     have H01 := hide ((hB1.block _ hbl).trans H0.out)
                     have hbl1 := block_lt H01.out
                     clear q0 q1 q2 q3 hB1
                     obtain ⟨q0, q1, q2, q3⟩ := upd_row EX.out H01.out hjA
                     obtain ⟨p0, p1, p2, p3⟩ := upd_rowk EY.out H01.out hkA)
                  | fail)
                go_region_with (first
                  | (go_at_call 52
                     (with_reducible refine (withSet HX.out HY.out).mono ?_)
                     rintro e w2 ⟨rfl, hB2⟩
                     have HB2 := hide (HB1.out.trans (((belowN w1.heap.size w1 1).trans hB2).mono HB1.out.size))
                     have H02 := hide ((hB2.block _ hbl1).trans H01.out)
                     have hju : j < (upd A k j).length := by rw [upd_length]; exact hjA
                     have r0 := row_frozen H02.out (j * 4)
                     have r1 := row_frozen H02.out (j * 4 + 1)
                     have r2 := row_frozen H02.out (j * 4 + 2)
                     have r3 := row_frozen H02.out (j * 4 + 3)
                     clear q0 q1 q2 q3 p0 p1 p2 p3
                     obtain ⟨q0, q1, q2, q3⟩ := upd_row EX.out H02.out hjA
                     clear hB2)
                  | fail)
                all_goals
                  go_wp2_with fail
                  have hp := putS_row (z := x ||| y) H02.out hju
                  rw [HU.out] at hp
                  exact ⟨⟨j + 1, by omega, by go_num, putS_below (o := j * 4) (z := x ||| y) HB2.out (B := w.heap.size) (Nat.le_refl _), hp⟩, by simp [intOf]; omega⟩
            · obtain rfl : j = xss.length := by omega
              go_wp2_with fail
              exact ⟨⟨k + 1, _, by omega, by go_num, HB.out, H0.out, good_round HG.out hlt, thru_round HT.out hlt⟩, by simp [intOf]; omega⟩
        · obtain rfl : k = xss.length := by omega
          have e := HG.out.len
          go_wp2_with fail
          go_ret
          exact ⟨A, w.heap.size, by rw [e]; rfl, HG.out, HT.out, HB.out, H0.out⟩
end Go.Proofs.Ytinllamocplgjaa.Cl
