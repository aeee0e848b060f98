import Derived.Test.YtmkapmbmgpnjaaaGiF
import Derived.Test.YtmkapmbmgpnjaaaIlB
import Derived.Defers
import Derived.Recover
set_option maxRecDepth 100000
set_option linter.unusedSimpArgs false
set_option linter.unusedVariables false
namespace Go.Proofs.Ytmkapmbmgpnjaaa.Bi
open Go Go.Ms Go.Pg Go.Bi Go.ChangeShapes Go.WideShapes Go.ChangeAt Go.RowKit Go.Deep

abbrev nilV : Value := .slice none 0 0
abbrev questV (d : Bool) (a k p : Value) : Value := .agg #[.bool d, a, k, p]
abbrev boxQ (d : Bool) (a k p : Value) : Obj := .cells #[.bool d, a, k, p] 36 (0, 0)
def putQ (w : World) (B : Nat) (d : Bool) (a k p : Value) : World := (((w.setCell ⟨B, 0, none⟩ (.bool d)).setCell ⟨B, 1, none⟩ a).setCell ⟨B, 2, none⟩ k).setCell ⟨B, 3, none⟩ p
theorem putQ_block {w : World} {B : Nat} {d e : Bool} {a b k l p q : Value} (h : w.heap[B]? = some (boxQ d a k p)) : (putQ w B e b l q).heap[B]? = some (boxQ e b l q) := by
  have h0 := heap_setCell_same _ B 0 _ 36 (.bool e) h
  have h1 := heap_setCell_same _ B 1 _ 36 b h0
  have h2 := heap_setCell_same _ B 2 _ 36 l h1
  have h3 := heap_setCell_same _ B 3 _ 36 q h2
  refine h3.trans ?_
  simp [boxQ]
theorem putQ_other {w : World} {B k : Nat} {d : Bool} {a l p : Value} (h : k ≠ B) : (putQ w B d a l p).heap[k]? = w.heap[k]? := by
  unfold putQ
  rw [Below.heap_setCell _ _ _ _ h, Below.heap_setCell _ _ _ _ h, Below.heap_setCell _ _ _ _ h, Below.heap_setCell _ _ _ _ h]
theorem putQ_below {C B : Nat} {d : Bool} {a l p : Value} {w0 w : World} (h : Below C w0 w) (hB : C ≤ B) : Below C w0 (putQ w B d a l p) :=
  (((h.setCell (p := ⟨B, 0, none⟩) hB _).setCell (p := ⟨B, 1, none⟩) hB _).setCell (p := ⟨B, 2, none⟩) hB _).setCell (p := ⟨B, 3, none⟩) hB _
theorem putQ_size {w : World} {B : Nat} {d : Bool} {a l p : Value} : (putQ w B d a l p).heap.size = w.heap.size := by simp [putQ]
theorem q_cells {w : World} {B : Nat} {d : Bool} {a k p : Value} (h : w.heap[B]? = some (boxQ d a k p)) : w.cell? ⟨B, 0, none⟩ = some (.bool d) ∧ w.cell? ⟨B, 1, none⟩ = some a ∧ w.cell? ⟨B, 2, none⟩ = some k ∧ w.cell? ⟨B, 3, none⟩ = some p :=
  ⟨cell_of h 0, cell_of h 1, cell_of h 2, cell_of h 3⟩

def lenOf : Value → Nat
  | .slice _ n _ => n
  | _ => 0
def leftOf (w : World) (g : Nat) : Nat := lenOf ((w.cell? ⟨g, 1, none⟩).getD undef)
theorem left_box {w : World} {g : Nat} {l : List Int} (h : Box w g 204 l) : leftOf w g = l.length := by
  obtain ⟨tx, an, told, hb, oa, cap, rfl, _⟩ := h
  have e : w.cell? ⟨g, 1, none⟩ = some (.slice oa l.length cap) := cell_of hb 1
  simp [leftOf, lenOf, e]
theorem keeps_old {g : Nat} {w0 w w' : World} (h : Keeps g w0 w) (hg : g < w0.heap.size) (hB : Below w.heap.size w w') : Keeps g w0 w' := h.trans (Keeps.of_below (Nat.lt_of_lt_of_le hg h.below.size) hB)
theorem keeps_new {g : Nat} {w w' : World} (hg : g < w.heap.size) (hB : Below w.heap.size w w') : Keeps g w w' := Keeps.of_below hg hB
theorem keeps_cell {g : Nat} {w w' : World} (h : Keeps g w w') {b : Nat} (hb : b < g) {v : Value} (hc : w.cell? ⟨b, 0, none⟩ = some v) : w'.cell? ⟨b, 0, none⟩ = some v := (h.below.cell (p := ⟨b, 0, none⟩) hb).trans hc
theorem keeps_block {g : Nat} {w w' : World} (h : Keeps g w w') {b : Nat} {o : Obj} (hb : b ≠ g) (hc : w.heap[b]? = some o) : w'.heap[b]? = some o := (h.kept b (by have := Array.getElem?_eq_some_iff.1 hc; exact this.1) hb).trans hc

theorem box_put {g : Nat} {w : World} {l : List Int} (h : Box w g 204 l) {B : Nat} {d : Bool} {a k p : Value} (hB : g < B) : Box (putQ w B d a k p) g 204 l := by
  obtain ⟨tx, an, told, hb, oa, cap, rfl, hc, hl, q⟩ := h
  refine ⟨tx, _, told, (putQ_other (by omega)).trans hb, oa, cap, rfl, hc, hl, fun i hi => ?_⟩
  obtain ⟨b, o, e, hbg, hcell⟩ := q i hi
  exact ⟨b, o, e, hbg, ((putQ_below (Below.refl g w) (Nat.le_of_lt hB)).cell (p := ⟨b, o + i, none⟩) hbg).trans hcell⟩
theorem belowN (B : Nat) (w : World) (n : Nat) : Below B w (w.drewN n) := ⟨rfl, rfl, rfl, Nat.le_refl _, fun _ _ => rfl⟩
theorem box_putV {g : Nat} {w : World} {l : List Int} (h : Box w g 204 l) {B a b c d : Nat} (hB : g < B) : Box (putV w B a b c d) g 204 l := by
  obtain ⟨tx, an, told, hb, oa, cap, rfl, hc, hl, q⟩ := h
  refine ⟨tx, _, told, (putV_other (by omega)).trans hb, oa, cap, rfl, hc, hl, fun i hi => ?_⟩
  obtain ⟨b, o, e, hbg, hcell⟩ := q i hi
  exact ⟨b, o, e, hbg, ((putV_below (Below.refl g w) (Nat.le_of_lt hB)).cell (p := ⟨b, o + i, none⟩) hbg).trans hcell⟩
theorem keeps_putV {g : Nat} {w0 w : World} (hg : g < w0.heap.size) (h : Keeps g w0 w) {B a b c d : Nat} (hB : w0.heap.size ≤ B) : Keeps g w0 (putV w B a b c d) :=
  ⟨putV_below h.below (by omega), fun b hb hbg => (putV_other (by omega)).trans (h.kept b hb hbg)⟩
theorem Sp.one {p : Nat → Bool} {a b c d e f g h v : Nat} (hs : Sp p a b c d) (hp : Sp (among [v]) e f g h) : Sp (fun i => p i || i == v) (a ||| e) (b ||| f) (c ||| g) (d ||| h) :=
  (hs.or hp).congr fun k _ => by
    have : among [v] k = (k == v) := by rw [Bool.eq_iff_iff, beq_iff_eq]; simp [among]
    rw [this]
def Ends (g : Nat) (w : World) : Res → Ending → World → Prop
  | .ask v, e, w' => ∃ a b c d, e = asks4 a b c d ∧ Sp (among [v]) a b c d ∧ Keeps g w w'
  | .bad, e, w' => e = .returned (.tuple #[questV false nilV nilV nilV, .int .i64 7]) ∧ Keeps g w w'
  | .fin low high left, e, w' => ∃ B, e = .returned (.tuple #[questV true nilV (.slice (some ⟨B, 0, none⟩) 2 2) nilV, .int .i64 0]) ∧ w'.heap[B]? = some (.cells #[.int .i64 (low : Int), .int .i64 (high : Int)] 3 (0, 0)) ∧ w.heap.size ≤ B ∧ Keeps g w w' ∧ Box w' g 204 left

theorem verdict0 {w : World} {g : Nat} {z : Int} {l : List Int} (h : Box w g 204 l) :
    Calls Try.prog 80 #[.pointer (some ⟨g, 0, none⟩), .int .i64 0, .int .i64 z] w (Told g 0 w (ver (tries z) 3 l)) := verdictProg (v := 0) h (by decide)
theorem keeps_put {g : Nat} {w0 w : World} (hg : g < w0.heap.size) (h : Keeps g w0 w) {B : Nat} {d : Bool} {a l p : Value} (hB : w0.heap.size ≤ B) : Keeps g w0 (putQ w B d a l p) :=
  ⟨putQ_below h.below (by omega), fun b hb hbg => (putQ_other (by omega)).trans (h.kept b hb hbg)⟩
end Go.Proofs.Ytmkapmbmgpnjaaa.Bi

set_option maxRecDepth 100000
set_option linter.unusedSimpArgs false
set_option linter.unusedVariables false
namespace Go.Proofs.Ytmkapmbmgpnjaaa.Bi
open Go Go.Ms Go.Pg Go.Bi Go.ChangeShapes Go.WideShapes Go.ChangeAt Go.RowKit Go.Deep

theorem EI : Go.Il.IntElem Try.prog 30 3 .i64 8 := Go.Il.IntElem.mk Try.underlying30 (by kernel_rfl)
theorem own_same {w w' : World} {B : Nat} {e : TypeId} {size : Nat} {v : Value} {n : Nat} {xs : List Value} (h : w.ownsRow B e size v n xs) (k : ∀ (g : Nat) cs, B ≤ g → w.heap[g]? = some (Obj.cells cs e (0, 0)) → w'.heap[g]? = w.heap[g]?) : w'.ownsRow B e size v n xs := by
  refine ⟨h.1, ?_⟩
  rcases h.2 with h2 | ⟨g, cap, cur, rfl, hb, hh, r⟩
  · exact .inl h2
  · exact .inr ⟨g, cap, cur, rfl, hb, (k g _ hb hh).trans hh, r⟩
theorem own_kept1 {w w' : World} {B : Nat} {v : Value} {l : List Int} (h : Go.Il.Own 3 .i64 B w v l) (hb : Below w.heap.size w w') : Go.Il.Own 3 .i64 B w' v l := own_same h fun g _ _ hh => hb.block g (block_lt hh)

theorem own_mono {w : World} {B B' : Nat} {v : Value} {l : List Int} (hB : B' ≤ B) (h : Go.Il.Own 3 .i64 B w v l) : Go.Il.Own 3 .i64 B' w v l := by
  refine ⟨h.1, ?_⟩
  rcases h.2 with h2 | ⟨g, cap, cur, hv, hb, hh, r⟩
  · exact .inl h2
  · exact .inr ⟨g, cap, cur, hv, Nat.le_trans hB hb, hh, r⟩
theorem own_putQ {w : World} {B C : Nat} {v : Value} {l : List Int} {d e : Bool} {a k p a' l' p' : Value} (h : Go.Il.Own 3 .i64 B w v l) (hq : w.heap[C]? = some (boxQ e a' l' p')) : Go.Il.Own 3 .i64 B (putQ w C d a k p) v l :=
  own_same h fun g cs _ hh => putQ_other (fun e => by subst e; rw [hq] at hh; injection hh with hh; injection hh with _ ht; cases ht)

def upTo (p : Nat → Bool) (k : Nat) : List Int := ((List.range k).filter p).map Int.ofNat
theorem upTo_succ (p : Nat → Bool) (k : Nat) : upTo p (k + 1) = upTo p k ++ if p k = true then [(k : Int)] else [] := by
  unfold upTo
  rw [List.range_succ, List.filter_append, List.map_append]
  by_cases h : p k = true <;> simp [h]
theorem upTo_length (p : Nat → Bool) (k : Nat) : (upTo p k).length ≤ k := by
  unfold upTo
  rw [List.length_map]
  have := List.length_filter_le p (List.range k)
  simpa using this
theorem upTo_one {v : Nat} : ∀ k, upTo (among [v]) k = if v < k then [(v : Int)] else []
  | 0 => rfl
  | k + 1 => by
    rw [upTo_succ, upTo_one k]
    by_cases h : v = k
    · subst h; simp [among]
    · have hk : among [v] k = false := by simp [among]; omega
      rw [hk]
      by_cases h2 : v < k
      · simp [h2, Nat.lt_succ_of_lt h2]
      · have : ¬ v < k + 1 := by omega
        simp [h2, this]

set_option maxHeartbeats 8000000 in
theorem listProg {w : World} {p : Nat → Bool} {a b c d : Nat} (hs : Sp p a b c d) : Calls Try.prog 79 #[setV a b c d] w fun e w' => ∃ v', e = .returned v' ∧ Below w.heap.size w w' ∧ Go.Il.Own 3 .i64 w.heap.size w' v' (upTo p 256) := by
  have HX := hide hs
  clear hs
  go_enter Try.func79, Try.ntmps79
  go_wp2_with fail
  go_loopw [3, 5] (fun r i wr => ∃ k : Nat, k ≤ 256 ∧ i = .int .i64 (k : Int) ∧ Below w.heap.size w wr ∧ wr.heap[w.heap.size]? = some (boxV a b c d) ∧ Go.Il.Own 3 .i64 w.heap.size wr r (upTo p k)) (fun _ i _ => 256 - (intOf i).toNat)
  case atStart => exact ⟨0, Nat.zero_le _, rfl, (Below.refl _ w).alloc (Nat.le_refl _) _, new_block w _, Go.Il.Own.nil _ _ _ _⟩
  case round =>
    obtain ⟨k, hk, rfl, hB, hb0, hO⟩ := hrel
    have HB := hide hB
    have H0 := hide hb0
    have HO := hide hO
    clear hB hb0 hO
    obtain ⟨q1, q2, q3, q4⟩ := box_cells H0.out
    have hz : w.heap.size ≤ wr.heap.size := HB.out.size
    have hbl : w.heap.size < wr.heap.size := block_lt H0.out
    by_cases hlt : k < 256
    · have hi : (k : Int) < 256 := by omega
      have hi2 : decide (k < 256) = true := decide_eq_true hlt
      have hw : IntKind.i64.wrap ((k : Int) + 1) = (k : Int) + 1 := wrap_in (by omega) (by omega)
      have HT := hide (upTo_succ p k)
      have hul := upTo_length p k
      cases hb : p k with
      | true =>
        rw [hb, if_pos rfl] at HT
        have HBT := hide hb
        clear hb
        go_wp2_with (first
          | (go_at_call 73
             (with_reducible refine (hasSet HX.out hlt).mono ?_)
             rintro e w1 ⟨he, hB1⟩
             rw [HBT.out] at he
             subst he
             have HB1 := hide hB1
             have HO1 := hide (own_kept1 HO.out hB1)
             have hz1 : w.heap.size ≤ w1.heap.size := Nat.le_trans hz hB1.size
             have H01 := hide ((hB1.block _ hbl).trans H0.out)
             clear hB1)
          | (at_builtin
             (refine Go.Il.wpl_push EI (by decide) rfl (.tmp 11) (.tmp 13) rfl HO1.out _ _ [(k : Int)] _ _ rfl rfl rfl rfl rfl hz1 (by simp; omega) ?_
              intro v2 w2 ho2 hs2
              have HO2 := hide ho2
              have HS2 := hide hs2
              clear ho2 hs2))
          | fail)
        refine ⟨⟨k + 1, by omega, by go_num, HB.out.trans ((HB1.out.mono hz).trans HS2.out.below), Go.Il.Stp.block HS2.out H01.out (by decide), ?_⟩, by simp [intOf]; omega⟩
        rw [HT.out]
        exact HO2.out
      | false =>
        rw [hb] at HT
        simp only [Bool.false_eq_true, if_false, List.append_nil] at HT
        have HBT := hide hb
        clear hb
        go_wp2_with (first
          | (go_at_call 73
             (with_reducible refine (hasSet HX.out hlt).mono ?_)
             rintro e w1 ⟨he, hB1⟩
             rw [HBT.out] at he
             subst he
             have HB1 := hide hB1
             have HO1 := hide (own_kept1 HO.out hB1)
             have H01 := hide ((hB1.block _ hbl).trans H0.out)
             clear hB1)
          | fail)
        refine ⟨⟨k + 1, by omega, by go_num, HB.out.trans (HB1.out.mono hz), H01.out, ?_⟩, by simp [intOf]; omega⟩
        rw [HT.out]
        exact HO1.out
    · obtain rfl : k = 256 := by omega
      go_wp2_with fail
      go_ret
      exact ⟨_, rfl, HB.out, HO.out⟩

set_option maxHeartbeats 8000000 in
theorem askProg {w : World} {p : Nat → Bool} {a b c d : Nat} (hs : Sp p a b c d) : Calls Try.prog 138 #[setV a b c d] w fun e w' => ∃ v', e = .returned (questV false v' nilV nilV) ∧ Below w.heap.size w w' ∧ Go.Il.Own 3 .i64 w.heap.size w' v' (upTo p 256) := by
  have HX := hide hs
  clear hs
  go_enter Try.func138, Try.ntmps138
  go_wp2_with fail
  (with_reducible refine (listProg HX.out).mono ?_)
  rintro e w1 ⟨v', rfl, hB1, hO⟩
  have hBw := (((Below.refl w.heap.size w).alloc (Nat.le_refl _) (boxV a b c d)).alloc (by simp) (boxQ false nilV nilV nilV)).trans (hB1.mono (by simp; omega))
  have HB := hide hBw
  have H1 : Hid (w1.heap[w.heap.size + 1]? = some (boxQ false nilV nilV nilV)) := hide ((hB1.block _ (by simp)).trans (alloc_at (by simp)))
  have HO := hide (own_mono (B' := w.heap.size) (by simp; omega) hO)
  clear hB1 hO hBw
  obtain ⟨oa, cap, hv⟩ := Go.Il.Own.form HO.out
  obtain ⟨L, hL⟩ : ∃ L, L = (upTo p 256).length := ⟨_, rfl⟩
  rw [← hL] at hv
  subst hv
  clear hL
  obtain ⟨q0, q1, q2, q3⟩ := q_cells H1.out
  have s0 := frozen_of H1.out 0
  have s1 := frozen_of H1.out 1
  have s2 := frozen_of H1.out 2
  have s3 := frozen_of H1.out 3
  go_wp2_with fail
  refine final8 (X := putQ w1 (w.heap.size + 1) false (.slice oa L cap) nilV nilV) rfl ?_
  have HP := hide (putQ_block (e := false) (b := .slice oa L cap) (l := nilV) (q := nilV) H1.out)
  have HQ := hide (putQ_below (d := false) (a := .slice oa L cap) (l := nilV) (p := nilV) HB.out (B := w.heap.size + 1) (by omega))
  have HOX := hide (own_putQ (d := false) (a := .slice oa L cap) (k := nilV) (p := nilV) HO.out H1.out)
  generalize putQ w1 (w.heap.size + 1) false (.slice oa L cap) nilV nilV = X at *
  obtain ⟨x0, x1, x2, x3⟩ := q_cells HP.out
  refine bodyPost_ret (v := questV false (.slice oa L cap) nilV nilV) (by simp [results, Try.results138, go_sem, x0, x1, x2, x3]) rfl ?_
  exact ⟨_, rfl, HQ.out, HOX.out⟩
end Go.Proofs.Ytmkapmbmgpnjaaa.Bi

set_option maxRecDepth 100000
set_option linter.unusedSimpArgs false
set_option linter.unusedVariables false
namespace Go.Proofs.Ytmkapmbmgpnjaaa.Bi
open Go Go.Ms Go.Pg Go.Bi Go.ChangeShapes Go.WideShapes Go.ChangeAt Go.RowKit Go.Deep

theorem assertNo (w : World) : (Instr.typeAssert .nilIface 20 201 true).run Try.prog w = .ok (.tuple #[.agg #[.int .u64 0, .int .u64 0, .int .u64 0, .int .u64 0], .bool false]) w := by
  simp [Instr.typeAssert, run_underlying Try.underlying201, go_sem, Result.andThen]
theorem assertIs (v : Value) (w : World) : (Instr.typeAssert (.iface 201 v) 20 201 true).run Try.prog w = .ok (.tuple #[v, .bool true]) w := by
  simp [Instr.typeAssert, run_underlying Try.underlying201, go_sem, Result.andThen]

section
variable {P : Program} {ops : Array Oper} {Q : Exit → Act → List Frame → World → Prop} {i : Nat} {rest : List Nat} {o : Oper} {a : Act} {cs : List Frame} {w w' : World} {v : Value}
theorem stepS_value (ho : ops[i]? = some o) (hw : Region.wanted o (yielded ops a.tmps) = true) (hr : (execOp a.eval o).run P w = .ok (.value v) w') (k : wpOpsS P ops Q rest (a.put o.dst v) cs w') : wpOpsS P ops Q (i :: rest) a cs w := by
  simp only [wpOpsS, ho, hw, hr, if_true]
  exact k
theorem stepS_skip (ho : ops[i]? = some o) (hw : Region.wanted o (yielded ops a.tmps) = true) (hr : (execOp a.eval o).run P w = .ok .skip w') (k : wpOpsS P ops Q rest (a.put o.dst undef) cs w') : wpOpsS P ops Q (i :: rest) a cs w := by
  simp only [wpOpsS, ho, hw, hr, if_true]
  exact k
theorem stepS_none (ho : ops[i]? = some o) (hw : Region.wanted o (yielded ops a.tmps) = true) (hr : (execOp a.eval o).run P w = .ok .recover w') (hn : recoverD cs = none) (k : wpOpsS P ops Q rest (a.put o.dst .nilIface) cs w') : wpOpsS P ops Q (i :: rest) a cs w := by
  simp only [wpOpsS, ho, hw, hr, if_true, hn]
  exact k
theorem stepS_some {cs' : List Frame} (ho : ops[i]? = some o) (hw : Region.wanted o (yielded ops a.tmps) = true) (hr : (execOp a.eval o).run P w = .ok .recover w') (hn : recoverD cs = some (v, cs')) (k : wpOpsS P ops Q rest (a.put o.dst v) cs' w') : wpOpsS P ops Q (i :: rest) a cs w := by
  simp only [wpOpsS, ho, hw, hr, if_true, hn]
  exact k
end
theorem cell_lt {w : World} {b o : Nat} {v : Value} (hc : w.cell? ⟨b, o, none⟩ = some v) : b < w.heap.size := by
  by_cases q : b < w.heap.size
  · exact q
  · simp [World.cell?, Array.getElem?_eq_none (Nat.le_of_not_lt q)] at hc
set_option maxHeartbeats 400000 in
theorem catchIdle {w : World} {pa pq pe : Nat} :
    CallsD Try.prog 160 #[.pointer (some ⟨pa, 0, none⟩), .pointer (some ⟨pq, 0, none⟩), .pointer (some ⟨pe, 0, none⟩)] .returning w fun e u' w' => e = .returned (.tuple #[]) ∧ u' = .returning ∧ Below w.heap.size w w' := by
  refine callsD_of_wpS Try.func160 rfl fun c₀ cs hu => ?_
  apply wpS_seq
  apply wpS_region
  generalize hQ : (Exit.thenS _ _ : Exit → Act → List Frame → World → Prop) = Q
  simp [wpOpsS, go_sem, recoverD, hu, Try.ntmps160, assertNo]
  rw [← hQ]
  clear hQ
  show Code.wpS _ _ _ _ _ _
  apply wpS_seq
  apply wpS_region
  generalize hQ : (Exit.thenS _ _ : Exit → Act → List Frame → World → Prop) = Q
  simp [wpOpsS, go_sem, Array.replicate]
  rw [← hQ]
  clear hQ
  show Code.wpS _ _ _ _ _ _
  refine wpS_cond (t := false) (by simp [Act.eval, Array.replicate]) ?_
  simp only [Bool.false_eq_true, if_false]
  refine wpS_of_wp (wp_skip ?_)
  cases c₀
  simp_all [bodyPostS, results, Try.results160, go_sem]
  exact (Below.refl w.heap.size w).alloc (Nat.le_refl _) _

set_option maxHeartbeats 4000000 in
theorem catchAsk {w : World} {pa pq pe a b c d : Nat} {p : Nat → Bool} {older : List PanicEntry} {e0 : Value} (hs : Sp p a b c d)
    (ha : w.cell? ⟨pa, 0, none⟩ = some (.func (.func 138) #[] #[])) (hq : w.heap[pq]? = some (boxQ false nilV nilV nilV)) (he : w.heap[pe]? = some (.cells #[e0] 27 (0, 0))) (hpp : pq ≤ pe) :
    CallsD Try.prog 160 #[.pointer (some ⟨pa, 0, none⟩), .pointer (some ⟨pq, 0, none⟩), .pointer (some ⟨pe, 0, none⟩)] (.panicking ({ v := .iface 201 (setV a b c d), recovered := false } :: older)) w fun e u' w' =>
      e = .returned (.tuple #[]) ∧ u' = .panicking ({ v := .iface 201 (setV a b c d), recovered := true } :: older) ∧ Below pq w w' ∧
      ∃ v', w'.heap[pq]? = some (boxQ false v' nilV nilV) ∧ w'.heap[pe]? = some (.cells #[.int .i64 0] 27 (0, 0)) ∧ Go.Il.Own 3 .i64 w.heap.size w' v' (upTo p 256) := by
  refine callsD_of_wpS Try.func160 rfl fun c₀ cs hu => ?_
  apply wpS_seq
  apply wpS_region
  generalize hQ : (Exit.thenS _ _ : Exit → Act → List Frame → World → Prop) = Q
  simp [wpOpsS, go_sem, recoverD, hu, Try.ntmps160, assertIs]
  rw [← hQ]
  clear hQ
  show Code.wpS _ _ _ _ _ _
  apply wpS_seq
  apply wpS_region
  generalize hQ : (Exit.thenS _ _ : Exit → Act → List Frame → World → Prop) = Q
  simp [wpOpsS, go_sem, Array.replicate]
  rw [← hQ]
  clear hQ
  show Code.wpS _ _ _ _ _ _
  refine wpS_cond (t := true) (by simp [Act.eval, Array.replicate]) ?_
  simp only [if_true]
  refine wpS_of_wp ?_
  clear Q
  have hpa := cell_lt ha
  have hpq := block_lt hq
  have hpe := block_lt he
  have HS := hide hs
  have HQ0 := hide hq
  have HE0 := hide he
  have HU := hide hu
  clear hs hq he hu
  go_wp2_with fail
  (with_reducible refine (askProg HS.out).mono ?_)
  rintro e w1 ⟨v', rfl, hB1, hO⟩
  have HB := hide (((Below.refl w.heap.size w).alloc (Nat.le_refl _) (.cells #[.int .u64 (a : Int), .int .u64 (b : Int), .int .u64 (c : Int), .int .u64 (d : Int)] 201)).trans (hB1.mono (by simp)))
  have HO := hide (own_mono (B' := w.heap.size) (by simp) hO)
  clear hB1 hO
  have HQ1 := hide ((HB.out.block _ hpq).trans HQ0.out)
  have HE1 := hide ((HB.out.block _ hpe).trans HE0.out)
  clear ha
  obtain ⟨q0, q1, q2, q3⟩ := q_cells HQ1.out
  have s0 := frozen_of HQ1.out 0
  have s1 := frozen_of HQ1.out 1
  have s2 := frozen_of HQ1.out 2
  have s3 := frozen_of HQ1.out 3
  have z0 : w1.cell? ⟨pe, 0, none⟩ = some e0 := cell_of HE1.out 0
  have z1 := frozen_of HE1.out 0
  have hne : ¬ pe = pq := by
    rintro rfl
    have := HE0.out.symm.trans HQ0.out
    injection this with this
    injection this with _ ht
    cases ht
  have hne' : ¬ pq = pe := fun e => hne e.symm
  obtain ⟨oa, cap, hv⟩ := Go.Il.Own.form HO.out
  obtain ⟨L, hL⟩ : ∃ L, L = (upTo p 256).length := ⟨_, rfl⟩
  rw [← hL] at hv
  subst hv
  clear hL
  go_wp2_with fail
  have HX := hide (putQ_block (e := false) (b := .slice oa L cap) (l := nilV) (q := nilV) HQ1.out)
  have HP := hide (((putQ_other (d := false) (a := .slice oa L cap) (l := nilV) (p := nilV) hne).trans HE1.out))
  have HOX := hide (own_putQ (d := false) (a := .slice oa L cap) (k := nilV) (p := nilV) HO.out HQ1.out)
  have HBX := hide (putQ_below (d := false) (a := .slice oa L cap) (l := nilV) (p := nilV) (HB.out.mono (Nat.le_of_lt hpq)) (Nat.le_refl pq))
  refine ⟨rfl, _, rfl, .tuple #[], by simp [results, Try.results160, go_sem], rfl, rfl, ?_, .slice oa L cap, ?_, ?_, ?_⟩
  · exact HBX.out.setCell (p := ⟨pe, 0, none⟩) hpp _
  · exact (Below.heap_setCell _ ⟨pe, 0, none⟩ _ pq hne').trans HX.out
  · exact (heap_setCell_same _ pe 0 _ 27 (.int .i64 0) HP.out).trans (by simp)
  · exact own_same HOX.out fun g cs _ hh => Below.heap_setCell _ ⟨pe, 0, none⟩ _ g (fun e => by subst e; rw [HP.out] at hh; injection hh with hh; injection hh with _ ht; cases ht)
end Go.Proofs.Ytmkapmbmgpnjaaa.Bi

set_option maxRecDepth 100000
set_option linter.unusedSimpArgs false
set_option linter.unusedVariables false
namespace Go.Proofs.Ytmkapmbmgpnjaaa.Bi
open Go Go.Ms Go.Pg Go.Bi Go.ChangeShapes Go.WideShapes Go.ChangeAt Go.RowKit Go.Deep

def Out (B : Nat) (w' : World) (l : List Int) : Res → Ending → Prop
  | .ask v, e => ∃ s, e = .returned (.tuple #[questV false s nilV nilV, .int .i64 0]) ∧ Go.Il.Own 3 .i64 B w' s (upTo (among [v]) 256)
  | .bad, e => e = .returned (.tuple #[questV false nilV nilV nilV, .int .i64 7])
  | .fin low high left, e => if left = [] then ∃ b, e = .returned (.tuple #[questV true nilV (.slice (some ⟨b, 0, none⟩) 2 2) nilV, .int .i64 0]) ∧ w'.heap[b]? = some (.cells #[.int .i64 (low : Int), .int .i64 (high : Int)] 3 (0, 0)) ∧ B ≤ b
      else e = .returned (.tuple #[questV false nilV nilV nilV, .int .i64 8])

theorem vs_wide {w w' : World} {g : Nat} {v : Value} {l : List Int} (h : Vs w w.heap.size v l) (hB : Below w.heap.size w w') (hg : w.heap.size ≤ g) : Vs w' g v l := by
  obtain ⟨oa, cap, rfl, hc, hl, q⟩ := h
  refine ⟨oa, cap, rfl, hc, hl, fun i hi => ?_⟩
  obtain ⟨b, o, e, hb, hx⟩ := q i hi
  exact ⟨b, o, e, by omega, (hB.cell (p := ⟨b, o + i, none⟩) hb).trans hx⟩

theorem six (w : World) (o0 o1 o2 o3 o4 o5 : Obj) :
    let W := (((((w.alloc o0).alloc o1).alloc o2).alloc o3).alloc o4).alloc o5
    W.heap[w.heap.size]? = some o0 ∧ W.heap[w.heap.size + 1]? = some o1 ∧ W.heap[w.heap.size + 1 + 1]? = some o2 ∧ W.heap[w.heap.size + 1 + 1 + 1]? = some o3 ∧ W.heap[w.heap.size + 1 + 1 + 1 + 1 + 1]? = some o5 ∧ Below w.heap.size w W ∧ W.heap.size = w.heap.size + 6 := by
  refine ⟨?_, ?_, ?_, ?_, ?_, ?_, ?_⟩
  · exact old_block (old_block (old_block (old_block (old_block (new_block w _) _) _) _) _) _
  · exact old_block (old_block (old_block (old_block (alloc_at (by simp)) _) _) _) _
  · exact old_block (old_block (old_block (alloc_at (by simp)) _) _) _
  · exact old_block (old_block (alloc_at (by simp)) _) _
  · exact alloc_at (by simp)
  · exact ((((((Below.refl w.heap.size w).alloc (Nat.le_refl _) _).alloc (by simp) _).alloc (by simp; omega) _).alloc (by simp; omega) _).alloc (by simp; omega) _).alloc (by simp; omega) _
  · simp

theorem putQE {w0 w : World} {S : Nat} {d d' : Bool} {a k p a' k' p' e0 e : Value} {on : Obj} (hq : w.heap[S + 1]? = some (boxQ d' a' k' p')) (he : w.heap[S + 1 + 1]? = some (.cells #[e0] 27 (0, 0))) (hn : w.heap[S + 1 + 1 + 1]? = some on) (hB : Below S w0 w) :
    let X := (putQ w (S + 1) d a k p).setCell ⟨S + 1 + 1, 0, none⟩ e
    X.heap[S + 1]? = some (boxQ d a k p) ∧ X.heap[S + 1 + 1]? = some (.cells #[e] 27 (0, 0)) ∧ X.heap[S + 1 + 1 + 1]? = some on ∧ Below S w0 X := by
  refine ⟨?_, ?_, ?_, ?_⟩
  · exact (Below.heap_setCell _ ⟨S + 1 + 1, 0, none⟩ _ (S + 1) (by simp)).trans (putQ_block hq)
  · exact (heap_setCell_same _ (S + 1 + 1) 0 _ 27 e ((putQ_other (by omega)).trans he)).trans (by simp)
  · exact (Below.heap_setCell _ ⟨S + 1 + 1, 0, none⟩ _ (S + 1 + 1 + 1) (by simp)).trans ((putQ_other (by omega)).trans hn)
  · exact (putQ_below hB (by omega)).setCell (p := ⟨S + 1 + 1, 0, none⟩) (by simp; omega) _

end Go.Proofs.Ytmkapmbmgpnjaaa.Bi

set_option maxRecDepth 100000
set_option linter.unusedSimpArgs false
set_option linter.unusedVariables false
namespace Go.Proofs.Ytmkapmbmgpnjaaa.Bi
open Go Go.Ms Go.Pg Go.Bi Go.ChangeShapes Go.WideShapes Go.ChangeAt Go.RowKit Go.Deep

theorem vs_self {w w' : World} {v : Value} {l : List Int} (h : Vs w w.heap.size v l) (hB : Below w.heap.size w w') : Vs w' w'.heap.size v l := vs_wide h hB hB.size

theorem out_low {B B' : Nat} {w' : World} {l : List Int} {res : Res} {e : Ending} (hB : B' ≤ B) (h : Out B w' l res e) : Out B' w' l res e := by
  cases res with
  | ask v => obtain ⟨s, rfl, hO⟩ := h; exact ⟨s, rfl, own_mono hB hO⟩
  | bad => exact h
  | fin lo hi left =>
    rw [Out] at h ⊢
    by_cases hl : left = []
    · rw [if_pos hl] at h ⊢
      obtain ⟨b, rfl, hh, hb⟩ := h
      exact ⟨b, rfl, hh, Nat.le_trans hB hb⟩
    · rw [if_neg hl] at h ⊢
      exact h

end Go.Proofs.Ytmkapmbmgpnjaaa.Bi

set_option maxRecDepth 100000
set_option linter.unusedSimpArgs false
set_option linter.unusedVariables false
namespace Go.Proofs.Ytmkapmbmgpnjaaa.Bi
open Go Go.Ms Go.Pg Go.Bi Go.ChangeShapes Go.WideShapes Go.ChangeAt Go.RowKit Go.Deep

def OutB (B : Nat) (w' : World) (n z : Int) (l : List Int) (e : Ending) : Prop :=
  if n < 2 then e = .returned (.tuple #[questV false nilV nilV nilV, .int .i64 1])
  else if 256 < n then e = .returned (.tuple #[questV false nilV nilV nilV, .int .i64 3])
  else ∃ res, Bis (tries z) n.toNat l res ∧ Out B w' l res e

theorem three (w : World) (o0 o1 o2 : Obj) :
    let W := ((w.alloc o0).alloc o1).alloc o2
    W.heap[w.heap.size]? = some o0 ∧ W.heap[w.heap.size + 1]? = some o1 ∧ W.heap[w.heap.size + 1 + 1]? = some o2 ∧ Below w.heap.size w W ∧ W.heap.size = w.heap.size + 3 := by
  refine ⟨?_, ?_, ?_, ?_, ?_⟩
  · exact old_block (old_block (new_block w _) _) _
  · exact old_block (alloc_at (by simp)) _
  · exact alloc_at (by simp)
  · exact (((Below.refl w.heap.size w).alloc (Nat.le_refl _) _).alloc (by simp) _).alloc (by simp; omega) _
  · simp

end Go.Proofs.Ytmkapmbmgpnjaaa.Bi

