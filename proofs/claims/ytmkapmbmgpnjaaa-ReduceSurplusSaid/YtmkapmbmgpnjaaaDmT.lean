import Derived.Test.YtmkapmbmgpnjaaaDmW
import Derived.Test.YtmkapmbmgpnjaaaDmV
import Derived.Test.YtmkapmbmgpnjaaaDlH
import Derived.Test.YtmkapmbmgpnjaaaDsN
set_option maxRecDepth 100000
set_option linter.unusedSimpArgs false
set_option linter.unusedVariables false
namespace Go.Proofs.Ytmkapmbmgpnjaaa.Se
open Go Go.Ms Go.Pg Go.Bi Go.Se Go.ChangeShapes Go.WideShapes Go.ChangeAt Go.RowKit Go.Deep Go.Proofs.Ytmkapmbmgpnjaaa.Bi

/-! The examples of the chapter, by the contracts of what they call. -/
theorem eg1 : play (listN 4) [] [] = .ask (memQ (allQ 4)) := by kernel_rfl
theorem eg2 : play (listN 4) [2] [] = .ask (memQ (ofP (among [0, 1]))) := by kernel_rfl
theorem eg3 : play (listN 2) [2, 1, 1] [] = .fin [0, 1] [] [] := by kernel_rfl
theorem eg4 : upTo (memQ (allQ 4)) 256 = [0, 1, 2, 3] := by kernel_rfl
theorem eg5 : upTo (memQ (ofP (among [0, 1]))) 256 = [0, 1] := by kernel_rfl
theorem eg6 : Rc.pieces [1, 2, 3, 4, 5] (Rc.count 5 2) (Rc.count 5 2) = [[1, 2], [3, 4, 5]] := by kernel_rfl
theorem lit_cell {w : World} {B : Nat} {k : IntKind} {t : TypeId} {l : List Int} (h : w.heap[B]? = some (.cells (l.map (Value.int k)).toArray t (0, 0))) {i : Nat} (hi : i < l.length) : w.cell? ⟨B, i, none⟩ = some (.int k l[i]) :=
  (cell_of h i).trans (by rw [List.getElem?_toArray, List.getElem?_map, List.getElem?_eq_getElem hi]; rfl)
theorem row_lit {w : World} {B : Nat} {l : List Int} (h : w.heap[B]? = some (.cells (l.map (Value.int .i64)).toArray 3 (0, 0))) (hl : l.length ≤ 1000) (hx : ∀ x ∈ l, 0 ≤ x ∧ x < 256) : RowAt 1 (NumAt .i64) w (.slice (some ⟨B, 0, none⟩) l.length l.length) l :=
  ⟨_, _, rfl, by omega, fun i hi => ⟨B, 0, rfl, by rw [Nat.mul_one, Nat.zero_add]; exact lit_cell h hi, by
    have := hx _ (List.getElem_mem hi)
    simp [Lit.wf, IntKind.min, IntKind.max, IntKind.signed, IntKind.bits]
    omega⟩⟩
theorem ints_lit {w : World} {B : Nat} {l : List Int} (h : w.heap[B]? = some (.cells (l.map (Value.int .i64)).toArray 3 (0, 0))) (hl : l.length ≤ 1000) : IntsW w (.slice (some ⟨B, 0, none⟩) l.length l.length) l :=
  ⟨_, _, rfl, by omega, fun i hi => ⟨B, 0, rfl, by rw [Nat.zero_add]; exact lit_cell h hi⟩⟩
theorem vs_lit {w : World} {B : Nat} {l : List Int} (h : w.heap[B]? = some (.cells (l.map (Value.int .u8)).toArray 39 (0, 0))) (hl : l.length ≤ 1000) : Vs w w.heap.size (.slice (some ⟨B, 0, none⟩) l.length l.length) l :=
  ⟨_, _, rfl, Nat.le_refl _, by omega, fun i hi => ⟨B, 0, rfl, block_lt h, by rw [Nat.zero_add]; exact lit_cell h hi⟩⟩
theorem grid_get {B : Nat} {w : World} {oa : Option Addr} {n cap : Nat} {ls : List (List Int)} (h : Grid B w (.slice oa n cap) ls) {i : Nat} (hi : i < ls.length) :
    ∃ g ob cap', oa = some ⟨g, 0, none⟩ ∧ g < w.heap.size ∧ w.cell? ⟨g, i, none⟩ = some (.slice ob ls[i].length cap') ∧ Go.Il.Own 3 .i64 B w (.slice ob ls[i].length cap') ls[i] := by
  obtain ⟨xs, h1, h2⟩ := h
  obtain ⟨u, h3, h4⟩ := h2 i hi
  obtain ⟨ob, cap', rfl⟩ := Go.Il.Own.form h4
  rcases h1.2 with ⟨e, e0⟩ | ⟨g, cap2, cur, e, _, hg, _, _, _, ht⟩
  · omega
  · cases e
    refine ⟨g, ob, cap', rfl, block_lt hg, ?_, h4⟩
    have := h1.cells (g := g) rfl i _ h3
    rw [Go.WideShapes.add_plain] at this
    simpa using this
theorem vs_nil (w : World) (B : Nat) : Vs w B (.slice none 0 0) [] := ⟨none, 0, rfl, Nat.le_refl _, by simp, fun i hi => absurd hi (Nat.not_lt_zero i)⟩
theorem list4 {w : World} : Calls Try.prog 48 #[.int .i64 4, .slice none 0 0] w fun e w' => (∃ oa cap, e = .returned (.tuple #[questV false (.slice oa 4 cap) nilV nilV, .int .i64 0])) ∧ Below w.heap.size w w' :=
  (listProgN (z := 4) (n := 4) (l := []) (by decide) (by decide) (vs_nil _ _) (by decide) (by simp)).mono fun e w' ⟨res, hr, hg, hB⟩ => by
    rw [eg1] at hr
    subst hr
    obtain ⟨s, rfl, hs⟩ := hg
    rw [eg4] at hs
    obtain ⟨oa, cap, rfl⟩ := Go.Il.Own.form hs
    exact ⟨⟨oa, cap, rfl⟩, hB⟩
theorem list42 {w : World} {B : Nat} (hB : w.heap.size = B) : Calls Try.prog 48 #[.int .i64 4, .slice (some ⟨B, 0, none⟩) 1 1] (w.alloc (.cells #[.int .u8 2] 39)) fun e w' => (∃ oa cap, e = .returned (.tuple #[questV false (.slice oa 2 cap) nilV nilV, .int .i64 0]) ∧ IntsW w' (.slice oa 2 cap) [0, 1]) ∧ Below w.heap.size w w' :=
  (listProgN (z := 4) (n := 4) (l := [2]) (by decide) (by decide) (vs_lit (l := [2]) (alloc_at (o := .cells #[.int .u8 2] 39) hB) (by decide)) (by decide) (by simp)).mono fun e w' ⟨res, hr, hg, hB⟩ => by
    rw [eg2] at hr
    subst hr
    obtain ⟨s, rfl, hs⟩ := hg
    rw [eg5] at hs
    have hi := ints_own hs (by decide)
    obtain ⟨oa, cap, rfl⟩ := Go.Il.Own.form hs
    have hA := one101 w (.cells #[.int .u8 2] 39)
    exact ⟨⟨oa, cap, rfl, hi⟩, hA.trans (hB.mono hA.size)⟩
theorem list2 {w : World} {B : Nat} (hB : w.heap.size = B) : Calls Try.prog 48 #[.int .i64 2, .slice (some ⟨B, 0, none⟩) 3 3] (w.alloc (.cells #[.int .u8 2, .int .u8 1, .int .u8 1] 39)) fun e w' => (∃ oa cap op cp, e = .returned (.tuple #[questV true nilV (.slice oa 2 cap) (.slice op 0 cp), .int .i64 0]) ∧ IntsW w' (.slice oa 2 cap) [0, 1]) ∧ Below w.heap.size w w' :=
  (listProgN (z := 2) (n := 2) (l := [2, 1, 1]) (by decide) (by decide) (vs_lit (l := [2, 1, 1]) (alloc_at (o := .cells #[.int .u8 2, .int .u8 1, .int .u8 1] 39) hB) (by decide)) (by decide) (by simp)).mono fun e w' ⟨res, hr, hg, hB⟩ => by
    rw [eg3] at hr
    subst hr
    rw [Gives, if_pos rfl] at hg
    obtain ⟨kv, pv, rfl, hk, hp⟩ := hg
    have hi := ints_own hk (by decide)
    obtain ⟨oa, cap, rfl⟩ := Go.Il.Own.form hk
    obtain ⟨op, cp, rfl⟩ := Go.Il.Own.form hp
    have hA := one101 w (.cells #[.int .u8 2, .int .u8 1, .int .u8 1] 39)
    exact ⟨⟨oa, cap, op, cp, rfl, hi⟩, hA.trans (hB.mono hA.size)⟩
theorem sameInts {W : World} {B n : Nat} {v : Value} {l : List Int} {c : Array Value} (h : IntsW W v l) (hB : W.heap.size = B) (hc : c = (l.map (Value.int .i64)).toArray) (hn : l.length = n) (hl : l.length ≤ 1000) :
    Calls Try.prog 22 #[v, .slice (some ⟨B, 0, none⟩) n n] (W.alloc (.cells c 3)) fun e w' => e = .returned (.bool true) ∧ Below W.heap.size W w' := by
  subst hc hn
  have hA := one101 W (.cells (l.map (Value.int .i64)).toArray 3)
  refine (intsLaw (ints_below h hA) (ints_lit (alloc_at hB) hl)).mono ?_
  rintro e w' ⟨r, rfl, hr, d, rfl⟩
  obtain rfl : r = true := hr.2 rfl
  exact ⟨rfl, hA.trans (belowN _ _ d)⟩
--H<
set_option maxHeartbeats 16000000 in
theorem awakeProg : Awake := by
  intro w
  have HC1 : Hid (Calls Try.prog 101 #[.slice (some ⟨w.heap.size, 0, none⟩) 5 5, .int .i64 2] (w.alloc (.cells #[.int .i64 1, .int .i64 2, .int .i64 3, .int .i64 4, .int .i64 5] 3)) fun e w' => ∃ v', e = .returned v' ∧ Below (w.alloc (.cells #[.int .i64 1, .int .i64 2, .int .i64 3, .int .i64 4, .int .i64 5] 3)).heap.size (w.alloc (.cells #[.int .i64 1, .int .i64 2, .int .i64 3, .int .i64 4, .int .i64 5] 3)) w' ∧ Grid (w.alloc (.cells #[.int .i64 1, .int .i64 2, .int .i64 3, .int .i64 4, .int .i64 5] 3)).heap.size w' v' [[1, 2], [3, 4, 5]]) := hide (by
    have h := callsIn_wide.1 (chunksIn (z := 2) (row_lit (l := [1, 2, 3, 4, 5]) (new_block w (.cells #[.int .i64 1, .int .i64 2, .int .i64 3, .int .i64 4, .int .i64 5] 3)) (by decide) (by decide)) (Nat.le_refl _) (by decide))
    rw [show ([1, 2, 3, 4, 5] : List Int).length = 5 from rfl, eg6] at h
    exact h)
  have hB0 := (Below.refl w.heap.size w).alloc (Nat.le_refl _) (.cells #[.int .i64 1, .int .i64 2, .int .i64 3, .int .i64 4, .int .i64 5] 3)
  have HB0 := hide hB0
  clear hB0
  go_enter Try.func41, Try.ntmps41
  go_wp2_with fail
  (with_reducible refine HC1.out.mono ?_)
  generalize w.alloc (.cells #[.int .i64 1, .int .i64 2, .int .i64 3, .int .i64 4, .int .i64 5] 3) = w0 at *
  rintro e w1 ⟨v1, rfl, hB1, hG1⟩
  have HB1 := hide (HB0.out.trans (hB1.mono HB0.out.size))
  have HG1 := hide hG1
  obtain ⟨og, cg, rfl⟩ := grid_form hG1
  simp only [List.length_cons, List.length_nil, Nat.zero_add, Nat.reduceAdd] at *
  clear hB1 hG1 HC1 HB0
  go_wp2_with fail
  (with_reducible refine (list4 (w := w1)).mono ?_)
  rintro e w2 ⟨⟨oa2, ca2, rfl⟩, hB2⟩
  have hA2 := one101 w2 (boxQ false (.slice oa2 4 ca2) nilV nilV)
  have HB2 := hide (HB1.out.trans ((hB2.trans (hA2.mono hB2.size)).mono HB1.out.size))
  have HG2 := hide (HG1.out.below (hB2.trans (hA2.mono hB2.size)))
  have HQ2 := hide (new_block w2 (boxQ false (.slice oa2 4 ca2) nilV nilV))
  clear hB2 hA2
  go_wp2_with fail
  have HL3 := list42 (w := w2.alloc (boxQ false (.slice oa2 4 ca2) nilV nilV)) (B := w2.heap.size + 1) (by simp)
  change Calls Try.prog 48 _ ((w2.alloc (boxQ false (.slice oa2 4 ca2) nilV nilV)).alloc _) _
  (with_reducible refine HL3.mono ?_)
  generalize w2.alloc (boxQ false (.slice oa2 4 ca2) nilV nilV) = W2 at *
  rintro e w3 ⟨⟨oa3, ca3, rfl, hI3⟩, hB3⟩
  have hA3 := one101 w3 (boxQ false (.slice oa3 2 ca3) nilV nilV)
  have HB3 := hide (HB2.out.trans ((hB3.trans (hA3.mono hB3.size)).mono HB2.out.size))
  have HG3 := hide (HG2.out.below (hB3.trans (hA3.mono hB3.size)))
  have HQ23 := hide (((hB3.trans (hA3.mono hB3.size)).block _ (block_lt HQ2.out)).trans HQ2.out)
  have HQ3 := hide (new_block w3 (boxQ false (.slice oa3 2 ca3) nilV nilV))
  have HI3 := hide (ints_below hI3 hA3)
  clear hB3 hA3 hI3 HL3 HB2 HG2 HQ2 HB1 HG1
  go_wp2_with fail
  have HL4 := list2 (w := w3.alloc (boxQ false (.slice oa3 2 ca3) nilV nilV)) (B := w3.heap.size + 1) (by simp)
  change Calls Try.prog 48 _ ((w3.alloc (boxQ false (.slice oa3 2 ca3) nilV nilV)).alloc _) _
  (with_reducible refine HL4.mono ?_)
  generalize w3.alloc (boxQ false (.slice oa3 2 ca3) nilV nilV) = W3 at *
  rintro e w4 ⟨⟨oa4, ca4, op4, cp4, rfl, hI4⟩, hB4⟩
  have hA4 := one101 w4 (boxQ true nilV (.slice oa4 2 ca4) (.slice op4 0 cp4))
  have HB4 := hide (HB3.out.trans ((hB4.trans (hA4.mono hB4.size)).mono HB3.out.size))
  have HG4 := hide (HG3.out.below (hB4.trans (hA4.mono hB4.size)))
  have HQ24 := hide (((hB4.trans (hA4.mono hB4.size)).block _ (block_lt HQ23.out)).trans HQ23.out)
  have HQ34 := hide (((hB4.trans (hA4.mono hB4.size)).block _ (block_lt HQ3.out)).trans HQ3.out)
  have HQ4 := hide (new_block w4 (boxQ true nilV (.slice oa4 2 ca4) (.slice op4 0 cp4)))
  have HI34 := hide (ints_below HI3.out (hB4.trans (hA4.mono hB4.size)))
  have HI4 := hide (ints_below hI4 hA4)
  clear hB4 hA4 hI4 HL4 HB3 HG3 HQ23 HQ3 HI3
  obtain ⟨gg, p0, k0, rfl, hgg, hx0, ho0⟩ := grid_get HG4.out (i := 0) (by decide)
  obtain ⟨gg', p1, k1, e, -, hx1, ho1⟩ := grid_get HG4.out (i := 1) (by decide)
  injection e with e
  injection e with e
  subst e
  have HI0 : Hid (IntsW _ (.slice p0 2 k0) [1, 2]) := hide (ints_own ho0 (by decide))
  have HI1 : Hid (IntsW _ (.slice p1 3 k1) [3, 4, 5]) := hide (ints_own ho1 (by decide))
  have HX0 := hide hx0
  have HX1 := hide hx1
  clear ho0 ho1 hgg HG4
  have hbq := block_lt HQ4.out
  go_wp2_with fail
  have HZ4 : Hid ((w4.alloc (boxQ true nilV (.slice oa4 2 ca4) (.slice op4 0 cp4))).heap.size = w4.heap.size + 1) := hide (by simp)
  change Calls Try.prog 22 _ ((w4.alloc (boxQ true nilV (.slice oa4 2 ca4) (.slice op4 0 cp4))).alloc _) _
  (with_reducible refine (sameInts (c := #[.int .i64 1, .int .i64 2]) (n := 2) HI0.out HZ4.out rfl rfl (by decide)).mono ?_)
  generalize w4.alloc (boxQ true nilV (.slice oa4 2 ca4) (.slice op4 0 cp4)) = W4 at *
  rintro e w5 ⟨rfl, hB5⟩
  have HB5 := hide hB5
  have y1 := cell_old hB5 HX1.out
  clear hB5 hx0 hx1
  go_wp2_with fail
  (with_reducible refine (sameInts (c := #[.int .i64 3, .int .i64 4, .int .i64 5]) (n := 3) (ints_below HI1.out HB5.out) rfl rfl rfl (by decide)).mono ?_)
  rintro e w6 ⟨rfl, hB6⟩
  have HB6 := hide (HB5.out.trans (hB6.mono HB5.out.size))
  obtain ⟨q0, q1, q2, q3⟩ := q_cells ((HB6.out.block _ (block_lt HQ24.out)).trans HQ24.out)
  obtain ⟨r0, r1, r2, r3⟩ := q_cells ((HB6.out.block _ (block_lt HQ34.out)).trans HQ34.out)
  clear hB6 y1
  go_wp2_with fail
  (with_reducible refine (sameInts (c := #[.int .i64 0, .int .i64 1]) (n := 2) (ints_below HI34.out HB6.out) rfl rfl rfl (by decide)).mono ?_)
  rintro e w7 ⟨rfl, hB7⟩
  have HB7 := hide (HB6.out.trans (hB7.mono HB6.out.size))
  clear hB7 q0 q1 q2 q3 r0 r1 r2 r3
  obtain ⟨q0, q1, q2, q3⟩ := q_cells ((HB7.out.block _ (block_lt HQ4.out)).trans HQ4.out)
  go_wp2_with fail
  (with_reducible refine (sameInts (c := #[.int .i64 0, .int .i64 1]) (n := 2) (ints_below HI4.out HB7.out) rfl rfl rfl (by decide)).mono ?_)
  rintro e w8 ⟨rfl, hB8⟩
  have HB8 := hide (HB7.out.trans (hB8.mono HB7.out.size))
  clear hB8 q0 q1 q2 q3
  go_wp2_with fail
  go_ret
  exact ⟨rfl, HB4.out.trans (HB8.out.mono HB4.out.size)⟩
--H>
end Go.Proofs.Ytmkapmbmgpnjaaa.Se
