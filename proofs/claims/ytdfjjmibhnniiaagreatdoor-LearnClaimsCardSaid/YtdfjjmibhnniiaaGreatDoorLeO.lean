import Derived.Test.YtdfjjmibhnniiaaGreatDoorLeH
set_option maxRecDepth 100000
set_option linter.unusedSimpArgs false
set_option linter.unusedVariables false
namespace Go.Proofs.YtdfjjmibhnniiaaGreatDoor.Le
open Go Go.Ms Go.Pg Go.Le Go.ChangeShapes Go.WideShapes Go.ChangeAt Go.RowKit Go.Deep

/-! Whether a claim is true of a row, kind by kind. -/
set_option maxHeartbeats 4000000 in
theorem hold1 (i j : Nat) (K M : Int) {t : Value} {row : List Int} {w : World} (ht : IntsW w t row) (hi : i < row.length) (hj : j < row.length) (hK : Plain K) (hM : Plain M) (hr : AllPlain row) : Calls Tryz.prog 220 #[.agg #[.int .i64 i, .int .i64 K], t] w (TellsB (row[i] = K) w) := by
  have PX : Hid (Plain row[i]) := hide (hr _ (List.getElem_mem hi))
  have HK := hide hK
  have HM := hide hM
  clear hK hM hr
  have ht0 := ht
  obtain ⟨ot, ct, rfl, hlt, _⟩ := ht
  have hb := heap_top w (.cells #[.int .i64 i, .int .i64 K] 142)
  have b3 := (Below.refl w.heap.size w).alloc (Nat.le_refl _) (.cells #[.int .i64 i, .int .i64 K] 142)
  go_enter Tryz.func220, Tryz.ntmps220
  go_upto_region 1 with (fail)
  generalize w.alloc (.cells #[.int .i64 i, .int .i64 K] 142) = w0 at *
  have ht1 := intsW_below ht0 b3
  have HB := hide b3
  clear b3 ht0
  have p0 := cell_of hb 0
  have p1 := cell_of hb 1
  clear hb
  obtain ⟨ot', ct', he, _, ht⟩ := ht1
  obtain ⟨rfl, rfl⟩ : ot = ot' ∧ ct = ct' := by simpa using he
  clear he
  obtain ⟨r1, o1, rfl, f1⟩ := int_cell ht hi
  obtain ⟨r2, o2, he, f2⟩ := int_cell ht hj
  simp only [Option.some.injEq, Addr.mk.injEq] at he
  obtain ⟨rfl, rfl, _⟩ := he
  clear ht
  have hi1 : (i : Int) < (row.length : Int) := by omega
  have hj1 : (j : Int) < (row.length : Int) := by omega
  go_wp2_with fail
  go_quiet (fail)
  go_wp2_with fail
  go_ret
  refine ⟨_, rfl, ?_, HB.out.trans (belowN _ _ _)⟩
  simp
set_option maxHeartbeats 4000000 in
theorem hold3 (i j : Nat) (K M : Int) {t : Value} {row : List Int} {w : World} (ht : IntsW w t row) (hi : i < row.length) (hj : j < row.length) (hK : Plain K) (hM : Plain M) (hr : AllPlain row) : Calls Tryz.prog 234 #[.agg #[.int .i64 i, .int .i64 K], t] w (TellsB (K ≤ row[i]) w) := by
  have PX : Hid (Plain row[i]) := hide (hr _ (List.getElem_mem hi))
  have HK := hide hK
  have HM := hide hM
  clear hK hM hr
  have ht0 := ht
  obtain ⟨ot, ct, rfl, hlt, _⟩ := ht
  have hb := heap_top w (.cells #[.int .i64 i, .int .i64 K] 143)
  have b3 := (Below.refl w.heap.size w).alloc (Nat.le_refl _) (.cells #[.int .i64 i, .int .i64 K] 143)
  go_enter Tryz.func234, Tryz.ntmps234
  go_upto_region 1 with (fail)
  generalize w.alloc (.cells #[.int .i64 i, .int .i64 K] 143) = w0 at *
  have ht1 := intsW_below ht0 b3
  have HB := hide b3
  clear b3 ht0
  have p0 := cell_of hb 0
  have p1 := cell_of hb 1
  clear hb
  obtain ⟨ot', ct', he, _, ht⟩ := ht1
  obtain ⟨rfl, rfl⟩ : ot = ot' ∧ ct = ct' := by simpa using he
  clear he
  obtain ⟨r1, o1, rfl, f1⟩ := int_cell ht hi
  obtain ⟨r2, o2, he, f2⟩ := int_cell ht hj
  simp only [Option.some.injEq, Addr.mk.injEq] at he
  obtain ⟨rfl, rfl, _⟩ := he
  clear ht
  have hi1 : (i : Int) < (row.length : Int) := by omega
  have hj1 : (j : Int) < (row.length : Int) := by omega
  go_wp2_with fail
  go_quiet (fail)
  go_wp2_with fail
  go_ret
  refine ⟨_, rfl, ?_, HB.out.trans (belowN _ _ _)⟩
  simp
set_option maxHeartbeats 4000000 in
theorem hold4 (i j : Nat) (K M : Int) {t : Value} {row : List Int} {w : World} (ht : IntsW w t row) (hi : i < row.length) (hj : j < row.length) (hK : Plain K) (hM : Plain M) (hr : AllPlain row) : Calls Tryz.prog 237 #[.agg #[.int .i64 i, .int .i64 K], t] w (TellsB (row[i] ≤ K) w) := by
  have PX : Hid (Plain row[i]) := hide (hr _ (List.getElem_mem hi))
  have HK := hide hK
  have HM := hide hM
  clear hK hM hr
  have ht0 := ht
  obtain ⟨ot, ct, rfl, hlt, _⟩ := ht
  have hb := heap_top w (.cells #[.int .i64 i, .int .i64 K] 144)
  have b3 := (Below.refl w.heap.size w).alloc (Nat.le_refl _) (.cells #[.int .i64 i, .int .i64 K] 144)
  go_enter Tryz.func237, Tryz.ntmps237
  go_upto_region 1 with (fail)
  generalize w.alloc (.cells #[.int .i64 i, .int .i64 K] 144) = w0 at *
  have ht1 := intsW_below ht0 b3
  have HB := hide b3
  clear b3 ht0
  have p0 := cell_of hb 0
  have p1 := cell_of hb 1
  clear hb
  obtain ⟨ot', ct', he, _, ht⟩ := ht1
  obtain ⟨rfl, rfl⟩ : ot = ot' ∧ ct = ct' := by simpa using he
  clear he
  obtain ⟨r1, o1, rfl, f1⟩ := int_cell ht hi
  obtain ⟨r2, o2, he, f2⟩ := int_cell ht hj
  simp only [Option.some.injEq, Addr.mk.injEq] at he
  obtain ⟨rfl, rfl, _⟩ := he
  clear ht
  have hi1 : (i : Int) < (row.length : Int) := by omega
  have hj1 : (j : Int) < (row.length : Int) := by omega
  go_wp2_with fail
  go_quiet (fail)
  go_wp2_with fail
  go_ret
  refine ⟨_, rfl, ?_, HB.out.trans (belowN _ _ _)⟩
  simp
set_option maxHeartbeats 4000000 in
theorem hold5 (i j : Nat) (K M : Int) {t : Value} {row : List Int} {w : World} (ht : IntsW w t row) (hi : i < row.length) (hj : j < row.length) (hK : Plain K) (hM : Plain M) (hr : AllPlain row) : Calls Tryz.prog 243 #[.agg #[.int .i64 i], t] w (TellsB (row[i] ≠ 0) w) := by
  have PX : Hid (Plain row[i]) := hide (hr _ (List.getElem_mem hi))
  have HK := hide hK
  have HM := hide hM
  clear hK hM hr
  have ht0 := ht
  obtain ⟨ot, ct, rfl, hlt, _⟩ := ht
  have hb := heap_top w (.cells #[.int .i64 i] 150)
  have b3 := (Below.refl w.heap.size w).alloc (Nat.le_refl _) (.cells #[.int .i64 i] 150)
  go_enter Tryz.func243, Tryz.ntmps243
  go_upto_region 1 with (fail)
  generalize w.alloc (.cells #[.int .i64 i] 150) = w0 at *
  have ht1 := intsW_below ht0 b3
  have HB := hide b3
  clear b3 ht0
  have p0 := cell_of hb 0
  clear hb
  obtain ⟨ot', ct', he, _, ht⟩ := ht1
  obtain ⟨rfl, rfl⟩ : ot = ot' ∧ ct = ct' := by simpa using he
  clear he
  obtain ⟨r1, o1, rfl, f1⟩ := int_cell ht hi
  obtain ⟨r2, o2, he, f2⟩ := int_cell ht hj
  simp only [Option.some.injEq, Addr.mk.injEq] at he
  obtain ⟨rfl, rfl, _⟩ := he
  clear ht
  have hi1 : (i : Int) < (row.length : Int) := by omega
  have hj1 : (j : Int) < (row.length : Int) := by omega
  go_wp2_with fail
  go_ret
  refine ⟨_, rfl, ?_, HB.out⟩
  simp
set_option maxHeartbeats 4000000 in
theorem hold7 (i j : Nat) (K M : Int) {t : Value} {row : List Int} {w : World} (ht : IntsW w t row) (hi : i < row.length) (hj : j < row.length) (hK : Plain K) (hM : Plain M) (hr : AllPlain row) : Calls Tryz.prog 249 #[.agg #[.int .i64 i, .int .i64 j], t] w (TellsB (row[i] = row[j]) w) := by
  have PX : Hid (Plain row[i]) := hide (hr _ (List.getElem_mem hi))
  have HK := hide hK
  have HM := hide hM
  clear hK hM hr
  have ht0 := ht
  obtain ⟨ot, ct, rfl, hlt, _⟩ := ht
  have hb := heap_top w (.cells #[.int .i64 i, .int .i64 j] 160)
  have b3 := (Below.refl w.heap.size w).alloc (Nat.le_refl _) (.cells #[.int .i64 i, .int .i64 j] 160)
  go_enter Tryz.func249, Tryz.ntmps249
  go_upto_region 1 with (fail)
  generalize w.alloc (.cells #[.int .i64 i, .int .i64 j] 160) = w0 at *
  have ht1 := intsW_below ht0 b3
  have HB := hide b3
  clear b3 ht0
  have p0 := cell_of hb 0
  have p1 := cell_of hb 1
  clear hb
  obtain ⟨ot', ct', he, _, ht⟩ := ht1
  obtain ⟨rfl, rfl⟩ : ot = ot' ∧ ct = ct' := by simpa using he
  clear he
  obtain ⟨r1, o1, rfl, f1⟩ := int_cell ht hi
  obtain ⟨r2, o2, he, f2⟩ := int_cell ht hj
  simp only [Option.some.injEq, Addr.mk.injEq] at he
  obtain ⟨rfl, rfl, _⟩ := he
  clear ht
  have hi1 : (i : Int) < (row.length : Int) := by omega
  have hj1 : (j : Int) < (row.length : Int) := by omega
  go_wp2_with fail
  go_quiet (fail)
  go_wp2_with fail
  go_ret
  refine ⟨_, rfl, ?_, HB.out.trans (belowN _ _ _)⟩
  simp
set_option maxHeartbeats 4000000 in
theorem hold8 (i j : Nat) (K M : Int) {t : Value} {row : List Int} {w : World} (ht : IntsW w t row) (hi : i < row.length) (hj : j < row.length) (hK : Plain K) (hM : Plain M) (hr : AllPlain row) : Calls Tryz.prog 258 #[.agg #[.int .i64 i, .int .i64 j], t] w (TellsB (row[i] ≠ row[j]) w) := by
  have PX : Hid (Plain row[i]) := hide (hr _ (List.getElem_mem hi))
  have HK := hide hK
  have HM := hide hM
  clear hK hM hr
  have ht0 := ht
  obtain ⟨ot, ct, rfl, hlt, _⟩ := ht
  have hb := heap_top w (.cells #[.int .i64 i, .int .i64 j] 164)
  have b3 := (Below.refl w.heap.size w).alloc (Nat.le_refl _) (.cells #[.int .i64 i, .int .i64 j] 164)
  go_enter Tryz.func258, Tryz.ntmps258
  go_upto_region 1 with (fail)
  generalize w.alloc (.cells #[.int .i64 i, .int .i64 j] 164) = w0 at *
  have ht1 := intsW_below ht0 b3
  have HB := hide b3
  clear b3 ht0
  have p0 := cell_of hb 0
  have p1 := cell_of hb 1
  clear hb
  obtain ⟨ot', ct', he, _, ht⟩ := ht1
  obtain ⟨rfl, rfl⟩ : ot = ot' ∧ ct = ct' := by simpa using he
  clear he
  obtain ⟨r1, o1, rfl, f1⟩ := int_cell ht hi
  obtain ⟨r2, o2, he, f2⟩ := int_cell ht hj
  simp only [Option.some.injEq, Addr.mk.injEq] at he
  obtain ⟨rfl, rfl, _⟩ := he
  clear ht
  have hi1 : (i : Int) < (row.length : Int) := by omega
  have hj1 : (j : Int) < (row.length : Int) := by omega
  go_wp2_with fail
  go_quiet (fail)
  go_wp2_with fail
  go_ret
  refine ⟨_, rfl, ?_, HB.out.trans (belowN _ _ _)⟩
  simp
set_option maxHeartbeats 4000000 in
theorem hold9 (i j : Nat) (K M : Int) {t : Value} {row : List Int} {w : World} (ht : IntsW w t row) (hi : i < row.length) (hj : j < row.length) (hK : Plain K) (hM : Plain M) (hr : AllPlain row) : Calls Tryz.prog 252 #[.agg #[.int .i64 i, .int .i64 j], t] w (TellsB (row[i] < row[j]) w) := by
  have PX : Hid (Plain row[i]) := hide (hr _ (List.getElem_mem hi))
  have HK := hide hK
  have HM := hide hM
  clear hK hM hr
  have ht0 := ht
  obtain ⟨ot, ct, rfl, hlt, _⟩ := ht
  have hb := heap_top w (.cells #[.int .i64 i, .int .i64 j] 162)
  have b3 := (Below.refl w.heap.size w).alloc (Nat.le_refl _) (.cells #[.int .i64 i, .int .i64 j] 162)
  go_enter Tryz.func252, Tryz.ntmps252
  go_upto_region 1 with (fail)
  generalize w.alloc (.cells #[.int .i64 i, .int .i64 j] 162) = w0 at *
  have ht1 := intsW_below ht0 b3
  have HB := hide b3
  clear b3 ht0
  have p0 := cell_of hb 0
  have p1 := cell_of hb 1
  clear hb
  obtain ⟨ot', ct', he, _, ht⟩ := ht1
  obtain ⟨rfl, rfl⟩ : ot = ot' ∧ ct = ct' := by simpa using he
  clear he
  obtain ⟨r1, o1, rfl, f1⟩ := int_cell ht hi
  obtain ⟨r2, o2, he, f2⟩ := int_cell ht hj
  simp only [Option.some.injEq, Addr.mk.injEq] at he
  obtain ⟨rfl, rfl, _⟩ := he
  clear ht
  have hi1 : (i : Int) < (row.length : Int) := by omega
  have hj1 : (j : Int) < (row.length : Int) := by omega
  go_wp2_with fail
  go_quiet (fail)
  go_wp2_with fail
  go_ret
  refine ⟨_, rfl, ?_, HB.out.trans (belowN _ _ _)⟩
  simp
set_option maxHeartbeats 4000000 in
theorem hold10 (i j : Nat) (K M : Int) {t : Value} {row : List Int} {w : World} (ht : IntsW w t row) (hi : i < row.length) (hj : j < row.length) (hK : Plain K) (hM : Plain M) (hr : AllPlain row) : Calls Tryz.prog 255 #[.agg #[.int .i64 i, .int .i64 j], t] w (TellsB (row[i] ≤ row[j]) w) := by
  have PX : Hid (Plain row[i]) := hide (hr _ (List.getElem_mem hi))
  have HK := hide hK
  have HM := hide hM
  clear hK hM hr
  have ht0 := ht
  obtain ⟨ot, ct, rfl, hlt, _⟩ := ht
  have hb := heap_top w (.cells #[.int .i64 i, .int .i64 j] 163)
  have b3 := (Below.refl w.heap.size w).alloc (Nat.le_refl _) (.cells #[.int .i64 i, .int .i64 j] 163)
  go_enter Tryz.func255, Tryz.ntmps255
  go_upto_region 1 with (fail)
  generalize w.alloc (.cells #[.int .i64 i, .int .i64 j] 163) = w0 at *
  have ht1 := intsW_below ht0 b3
  have HB := hide b3
  clear b3 ht0
  have p0 := cell_of hb 0
  have p1 := cell_of hb 1
  clear hb
  obtain ⟨ot', ct', he, _, ht⟩ := ht1
  obtain ⟨rfl, rfl⟩ : ot = ot' ∧ ct = ct' := by simpa using he
  clear he
  obtain ⟨r1, o1, rfl, f1⟩ := int_cell ht hi
  obtain ⟨r2, o2, he, f2⟩ := int_cell ht hj
  simp only [Option.some.injEq, Addr.mk.injEq] at he
  obtain ⟨rfl, rfl, _⟩ := he
  clear ht
  have hi1 : (i : Int) < (row.length : Int) := by omega
  have hj1 : (j : Int) < (row.length : Int) := by omega
  go_wp2_with fail
  go_quiet (fail)
  go_wp2_with fail
  go_ret
  refine ⟨_, rfl, ?_, HB.out.trans (belowN _ _ _)⟩
  simp
set_option maxHeartbeats 4000000 in
theorem hold11 (i j : Nat) (K M : Int) {t : Value} {row : List Int} {w : World} (ht : IntsW w t row) (hi : i < row.length) (hj : j < row.length) (hK : Plain K) (hM : Plain M) (hr : AllPlain row) : Calls Tryz.prog 261 #[.agg #[.int .i64 i, .int .i64 j, .int .i64 K, .int .i64 M], t] w (TellsB (row[j] = K * row[i] + M) w) := by
  have PX : Hid (Plain row[i]) := hide (hr _ (List.getElem_mem hi))
  have HK := hide hK
  have HM := hide hM
  clear hK hM hr
  have ht0 := ht
  obtain ⟨ot, ct, rfl, hlt, _⟩ := ht
  have hb := heap_top w (.cells #[.int .i64 i, .int .i64 j, .int .i64 K, .int .i64 M] 166)
  have b3 := (Below.refl w.heap.size w).alloc (Nat.le_refl _) (.cells #[.int .i64 i, .int .i64 j, .int .i64 K, .int .i64 M] 166)
  go_enter Tryz.func261, Tryz.ntmps261
  go_upto_region 1 with (fail)
  generalize w.alloc (.cells #[.int .i64 i, .int .i64 j, .int .i64 K, .int .i64 M] 166) = w0 at *
  have ht1 := intsW_below ht0 b3
  have HB := hide b3
  clear b3 ht0
  have p0 := cell_of hb 0
  have p1 := cell_of hb 1
  have p2 := cell_of hb 2
  have p3 := cell_of hb 3
  clear hb
  obtain ⟨ot', ct', he, _, ht⟩ := ht1
  obtain ⟨rfl, rfl⟩ : ot = ot' ∧ ct = ct' := by simpa using he
  clear he
  obtain ⟨r1, o1, rfl, f1⟩ := int_cell ht hi
  obtain ⟨r2, o2, he, f2⟩ := int_cell ht hj
  simp only [Option.some.injEq, Addr.mk.injEq] at he
  obtain ⟨rfl, rfl, _⟩ := he
  clear ht
  have hi1 : (i : Int) < (row.length : Int) := by omega
  have hj1 : (j : Int) < (row.length : Int) := by omega
  have hm := mul_plain HK.out PX.out
  have hM := HM.out
  have e1 : IntKind.i64.wrap (K * row[i]) = K * row[i] := wrap_small (by omega) (by omega)
  have e2 : IntKind.i64.wrap (K * row[i] + M) = K * row[i] + M := wrap_small (by have := hM.1; omega) (by have := hM.2; omega)
  clear hm hM
  go_wp2_with fail
  go_quiet (fail)
  go_wp2_with fail
  go_ret
  refine ⟨_, rfl, ?_, HB.out.trans (belowN _ _ _)⟩
  simp
end Go.Proofs.YtdfjjmibhnniiaaGreatDoor.Le

set_option maxRecDepth 100000
set_option linter.unusedSimpArgs false
set_option linter.unusedVariables false
namespace Go.Proofs.YtdfjjmibhnniiaaGreatDoor.Le
open Go Go.Ms Go.Pg Go.Le Go.ChangeShapes Go.WideShapes Go.ChangeAt Go.RowKit Go.Deep

theorem residueProg {w : World} {n m : Int} (hn : Plain n) (h2 : 2 ≤ m) (hm : m ≤ 2147483647) : Calls Tryz.prog 86 #[.int .i64 n, .int .i64 m] w fun e w' => e = .returned (.int .i64 (modulo n m)) ∧ w' = w := by
  have h1 := tmod_small (n := n) (m := m) (by omega) hn
  have e1 : IntKind.i64.wrap (n.tmod m) = n.tmod m := wrap_small (by have := h1.1; omega) (by have := h1.2; omega)
  have e2 : IntKind.i64.wrap (n.tmod m + m) = n.tmod m + m := wrap_small (by have := h1.1; omega) (by have := h1.2; omega)
  have h3 : m ≠ 0 := by omega
  have E3 : Hid (IntKind.i64.wrap ((n.tmod m + m).tmod m) = (n.tmod m + m).tmod m) := hide (by
    have b1 := h1.1
    have b2 := h1.2
    have := Int.tmod_lt_of_pos (n.tmod m + m) (show 0 < m by omega)
    have := Int.lt_tmod_of_pos (n.tmod m + m) (show 0 < m by omega)
    exact wrap_small (by omega) (by omega))
  have e3 := E3.out
  have M := hide (show modulo n m = (n.tmod m + m).tmod m from rfl)
  clear h1 E3
  go_enter Tryz.func86, Tryz.ntmps86
  go_wp2_with fail
  go_ret
  refine ⟨?_, rfl⟩
  rw [M.out]
  simp

set_option maxHeartbeats 4000000 in
theorem hold6 (i j : Nat) (K M : Int) {t : Value} {row : List Int} {w : World} (ht : IntsW w t row) (hi : i < row.length) (hj : j < row.length) (hK : Plain K) (hM : Plain M) (hr : AllPlain row) (h2 : 2 ≤ M) : Calls Tryz.prog 246 #[.agg #[.int .i64 i, .int .i64 K, .int .i64 M], t] w (TellsB (modulo row[i] M = K) w) := by
  have PX : Hid (Plain row[i]) := hide (hr _ (List.getElem_mem hi))
  have HK := hide hK
  have H2 := hide h2
  have H3 : Hid (M ≤ 2147483647) := hide hM.2
  clear hK hM hr h2
  have ht0 := ht
  obtain ⟨ot, ct, rfl, hlt, _⟩ := ht
  have hb := heap_top w (.cells #[.int .i64 i, .int .i64 K, .int .i64 M] 152)
  have b3 := (Below.refl w.heap.size w).alloc (Nat.le_refl _) (.cells #[.int .i64 i, .int .i64 K, .int .i64 M] 152)
  go_enter Tryz.func246, Tryz.ntmps246
  go_upto_region 1 with (fail)
  generalize w.alloc (.cells #[.int .i64 i, .int .i64 K, .int .i64 M] 152) = w0 at *
  have ht1 := intsW_below ht0 b3
  have HB := hide b3
  clear b3 ht0
  have p0 := cell_of hb 0
  have p1 := cell_of hb 1
  have p2 := cell_of hb 2
  clear hb
  obtain ⟨ot', ct', he, _, ht⟩ := ht1
  obtain ⟨rfl, rfl⟩ : ot = ot' ∧ ct = ct' := by simpa using he
  clear he
  obtain ⟨r1, o1, rfl, f1⟩ := int_cell ht hi
  obtain ⟨r2, o2, he, f2⟩ := int_cell ht hj
  simp only [Option.some.injEq, Addr.mk.injEq] at he
  obtain ⟨rfl, rfl, _⟩ := he
  clear ht
  have hi1 : (i : Int) < (row.length : Int) := by omega
  have hj1 : (j : Int) < (row.length : Int) := by omega
  go_wp2_with fail
  go_region_with (first
    | (go_at_call 86
       with_reducible refine (residueProg PX.out H2.out H3.out).mono ?_
       rintro e w1 ⟨rfl, hw⟩
       rw [hw])
    | fail)
  all_goals
    go_wp2_with fail
    go_ret
    refine ⟨_, rfl, ?_, by first | exact HB.out.drew | exact HB.out.trans (belowN _ _ _)⟩
    simp
end Go.Proofs.YtdfjjmibhnniiaaGreatDoor.Le

set_option maxRecDepth 100000
set_option linter.unusedSimpArgs false
set_option linter.unusedVariables false
namespace Go.Proofs.YtdfjjmibhnniiaaGreatDoor.Le
open Go Go.Ms Go.Pg Go.Le Go.ChangeShapes Go.WideShapes Go.ChangeAt Go.RowKit Go.Deep

set_option maxHeartbeats 4000000 in
theorem indexProg {w : World} {v : Value} {l : List Int} {x : Int} (h : IntsW w v l) : Calls Tryz.prog 128 #[v, .int .i64 x] w fun e w' => (∃ r : Int, e = .returned (.int .i64 r) ∧ (0 ≤ r ↔ x ∈ l)) ∧ ∃ n, w' = w.drewN n := by
  obtain ⟨oa, cap, rfl, hl, hc⟩ := h
  have HC := hide hc
  clear hc
  go_enter Tryz.func128, Tryz.ntmps128
  go_wp2_with fail
  go_loopw [8] (fun i wr => ∃ k : Nat, k ≤ l.length ∧ i = .int .i64 (k : Int) ∧ x ∉ l.take k ∧ ∃ n, wr = w.drewN n) (fun i _ => l.length - (intOf i).toNat)
  case atStart => exact ⟨0, Nat.zero_le _, rfl, by simp, 0, rfl⟩
  case round =>
    obtain ⟨k, hk, rfl, hx, n, rfl⟩ := hrel
    have HX := hide hx
    clear hx
    by_cases hlt : k < l.length
    · have hi : (k : Int) < (l.length : Int) := by omega
      obtain ⟨b, o, rfl, f⟩ := int_cell HC.out hlt
      have hw := wrap_upW hlt hl
      cases hq : (l[k] == x) with
      | true =>
        have hq2 : (x == l[k]) = true := by rw [← hq]; exact Bool.beq_comm
        go_wp2_with fail
        go_ret
        have : l[k] = x := by simpa using hq
        exact ⟨⟨k, rfl, ⟨fun _ => this ▸ List.getElem_mem hlt, fun _ => by omega⟩⟩, _, rfl⟩
      | false =>
        have hq2 : (x == l[k]) = false := by rw [← hq]; exact Bool.beq_comm
        have HN := hide (not_next HX.out hlt hq)
        go_wp2_with fail
        exact ⟨⟨k + 1, by omega, by go_num, HN.out, _, rfl⟩, by simp [intOf]; omega⟩
    · obtain rfl : k = l.length := by omega
      rw [List.take_length] at HX
      go_wp2_with fail
      go_ret
      exact ⟨⟨-1, rfl, ⟨fun q => by omega, fun q => absurd q HX.out⟩⟩, _, rfl⟩
set_option maxHeartbeats 4000000 in
theorem containsProg {w : World} {v : Value} {l : List Int} {x : Int} (h : IntsW w v l) : Calls Tryz.prog 100 #[v, .int .i64 x] w (Tells (x ∈ l) w) := by
  have HR := hide h
  obtain ⟨oa, cap, rfl, _, _⟩ := h
  go_enter Tryz.func100, Tryz.ntmps100
  go_wp2_with (first
    | (go_at_call 128
       (with_reducible refine (indexProg HR.out).mono ?_)
       rintro e _ ⟨⟨r, rfl, hr⟩, n, rfl⟩
       have HX := hide hr
       clear hr)
    | fail)
  go_ret
  exact ⟨_, rfl, by rw [decide_eq_true_iff]; exact HX.out, _, rfl⟩
set_option maxHeartbeats 4000000 in
theorem hold2 (i : Nat) {s t : Value} {row l : List Int} {w : World} (hs : IntsW w s l) (ht : IntsW w t row) (hi : i < row.length) : Calls Tryz.prog 240 #[.agg #[.int .i64 i, s], t] w (TellsB (row[i] ∈ l) w) := by
  have ht0 := ht
  have hs0 := hs
  obtain ⟨ot, ct, rfl, hlt, _⟩ := ht
  obtain ⟨os, cs, rfl, hls, _⟩ := hs
  have hb := heap_top w (.cells #[.int .i64 i, .slice os l.length cs] 148)
  have b3 := (Below.refl w.heap.size w).alloc (Nat.le_refl _) (.cells #[.int .i64 i, .slice os l.length cs] 148)
  go_enter Tryz.func240, Tryz.ntmps240
  go_upto_region 1 with (fail)
  generalize w.alloc (.cells #[.int .i64 i, .slice os l.length cs] 148) = w0 at *
  have ht1 := intsW_below ht0 b3
  have HS := hide (intsW_below hs0 b3)
  have HB := hide b3
  clear b3 ht0 hs0
  have p0 := cell_of hb 0
  have p1 := cell_of hb 1
  clear hb
  obtain ⟨ot', ct', he, _, ht⟩ := ht1
  obtain ⟨rfl, rfl⟩ : ot = ot' ∧ ct = ct' := by simpa using he
  clear he
  obtain ⟨r1, o1, rfl, f1⟩ := int_cell ht hi
  clear ht
  have hi1 : (i : Int) < (row.length : Int) := by omega
  go_wp2_with fail
  go_region_with (first
    | (go_at_call 100
       first
         | with_reducible refine (containsProg (x := row[i]) (intsW_drew HS.out)).mono ?_
         | with_reducible refine (containsProg (x := row[i]) HS.out).mono ?_
       rintro e w1 ⟨r, rfl, hr, n, rfl⟩
       have HR := hide hr
       clear hr)
    | fail)
  all_goals
    go_wp2_with fail
    go_ret
    exact ⟨_, rfl, HR.out, by first | exact HB.out.drew.trans (belowN _ _ _) | exact HB.out.trans (belowN _ _ _)⟩
end Go.Proofs.YtdfjjmibhnniiaaGreatDoor.Le

