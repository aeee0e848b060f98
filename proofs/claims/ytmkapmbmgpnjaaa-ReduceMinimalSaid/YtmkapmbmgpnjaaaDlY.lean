import Derived.Test.YtmkapmbmgpnjaaaDlH
import Derived.Test.YtmkapmbmgpnjaaaDcH
import Derived.Test.YtmkapmbmgpnjaaaDsN
import Derived.Test.YtmkapmbmgpnjaaaGrF
set_option maxRecDepth 100000
set_option linter.unusedSimpArgs false
set_option linter.unusedVariables false
namespace Go.Proofs.Ytmkapmbmgpnjaaa.Se
open Go Go.Ms Go.Pg Go.Bi Go.Se Go.ChangeShapes Go.WideShapes Go.ChangeAt Go.RowKit Go.Deep Go.Proofs.Ytmkapmbmgpnjaaa.Bi

/-! The law ReduceMinimal: what it asks. -/
theorem among_list {k : List Nat} (hs : k.Pairwise (· < ·)) (hl : ∀ i ∈ k, i < 256) : upTo (memQ (ofP (among k))) 256 = k.map Int.ofNat := by
  refine sortedZ_ext (upTo_sorted _ _) ?_ fun z => ?_
  · rw [List.pairwise_map]
    exact hs.imp fun h => by simpa using h
  rw [mem_upTo, List.mem_map]
  constructor
  · rintro ⟨i, h1, h2, h3⟩
    rw [mem_of _ h1] at h2
    unfold among at h2
    exact ⟨i, of_decide_eq_true h2, h3.symm⟩
  · rintro ⟨i, hi, rfl⟩
    exact ⟨i, hl i hi, by rw [mem_of _ (hl i hi)]; unfold among; exact decide_eq_true hi, rfl⟩
theorem minus_rest {k : List Nat} {x : Nat} : minus (k.map Int.ofNat) [(x : Int)] = (restOf k [x]).map Int.ofNat := by
  unfold minus restOf
  rw [List.filter_map]
  congr 1
  exact List.filter_congr fun i _ => by
    simp
    exact Int.natCast_inj
def Least (o : Q4 → Int) (n : Nat) (t : Tr) : Prop :=
  (o (allQ n) = 2 ∧ ∃ k : List Nat, leaf o t [] = .fin (k.map Int.ofNat) [] [] ∧ k.Pairwise (· < ·) ∧ (∀ i ∈ k, i < n) ∧ o (ofP (among k)) = 2 ∧ ∀ i ∈ k, o (ofP (among (restOf k [i]))) ≠ 2) ∨ (o (allQ n) ≠ 2 ∧ leaf o t [] = .err 7)
theorem few {o : Q4 → Int} {n : Nat} {t : Tr} (hn : n ≤ 12) (h : Asks (LowQ n) t) : (trace o t []).length ≤ 4096 :=
  Nat.le_trans (small_few (n := n) (by omega) (trace_nodup (o := o) (t := t) (T := [])).1 (trace_asks h)) (Nat.le_trans (Nat.pow_le_pow_right (by decide) hn) (by decide))
theorem least_said {o : Orc} {n : Nat} {k : List Nat} (hn : n ≤ 256) (hs : k.Pairwise (· < ·)) (hl : ∀ i ∈ k, i < n) (h : ora o (ofP (among k)) = 2) (h2 : ∀ i ∈ k, ora o (ofP (among (restOf k [i]))) ≠ 2) :
    say o (k.map Int.ofNat) = 2 ∧ (∀ i (hi : i < (k.map Int.ofNat).length), say o (minus (k.map Int.ofNat) [(k.map Int.ofNat)[i]]) ≠ 2) ∧ IsSet (k.map Int.ofNat) n ∧ k.length ≤ n := by
  have hl2 : ∀ i ∈ k, i < 256 := fun i hi => Nat.lt_of_lt_of_le (hl i hi) hn
  refine ⟨?_, fun i hi => ?_, ?_, nodup_below (nodup_of_sorted hs) hl⟩
  · unfold ora at h
    rw [among_list hs hl2] at h
    omega
  · have hi2 : i < k.length := by simpa using hi
    have h3 := h2 _ (List.getElem_mem hi2)
    unfold ora at h3
    have e0 := among_list (k := restOf k [k[i]]) (hs.filter _) fun j hj => hl2 j (rest_mem.1 hj).1
    rw [e0, ← minus_rest] at h3
    have e : (k.map Int.ofNat)[i] = (k[i] : Int) := by simp
    rw [e]
    omega
  · intro i hi _
    have hi2 : i < k.length := by simpa using hi
    have h3 := hl _ (List.getElem_mem hi2)
    refine ⟨by simp; exact h3, fun j hj e => ?_⟩
    subst e
    have := List.pairwise_iff_getElem.1 hs j (j + 1) (by simpa using hj) hi2 (by omega)
    simpa using this
set_option maxHeartbeats 8000000 in
theorem minimalRef {w : World} {sn sb : Value} {o : Orc} {v : Value} {l : List Int} (ho : OrcAt w sn sb o) (hm : Small o) (hv : IntsW w v l) (hl : l.length ≤ 256) (h1 : say o l = 2) (h2 : ∀ i (hi : i < l.length), say o (minus l [l[i]]) ≠ 2) :
    Calls Try.prog 45 #[orcV sn sb o, v] w fun e w' => e = .returned (.bool true) ∧ Below w.heap.size w w' := by
  have hB0 := (Below.refl w.heap.size w).alloc (Nat.le_refl _) (boxO sn sb o)
  have HB0 := hide hB0
  have HO0 := hide (ho.old hB0)
  have HX0 := hide (new_block w (boxO sn sb o))
  have HI0 := hide (ints_below hv hB0)
  have HM := hide hm
  have HL := hide hl
  have H2 := hide h2
  have d1 : (((say o l : Nat) : Int) != 2) = false := by rw [h1]; rfl
  obtain ⟨x0, x1, x2, x3⟩ := o_cells HX0.out
  obtain ⟨oa, cap, rfl, -, -⟩ := hv
  clear hB0 ho hm hl h1 h2
  go_enter Try.func45, Try.ntmps45
  go_wp2_with fail
  (with_reducible refine (sayRef HO0.out HI0.out HM.out).mono ?_)
  rintro e w1 ⟨rfl, hB1⟩
  have HB1 := hide (HB0.out.trans (hB1.mono HB0.out.size))
  have HO1 := hide (HO0.out.old hB1)
  have HX1 := hide ((hB1.block _ (block_lt HX0.out)).trans HX0.out)
  have HI1 := hide (ints_below HI0.out hB1)
  clear hB1 x0 x1 x2 x3 HB0 HO0 HX0 HI0
  go_wp2_with fail
  go_loopw [5] (fun s5 wr => ∃ i : Nat, i ≤ l.length ∧ s5 = .int .i64 (i : Int) ∧ Hid (Below w1.heap.size w1 wr)) (fun s5 _ => l.length - (intOf s5).toNat)
  case atStart => exact ⟨0, Nat.zero_le _, rfl, hide (Below.refl _ _)⟩
  case round =>
    obtain ⟨i, hi, rfl, HBr⟩ := hrel
    have HXr := hide ((HBr.out.block _ (block_lt HX1.out)).trans HX1.out)
    have HOr := hide (HO1.out.old HBr.out)
    have HIr := hide (ints_below HI1.out HBr.out)
    by_cases hlt : i < l.length
    · have hi1 : (i : Int) < (l.length : Int) := by omega
      obtain ⟨x, hx⟩ : ∃ x, x = l[i] := ⟨_, rfl⟩
      have d2 : (((say o (minus l [x]) : Nat) : Int) == 2) = false := beq_false_of_ne (by have := H2.out i hlt; rw [← hx] at this; omega)
      obtain ⟨oa', cap', e2, -, hcell⟩ := HIr.out
      injection e2 with e2 e3 e4
      subst e2 e4
      obtain ⟨bb, oo, rfl, fx⟩ := hcell i hlt
      rw [← hx] at fx
      have HCX := hide fx
      have HLT := hide hlt
      have hwi : IntKind.i64.wrap ((i : Int) + 1) = (i : Int) + 1 := wrap_upW hlt (by have := HL.out; omega)
      clear hx hcell e3 hlt fx
      go_upto_region 6 with (fail)
      refine wp_region_held_drew (S := fun w' => Hid (w'.heap[w.heap.size]? = some (boxO sn sb o) ∧ w'.cell? ⟨bb, oo + i, none⟩ = some (.int .i64 x))) (by kernel_rfl) (hide ⟨HXr.out, HCX.out⟩) (fun hHeld => ?_)
      refine takeAt (i := 0) (d := some 16) (v := orcV sn sb o) rfl rfl (by kernel_rfl) (by kernel_rfl) (by kernel_rfl) (fun _ _ _ h => h) (Or.inl ⟨by rfl, fun w hS => by obtain ⟨x0, x1, x2, x3⟩ := o_cells hS.out.1; go_simp⟩) hHeld ?_
      simp only [Act.put, List.setIfInBounds_toArray, List.set_cons_zero, List.set_cons_succ]
      refine takeAt (i := 1) (d := some 17) (v := .slice (some ⟨bb, oo, none⟩) l.length cap) rfl rfl (by kernel_rfl) (by kernel_rfl) (by kernel_rfl) (fun _ _ _ h => h) (Or.inl ⟨by rfl, fun w hS => by go_simp⟩) hHeld ?_
      simp only [Act.put, List.setIfInBounds_toArray, List.set_cons_zero, List.set_cons_succ]
      refine takeAt (i := 2) (d := some 18) (v := .slice (some ⟨bb, oo, none⟩) l.length cap) rfl rfl (by kernel_rfl) (by kernel_rfl) (by kernel_rfl) (fun _ _ _ h => h) (Or.inl ⟨by rfl, fun w hS => by go_simp⟩) hHeld ?_
      simp only [Act.put, List.setIfInBounds_toArray, List.set_cons_zero, List.set_cons_succ]
      refine takeAt (i := 3) (d := some 19) (v := .int .i64 (i : Int)) rfl rfl (by kernel_rfl) (by kernel_rfl) (by kernel_rfl) (fun _ _ _ h => h) (Or.inl ⟨by rfl, fun w hS => by go_simp⟩) hHeld ?_
      simp only [Act.put, List.setIfInBounds_toArray, List.set_cons_zero, List.set_cons_succ]
      refine takeAt (i := 4) (d := some 20) (v := .pointer (some ⟨bb, oo + i, none⟩)) rfl rfl (by kernel_rfl) (by kernel_rfl) (by kernel_rfl) (fun _ _ _ h => h) (Or.inl ⟨by rfl, fun w hS => by go_simp⟩) hHeld ?_
      simp only [Act.put, List.setIfInBounds_toArray, List.set_cons_zero, List.set_cons_succ]
      refine takeAt (i := 5) (d := some 21) (v := .int .i64 x) rfl rfl (by kernel_rfl) (by kernel_rfl) (by kernel_rfl) (fun _ _ _ h => h) (Or.inl ⟨by rfl, fun w hS => by have hcx := hS.out.2; go_simp⟩) hHeld ?_
      simp only [Act.put, List.setIfInBounds_toArray, List.set_cons_zero, List.set_cons_succ]
      refine wpAnyH_ready (rs := [6]) (by kernel_rfl) (by simp) ?_
      refine AllReadyH.cons rfl (fun K0 hK => ?_) AllReadyH.nil
      go_simp
      have HBy1 := hide (Below.drew ((Below.refl wr.heap.size wr).alloc (Nat.le_refl _) (.cells #[.int .i64 x] 3)))
      have HNy1 : Hid ((wr.alloc (.cells #[.int .i64 x] 3)).drew.heap[wr.heap.size]? = some (.cells #[.int .i64 x] 3 (0, 0))) := hide (new_block wr (.cells #[.int .i64 x] 3))
      have HHy1 : Hid ((wr.alloc (.cells #[.int .i64 x] 3)).drew.heap[w.heap.size]? = some (boxO sn sb o) ∧ (wr.alloc (.cells #[.int .i64 x] 3)).drew.cell? ⟨bb, oo + i, none⟩ = some (.int .i64 x)) := hide ⟨(HBy1.out.block _ (block_lt HXr.out)).trans HXr.out, cell_old HBy1.out HCX.out⟩
      refine hK.out _ _ HHy1 (fun hHeld => ?_)
      clear hK K0
      try simp only [Act.put, List.setIfInBounds_toArray, List.set_cons_zero, List.set_cons_succ]
      refine wpAnyH_ready (rs := [7]) (by kernel_rfl) (by simp) ?_
      refine AllReadyH.cons rfl (fun K0 hK => ?_) AllReadyH.nil
      go_simp
      go_at_call 43
      (with_reducible refine (minusRef (ints_below HIr.out HBy1.out) (ints_own (own_built (B := 0) HNy1.out (Nat.zero_le _)) (by simp)) (by have := HL.out; omega)).mono ?_)
      rintro e y2 ⟨rm, rfl, hom, hBn⟩
      have HIM := hide (ints_own hom (by have := minus_length l [x]; have := HL.out; omega))
      obtain ⟨orm, crm, rfl⟩ := Go.Il.Own.form hom
      have HBy2 := hide (HBy1.out.trans (hBn.mono HBy1.out.size))
      clear hBn hom
      have HHy2 : Hid (y2.heap[w.heap.size]? = some (boxO sn sb o) ∧ y2.cell? ⟨bb, oo + i, none⟩ = some (.int .i64 x)) := hide ⟨(HBy2.out.block _ (block_lt HXr.out)).trans HXr.out, cell_old HBy2.out HCX.out⟩
      refine hK.out _ _ HHy2 (fun hHeld => ?_)
      clear hK K0
      try simp only [Act.put, List.setIfInBounds_toArray, List.set_cons_zero, List.set_cons_succ]
      refine wpAnyH_ready (rs := [8]) (by kernel_rfl) (by simp) ?_
      refine AllReadyH.cons rfl (fun K0 hK => ?_) AllReadyH.nil
      go_simp
      go_at_call 31
      (with_reducible refine (sayRef (HOr.out.old HBy2.out) HIM.out HM.out).mono ?_)
      rintro e y3 ⟨rfl, hBn⟩
      have HBy3 := hide (HBy2.out.trans (hBn.mono HBy2.out.size))
      clear hBn
      have HHy3 : Hid (y3.heap[w.heap.size]? = some (boxO sn sb o) ∧ y3.cell? ⟨bb, oo + i, none⟩ = some (.int .i64 x)) := hide ⟨(HBy3.out.block _ (block_lt HXr.out)).trans HXr.out, cell_old HBy3.out HCX.out⟩
      refine hK.out _ _ HHy3 (fun hHeld => ?_)
      clear hK K0
      try simp only [Act.put, List.setIfInBounds_toArray, List.set_cons_zero, List.set_cons_succ]
      refine takeAt (i := 9) (d := some 25) (v := .bool false) rfl rfl (by kernel_rfl) (by kernel_rfl) (by kernel_rfl) (fun _ _ _ h => h) (Or.inl ⟨by rfl, fun w hS => by go_simp⟩) hHeld ?_
      simp only [Act.put, List.setIfInBounds_toArray, List.set_cons_zero, List.set_cons_succ]
      refine wpAnyH_done (by kernel_rfl) ?_ _
      go_wp2_with fail
      refine ⟨⟨i + 1, by have := HLT.out; omega, by go_num, hide (HBr.out.trans (HBy3.out.mono HBr.out.size))⟩, by simp [intOf]; have := HLT.out; omega⟩
    · obtain rfl : i = l.length := by omega
      clear hlt
      go_wp2_with fail
      go_ret
      exact ⟨rfl, HB1.out.trans (HBr.out.mono HB1.out.size)⟩
end Go.Proofs.Ytmkapmbmgpnjaaa.Se

set_option maxRecDepth 100000
set_option linter.unusedSimpArgs false
set_option linter.unusedVariables false
namespace Go.Proofs.Ytmkapmbmgpnjaaa.Se
open Go Go.Ms Go.Pg Go.Bi Go.Se Go.ChangeShapes Go.WideShapes Go.ChangeAt Go.RowKit Go.Deep Go.Proofs.Ytmkapmbmgpnjaaa.Bi

/-! The law ReduceMinimal. -/
def YesM (w : World) (args : Array Value) : Prop := Calls Try.prog 8 args w fun e w' => e = .returned (.bool true) ∧ Below w.heap.size w w'
set_option maxHeartbeats 8000000 in
theorem lawLongM {w : World} {sn sb : Value} {o : Orc} {z st : Int} (hz : 9 < z) (hA : Awake) : YesM w #[orcV sn sb o, .int .i64 z, .int .i64 st] := by
  unfold YesM
  unfold Awake at hA
  have t1 : decide ((9 : Int) < z) = true := decide_eq_true hz
  have hB0 := (Below.refl w.heap.size w).alloc (Nat.le_refl _) (boxO sn sb o)
  have HB0 := hide hB0
  clear hB0 hz
  go_enter Try.func8, Try.ntmps8
  go_wp2_with fail
  (with_reducible refine (hA _).mono ?_)
  rintro e w' ⟨rfl, hB⟩
  have HB2 := hide (HB0.out.trans (hB.mono HB0.out.size))
  clear hB
  go_wp2_with fail
  go_ret
  exact ⟨rfl, HB2.out⟩
set_option maxHeartbeats 8000000 in
theorem lawGreatM {w : World} {sn sb : Value} {o : Orc} {z st : Int} (hz : z ≤ 9) (ho : OrcAt w sn sb o) (hg : great o = true) (hA : Awake) : YesM w #[orcV sn sb o, .int .i64 z, .int .i64 st] := by
  unfold YesM
  unfold Awake at hA
  have t1 : decide ((9 : Int) < z) = false := decide_eq_false (by omega)
  have hB0 := (Below.refl w.heap.size w).alloc (Nat.le_refl _) (boxO sn sb o)
  have HB0 := hide hB0
  have HG := hide (greatRef (ho.old hB0))
  rw [hg] at HG
  obtain ⟨x0, x1, x2, x3⟩ := o_cells (new_block w (boxO sn sb o))
  clear hB0 ho hg hz
  go_enter Try.func8, Try.ntmps8
  go_wp2_with fail
  (with_reducible refine HG.out.mono ?_)
  rintro e w1 ⟨rfl, hB1⟩
  have HB1 := hide (HB0.out.trans (hB1.mono HB0.out.size))
  clear hB1
  go_wp2_with fail
  (with_reducible refine (hA _).mono ?_)
  rintro e w' ⟨rfl, hB⟩
  have HB2 := hide (HB1.out.trans (hB.mono HB1.out.size))
  clear hB
  go_wp2_with fail
  go_ret
  exact ⟨rfl, HB2.out⟩

set_option maxHeartbeats 16000000 in
theorem lawMainM {w : World} {sn sb : Value} {o : Orc} {z st : Int} (hz : z ≤ 9) (ho : OrcAt w sn sb o) (hg : great o = false) (hA : Awake) : YesM w #[orcV sn sb o, .int .i64 z, .int .i64 st] := by
  unfold YesM
  unfold Awake at hA
  obtain ⟨N, hN⟩ : ∃ N : Nat, max z 0 = (N : Int) := ⟨(max z 0).toNat, by omega⟩
  obtain ⟨s, hs⟩ : ∃ s : Nat, min (max st 1) 256 = (s : Int) := ⟨(min (max st 1) 256).toNat, by omega⟩
  have HNZ := hide hN
  have HSS := hide hs
  have HN8 : Hid (N ≤ 256) := hide (by omega)
  have HN9 : Hid (N ≤ 9) := hide (by omega)
  have HAW := hide hA
  have HSM := hide (small_of hg)
  have t1 : decide ((9 : Int) < z) = false := decide_eq_false (by omega)
  have hB0 := (Below.refl w.heap.size w).alloc (Nat.le_refl _) (boxO sn sb o)
  have HB0 := hide hB0
  have HO0 := hide (ho.old hB0)
  have HG := hide (greatRef HO0.out)
  rw [hg] at HG
  have HX0 := hide (new_block w (boxO sn sb o))
  have HZ := hide hz
  obtain ⟨x0, x1, x2, x3⟩ := o_cells HX0.out
  clear hB0 ho hg hz hN hA hs
  go_enter Try.func8, Try.ntmps8
  go_wp2_with fail
  (with_reducible refine HG.out.mono ?_)
  rintro e w1 ⟨rfl, hB1⟩
  have HB1 := hide (HB0.out.trans (hB1.mono HB0.out.size))
  have HO1 := hide (HO0.out.old hB1)
  have HX1 := hide ((hB1.block _ (block_lt HX0.out)).trans HX0.out)
  clear hB1 x0 x1 x2 x3 HG HO0 HX0 HB0
  go_wp2_with fail
  (with_reducible refine (allRefZ HN8.out HNZ.out).mono ?_)
  rintro e w2 ⟨va, rfl, hB2, hO2⟩
  obtain ⟨oal, cal, rfl⟩ := Go.Il.Own.form hO2
  have hIA := ints_own hO2 (by rw [List.length_map, List.length_range]; have := HN8.out; omega)
  rw [List.length_map, List.length_range] at hIA
  have HIA := hide hIA
  simp only [List.length_map, List.length_range]
  have HB2 := hide (HB1.out.trans (hB2.mono HB1.out.size))
  have HO2 := hide (HO1.out.old hB2)
  have HX2 := hide ((hB2.block _ (block_lt HX1.out)).trans HX1.out)
  have hmx : (if z < 0 then (0 : Int) else z) = (N : Int) := by have := HNZ.out; split <;> omega
  clear hIA hB2 hO2 HB1 HO1 HX1
  go_wp2_with fail
  go_loopw [8] (fun s8 wr => ∃ i : Nat, i ≤ 2 ∧ s8 = .int .u8 (i : Int) ∧ Hid (Below w2.heap.size w2 wr)) (fun s8 _ => 2 - (intOf s8).toNat)
  case atStart => exact ⟨0, by omega, rfl, hide (Below.refl _ _)⟩
  case round =>
    obtain ⟨i, hi, rfl, HBr⟩ := hrel
    have HXr := hide ((HBr.out.block _ (block_lt HX2.out)).trans HX2.out)
    have HOr := hide (HO2.out.old HBr.out)
    have HIr := hide (ints_below HIA.out HBr.out)
    have HBW := hide (HB2.out.trans (HBr.out.mono HB2.out.size))
    by_cases hlt : i < 2
    · have hi1 : decide ((i : Int) < 2) = true := decide_eq_true (by omega)
      have hi2 : decide (i < 2) = true := decide_eq_true hlt
      have hw1 : ((i : Int) + 1) % 256 = (i : Int) + 1 := by omega
      have hw2 : IntKind.u8.wrap ((i : Int) + 1) = (i : Int) + 1 := by simp [IntKind.wrap, IntKind.signed, IntKind.bits]; omega
      obtain ⟨t, HAS, HLS, HTR⟩ : ∃ t, Hid (Asker i z st t) ∧ Hid (Least (ora o) N t) ∧ Hid ((trace (ora o) t []).length ≤ 4096) := by
        have hz := HZ.out
        have hs := HSS.out
        rcases (show i = 0 ∨ i = 1 by omega) with rfl | rfl
        · exact ⟨listN N, hide fun W an l hv hl hwf => askList (by omega) HNZ.out hv hl hwf, hide (listN_leaf HN8.out []), hide (few (by have := HN9.out; omega) (asks_listN HN8.out))⟩
        · exact ⟨countN N s (lastOf s), hide fun W an l hv hl hwf => askCount (by omega) HNZ.out hs hv hl hwf, hide (countN_leaf (start_of (by omega) (by omega)) HN8.out []), hide (few (by have := HN9.out; omega) (asks_countN N s (lastOf s)))⟩
      have HNE : Hid (leaf (ora o) t [] ≠ .err 0) := hide (by
        rcases HLS.out with ⟨_, k, e, _⟩ | ⟨_, e⟩ <;> rw [e] <;> intro q <;> cases q)
      have HLT := hide hlt
      obtain ⟨x0, x1, x2, x3⟩ := o_cells HXr.out
      clear hlt
      go_wp2_with fail
      (with_reducible refine (searchedRef HOr.out HSM.out HAS.out HTR.out HNE.out).mono ?_)
      rintro e w3 ⟨hfd, hB3⟩
      have HB3 := hide hB3
      have HX3 := hide ((hB3.block _ (block_lt HXr.out)).trans HXr.out)
      have HO3 := hide (HOr.out.old hB3)
      have HI3 := hide (ints_below HIr.out hB3)
      clear hB3 x0 x1 x2 x3
      rcases HLS.out with ⟨ho2, k, hlf, hk1, hk2, hk3, hk4⟩ | ⟨ho2, hlf⟩
      · rw [hlf] at hfd
        obtain ⟨kv, pv, av, rfl, hk, hp, hgr⟩ := hfd
        obtain ⟨oav, cav, rfl⟩ := grid_form hgr
        obtain ⟨ok, ck, rfl⟩ := Go.Il.Own.form hk
        obtain ⟨op, cp, rfl⟩ := Go.Il.Own.form hp
        have HSD := hide (least_said HN8.out hk1 hk2 hk3 hk4)
        have d1 : (((say o ((List.range N).map Int.ofNat) : Nat) : Int) != 2) = false := by
          rw [all_upTo HN8.out]
          unfold ora at ho2
          rw [show ((say o (upTo (memQ (allQ N)) 256) : Nat) : Int) = 2 from ho2]
          rfl
        have hA4 := (Below.refl w3.heap.size w3).alloc (Nat.le_refl _) (boxQ true nilV (.slice ok (k.map Int.ofNat).length ck) (.slice op ([] : List Int).length cp))
        have HQ4 := hide (new_block w3 (boxQ true nilV (.slice ok (k.map Int.ofNat).length ck) (.slice op ([] : List Int).length cp)))
        have HK4 := hide (ints_own (own_up hk hA4) (by rw [List.length_map]; have := HSD.out.2.2.2; have := HN8.out; omega))
        have HX4 := hide ((hA4.block _ (block_lt HX3.out)).trans HX3.out)
        have HO4 := hide (HO3.out.old hA4)
        have HI4 := hide (ints_below HI3.out hA4)
        have HB4 := hide (HB3.out.trans (hA4.mono HB3.out.size))
        obtain ⟨x0, x1, x2, x3⟩ := o_cells HX4.out
        obtain ⟨q0, q1, q2, q3⟩ := q_cells HQ4.out
        obtain ⟨F, hF⟩ : ∃ F, F = k.map Int.ofNat := ⟨_, rfl⟩
        have HFF := hide hF
        have HFN : Hid (F.length ≤ 256) := hide (by rw [hF, List.length_map]; have := HSD.out.2.2.2; have := HN8.out; omega)
        rw [← hF] at HSD HK4
        simp only [← hF, List.length_nil] at *
        clear hA4 hk hp hgr hk1 hk2 hk3 hk4 ho2 hlf HX3 HO3 HI3 hF
        go_wp2_with fail
        (with_reducible refine (sayRef HO4.out HI4.out HSM.out).mono ?_)
        rintro e w5 ⟨rfl, hB5⟩
        have HB5 := hide (HB4.out.trans (hB5.mono HB4.out.size))
        have HX5 := hide ((hB5.block _ (block_lt HX4.out)).trans HX4.out)
        have HO5 := hide (HO4.out.old hB5)
        have HQ5 := hide ((hB5.block _ (block_lt HQ4.out)).trans HQ4.out)
        have HK5 := hide (ints_below HK4.out hB5)
        clear HB4 HX4 HO4 HQ4 HK4 x0 x1 x2 x3 q0 q1 q2 q3
        clear hB5 HI4
        obtain ⟨x0, x1, x2, x3⟩ := o_cells HX5.out
        obtain ⟨q0, q1, q2, q3⟩ := q_cells HQ5.out
        go_wp2_with fail
        (with_reducible refine (setRef HK5.out).mono ?_)
        rintro e w6 ⟨r, rfl, hr, dd, rfl⟩
        obtain rfl : r = true := hr.2 HSD.out.2.2.1
        have hB6 : Below w5.heap.size w5 (w5.drewN dd) := belowN _ _ _
        have HB6 := hide (HB5.out.trans (hB6.mono HB5.out.size))
        have HX6 := hide ((hB6.block _ (block_lt HX5.out)).trans HX5.out)
        have HO6 := hide (HO5.out.old hB6)
        have HQ6 := hide ((hB6.block _ (block_lt HQ5.out)).trans HQ5.out)
        have HK6 := hide (ints_below HK5.out hB6)
        clear HB5 HX5 HO5 HQ5 HK5 x0 x1 x2 x3 q0 q1 q2 q3
        clear hB6 hr
        generalize w5.drewN dd = w6 at *
        obtain ⟨x0, x1, x2, x3⟩ := o_cells HX6.out
        obtain ⟨q0, q1, q2, q3⟩ := q_cells HQ6.out
        go_wp2_with fail
        (with_reducible refine (minimalRef HO6.out HSM.out HK6.out HFN.out HSD.out.1 HSD.out.2.1).mono ?_)
        rintro e w7 ⟨rfl, hB7⟩
        have HB7 := hide (HB6.out.trans (hB7.mono HB6.out.size))
        have HX7 := hide ((hB7.block _ (block_lt HX6.out)).trans HX6.out)
        have HO7 := hide (HO6.out.old hB7)
        have HQ7 := hide ((hB7.block _ (block_lt HQ6.out)).trans HQ6.out)
        have HK7 := hide (ints_below HK6.out hB7)
        clear HB6 HX6 HO6 HQ6 HK6 x0 x1 x2 x3 q0 q1 q2 q3
        clear hB7
        obtain ⟨x0, x1, x2, x3⟩ := o_cells HX7.out
        obtain ⟨q0, q1, q2, q3⟩ := q_cells HQ7.out
        go_wp2_with fail
        exact ⟨⟨i + 1, by have := HLT.out; omega, by go_num, hide (HBr.out.trans (HB7.out.mono HBr.out.size))⟩, by simp [intOf]; have := HLT.out; omega⟩
      · rw [hlf] at hfd
        obtain ⟨av, rfl, hgr⟩ := hfd
        obtain ⟨oav, cav, rfl⟩ := grid_form hgr
        have d1 : (((say o ((List.range N).map Int.ofNat) : Nat) : Int) != 2) = true := by
          rw [all_upTo HN8.out]
          unfold ora at ho2
          exact bne_iff_ne.2 ho2
        have hA4 := (Below.refl w3.heap.size w3).alloc (Nat.le_refl _) (boxQ false nilV nilV nilV)
        have HX4 := hide ((hA4.block _ (block_lt HX3.out)).trans HX3.out)
        have HO4 := hide (HO3.out.old hA4)
        have HI4 := hide (ints_below HI3.out hA4)
        have HB4 := hide (HB3.out.trans (hA4.mono HB3.out.size))
        obtain ⟨x0, x1, x2, x3⟩ := o_cells HX4.out
        clear hA4 hgr ho2 hlf HX3 HO3 HI3
        go_wp2_with fail
        (with_reducible refine (sayRef HO4.out HI4.out HSM.out).mono ?_)
        rintro e w5 ⟨rfl, hB5⟩
        have HB5 := hide (HB4.out.trans (hB5.mono HB4.out.size))
        clear hB5 x0 x1 x2 x3
        go_wp2_with fail
        exact ⟨⟨i + 1, by have := HLT.out; omega, by go_num, hide (HBr.out.trans (HB5.out.mono HBr.out.size))⟩, by simp [intOf]; have := HLT.out; omega⟩
    · have hi1 : decide ((i : Int) < 2) = false := decide_eq_false (by omega)
      have hi2 : decide (i < 2) = false := decide_eq_false hlt
      clear hlt
      go_wp2_with fail
      (with_reducible refine (HAW.out _).mono ?_)
      rintro e w9 ⟨rfl, hB9⟩
      have HB9 := hide (HBW.out.trans (hB9.mono HBW.out.size))
      clear hB9
      go_wp2_with fail
      go_ret
      exact ⟨rfl, HB9.out⟩
end Go.Proofs.Ytmkapmbmgpnjaaa.Se

set_option maxRecDepth 100000
namespace Go.Proofs.Ytmkapmbmgpnjaaa.Se
open Go Go.Ms Go.Pg Go.Bi Go.Se Go.ChangeShapes Go.WideShapes Go.ChangeAt Go.RowKit Go.Deep Go.Proofs.Ytmkapmbmgpnjaaa.Bi

theorem lawAllM {w : World} {sn sb : Value} {o : Orc} {z st : Int} (ho : OrcAt w sn sb o) (hA : Awake) : YesM w #[orcV sn sb o, .int .i64 z, .int .i64 st] := by
  by_cases hz : z ≤ 9
  · cases hg : great o with
    | true => exact lawGreatM hz ho hg hA
    | false => exact lawMainM hz ho hg hA
  · exact lawLongM (by omega) hA

theorem liftedM (hA : Awake) (os : Os) (started : os.Started) (H : Type) (enc : TypeId × Value → H) :
    ReturnsInHanded {} Try.checked os 8 .any (Rows.reduceMinimalSpec.pre6 enc Try.prog Try.f8 Rows.reduceMinimalRow.domain false) (Rows.reduceMinimalSpec.post enc Try.prog Try.f8 false true false false) := by
  refine returnsInHanded_of_change (C := Try.checked) own started (by kernel_rfl) Try.func8
    (ChangeSpec.witness6 (enc := enc) (C := Try.checked) false ⟨#[], #[.agg #[.slice none 0 0, .slice none 0 0, .int .u64 0, .int .u8 0], .int .i64 0, .int .i64 0], []⟩ 8 (by kernel_rfl) (by kernel_rfl) (by kernel_rfl) (by kernel_rfl)) ?_
  intro W base args ds gs before hval0 hW hcnd hsz
  have hval : ∀ (j : Nat) t v, Try.f8.params[j]? = some t → args[j]? = some v → Value.okWide Try.prog W .any base t v := hval0
  have hW' := hW
  obtain ⟨p, q, hA0, hV, rfl, hfz, hnd⟩ := hW
  have hT : DataW.TrodAll enc Try.prog W 0 (fun _ => true) true Try.f8.params.toList args.toList ds p := hA0
  rw [Try.params8] at hT hval
  obtain ⟨v0, v1, v2, d0, d1, d2, p0, p1, p2, rfl, rfl, rfl, h0, h1, h2⟩ := trodAll_three hT
  obtain ⟨rfl, rfl⟩ := trodVars_none hV
  obtain ⟨z, rfl, rfl, rfl, wz⟩ := open_int Try.underlying3 (hval 1 3 v1 rfl rfl) h1
  obtain ⟨st, rfl, rfl, rfl, ws⟩ := open_int Try.underlying3 (hval 2 3 v2 rfl rfl) h2
  clear hA0 hval0
  simp only [List.append_nil] at hW'
  obtain ⟨sn, sb, o, rfl, hO⟩ := orc_arg (hval 0 48 v0 rfl rfl) h0
  have hlt0 : ∀ x ∈ p0, x.block < W.heap.size := fun x hx => hW'.lt x (by simp [hx])
  refine (lawAllM hO hA).mono fun e W' ⟨he, hB⟩ => ?_
  subst he
  exact ⟨_, rfl, post_of_below (pa := p0) (pv := []) hW' (fun _ _ _ => trodAll_cons_mk (shut_bool Try.underlying4 _) trodAll_mk0)
    (fun sp hsp => by
      have h := trodAll_mk3 (WideElems.Trod_stays laidOut (by kernel_rfl) (of_decide_eq_true (by kernel_rfl)) h0 (fun x hx => hB.same (hlt0 x hx)) (fun x hx => hsp x (by simp [hx])))
        (shut_int (P := Try.prog) (w := W') (base := 0) (spare := sp) (held := true) (enc := enc) Try.underlying3 wz)
        (shut_int (P := Try.prog) (w := W') (base := 0) (spare := sp) (held := true) (enc := enc) Try.underlying3 ws)
      simp only [List.append_nil] at h
      exact h)
    (fun _ _ => rfl) (by simp) hB
    (ok_one (by kernel_rfl) rfl (okWide_bool_mk Try.underlying4 _))⟩

theorem saidM (hA : Awake) : Rows.ReduceMinimalSaid :=
  OpenClaim.holds_of_wide 8 Try.f8 rfl rfl rfl rfl rfl rfl rfl ⟨rfl, rfl, rfl, rfl, rfl⟩ rfl rfl rfl rfl rfl (by kernel_rfl) Try.func8 (by kernel_rfl)
    (of_decide_eq_true (by kernel_rfl)) (by unfold Func.isWrapper; first | (rw [if_pos (by decide +kernel)]; kernel_rfl) | (rw [if_neg (by decide +kernel)]; exact ⟨rfl, rfl⟩))
    (fun os started H enc _ => liftedM hA os started H enc)
end Go.Proofs.Ytmkapmbmgpnjaaa.Se

