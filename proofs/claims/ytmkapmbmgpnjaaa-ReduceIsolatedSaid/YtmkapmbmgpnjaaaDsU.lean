import Derived.Test.YtmkapmbmgpnjaaaDsM
import Derived.Test.YtmkapmbmgpnjaaaDsS
set_option maxRecDepth 100000
set_option linter.unusedSimpArgs false
set_option linter.unusedVariables false
namespace Go.Proofs.Ytmkapmbmgpnjaaa.Se
open Go Go.Ms Go.Pg Go.Bi Go.Se Go.ChangeShapes Go.WideShapes Go.ChangeAt Go.RowKit Go.Deep Go.Proofs.Ytmkapmbmgpnjaaa.Bi

/-! The law ReduceIsolated. -/

def Awake : Prop := ∀ w : World, Calls Try.prog 41 #[] w fun e w' => e = .returned (.bool true) ∧ Below w.heap.size w w'
def YesI (w : World) (args : Array Value) : Prop := Calls Try.prog 7 args w fun e w' => e = .returned (.bool true) ∧ Below w.heap.size w w'
theorem o_cells {w : World} {B : Nat} {sn sb : Value} {o : Orc} (h : w.heap[B]? = some (boxO sn sb o)) : w.cell? ⟨B, 0, none⟩ = some sn ∧ w.cell? ⟨B, 1, none⟩ = some sb ∧ w.cell? ⟨B, 2, none⟩ = some (.int .u64 (o.salt : Int)) ∧ w.cell? ⟨B, 3, none⟩ = some (.int .u8 (o.loose : Int)) :=
  ⟨cell_of h 0, cell_of h 1, cell_of h 2, cell_of h 3⟩
set_option maxHeartbeats 4000000 in
theorem allNone {w : World} {z : Int} (hz : z < 0) : Calls Try.prog 32 #[.int .i64 z] w fun e w' => e = .returned (.slice none 0 0) ∧ Below w.heap.size w w' := by
  have t0 : decide (0 < z) = false := decide_eq_false (by omega)
  have t1 : ¬ 0 < z := by omega
  go_enter Try.func32, Try.ntmps32
  go_wp2_with fail
  go_loopw [3, 4] (fun v i wr => v = .slice none 0 0 ∧ i = .int .i64 0 ∧ wr = w) (fun _ i _ => 0)
  case atStart => exact ⟨rfl, rfl, rfl⟩
  case round =>
    obtain ⟨rfl, rfl, rfl⟩ := hrel
    go_wp2_with fail
    go_ret
    exact ⟨rfl, Below.refl _ _⟩
theorem allRefZ {w : World} {z : Int} {n : Nat} (hn : n ≤ 256) (h : max z 0 = (n : Int)) :
    Calls Try.prog 32 #[.int .i64 z] w fun e w' => ∃ v, e = .returned v ∧ Below w.heap.size w w' ∧ Go.Il.Own 3 .i64 w.heap.size w' v ((List.range n).map Int.ofNat) := by
  by_cases hz : z < 0
  · refine (allNone hz).mono ?_
    rintro e w' ⟨rfl, hB⟩
    obtain rfl : n = 0 := by omega
    exact ⟨_, rfl, hB, Go.Il.Own.nil _ _ _ _⟩
  · obtain rfl : z = (n : Int) := by omega
    exact allRef (by omega)

set_option maxHeartbeats 8000000 in
theorem lawLong {w : World} {sn sb : Value} {o : Orc} {z : Int} (hz : 8 < z) (hA : Awake) : YesI w #[orcV sn sb o, .int .i64 z] := by
  unfold YesI
  unfold Awake at hA
  have t1 : decide ((8 : Int) < z) = true := decide_eq_true hz
  have hB0 := (Below.refl w.heap.size w).alloc (Nat.le_refl _) (boxO sn sb o)
  have HB0 := hide hB0
  clear hB0 hz
  go_enter Try.func7, Try.ntmps7
  go_wp2_with fail
  (with_reducible refine (hA _).mono ?_)
  rintro e w' ⟨rfl, hB⟩
  have HB2 := hide (HB0.out.trans (hB.mono HB0.out.size))
  clear hB
  go_wp2_with fail
  go_ret
  exact ⟨rfl, HB2.out⟩
set_option maxHeartbeats 8000000 in
theorem lawGreat {w : World} {sn sb : Value} {o : Orc} {z : Int} (hz : z ≤ 8) (ho : OrcAt w sn sb o) (hg : great o = true) (hA : Awake) : YesI w #[orcV sn sb o, .int .i64 z] := by
  unfold YesI
  unfold Awake at hA
  have t1 : decide ((8 : Int) < z) = false := decide_eq_false (by omega)
  have hB0 := (Below.refl w.heap.size w).alloc (Nat.le_refl _) (boxO sn sb o)
  have HB0 := hide hB0
  have HG := hide (greatRef (ho.old hB0))
  rw [hg] at HG
  obtain ⟨x0, x1, x2, x3⟩ := o_cells (new_block w (boxO sn sb o))
  clear hB0 ho hg hz
  go_enter Try.func7, Try.ntmps7
  go_wp2_with fail
  (with_reducible refine HG.out.mono ?_)
  rintro e w1 ⟨rfl, hB1⟩
  have HB1 := hide (HB0.out.trans (hB1.mono HB0.out.size))
  clear hB1
  go_wp2_with fail
  (with_reducible refine (hA _).mono ?_)
  rintro e w' ⟨rfl, hB⟩
  have HB2 := hide (HB1.out.trans (hB.mono HB1.out.size))
  clear hB
  go_wp2_with fail
  go_ret
  exact ⟨rfl, HB2.out⟩
end Go.Proofs.Ytmkapmbmgpnjaaa.Se

set_option maxRecDepth 100000
set_option linter.unusedSimpArgs false
set_option linter.unusedVariables false
namespace Go.Proofs.Ytmkapmbmgpnjaaa.Se
open Go Go.Ms Go.Pg Go.Bi Go.Se Go.ChangeShapes Go.WideShapes Go.ChangeAt Go.RowKit Go.Deep Go.Proofs.Ytmkapmbmgpnjaaa.Bi

theorem ints_none (w : World) : IntsW w (.slice none 0 0) [] := ⟨none, 0, rfl, by decide, fun i hi => absurd hi (Nat.not_lt_zero i)⟩
theorem plus_length : ∀ (n : Nat) (a b : List Int), a.length + b.length ≤ n → (plus a b).length ≤ a.length + b.length
  | n, [], b, _ => by simp [plus_none]
  | n, x :: xs, [], _ => by simp [plus_nil]
  | 0, x :: xs, y :: ys, h => absurd h (by simp)
  | n + 1, x :: xs, y :: ys, h => by
    simp only [List.length_cons] at h
    rw [plus_cons]
    split
    · have := plus_length n xs ys (by omega)
      simp only [List.length_cons]
      omega
    split
    · have := plus_length n xs (y :: ys) (by simp only [List.length_cons]; omega)
      simp only [List.length_cons] at *
      omega
    · have := plus_length n (x :: xs) ys (by simp only [List.length_cons]; omega)
      simp only [List.length_cons] at *
      omega

set_option maxHeartbeats 16000000 in
theorem lawMain {w : World} {sn sb : Value} {o : Orc} {z : Int} (hz : z ≤ 8) (ho : OrcAt w sn sb o) (hg : great o = false) (hA : Awake) : YesI w #[orcV sn sb o, .int .i64 z] := by
  unfold YesI
  unfold Awake at hA
  obtain ⟨N, hN⟩ : ∃ N : Nat, max z 0 = (N : Int) := ⟨(max z 0).toNat, by omega⟩
  have HNZ := hide hN
  have HN8 : Hid (N ≤ 256) := hide (by omega)
  have HN9 : Hid (N ≤ 8) := hide (by omega)
  have HAW := hide hA
  have HSM := hide (small_of hg)
  have t1 : decide ((8 : Int) < z) = false := decide_eq_false (by omega)
  have hB0 := (Below.refl w.heap.size w).alloc (Nat.le_refl _) (boxO sn sb o)
  have HB0 := hide hB0
  have HO0 := hide (ho.old hB0)
  have HG := hide (greatRef HO0.out)
  rw [hg] at HG
  have HX0 := hide (new_block w (boxO sn sb o))
  have HZ := hide hz
  obtain ⟨x0, x1, x2, x3⟩ := o_cells HX0.out
  clear hB0 ho hg hz hN hA
  go_enter Try.func7, Try.ntmps7
  go_wp2_with fail
  (with_reducible refine HG.out.mono ?_)
  rintro e w1 ⟨rfl, hB1⟩
  have HB1 := hide (HB0.out.trans (hB1.mono HB0.out.size))
  have HO1 := hide (HO0.out.old hB1)
  have HX1 := hide ((hB1.block _ (block_lt HX0.out)).trans HX0.out)
  clear hB1 x0 x1 x2 x3 HG HO0 HX0
  obtain ⟨x0, x1, x2, x3⟩ := o_cells HX1.out
  have HAS : Hid (Asker 2 z 0 (diff N)) := hide fun W an l hv hl hwf => askDiff (by have := HZ.out; omega) HNZ.out hv hl hwf
  have HLF := hide (diff_leaf (o := ora o) HN8.out [])
  have HNE : Hid (leaf (ora o) (diff N) [] ≠ .err 0) := hide (by
    rcases HLF.out with ⟨_, _, b, e, _⟩ | ⟨_, e⟩ <;> rw [e] <;> intro q <;> cases q)
  go_wp2_with fail
  (with_reducible refine (searchedRef HO1.out HSM.out HAS.out (Nat.le_trans (trace_few HN9.out) (by decide)) HNE.out).mono ?_)
  rintro e w2 ⟨hfd, hB2⟩
  have HB2 := hide (HB1.out.trans (hB2.mono HB1.out.size))
  have HO2 := hide (HO1.out.old hB2)
  have HX2 := hide ((hB2.block _ (block_lt HX1.out)).trans HX1.out)
  have HWW := hide hB2.size
  clear hB2 x0 x1 x2 x3 HB1 HO1 HX1 HAS HNE
  rcases HLF.out with ⟨ho1, ho2, b, hlf, hfin⟩ | ⟨hno, hlf⟩
  · rw [hlf] at hfd
    obtain ⟨kv, pv, av, rfl, hk, hp, hgr⟩ := hfd
    have HFL := hide (final_law HN8.out hfin)
    have HS1 : Hid (say o [] = 1) := hide (by unfold ora at ho1; rw [← nil_upTo] at ho1; omega)
    have HS2 : Hid (say o ((List.range N).map Int.ofNat) = 2) := hide (by rw [all_upTo HN8.out]; unfold ora at ho2; omega)
    obtain ⟨oav, cav, rfl⟩ := grid_form hgr
    obtain ⟨F, hF⟩ : ∃ F, F = upTo (memQ b.fail) 256 := ⟨_, rfl⟩
    obtain ⟨Pa, hPa⟩ : ∃ Pa, Pa = upTo (memQ b.pass) 256 := ⟨_, rfl⟩
    rw [← hF] at hk HFL
    rw [← hPa] at hp HFL
    have HFN : Hid (F.length ≤ 256) := hide (by rw [hF]; unfold upTo; rw [List.length_map]; exact Nat.le_trans (List.length_filter_le _ _) (by simp))
    have HPN : Hid (Pa.length ≤ 256) := hide (by rw [hPa]; unfold upTo; rw [List.length_map]; exact Nat.le_trans (List.length_filter_le _ _) (by simp))
    obtain ⟨ok, ck, rfl⟩ := Go.Il.Own.form hk
    obtain ⟨op, cp, rfl⟩ := Go.Il.Own.form hp
    have hA3 := (Below.refl w2.heap.size w2).alloc (Nat.le_refl _) (boxQ true nilV (.slice ok F.length ck) (.slice op Pa.length cp))
    have HQ3 := hide (new_block w2 (boxQ true nilV (.slice ok F.length ck) (.slice op Pa.length cp)))
    have HK3 := hide (own_up hk hA3)
    have HP3 := hide (own_up hp hA3)
    have HX3 := hide ((hA3.block _ (block_lt HX2.out)).trans HX2.out)
    have HO3 := hide (HO2.out.old hA3)
    have HB3 := hide (HB2.out.trans (hA3.mono HB2.out.size))
    have HQZ : Hid (w.heap.size < w2.heap.size) := hide (block_lt HX2.out)
    clear hk hp hgr hA3 hF hPa hfin hlf ho1 ho2 HX2 HO2 HB2
    go_upto_region 4 with (fail)
    change Code.wp _ _ _ _ (w2.alloc (boxQ true nilV (.slice ok F.length ck) (.slice op Pa.length cp)))
    generalize w2.alloc (boxQ true nilV (.slice ok F.length ck) (.slice op Pa.length cp)) = W3 at *
    generalize w2.heap.size = qb at *
    have d1 : (((say o [] : Nat) : Int) != 1) = false := by rw [HS1.out]; rfl
    have d2 : (((say o ((List.range N).map Int.ofNat) : Nat) : Int) != 2) = false := by rw [HS2.out]; rfl
    refine wp_region_held_drew (S := fun w' => Hid (w'.heap[w.heap.size]? = some (boxO sn sb o))) (by kernel_rfl) HX3 (fun hHeld => ?_)
    have HBd := hide (Below.drew (Below.refl W3.heap.size W3))
    refine takeAt (i := 0) (d := some 25) (v := orcV sn sb o) rfl rfl (by kernel_rfl) (by kernel_rfl) (by kernel_rfl) (fun _ _ _ h => h) (Or.inl ⟨by rfl, fun w hS => by obtain ⟨x0, x1, x2, x3⟩ := o_cells hS.out; go_simp⟩) hHeld ?_
    simp only [Act.put, List.setIfInBounds_toArray, List.set_cons_zero, List.set_cons_succ]
    refine wpAnyH_ready (rs := [1]) (by kernel_rfl) (by simp) ?_
    refine AllReadyH.cons rfl (fun K0 hK => ?_) AllReadyH.nil
    go_simp
    go_at_call 31
    (with_reducible refine (sayRef (HO3.out.old HBd.out) (ints_none _) HSM.out).mono ?_)
    rintro e v1 ⟨rfl, hBn⟩
    have HBv1 := hide (HBd.out.trans (hBn.mono HBd.out.size))
    have HXv1 : Hid (v1.heap[w.heap.size]? = some (boxO sn sb o)) := hide ((HBv1.out.block _ (block_lt HX3.out)).trans HX3.out)
    clear hBn
    refine hK.out _ _ HXv1 (fun hHeld => ?_)
    clear hK K0
    try simp only [Act.put, List.setIfInBounds_toArray, List.set_cons_zero, List.set_cons_succ]
    refine takeAt (i := 2) (d := some 27) (v := .bool false) rfl rfl (by kernel_rfl) (by kernel_rfl) (by kernel_rfl) (fun _ _ _ h => h) (Or.inl ⟨by rfl, fun w hS => by go_simp⟩) hHeld ?_
    simp only [Act.put, List.setIfInBounds_toArray, List.set_cons_zero, List.set_cons_succ]
    refine takeAt (i := 3) (d := some 28) (v := .bool false) rfl rfl (by kernel_rfl) (by kernel_rfl) (by kernel_rfl) (fun _ _ _ h => h) (Or.inl ⟨by rfl, fun w hS => by go_simp⟩) hHeld ?_
    simp only [Act.put, List.setIfInBounds_toArray, List.set_cons_zero, List.set_cons_succ]
    refine takeAt (i := 4) (d := some 29) (v := orcV sn sb o) rfl rfl (by kernel_rfl) (by kernel_rfl) (by kernel_rfl) (fun _ _ _ h => h) (Or.inl ⟨by rfl, fun w hS => by obtain ⟨x0, x1, x2, x3⟩ := o_cells hS.out; go_simp⟩) hHeld ?_
    simp only [Act.put, List.setIfInBounds_toArray, List.set_cons_zero, List.set_cons_succ]
    refine takeAt (i := 5) (d := some 30) (v := .int .i64 z) rfl rfl (by kernel_rfl) (by kernel_rfl) (by kernel_rfl) (fun _ _ _ h => h) (Or.inl ⟨by rfl, fun w hS => by go_simp⟩) hHeld ?_
    simp only [Act.put, List.setIfInBounds_toArray, List.set_cons_zero, List.set_cons_succ]
    refine wpAnyH_ready (rs := [6]) (by kernel_rfl) (by simp) ?_
    refine AllReadyH.cons rfl (fun K0 hK => ?_) AllReadyH.nil
    go_simp
    go_at_call 32
    (with_reducible refine (allRefZ HN8.out HNZ.out).mono ?_)
    rintro e v2 ⟨va, rfl, hBn, hO2⟩
    obtain ⟨oal, cal, rfl⟩ := Go.Il.Own.form hO2
    have hIA := ints_own hO2 (by rw [List.length_map, List.length_range]; have := HN8.out; omega)
    rw [List.length_map, List.length_range] at hIA
    have HIA := hide hIA
    simp only [List.length_map, List.length_range]
    clear hIA
    have HBv2 := hide (HBv1.out.trans (hBn.mono HBv1.out.size))
    have HXv2 : Hid (v2.heap[w.heap.size]? = some (boxO sn sb o)) := hide ((HBv2.out.block _ (block_lt HX3.out)).trans HX3.out)
    clear hBn hO2
    refine hK.out _ _ HXv2 (fun hHeld => ?_)
    clear hK K0
    try simp only [Act.put, List.setIfInBounds_toArray, List.set_cons_zero, List.set_cons_succ]
    refine wpAnyH_ready (rs := [7]) (by kernel_rfl) (by simp) ?_
    refine AllReadyH.cons rfl (fun K0 hK => ?_) AllReadyH.nil
    go_simp
    go_at_call 31
    (with_reducible refine (sayRef (HO3.out.old HBv2.out) HIA.out HSM.out).mono ?_)
    rintro e v3 ⟨rfl, hBn⟩
    have HBv3 := hide (HBv2.out.trans (hBn.mono HBv2.out.size))
    have HXv3 : Hid (v3.heap[w.heap.size]? = some (boxO sn sb o)) := hide ((HBv3.out.block _ (block_lt HX3.out)).trans HX3.out)
    clear hBn
    refine hK.out _ _ HXv3 (fun hHeld => ?_)
    clear hK K0
    try simp only [Act.put, List.setIfInBounds_toArray, List.set_cons_zero, List.set_cons_succ]
    refine takeAt (i := 8) (d := some 33) (v := .bool false) rfl rfl (by kernel_rfl) (by kernel_rfl) (by kernel_rfl) (fun _ _ _ h => h) (Or.inl ⟨by rfl, fun w hS => by go_simp⟩) hHeld ?_
    simp only [Act.put, List.setIfInBounds_toArray, List.set_cons_zero, List.set_cons_succ]
    refine takeAt (i := 9) (d := some 34) (v := .bool false) rfl rfl (by kernel_rfl) (by kernel_rfl) (by kernel_rfl) (fun _ _ _ h => h) (Or.inl ⟨by rfl, fun w hS => by go_simp⟩) hHeld ?_
    simp only [Act.put, List.setIfInBounds_toArray, List.set_cons_zero, List.set_cons_succ]
    refine wpAnyH_done (by kernel_rfl) ?_ _
    have HBWa := hide (HB3.out.trans (HBv3.out.mono HB3.out.size))
    have HQa := hide ((HBv3.out.block _ (block_lt HQ3.out)).trans HQ3.out)
    have HIKa := hide (ints_below (ints_own HK3.out (by have := HFN.out; omega)) HBv3.out)
    have HIPa := hide (ints_below (ints_own HP3.out (by have := HPN.out; omega)) HBv3.out)
    have HOa := hide (HO3.out.old HBv3.out)
    have HXa := HXv3
    clear HBv1 HBv2 HBv3 HXv1 HXv2 HXv3 HBd d1 d2 hHeld HB3 HQ3 HK3 HP3 HO3 HX3
    obtain ⟨q0, q1, q2, q3⟩ := q_cells HQa.out
    obtain ⟨x0, x1, x2, x3⟩ := o_cells HXa.out
    have hmx : (if z < 0 then (0 : Int) else z) = (N : Int) := by have := HNZ.out; split <;> omega
    have d1 : (((say o Pa : Nat) : Int) != 1) = false := by rw [HFL.out.2.2.1]; rfl
    have d2 : (((say o F : Nat) : Int) != 2) = false := by rw [HFL.out.2.2.2.1]; rfl
    go_wp2_with fail
    (with_reducible refine (setRef HIKa.out).mono ?_)
    rintro e v4 ⟨r, rfl, hr, dd, rfl⟩
    obtain rfl : r = true := hr.2 HFL.out.1
    have hB4 : Below v3.heap.size v3 (v3.drewN dd) := belowN _ _ _
    have HBWb := hide (HBWa.out.trans (hB4.mono HBWa.out.size))
    have HQb := hide ((hB4.block _ (block_lt HQa.out)).trans HQa.out)
    have HXb := hide ((hB4.block _ (block_lt HXa.out)).trans HXa.out)
    have HIKb := hide (ints_below HIKa.out hB4)
    have HIPb := hide (ints_below HIPa.out hB4)
    have HOb := hide (HOa.out.old hB4)
    clear HBWa HQa HXa HIKa HIPa HOa q0 q1 q2 q3 x0 x1 x2 x3
    clear hB4 hr
    generalize v3.drewN dd = v4 at *
    obtain ⟨q0, q1, q2, q3⟩ := q_cells HQb.out
    obtain ⟨x0, x1, x2, x3⟩ := o_cells HXb.out
    go_wp2_with fail
    (with_reducible refine (minusRef HIPb.out HIKb.out (by have := HPN.out; omega)).mono ?_)
    rintro e v5 ⟨mv, rfl, hmo, hB5⟩
    rw [HFL.out.2.1] at hmo
    obtain ⟨om, cm, rfl⟩ := Go.Il.Own.form hmo
    rw [List.length_nil] at hmo ⊢
    have HBWc := hide (HBWb.out.trans (hB5.mono HBWb.out.size))
    have HQc := hide ((hB5.block _ (block_lt HQb.out)).trans HQb.out)
    have HXc := hide ((hB5.block _ (block_lt HXb.out)).trans HXb.out)
    have HIKc := hide (ints_below HIKb.out hB5)
    have HIPc := hide (ints_below HIPb.out hB5)
    have HOc := hide (HOb.out.old hB5)
    clear HBWb HQb HXb HIKb HIPb HOb q0 q1 q2 q3 x0 x1 x2 x3
    clear hB5 hmo
    obtain ⟨q0, q1, q2, q3⟩ := q_cells HQc.out
    obtain ⟨x0, x1, x2, x3⟩ := o_cells HXc.out
    go_wp2_with fail
    (with_reducible refine (sayRef HOc.out HIPc.out HSM.out).mono ?_)
    rintro e v6 ⟨rfl, hB6⟩
    have HBWd := hide (HBWc.out.trans (hB6.mono HBWc.out.size))
    have HQd := hide ((hB6.block _ (block_lt HQc.out)).trans HQc.out)
    have HXd := hide ((hB6.block _ (block_lt HXc.out)).trans HXc.out)
    have HIKd := hide (ints_below HIKc.out hB6)
    have HIPd := hide (ints_below HIPc.out hB6)
    have HOd := hide (HOc.out.old hB6)
    clear HBWc HQc HXc HIKc HIPc HOc q0 q1 q2 q3 x0 x1 x2 x3
    clear hB6
    obtain ⟨q0, q1, q2, q3⟩ := q_cells HQd.out
    obtain ⟨x0, x1, x2, x3⟩ := o_cells HXd.out
    go_wp2_with fail
    (with_reducible refine (sayRef HOd.out HIKd.out HSM.out).mono ?_)
    rintro e v7 ⟨rfl, hB7⟩
    have HBWe := hide (HBWd.out.trans (hB7.mono HBWd.out.size))
    have HQe := hide ((hB7.block _ (block_lt HQd.out)).trans HQd.out)
    have HXe := hide ((hB7.block _ (block_lt HXd.out)).trans HXd.out)
    have HIKe := hide (ints_below HIKd.out hB7)
    have HIPe := hide (ints_below HIPd.out hB7)
    have HOe := hide (HOd.out.old hB7)
    clear HBWd HQd HXd HIKd HIPd HOd q0 q1 q2 q3 x0 x1 x2 x3
    clear hB7
    obtain ⟨q0, q1, q2, q3⟩ := q_cells HQe.out
    obtain ⟨x0, x1, x2, x3⟩ := o_cells HXe.out
    go_wp2_with fail
    (with_reducible refine (minusRef HIKe.out HIPe.out (by have := HFN.out; omega)).mono ?_)
    rintro e v8 ⟨dv, rfl, hdo, hB8⟩
    obtain ⟨D, hD⟩ : ∃ D, D = (between b).map Int.ofNat := ⟨_, rfl⟩
    rw [HFL.out.2.2.2.2.1, ← hD] at hdo
    have HD := hide hD
    have HDN : Hid (D.length = (between b).length) := hide (by rw [hD, List.length_map])
    have HDL : Hid (D.length ≤ 256) := hide (by rw [HDN.out]; exact between_le b)
    obtain ⟨od, cd, rfl⟩ := Go.Il.Own.form hdo
    have HBWf := hide (HBWe.out.trans (hB8.mono HBWe.out.size))
    have HQf := hide ((hB8.block _ (block_lt HQe.out)).trans HQe.out)
    have HXf := hide ((hB8.block _ (block_lt HXe.out)).trans HXe.out)
    have HIKf := hide (ints_below HIKe.out hB8)
    have HIPf := hide (ints_below HIPe.out hB8)
    have HOf := hide (HOe.out.old hB8)
    clear HBWe HQe HXe HIKe HIPe HOe q0 q1 q2 q3 x0 x1 x2 x3
    have HID := hide (ints_own hdo (by have := HDL.out; omega))
    clear hB8 hdo hD d1 d2 hmx
    obtain ⟨q0, q1, q2, q3⟩ := q_cells HQf.out
    obtain ⟨x0, x1, x2, x3⟩ := o_cells HXf.out
    go_wp2_with fail
    go_loopw [9] (fun s9 wr => ∃ i : Nat, i ≤ D.length ∧ s9 = .int .i64 (i : Int) ∧ Below v8.heap.size v8 wr) (fun s9 _ => D.length - (intOf s9).toNat)
    case atStart => exact ⟨0, Nat.zero_le _, rfl, Below.refl _ _⟩
    case round =>
      obtain ⟨i, hi, rfl, hB⟩ := hrel
      have HBv := hide hB
      have HBWg := hide (HBWf.out.trans (hB.mono HBWf.out.size))
      have HQg := hide ((hB.block _ (block_lt HQf.out)).trans HQf.out)
      have HXg := hide ((hB.block _ (block_lt HXf.out)).trans HXf.out)
      have HIKg := hide (ints_below HIKf.out hB)
      have HIPg := hide (ints_below HIPf.out hB)
      have HOg := hide (HOf.out.old hB)
      have HIDg := hide (ints_below HID.out hB)
      have hpos : 0 < D.length := by rw [HDN.out]; exact HFL.out.2.2.2.2.2.1
      have e0 : decide ((0 : Int) < (D.length : Int)) = true := decide_eq_true (by omega)
      have e01 : decide (0 < D.length) = true := decide_eq_true hpos
      clear hB q0 q1 q2 q3 x0 x1 x2 x3
      by_cases hlt : i < D.length
      · have hi1 : (i : Int) < (D.length : Int) := by omega
        by_cases hone : 1 < D.length
        · have e1 : decide ((1 : Int) < (D.length : Int)) = true := decide_eq_true (by omega)
          have e11 : decide (1 < D.length) = true := decide_eq_true hone
          have hib : i < (between b).length := by rw [← HDN.out]; exact hlt
          obtain ⟨x, hx⟩ : ∃ x, x = (between b)[i] := ⟨_, rfl⟩
          have HSAY := hide (HFL.out.2.2.2.2.2.2 (by rw [← HDN.out]; omega) x (by rw [hx]; exact List.getElem_mem hib))
          have d3 : (((say o (plus Pa [(x : Int)]) : Nat) : Int) != 3) = false := by rw [HSAY.out.1]; rfl
          have d4 : (((say o (minus F [(x : Int)]) : Nat) : Int) != 3) = false := by rw [HSAY.out.2]; rfl
          have hDi : D[i] = (x : Int) := by rw [hx]; have := HD.out; subst this; simp
          obtain ⟨od', cd', e2, -, hcell⟩ := HIDg.out
          injection e2 with e2 e3 e4
          subst e2 e4
          obtain ⟨bb, oo, rfl, fx⟩ := hcell i hlt
          rw [hDi] at fx
          have HLT := hide hlt
          have hwi : IntKind.i64.wrap ((i : Int) + 1) = (i : Int) + 1 := wrap_upW hlt (by have := HDL.out; omega)
          have hA5 := (Below.refl wr.heap.size wr).alloc (Nat.le_refl _) (.cells #[.int .i64 (x : Int)] 3)
          have HBh := hide hA5
          have HNh := hide (new_block wr (.cells #[.int .i64 (x : Int)] 3))
          have HXh := hide ((hA5.block _ (block_lt HXg.out)).trans HXg.out)
          have HQh := hide ((hA5.block _ (block_lt HQg.out)).trans HQg.out)
          clear hx hDi hcell e3 hlt hA5 hib hone hpos
          go_upto_region 13 with (fail)
          change Code.wp _ _ _ _ (wr.alloc (.cells #[.int .i64 (x : Int)] 3))
          generalize wr.alloc (.cells #[.int .i64 (x : Int)] 3) = W5 at *
          refine wp_region_held_drew (S := fun w' => Hid (w'.heap[w.heap.size]? = some (boxO sn sb o) ∧ w'.heap[qb]? = some (boxQ true nilV (.slice ok F.length ck) (.slice op Pa.length cp)))) (by kernel_rfl) (hide ⟨HXh.out, HQh.out⟩) (fun hHeld => ?_)
          have HBd := hide (HBh.out.trans (Below.drew (Below.refl W5.heap.size W5) |>.mono HBh.out.size))
          have HNd : Hid (W5.drew.heap[wr.heap.size]? = some (.cells #[.int .i64 (x : Int)] 3 (0, 0))) := HNh
          refine takeAt (i := 0) (d := some 94) (v := orcV sn sb o) rfl rfl (by kernel_rfl) (by kernel_rfl) (by kernel_rfl) (fun _ _ _ h => h) (Or.inl ⟨by rfl, fun w hS => by obtain ⟨x0, x1, x2, x3⟩ := o_cells hS.out.1; go_simp⟩) hHeld ?_
          simp only [Act.put, List.setIfInBounds_toArray, List.set_cons_zero, List.set_cons_succ]
          refine takeAt (i := 1) (d := some 95) (v := .pointer (some ⟨qb, 3, none⟩)) rfl rfl (by kernel_rfl) (by kernel_rfl) (by kernel_rfl) (fun _ _ _ h => h) (Or.inl ⟨by rfl, fun w hS => by go_simp⟩) hHeld ?_
          simp only [Act.put, List.setIfInBounds_toArray, List.set_cons_zero, List.set_cons_succ]
          refine takeAt (i := 2) (d := some 96) (v := .slice op Pa.length cp) rfl rfl (by kernel_rfl) (by kernel_rfl) (by kernel_rfl) (fun _ _ _ h => h) (Or.inl ⟨by rfl, fun w hS => by obtain ⟨q0, q1, q2, q3⟩ := q_cells hS.out.2; go_simp⟩) hHeld ?_
          simp only [Act.put, List.setIfInBounds_toArray, List.set_cons_zero, List.set_cons_succ]
          refine takeAt (i := 3) (d := some 97) (v := .slice (some ⟨wr.heap.size, 0, none⟩) 1 1) rfl rfl (by kernel_rfl) (by kernel_rfl) (by kernel_rfl) (fun _ _ _ h => h) (Or.inl ⟨by rfl, fun w hS => by go_simp⟩) hHeld ?_
          simp only [Act.put, List.setIfInBounds_toArray, List.set_cons_zero, List.set_cons_succ]
          refine wpAnyH_ready (rs := [4]) (by kernel_rfl) (by simp) ?_
          refine AllReadyH.cons rfl (fun K0 hK => ?_) AllReadyH.nil
          go_simp
          go_at_call 44
          (with_reducible refine (plusRef (ints_below HIPg.out HBd.out) (ints_own (own_built (B := 0) HNd.out (Nat.zero_le _)) (by simp)) (by have := HPN.out; omega) (by simp)).mono ?_)
          rintro e y1 ⟨rp, rfl, hop, hBn⟩
          have HIQ := hide (ints_own hop (by have := plus_length _ Pa [(x : Int)] (Nat.le_refl _); have := HPN.out; simp at *; omega))
          obtain ⟨orp, crp, rfl⟩ := Go.Il.Own.form hop
          have HBy1 := hide (HBd.out.trans (hBn.mono HBd.out.size))
          have HNy1 := hide ((hBn.block _ (block_lt HNd.out)).trans HNd.out)
          clear hBn hop
          have HHy1 : Hid (y1.heap[w.heap.size]? = some (boxO sn sb o) ∧ y1.heap[qb]? = some (boxQ true nilV (.slice ok F.length ck) (.slice op Pa.length cp))) := hide ⟨(HBy1.out.block _ (block_lt HXg.out)).trans HXg.out, (HBy1.out.block _ (block_lt HQg.out)).trans HQg.out⟩
          refine hK.out _ _ HHy1 (fun hHeld => ?_)
          clear hK K0
          try simp only [Act.put, List.setIfInBounds_toArray, List.set_cons_zero, List.set_cons_succ]
          refine wpAnyH_ready (rs := [5]) (by kernel_rfl) (by simp) ?_
          refine AllReadyH.cons rfl (fun K0 hK => ?_) AllReadyH.nil
          go_simp
          go_at_call 31
          (with_reducible refine (sayRef (HOg.out.old HBy1.out) HIQ.out HSM.out).mono ?_)
          rintro e y2 ⟨rfl, hBn⟩
          have HBy2 := hide (HBy1.out.trans (hBn.mono HBy1.out.size))
          have HNy2 := hide ((hBn.block _ (block_lt HNy1.out)).trans HNy1.out)
          clear hBn
          have HHy2 : Hid (y2.heap[w.heap.size]? = some (boxO sn sb o) ∧ y2.heap[qb]? = some (boxQ true nilV (.slice ok F.length ck) (.slice op Pa.length cp))) := hide ⟨(HBy2.out.block _ (block_lt HXg.out)).trans HXg.out, (HBy2.out.block _ (block_lt HQg.out)).trans HQg.out⟩
          refine hK.out _ _ HHy2 (fun hHeld => ?_)
          clear hK K0
          try simp only [Act.put, List.setIfInBounds_toArray, List.set_cons_zero, List.set_cons_succ]
          refine takeAt (i := 6) (d := some 100) (v := .bool false) rfl rfl (by kernel_rfl) (by kernel_rfl) (by kernel_rfl) (fun _ _ _ h => h) (Or.inl ⟨by rfl, fun w hS => by go_simp⟩) hHeld ?_
          simp only [Act.put, List.setIfInBounds_toArray, List.set_cons_zero, List.set_cons_succ]
          refine takeAt (i := 7) (d := some 101) (v := .bool false) rfl rfl (by kernel_rfl) (by kernel_rfl) (by kernel_rfl) (fun _ _ _ h => h) (Or.inl ⟨by rfl, fun w hS => by go_simp⟩) hHeld ?_
          simp only [Act.put, List.setIfInBounds_toArray, List.set_cons_zero, List.set_cons_succ]
          refine takeAt (i := 8) (d := some 102) (v := orcV sn sb o) rfl rfl (by kernel_rfl) (by kernel_rfl) (by kernel_rfl) (fun _ _ _ h => h) (Or.inl ⟨by rfl, fun w hS => by obtain ⟨x0, x1, x2, x3⟩ := o_cells hS.out.1; go_simp⟩) hHeld ?_
          simp only [Act.put, List.setIfInBounds_toArray, List.set_cons_zero, List.set_cons_succ]
          refine takeAt (i := 9) (d := some 103) (v := .pointer (some ⟨qb, 2, none⟩)) rfl rfl (by kernel_rfl) (by kernel_rfl) (by kernel_rfl) (fun _ _ _ h => h) (Or.inl ⟨by rfl, fun w hS => by go_simp⟩) hHeld ?_
          simp only [Act.put, List.setIfInBounds_toArray, List.set_cons_zero, List.set_cons_succ]
          refine takeAt (i := 10) (d := some 104) (v := .slice ok F.length ck) rfl rfl (by kernel_rfl) (by kernel_rfl) (by kernel_rfl) (fun _ _ _ h => h) (Or.inl ⟨by rfl, fun w hS => by obtain ⟨q0, q1, q2, q3⟩ := q_cells hS.out.2; go_simp⟩) hHeld ?_
          simp only [Act.put, List.setIfInBounds_toArray, List.set_cons_zero, List.set_cons_succ]
          refine takeAt (i := 11) (d := some 105) (v := .slice (some ⟨wr.heap.size, 0, none⟩) 1 1) rfl rfl (by kernel_rfl) (by kernel_rfl) (by kernel_rfl) (fun _ _ _ h => h) (Or.inl ⟨by rfl, fun w hS => by go_simp⟩) hHeld ?_
          simp only [Act.put, List.setIfInBounds_toArray, List.set_cons_zero, List.set_cons_succ]
          refine wpAnyH_ready (rs := [12]) (by kernel_rfl) (by simp) ?_
          refine AllReadyH.cons rfl (fun K0 hK => ?_) AllReadyH.nil
          go_simp
          go_at_call 43
          (with_reducible refine (minusRef (ints_below HIKg.out HBy2.out) (ints_own (own_built (B := 0) HNy2.out (Nat.zero_le _)) (by simp)) (by have := HFN.out; omega)).mono ?_)
          rintro e y3 ⟨rm, rfl, hom, hBn⟩
          have HIM := hide (ints_own hom (by have := minus_length F [(x : Int)]; have := HFN.out; omega))
          obtain ⟨orm, crm, rfl⟩ := Go.Il.Own.form hom
          have HBy3 := hide (HBy2.out.trans (hBn.mono HBy2.out.size))
          clear hBn hom
          have HHy3 : Hid (y3.heap[w.heap.size]? = some (boxO sn sb o) ∧ y3.heap[qb]? = some (boxQ true nilV (.slice ok F.length ck) (.slice op Pa.length cp))) := hide ⟨(HBy3.out.block _ (block_lt HXg.out)).trans HXg.out, (HBy3.out.block _ (block_lt HQg.out)).trans HQg.out⟩
          refine hK.out _ _ HHy3 (fun hHeld => ?_)
          clear hK K0
          try simp only [Act.put, List.setIfInBounds_toArray, List.set_cons_zero, List.set_cons_succ]
          refine wpAnyH_ready (rs := [13]) (by kernel_rfl) (by simp) ?_
          refine AllReadyH.cons rfl (fun K0 hK => ?_) AllReadyH.nil
          go_simp
          go_at_call 31
          (with_reducible refine (sayRef (HOg.out.old HBy3.out) HIM.out HSM.out).mono ?_)
          rintro e y4 ⟨rfl, hBn⟩
          have HBy4 := hide (HBy3.out.trans (hBn.mono HBy3.out.size))
          clear hBn
          have HHy4 : Hid (y4.heap[w.heap.size]? = some (boxO sn sb o) ∧ y4.heap[qb]? = some (boxQ true nilV (.slice ok F.length ck) (.slice op Pa.length cp))) := hide ⟨(HBy4.out.block _ (block_lt HXg.out)).trans HXg.out, (HBy4.out.block _ (block_lt HQg.out)).trans HQg.out⟩
          refine hK.out _ _ HHy4 (fun hHeld => ?_)
          clear hK K0
          try simp only [Act.put, List.setIfInBounds_toArray, List.set_cons_zero, List.set_cons_succ]
          refine takeAt (i := 14) (d := some 108) (v := .bool false) rfl rfl (by kernel_rfl) (by kernel_rfl) (by kernel_rfl) (fun _ _ _ h => h) (Or.inl ⟨by rfl, fun w hS => by go_simp⟩) hHeld ?_
          simp only [Act.put, List.setIfInBounds_toArray, List.set_cons_zero, List.set_cons_succ]
          refine takeAt (i := 15) (d := some 109) (v := .bool false) rfl rfl (by kernel_rfl) (by kernel_rfl) (by kernel_rfl) (fun _ _ _ h => h) (Or.inl ⟨by rfl, fun w hS => by go_simp⟩) hHeld ?_
          simp only [Act.put, List.setIfInBounds_toArray, List.set_cons_zero, List.set_cons_succ]
          refine wpAnyH_done (by kernel_rfl) ?_ _
          go_wp2_with fail
          refine ⟨⟨i + 1, by have := HLT.out; omega, by go_num, HBv.out.trans (HBy4.out.mono HBv.out.size)⟩, by simp [intOf]; have := HLT.out; omega⟩
        · have e1 : decide ((1 : Int) < (D.length : Int)) = false := decide_eq_false (by omega)
          have e11 : decide (1 < D.length) = false := decide_eq_false hone
          clear hone hlt
          go_wp2_with fail
          (with_reducible refine (HAW.out _).mono ?_)
          rintro e w9 ⟨rfl, hB9⟩
          have HB9 := hide (HBWg.out.trans (hB9.mono HBWg.out.size))
          clear hB9
          go_wp2_with fail
          go_ret
          exact ⟨rfl, HB9.out⟩
      · have hi1 : ¬ (i : Int) < (D.length : Int) := by omega
        clear hlt
        go_wp2_with fail
        (with_reducible refine (HAW.out _).mono ?_)
        rintro e w9 ⟨rfl, hB9⟩
        have HB9 := hide (HBWg.out.trans (hB9.mono HBWg.out.size))
        clear hB9
        go_wp2_with fail
        go_ret
        exact ⟨rfl, HB9.out⟩
  · rw [hlf] at hfd
    obtain ⟨av, rfl, hgr⟩ := hfd
    obtain ⟨oav, cav, rfl⟩ := grid_form hgr
    have hA3 := (Below.refl w2.heap.size w2).alloc (Nat.le_refl _) (boxQ false nilV nilV nilV)
    have HX3 := hide ((hA3.block _ (block_lt HX2.out)).trans HX2.out)
    have HO3 := hide (HO2.out.old hA3)
    have HB3 := hide (HB2.out.trans (hA3.mono HB2.out.size))
    have HNO : Hid (¬ (say o [] = 1 ∧ say o ((List.range N).map Int.ofNat) = 2)) := hide fun q => hno ⟨by unfold ora; rw [← nil_upTo, q.1]; rfl, by unfold ora; rw [← all_upTo HN8.out, q.2]; rfl⟩
    clear hgr hA3 hlf hno HX2 HO2 HB2
    go_upto_region 4 with (fail)
    change Code.wp _ _ _ _ (w2.alloc (boxQ false nilV nilV nilV))
    generalize w2.alloc (boxQ false nilV nilV nilV) = W3 at *
    by_cases hs1 : say o [] = 1
    · have hs2 : say o ((List.range N).map Int.ofNat) ≠ 2 := fun q => HNO.out ⟨hs1, q⟩
      have d1 : (((say o [] : Nat) : Int) != 1) = false := by rw [hs1]; rfl
      have d2 : (((say o ((List.range N).map Int.ofNat) : Nat) : Int) != 2) = true := bne_iff_ne.2 (by omega)
      clear hs1 hs2
      refine wp_region_held_drew (S := fun w' => Hid (w'.heap[w.heap.size]? = some (boxO sn sb o))) (by kernel_rfl) HX3 (fun hHeld => ?_)
      have HBd := hide (Below.drew (Below.refl W3.heap.size W3))
      refine takeAt (i := 0) (d := some 25) (v := orcV sn sb o) rfl rfl (by kernel_rfl) (by kernel_rfl) (by kernel_rfl) (fun _ _ _ h => h) (Or.inl ⟨by rfl, fun w hS => by obtain ⟨x0, x1, x2, x3⟩ := o_cells hS.out; go_simp⟩) hHeld ?_
      simp only [Act.put, List.setIfInBounds_toArray, List.set_cons_zero, List.set_cons_succ]
      refine wpAnyH_ready (rs := [1]) (by kernel_rfl) (by simp) ?_
      refine AllReadyH.cons rfl (fun K0 hK => ?_) AllReadyH.nil
      go_simp
      go_at_call 31
      (with_reducible refine (sayRef (HO3.out.old HBd.out) (ints_none _) HSM.out).mono ?_)
      rintro e v1 ⟨rfl, hBn⟩
      have HBv1 := hide (HBd.out.trans (hBn.mono HBd.out.size))
      have HXv1 : Hid (v1.heap[w.heap.size]? = some (boxO sn sb o)) := hide ((HBv1.out.block _ (block_lt HX3.out)).trans HX3.out)
      clear hBn
      refine hK.out _ _ HXv1 (fun hHeld => ?_)
      clear hK K0
      try simp only [Act.put, List.setIfInBounds_toArray, List.set_cons_zero, List.set_cons_succ]
      refine takeAt (i := 2) (d := some 27) (v := .bool false) rfl rfl (by kernel_rfl) (by kernel_rfl) (by kernel_rfl) (fun _ _ _ h => h) (Or.inl ⟨by rfl, fun w hS => by go_simp⟩) hHeld ?_
      simp only [Act.put, List.setIfInBounds_toArray, List.set_cons_zero, List.set_cons_succ]
      refine takeAt (i := 3) (d := some 28) (v := .bool false) rfl rfl (by kernel_rfl) (by kernel_rfl) (by kernel_rfl) (fun _ _ _ h => h) (Or.inl ⟨by rfl, fun w hS => by go_simp⟩) hHeld ?_
      simp only [Act.put, List.setIfInBounds_toArray, List.set_cons_zero, List.set_cons_succ]
      refine takeAt (i := 4) (d := some 29) (v := orcV sn sb o) rfl rfl (by kernel_rfl) (by kernel_rfl) (by kernel_rfl) (fun _ _ _ h => h) (Or.inl ⟨by rfl, fun w hS => by obtain ⟨x0, x1, x2, x3⟩ := o_cells hS.out; go_simp⟩) hHeld ?_
      simp only [Act.put, List.setIfInBounds_toArray, List.set_cons_zero, List.set_cons_succ]
      refine takeAt (i := 5) (d := some 30) (v := .int .i64 z) rfl rfl (by kernel_rfl) (by kernel_rfl) (by kernel_rfl) (fun _ _ _ h => h) (Or.inl ⟨by rfl, fun w hS => by go_simp⟩) hHeld ?_
      simp only [Act.put, List.setIfInBounds_toArray, List.set_cons_zero, List.set_cons_succ]
      refine wpAnyH_ready (rs := [6]) (by kernel_rfl) (by simp) ?_
      refine AllReadyH.cons rfl (fun K0 hK => ?_) AllReadyH.nil
      go_simp
      go_at_call 32
      (with_reducible refine (allRefZ HN8.out HNZ.out).mono ?_)
      rintro e v2 ⟨va, rfl, hBn, hO2⟩
      obtain ⟨oal, cal, rfl⟩ := Go.Il.Own.form hO2
      have hIA := ints_own hO2 (by rw [List.length_map, List.length_range]; have := HN8.out; omega)
      rw [List.length_map, List.length_range] at hIA
      have HIA := hide hIA
      simp only [List.length_map, List.length_range]
      clear hIA
      have HBv2 := hide (HBv1.out.trans (hBn.mono HBv1.out.size))
      have HXv2 : Hid (v2.heap[w.heap.size]? = some (boxO sn sb o)) := hide ((HBv2.out.block _ (block_lt HX3.out)).trans HX3.out)
      clear hBn hO2
      refine hK.out _ _ HXv2 (fun hHeld => ?_)
      clear hK K0
      try simp only [Act.put, List.setIfInBounds_toArray, List.set_cons_zero, List.set_cons_succ]
      refine wpAnyH_ready (rs := [7]) (by kernel_rfl) (by simp) ?_
      refine AllReadyH.cons rfl (fun K0 hK => ?_) AllReadyH.nil
      go_simp
      go_at_call 31
      (with_reducible refine (sayRef (HO3.out.old HBv2.out) HIA.out HSM.out).mono ?_)
      rintro e v3 ⟨rfl, hBn⟩
      have HBv3 := hide (HBv2.out.trans (hBn.mono HBv2.out.size))
      have HXv3 : Hid (v3.heap[w.heap.size]? = some (boxO sn sb o)) := hide ((HBv3.out.block _ (block_lt HX3.out)).trans HX3.out)
      clear hBn
      refine hK.out _ _ HXv3 (fun hHeld => ?_)
      clear hK K0
      try simp only [Act.put, List.setIfInBounds_toArray, List.set_cons_zero, List.set_cons_succ]
      refine takeAt (i := 8) (d := some 33) (v := .bool true) rfl rfl (by kernel_rfl) (by kernel_rfl) (by kernel_rfl) (fun _ _ _ h => h) (Or.inl ⟨by rfl, fun w hS => by go_simp⟩) hHeld ?_
      simp only [Act.put, List.setIfInBounds_toArray, List.set_cons_zero, List.set_cons_succ]
      refine takeAt (i := 9) (d := some 34) (v := .bool true) rfl rfl (by kernel_rfl) (by kernel_rfl) (by kernel_rfl) (fun _ _ _ h => h) (Or.inl ⟨by rfl, fun w hS => by go_simp⟩) hHeld ?_
      simp only [Act.put, List.setIfInBounds_toArray, List.set_cons_zero, List.set_cons_succ]
      refine wpAnyH_done (by kernel_rfl) ?_ _
      go_wp2_with fail
      (with_reducible refine (HAW.out _).mono ?_)
      rintro e w9 ⟨rfl, hB9⟩
      have HB9 := hide ((HB3.out.trans (HBv3.out.mono HB3.out.size)).trans (hB9.mono (HB3.out.trans (HBv3.out.mono HB3.out.size)).size))
      clear hB9
      go_wp2_with fail
      go_ret
      exact ⟨rfl, HB9.out⟩
    · have d1 : (((say o [] : Nat) : Int) != 1) = true := bne_iff_ne.2 (by omega)
      clear hs1
      refine wp_region_held_drew (S := fun w' => Hid (w'.heap[w.heap.size]? = some (boxO sn sb o))) (by kernel_rfl) HX3 (fun hHeld => ?_)
      have HBd := hide (Below.drew (Below.refl W3.heap.size W3))
      refine takeAt (i := 0) (d := some 25) (v := orcV sn sb o) rfl rfl (by kernel_rfl) (by kernel_rfl) (by kernel_rfl) (fun _ _ _ h => h) (Or.inl ⟨by rfl, fun w hS => by obtain ⟨x0, x1, x2, x3⟩ := o_cells hS.out; go_simp⟩) hHeld ?_
      simp only [Act.put, List.setIfInBounds_toArray, List.set_cons_zero, List.set_cons_succ]
      refine wpAnyH_ready (rs := [1]) (by kernel_rfl) (by simp) ?_
      refine AllReadyH.cons rfl (fun K0 hK => ?_) AllReadyH.nil
      go_simp
      go_at_call 31
      (with_reducible refine (sayRef (HO3.out.old HBd.out) (ints_none _) HSM.out).mono ?_)
      rintro e v1 ⟨rfl, hBn⟩
      have HBv1 := hide (HBd.out.trans (hBn.mono HBd.out.size))
      have HXv1 : Hid (v1.heap[w.heap.size]? = some (boxO sn sb o)) := hide ((HBv1.out.block _ (block_lt HX3.out)).trans HX3.out)
      clear hBn
      refine hK.out _ _ HXv1 (fun hHeld => ?_)
      clear hK K0
      try simp only [Act.put, List.setIfInBounds_toArray, List.set_cons_zero, List.set_cons_succ]
      refine takeAt (i := 2) (d := some 27) (v := .bool true) rfl rfl (by kernel_rfl) (by kernel_rfl) (by kernel_rfl) (fun _ _ _ h => h) (Or.inl ⟨by rfl, fun w hS => by go_simp⟩) hHeld ?_
      simp only [Act.put, List.setIfInBounds_toArray, List.set_cons_zero, List.set_cons_succ]
      refine takeAt (i := 3) (d := some 28) (v := .bool true) rfl rfl (by kernel_rfl) (by kernel_rfl) (by kernel_rfl) (fun _ _ _ h => h) (Or.inl ⟨by rfl, fun w hS => by go_simp⟩) hHeld ?_
      simp only [Act.put, List.setIfInBounds_toArray, List.set_cons_zero, List.set_cons_succ]
      refine takeAt (i := 4) (d := some 29) (v := undef) rfl rfl (by kernel_rfl) (by kernel_rfl) (by kernel_rfl) (fun _ _ _ h => h) (Or.inr ⟨by rfl, rfl⟩) hHeld ?_
      simp only [Act.put, List.setIfInBounds_toArray, List.set_cons_zero, List.set_cons_succ]
      refine takeAt (i := 5) (d := some 30) (v := undef) rfl rfl (by kernel_rfl) (by kernel_rfl) (by kernel_rfl) (fun _ _ _ h => h) (Or.inr ⟨by rfl, rfl⟩) hHeld ?_
      simp only [Act.put, List.setIfInBounds_toArray, List.set_cons_zero, List.set_cons_succ]
      refine takeAt (i := 6) (d := some 31) (v := undef) rfl rfl (by kernel_rfl) (by kernel_rfl) (by kernel_rfl) (fun _ _ _ h => h) (Or.inr ⟨by rfl, rfl⟩) hHeld ?_
      simp only [Act.put, List.setIfInBounds_toArray, List.set_cons_zero, List.set_cons_succ]
      refine takeAt (i := 7) (d := some 32) (v := undef) rfl rfl (by kernel_rfl) (by kernel_rfl) (by kernel_rfl) (fun _ _ _ h => h) (Or.inr ⟨by rfl, rfl⟩) hHeld ?_
      simp only [Act.put, List.setIfInBounds_toArray, List.set_cons_zero, List.set_cons_succ]
      refine takeAt (i := 8) (d := some 33) (v := undef) rfl rfl (by kernel_rfl) (by kernel_rfl) (by kernel_rfl) (fun _ _ _ h => h) (Or.inr ⟨by rfl, rfl⟩) hHeld ?_
      simp only [Act.put, List.setIfInBounds_toArray, List.set_cons_zero, List.set_cons_succ]
      refine takeAt (i := 9) (d := some 34) (v := .bool true) rfl rfl (by kernel_rfl) (by kernel_rfl) (by kernel_rfl) (fun _ _ _ h => h) (Or.inl ⟨by rfl, fun w hS => by go_simp⟩) hHeld ?_
      simp only [Act.put, List.setIfInBounds_toArray, List.set_cons_zero, List.set_cons_succ]
      refine wpAnyH_done (by kernel_rfl) ?_ _
      go_wp2_with fail
      (with_reducible refine (HAW.out _).mono ?_)
      rintro e w9 ⟨rfl, hB9⟩
      have HB9 := hide ((HB3.out.trans (HBv1.out.mono HB3.out.size)).trans (hB9.mono (HB3.out.trans (HBv1.out.mono HB3.out.size)).size))
      clear hB9
      go_wp2_with fail
      go_ret
      exact ⟨rfl, HB9.out⟩
end Go.Proofs.Ytmkapmbmgpnjaaa.Se

