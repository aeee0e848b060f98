import Derived.Test.YtmkapmbmgpnjaaaDmH
import Derived.Test.YtmkapmbmgpnjaaaDlH
set_option maxRecDepth 100000
set_option linter.unusedSimpArgs false
set_option linter.unusedVariables false
namespace Go.Proofs.Ytmkapmbmgpnjaaa.Se
open Go Go.Ms Go.Pg Go.Bi Go.Se Go.ChangeShapes Go.WideShapes Go.ChangeAt Go.RowKit Go.Deep Go.Shelf Go.Proofs.Ytmkapmbmgpnjaaa.Bi

/-! Changes. -/
theorem enters92 (args : Array Value) (W : World) : (callFunc 92 args).run Try.prog W = .ok (.enter 92 args) W := by
  simp [callFunc, go_sem, Try.func92]
  rfl
--H<
set_option maxHeartbeats 16000000 in
theorem chg1 {B g m ba bs Bn gr : Nat} {W : World} {n : Nat} {va : Value} {l : List Int} (hS : SBox W g m l []) (hA : W.heap[ba]? = some (box1 va 30)) (hL : LaidK W m g va (List.range n)) (hF : W.heap[bs]? = some (box1 (.func (.func 90) #[] #[.pointer (some ⟨Bn, 0, none⟩)]) 122)) (hN : W.heap[Bn]? = some (box1 (.slice (some ⟨gr, 0, none⟩) n n) 95)) (hR : W.heap[gr]? = some (rowQ (singles n)))
    (nA : ba ≠ m ∧ ba ≠ g) (nF : bs ≠ m ∧ bs ≠ g) (nN : Bn ≠ m ∧ Bn ≠ g) (nR : gr ≠ m ∧ gr ≠ g) (hn : n ≤ 256) (hB : B ≤ W.heap.size) :
    Calls Try.prog 92 #[.pointer (some ⟨g, 0, none⟩), .pointer (some ⟨ba, 0, none⟩), .pointer (some ⟨bs, 0, none⟩)] W fun e w' => ∃ res, res = play (changesN n) l [] ∧ Comes B g m W res e w' := by
  have HN := hide hn
  have HBB := hide hB
  have HMG := hide hS.lt
  have HGW := hide hS.gt
  have NA := hide nA
  have NF := hide nF
  have NN := hide nN
  have NR := hide nR
  have hB0 := (Below.refl W.heap.size W).alloc (Nat.le_refl _) (boxQ false nilV nilV nilV)
  have HB0 := hide hB0
  have HS0 := hide (hS.old hB0)
  have HA0 := hide ((hB0.block _ (block_lt hA)).trans hA)
  have HF0 := hide ((hB0.block _ (block_lt hF)).trans hF)
  have HN0 := hide ((hB0.block _ (block_lt hN)).trans hN)
  have HR0 := hide ((hB0.block _ (block_lt hR)).trans hR)
  have HL0 := hide (hL.old hB0)
  have HQ0 : Hid ((W.alloc (boxQ false nilV nilV nilV)).heap[W.heap.size]? = some (boxQ false nilV nilV nilV)) := hide (new_block W _)
  have HK0 : Hid (KeepsM m g W (W.alloc (boxQ false nilV nilV nilV))) := hide (KeepsM.of_below (by have := hS.lt; have := hS.gt; omega) hB0)
  have HLT : Hid (ba < W.heap.size ∧ bs < W.heap.size) := hide ⟨block_lt hA, block_lt hF⟩
  have c0 := cell_of HA0.out 0
  have hmf : ∀ (fn : Fn) (first cap : Array Value) (w : World), (Instr.makeFunc fn first cap).run Try.prog w = .ok (.func fn first cap) w := fun _ _ _ _ => rfl
  obtain ⟨oa, cap, rfl, -, -, -⟩ := hL
  rw [List.length_range] at HL0 HA0 c0
  have hl32 : ∀ i ∈ List.range n, i < 256 := fun i hi => by have := List.mem_range.1 hi; omega
  have HL32 := hide hl32
  clear hB0 hn hB hS hA hF hN hR nA nF nN nR hl32
  go_enter Try.func92, Try.ntmps92
  go_wp2_with fail
  change Calls Try.prog 77 _ (W.alloc (boxQ false nilV nilV nilV)) _
  generalize W.alloc (boxQ false nilV nilV nilV) = W0 at *
  (with_reducible refine (setOfQ (laid_natsD HL0.out.laid) HL32.out).mono ?_)
  rintro e w1 ⟨rfl, hB1⟩
  rw [allQ_amongL]
  have HS1 := hide (HS0.out.old hB1)
  have HA1 := hide ((hB1.block _ (block_lt HA0.out)).trans HA0.out)
  have HF1 := hide ((hB1.block _ (block_lt HF0.out)).trans HF0.out)
  have HN1 := hide ((hB1.block _ (block_lt HN0.out)).trans HN0.out)
  have HR1 := hide ((hB1.block _ (block_lt HR0.out)).trans HR0.out)
  have HQ1 := hide ((hB1.block _ (block_lt HQ0.out)).trans HQ0.out)
  have HL1 := hide (HL0.out.old hB1)
  have HK1 : Hid (KeepsM m g W w1) := hide (HK0.out.trans (KeepsM.of_below (by have := HMG.out; have := HGW.out; have := HB0.out.size; omega) hB1))
  have HFS := hide (failsSet (w := w1) (q := allQ n) HS1.out (small_all (n := n)).ok)
  clear hB1 c0 HS0 HA0 HF0 HN0 HR0 HQ0 HL0 HK0
  go_wp2_with fail
  (with_reducible refine HFS.out.mono ?_)
  rintro e w2 (⟨rfl, hk, hp⟩ | ⟨x, l1, T1, rfl, hk, hs, hp⟩)
  · have HK := hide (HK1.out.trans hk)
    have HP : Hid (play (changesN n) l [] = .ask (memQ (allQ n))) := hide (hp _)
    clear hk hp HFS
    unfold asks4
    go_wp2_with fail
    exact ⟨rfl, _, HP.out.symm, _, _, _, _, rfl, sp_mem (small_all (n := n)).ok, HK.out⟩
  have HK2 := hide (HK1.out.trans hk)
  have HP2 : Hid (play (changesN n) l [] = _) := hide (hp fun v => if v = 2 then descT (smallerA (singles n)) 300 (List.range n) else .err 7)
  have HS2 := hide hs
  have HA2 := hide (keepsM_block hk NA.out.1 NA.out.2 HA1.out)
  have HF2 := hide (keepsM_block hk NF.out.1 NF.out.2 HF1.out)
  have HN2 := hide (keepsM_block hk NN.out.1 NN.out.2 HN1.out)
  have HR2 := hide (keepsM_block hk NR.out.1 NR.out.2 HR1.out)
  have HQ2 := hide (keepsM_block hk (by have := HMG.out; have := HGW.out; omega) (by have := HGW.out; omega) HQ1.out)
  have HL2 := hide (HL1.out.keep hk.kept)
  clear hk hp hs HFS HL1 HS1 HA1 HF1 HN1 HR1 HQ1 HK1
  rcases (Decidable.em (x = 2)).symm with hx | hx
  · have d1 : (x == (2 : Int)) = false := beq_false_of_ne hx
    have HP3 : Hid (play (changesN n) l [] = .err 7) := hide (by rw [HP2.out]; simp only [if_neg hx]; rfl)
    clear hx HP2
    obtain ⟨q0, q1, q2, q3⟩ := q_cells HQ2.out
    have s0 := Bi.frozen_of HQ2.out 0
    have s1 := Bi.frozen_of HQ2.out 1
    have s2 := Bi.frozen_of HQ2.out 2
    have s3 := Bi.frozen_of HQ2.out 3
    go_wp2_with fail
    refine final8 (X := putQ w2 W.heap.size false nilV nilV nilV) rfl ?_
    have HP9 := hide (putQ_block (e := false) (b := nilV) (l := nilV) (q := nilV) HQ2.out)
    have HK9 := hide (keepsM_put (d := false) (a := nilV) (k := nilV) (p := nilV) (R := W.heap.size) (by have := HMG.out; have := HGW.out; omega) HK2.out (by omega))
    generalize putQ w2 W.heap.size false nilV nilV nilV = X at *
    obtain ⟨y0, y1, y2, y3⟩ := q_cells HP9.out
    refine bodyPost_ret (v := .tuple #[questV false nilV nilV nilV, .int .i64 7]) (by simp [results, Try.results92, go_sem, y0, y1, y2, y3]) rfl ?_
    exact ⟨_, HP3.out.symm, rfl, by decide, HK9.out⟩
  have d1 : (x == (2 : Int)) = true := by simp [hx]
  have HP3 : Hid (play (changesN n) l [] = play (descT (smallerA (singles n)) 300 (List.range n)) l1 T1) := hide (by rw [HP2.out]; simp only [if_pos hx])
  clear hx HP2
  have HPX := hide HP3.out
  clear HP3
  go_upto_region 3 with (fail)
  refine wp_region_held_drew (S := fun w' => Hid (w'.heap[ba]? = some (box1 (.slice oa n cap) 30) ∧ w'.heap[bs]? = some (box1 (.func (.func 90) #[] #[.pointer (some ⟨Bn, 0, none⟩)]) 122) )) (by kernel_rfl) (hide ⟨HA2.out, HF2.out⟩) (fun hHeld => ?_)
  refine takeAt (i := 0) (d := some 12) (v := .slice oa n cap) rfl rfl (by kernel_rfl) (by kernel_rfl) (by kernel_rfl) (fun _ _ _ h => h) (Or.inl ⟨by rfl, fun w hS => by have c0 := cell_of hS.out.1 0; go_simp⟩) hHeld ?_
  simp only [Act.put, List.setIfInBounds_toArray, List.set_cons_zero, List.set_cons_succ]
  refine takeAt (i := 2) (d := some 14) (v := .func (.func 90) #[] #[.pointer (some ⟨Bn, 0, none⟩)]) rfl rfl (by kernel_rfl) (by kernel_rfl) (by kernel_rfl) (fun _ _ _ h => h) (Or.inl ⟨by rfl, fun w hS => by have c0 := cell_of hS.out.2 0; go_simp⟩) hHeld ?_
  simp only [Act.put, List.setIfInBounds_toArray, List.set_cons_zero, List.set_cons_succ]
  refine takeAt (i := 3) (d := some 15) (v := .pointer (some ⟨g, 0, none⟩)) rfl rfl (by kernel_rfl) (by kernel_rfl) (by kernel_rfl) (fun _ _ _ h => h) (Or.inl ⟨by rfl, fun w hS => by go_simp⟩) hHeld ?_
  simp only [Act.put, List.setIfInBounds_toArray, List.set_cons_zero, List.set_cons_succ]
  refine takeAt (i := 4) (d := some 16) (v := .func (.func 93) #[.pointer (some ⟨g, 0, none⟩)] #[]) rfl rfl (by kernel_rfl) (by kernel_rfl) (by kernel_rfl) (fun _ _ _ h => h) (Or.inl ⟨by rfl, fun w hS => by go_simp⟩) hHeld ?_
  simp only [Act.put, List.setIfInBounds_toArray, List.set_cons_zero, List.set_cons_succ]
  refine wpAnyH_ready (rs := [1]) (by kernel_rfl) (by simp) ?_
  refine AllReadyH.cons rfl (fun K0 hK => ?_) AllReadyH.nil
  go_simp
  go_at_call 77
  (with_reducible refine (setOfQ (w := w2.drew) (laid_natsD (HL2.out.old (Below.drew (Below.refl w2.heap.size w2))).laid) HL32.out).mono ?_)
  rintro e w3 ⟨rfl, hB3⟩
  have HB3 := hide ((Below.drew (Below.refl w2.heap.size w2)).trans hB3)
  have HS3 := hide (HS2.out.old HB3.out)
  have HA3 := hide ((HB3.out.block _ (block_lt HA2.out)).trans HA2.out)
  have HF3 := hide ((HB3.out.block _ (block_lt HF2.out)).trans HF2.out)
  have HN3 := hide ((HB3.out.block _ (block_lt HN2.out)).trans HN2.out)
  have HR3 := hide ((HB3.out.block _ (block_lt HR2.out)).trans HR2.out)
  have HQ3 := hide ((HB3.out.block _ (block_lt HQ2.out)).trans HQ2.out)
  have HK3 : Hid (KeepsM m g W w3) := hide (HK2.out.trans (KeepsM.of_below (by have := HMG.out; have := HGW.out; have := HK2.out.below.size; omega) HB3.out))
  clear hB3 HS2 HA2 HF2 HN2 HR2 HQ2 HL2 HK2 HB3
  refine hK.out _ _ (hide ⟨HA3.out, HF3.out⟩) (fun hHeld => ?_)
  clear hK K0
  try simp only [Act.put, List.setIfInBounds_toArray, List.set_cons_zero, List.set_cons_succ]
  refine wpAnyH_ready (rs := [5]) (by kernel_rfl) (by simp) ?_
  refine AllReadyH.cons rfl (fun K0 hK => ?_) AllReadyH.nil
  go_simp
  go_at_call 94
  have HDP := hide (descProg (W := w3) (A := singles n) (f0 := 300) (d := List.range n) (by rw [singles_length]; exact HN3.out) HR3.out NN.out NR.out (fun i hi => by rw [singles_length] at hi; rw [singles_get hi]; exact ofP_ok _) (by rw [singles_length]; exact shrinks_singles HN.out) (by rw [singles_length]; exact HN.out) HS3.out List.pairwise_lt_range (fun i hi => by rw [singles_length]; exact List.mem_range.1 hi) (by rw [List.length_range]; have := HN.out; omega))
  (with_reducible refine HDP.out.mono ?_)
  rintro e w4 (⟨q, rfl, hq, hk, hp⟩ | ⟨k, l3, T3, rfl, hks, hkl, hk, hs, hp⟩)
  · have HK := hide (HK3.out.trans hk)
    have HP := hide (HPX.out.trans hp)
    have HQ := hide hq
    clear hk hp hq HDP
    unfold asks4
    go_wp2_with fail
    exact ⟨rfl, _, HP.out.symm, _, _, _, _, rfl, sp_mem HQ.out, HK.out⟩
  have HK4 := hide (HK3.out.trans hk)
  have HP4 := hide (HPX.out.trans hp)
  have HS4 := hide hs
  have HA4 := hide (keepsM_block hk NA.out.1 NA.out.2 HA3.out)
  have HF4 := hide (keepsM_block hk NF.out.1 NF.out.2 HF3.out)
  have HQ4 := hide (keepsM_block hk (by have := HMG.out; have := HGW.out; omega) (by have := HGW.out; omega) HQ3.out)
  have HU := hide (among_list hks hkl)
  obtain ⟨kq, hkq⟩ : ∃ kq, kq = ofP (among k) := ⟨_, rfl⟩
  have HKO : Hid kq.Ok := hide (by rw [hkq]; exact ofP_ok _)
  rw [← hkq] at HU ⊢
  clear hk hp hs hks hkl HDP hkq HS3 HA3 HF3 HN3 HR3 HQ3 HK3
  refine hK.out _ _ (hide ⟨HA4.out, HF4.out⟩) (fun hHeld => ?_)
  clear hK K0
  try simp only [Act.put, List.setIfInBounds_toArray, List.set_cons_zero, List.set_cons_succ]
  refine wpAnyH_ready (rs := [6]) (by kernel_rfl) (by simp) ?_
  refine AllReadyH.cons rfl (fun K0 hK => ?_) AllReadyH.nil
  go_simp
  go_at_call 79
  (with_reducible refine (listProg (sp_mem HKO.out)).mono ?_)
  rintro e w5 ⟨v5, rfl, hB5, hO5⟩
  rw [HU.out] at hO5
  obtain ⟨o5, k5, rfl⟩ := own_formE hO5
  have HO5 : Hid (Il.Own 3 .i64 B w5 (.slice o5 k.length k5) (k.map Int.ofNat)) := hide (own_mono (by have := HBB.out; have := HK4.out.below.size; omega) hO5)
  have HS5 := hide (HS4.out.old hB5)
  have HA5 := hide ((hB5.block _ (block_lt HA4.out)).trans HA4.out)
  have HF5 := hide ((hB5.block _ (block_lt HF4.out)).trans HF4.out)
  have HQ5 := hide ((hB5.block _ (block_lt HQ4.out)).trans HQ4.out)
  have HK5 : Hid (KeepsM m g W w5) := hide (HK4.out.trans (KeepsM.of_below (by have := HMG.out; have := HGW.out; have := HK4.out.below.size; omega) hB5))
  clear hB5 hO5 HS4 HA4 HF4 HQ4 HK4
  refine hK.out _ _ (hide ⟨HA5.out, HF5.out⟩) (fun hHeld => ?_)
  clear hK K0
  try simp only [Act.put, List.setIfInBounds_toArray, List.set_cons_zero, List.set_cons_succ]
  refine takeAt (i := 7) (d := some 19) (v := questV true nilV (.slice o5 k.length k5) nilV) rfl rfl (by kernel_rfl) (by kernel_rfl) (by kernel_rfl) (fun _ _ _ h => h) (Or.inl ⟨by rfl, fun w hS => by go_simp⟩) hHeld ?_
  simp only [Act.put, List.setIfInBounds_toArray, List.set_cons_zero, List.set_cons_succ]
  refine wpAnyH_ready (rs := [8]) (by kernel_rfl) (by simp) ?_
  refine AllReadyH.cons rfl (fun K0 hK => ?_) AllReadyH.nil
  obtain ⟨q0, q1, q2, q3⟩ := q_cells HQ5.out
  have s0 := Bi.frozen_of HQ5.out 0
  have s1 := Bi.frozen_of HQ5.out 1
  have s2 := Bi.frozen_of HQ5.out 2
  have s3 := Bi.frozen_of HQ5.out 3
  go_simp
  have h1 := HMG.out
  have h2 := HGW.out
  have HP9 := hide (putQ_block (e := true) (b := nilV) (l := .slice o5 k.length k5) (q := nilV) HQ5.out)
  have HK9 := hide (keepsM_put (d := true) (a := nilV) (k := .slice o5 k.length k5) (p := nilV) (R := W.heap.size) (by omega) HK5.out (Nat.le_refl _))
  have HS9 := hide (sbox_put (d := true) (a := nilV) (k := .slice o5 k.length k5) (p := nilV) (R := W.heap.size) HS5.out h2)
  have HO9 := hide (own_putQ (d := true) (a := nilV) (k := .slice o5 k.length k5) (p := nilV) HO5.out HQ5.out)
  have HA9 : Hid ((putQ w5 W.heap.size true nilV (.slice o5 k.length k5) nilV).heap[ba]? = some (box1 (.slice oa n cap) 30)) := hide ((putQ_other (by have := HLT.out.1; omega)).trans HA5.out)
  have HF9 : Hid ((putQ w5 W.heap.size true nilV (.slice o5 k.length k5) nilV).heap[bs]? = some (box1 (.func (.func 90) #[] #[.pointer (some ⟨Bn, 0, none⟩)]) 122)) := hide ((putQ_other (by have := HLT.out.2; omega)).trans HF5.out)
  show K0 _ (putQ w5 W.heap.size true nilV (.slice o5 k.length k5) nilV)
  generalize putQ w5 W.heap.size true nilV (.slice o5 k.length k5) nilV = X at *
  refine hK.out _ _ (hide ⟨HA9.out, HF9.out⟩) (fun hHeld => ?_)
  clear hK K0
  try simp only [Act.put, List.setIfInBounds_toArray, List.set_cons_zero, List.set_cons_succ]
  refine takeAt (i := 9) (d := some 5) (v := .int .i64 0) rfl rfl (by kernel_rfl) (by kernel_rfl) (by kernel_rfl) (fun _ _ _ h => h) (Or.inl ⟨by rfl, fun w hS => by go_simp⟩) hHeld ?_
  simp only [Act.put, List.setIfInBounds_toArray, List.set_cons_zero, List.set_cons_succ]
  refine wpAnyH_done (by kernel_rfl) ?_ _
  obtain ⟨y0, y1, y2, y3⟩ := q_cells HP9.out
  go_wp2_with fail
  refine bodyPost_ret (v := .tuple #[questV true nilV (.slice o5 k.length k5) nilV, .int .i64 0]) (by simp [results, Try.results92, go_sem, y0, y1, y2, y3]) rfl ?_
  exact ⟨_, HP4.out.symm, _, _, _, rfl, HO9.out, Go.Il.Own.nil _ _ _ _, HK9.out, HS9.out⟩
--H>
end Go.Proofs.Ytmkapmbmgpnjaaa.Se
