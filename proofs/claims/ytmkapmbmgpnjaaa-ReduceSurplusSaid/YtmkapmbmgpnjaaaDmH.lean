import Derived.Test.YtmkapmbmgpnjaaaDmG
import Derived.Test.YtmkapmbmgpnjaaaDlI
set_option maxRecDepth 100000
set_option linter.unusedSimpArgs false
set_option linter.unusedVariables false
namespace Go.Proofs.Ytmkapmbmgpnjaaa.Se
open Go Go.Ms Go.Pg Go.Bi Go.Se Go.ChangeShapes Go.WideShapes Go.ChangeAt Go.RowKit Go.Deep Go.Shelf Go.Proofs.Ytmkapmbmgpnjaaa.Bi

/-! From set to set. -/
theorem own_mono' {w : World} {B C : Nat} {v : Value} {l : List Int} (h : Go.Il.Own 3 .i64 B w v l) (hC : C ≤ B) : Go.Il.Own 3 .i64 C w v l := own_mono hC h
set_option maxHeartbeats 8000000 in
theorem smallerProg {w : World} {Bn gr : Nat} {A : List Q4} {d : List Nat} (hN : w.heap[Bn]? = some (box1 (.slice (some ⟨gr, 0, none⟩) A.length A.length) 95)) (hs : d.Pairwise (· < ·)) (hd : ∀ i ∈ d, i < 256) :
    Calls Try.prog 90 #[setQ (ofP (among d)), .pointer (some ⟨Bn, 0, none⟩)] w fun e w' => ∃ b1 b2 v, e = .returned (.func (.func 142) #[] #[.pointer (some ⟨b1, 0, none⟩), .pointer (some ⟨b2, 0, none⟩)]) ∧ Below w.heap.size w w' ∧ w.heap.size ≤ b1 ∧ w.heap.size ≤ b2 ∧
      w'.heap[b1]? = some (box1 v 30) ∧ w'.heap[b2]? = some (box1 (.slice (some ⟨gr, 0, none⟩) A.length A.length) 95) ∧ Il.Own 3 .i64 w.heap.size w' v (d.map Int.ofNat) := by
  have HN := hide hN
  have HU := hide (among_list hs hd)
  obtain ⟨q, hq⟩ : ∃ q, q = ofP (among d) := ⟨_, rfl⟩
  have HQO : Hid q.Ok := hide (by rw [hq]; exact ofP_ok _)
  rw [← hq] at HU ⊢
  have hB0 := (Below.refl w.heap.size w).alloc (Nat.le_refl _) (boxQ4 q)
  have HB0 := hide hB0
  have HQ0 := hide (new_block w (boxQ4 q))
  have HN0 := hide ((hB0.block _ (block_lt hN)).trans hN)
  have HSZ : Hid (w.heap.size ≤ (w.alloc (boxQ4 q)).heap.size) := hide hB0.size
  clear hN hs hd hq hB0
  go_enter Try.func90, Try.ntmps90
  go_upto_region 1 with (fail)
  generalize hW0 : w.alloc (boxQ4 q) = W0 at *
  clear hW0
  refine wp_region_held_drew (S := fun w' => Hid (w'.heap[Bn]? = some (box1 (.slice (some ⟨gr, 0, none⟩) A.length A.length) 95) ∧ w'.heap[w.heap.size]? = some (boxQ4 q))) (by kernel_rfl) (hide ⟨HN0.out, HQ0.out⟩) (fun hHeld => ?_)
  refine takeAt (i := 0) (d := some 4) (v := .slice (some ⟨gr, 0, none⟩) A.length A.length) rfl rfl (by kernel_rfl) (by kernel_rfl) (by kernel_rfl) (fun _ _ _ h => h) (Or.inl ⟨by rfl, fun w hS => by have c0 := cell_of hS.out.1 0; go_simp⟩) hHeld ?_
  simp only [Act.put, List.setIfInBounds_toArray, List.set_cons_zero, List.set_cons_succ]
  refine takeAt (i := 1) (d := some 5) (v := setQ q) rfl rfl (by kernel_rfl) (by kernel_rfl) (by kernel_rfl) (fun _ _ _ h => h) (Or.inl ⟨by rfl, fun w hS => by obtain ⟨c0, c1, c2, c3⟩ := box_cells hS.out.2; go_simp⟩) hHeld ?_
  simp only [Act.put, List.setIfInBounds_toArray, List.set_cons_zero, List.set_cons_succ]
  refine wpAnyH_ready (rs := [2]) (by kernel_rfl) (by simp) ?_
  refine AllReadyH.cons rfl (fun K0 hK => ?_) AllReadyH.nil
  go_simp
  go_at_call 79
  (with_reducible refine (listProg (sp_mem HQO.out)).mono ?_)
  rintro e w1 ⟨v1, rfl, hB1, hO1⟩
  rw [HU.out] at hO1
  obtain ⟨o1, k1, rfl⟩ := own_formE hO1
  have HB1 : Hid (Below W0.heap.size W0 w1) := hide ((Below.drew (Below.refl W0.heap.size W0)).trans hB1)
  have HO1 : Hid (Il.Own 3 .i64 w.heap.size w1 (.slice o1 d.length k1) (d.map Int.ofNat)) := hide (own_mono HSZ.out hO1)
  have HN1 := hide ((HB1.out.block _ (block_lt HN0.out)).trans HN0.out)
  have HQ1 := hide ((HB1.out.block _ (block_lt HQ0.out)).trans HQ0.out)
  clear hB1 hO1
  refine hK.out _ _ (hide ⟨HN1.out, HQ1.out⟩) (fun hHeld => ?_)
  clear hK K0
  try simp only [Act.put, List.setIfInBounds_toArray, List.set_cons_zero, List.set_cons_succ]
  refine wpAnyH_ready (rs := [3]) (by kernel_rfl) (by simp) ?_
  refine AllReadyH.cons rfl (fun K0 hK => ?_) AllReadyH.nil
  go_simp
  go_at_call 91
  (with_reducible refine (eachMaker).mono ?_)
  rintro e w2 ⟨rfl, hB2, hb2, hb1⟩
  have HB2 : Hid (Below w.heap.size w w2) := hide (HB0.out.trans ((HB1.out.trans (hB2.mono HB1.out.size)).mono HB0.out.size))
  have HO2 := hide (own_up HO1.out hB2)
  have HN2 := hide ((hB2.block _ (block_lt HN1.out)).trans HN1.out)
  have HQ2 := hide ((hB2.block _ (block_lt HQ1.out)).trans HQ1.out)
  have H1 := hide hb1
  have H2 := hide hb2
  have HZ : Hid (w.heap.size ≤ w1.heap.size) := hide (Nat.le_trans HSZ.out HB1.out.size)
  clear hB2 hb2 hb1
  refine hK.out _ _ (hide ⟨HN2.out, HQ2.out⟩) (fun hHeld => ?_)
  clear hK K0
  try simp only [Act.put, List.setIfInBounds_toArray, List.set_cons_zero, List.set_cons_succ]
  refine wpAnyH_ready (rs := [4]) (by kernel_rfl) (by simp) ?_
  refine AllReadyH.cons rfl (fun K0 hK => ?_) AllReadyH.nil
  go_simp
  refine hK.out _ _ (hide ⟨HN2.out, HQ2.out⟩) (fun hHeld => ?_)
  clear hK K0
  try simp only [Act.put, List.setIfInBounds_toArray, List.set_cons_zero, List.set_cons_succ]
  refine wpAnyH_done (by kernel_rfl) ?_ _
  go_wp2_with fail
  go_ret
  exact ⟨_, _, _, rfl, HB2.out, by have := HZ.out; omega, HZ.out, H1.out, H2.out, HO2.out⟩
def natAt (w : World) (b j : Nat) : Nat := match w.cell? ⟨b, j, none⟩ with
  | some v => (intOf v).toNat
  | none => 0
def sizeQ (w : World) (b : Nat) : Nat := (listQ ⟨natAt w b 0, natAt w b 1, natAt w b 2, natAt w b 3⟩).length
theorem sizeQ_of {w : World} {b : Nat} {c : List Nat} (h : w.heap[b]? = some (boxQ4 (ofP (among c)))) (hs : c.Pairwise (· < ·)) (hl : ∀ i ∈ c, i < 256) : sizeQ w b = c.length := by
  obtain ⟨h0, h1, h2, h3⟩ := box_cells h
  have e : (listQ (ofP (among c))).length = c.length := by
    have := congrArg List.length (listQ_ofN (ofP (among c)))
    rw [among_list hs hl, List.length_map, List.length_map] at this
    exact this
  rw [← e]
  unfold sizeQ natAt
  rw [h0, h1, h2, h3]
  simp [intOf]
theorem desc_scan {S : List Nat → List (List Nat)} {f : Nat} {l : List Nat} : descT S (f + 1) l = scanT (S l) fun
    | some r => descT S f r
    | none => .fin (l.map Int.ofNat) [] := rfl
def DescE (W : World) (g m : Nat) (t : Tr) (l : List Int) (T : List (Q4 × Int)) (e : Ending) (w' : World) : Prop :=
  (∃ q : Q4, e = asks4 q.a q.b q.c q.d ∧ q.Ok ∧ KeepsM m g W w' ∧ play t l T = .ask (memQ q)) ∨
  (∃ k l' T', e = .returned (setQ (ofP (among k))) ∧ k.Pairwise (· < ·) ∧ (∀ i ∈ k, i < 256) ∧ KeepsM m g W w' ∧ SBox w' g m l' T' ∧ play t l T = .fin (k.map Int.ofNat) [] l')
theorem enters90 (args : Array Value) (W : World) : (callFunc 90 args).run Try.prog W = .ok (.enter 90 args) W := by
  simp [callFunc, go_sem, Try.func90]
  rfl

--H<
set_option maxHeartbeats 16000000 in
theorem descProg {W : World} {g m Bn gr f0 : Nat} {A : List Q4} {d : List Nat} {l : List Int} {T : List (Q4 × Int)} (hN : W.heap[Bn]? = some (box1 (.slice (some ⟨gr, 0, none⟩) A.length A.length) 95)) (hR : W.heap[gr]? = some (rowQ A)) (n1 : Bn ≠ m ∧ Bn ≠ g) (n2 : gr ≠ m ∧ gr ≠ g)
    (hA : ∀ i, i < A.length → (A.getD i zeroQ).Ok) (hSh : Shrinks A.length (smallerA A)) (hl : A.length ≤ 256) (hS : SBox W g m l T) (hs : d.Pairwise (· < ·)) (hd : ∀ i ∈ d, i < A.length) (hf0 : d.length < f0) :
    Calls Try.prog 94 #[setQ (ofP (among d)), .func (.func 90) #[] #[.pointer (some ⟨Bn, 0, none⟩)], .func (.func 93) #[.pointer (some ⟨g, 0, none⟩)] #[]] W (DescE W g m (descT (smallerA A) f0 d) l T) := by
  have HN := hide hN
  have HR := hide hR
  have N1 := hide n1
  have N2 := hide n2
  have HA := hide hA
  have HSH := hide hSh
  have HAL := hide hl
  have HMG := hide hS.lt
  have HGW := hide hS.gt
  have hB0 := ((Below.refl W.heap.size W).alloc (Nat.le_refl _) (boxQ4 (ofP (among d)))).alloc (by simp) (boxV 0 0 0 0)
  have HB0 := hide hB0
  have HS0 := hide (hS.old hB0)
  have HX0 := hide (old_block (new_block W (boxQ4 (ofP (among d)))) (boxV 0 0 0 0))
  have HZ0 : Hid (((W.alloc (boxQ4 (ofP (among d)))).alloc (boxV 0 0 0 0)).heap[W.heap.size + 1]? = some (boxV 0 0 0 0)) := hide (alloc_at (by simp))
  have HSZ : Hid (((W.alloc (boxQ4 (ofP (among d)))).alloc (boxV 0 0 0 0)).heap.size = W.heap.size + 2) := hide (by simp)
  have HK0 : Hid (KeepsM m g W ((W.alloc (boxQ4 (ofP (among d)))).alloc (boxV 0 0 0 0))) := hide (KeepsM.of_below (by have := hS.lt; have := hS.gt; omega) hB0)
  have HD := hide hd
  have HDS := hide hs
  have HF0 := hide hf0
  have hcf := enters90
  clear hN hR n1 n2 hA hSh hl hB0 hS hs hd hf0
  go_enter Try.func94, Try.ntmps94
  go_wp2_with fail
  generalize hW0 : (W.alloc (boxQ4 (ofP (among d)))).alloc (boxV 0 0 0 0) = W0 at *
  clear hW0
  go_loopw [8] (fun s8 wr => ∃ (c : List Nat) (f : Nat) (l' : List Int) (T' : List (Q4 × Int)), Hid (c.Pairwise (· < ·)) ∧ Hid (∀ i ∈ c, i < A.length) ∧ Hid (c.length < f) ∧ Hid (play (descT (smallerA A) f0 d) l T = play (descT (smallerA A) f c) l' T') ∧ Hid (SBox wr g m l' T') ∧ Hid (KeepsM m g W wr) ∧ Hid (W.heap.size + 2 ≤ wr.heap.size) ∧
      Hid (wr.heap[W.heap.size]? = some (boxQ4 (ofP (among c)))) ∧ Hid (wr.heap[W.heap.size + 1]? = some (boxV 0 0 0 0))) (fun _ wr => sizeQ wr W.heap.size)
  case atStart => exact ⟨d, f0, l, T, HDS, HD, HF0, hide rfl, HS0, HK0, hide (Nat.le_of_eq HSZ.out.symm), HX0, HZ0⟩
  case round =>
    obtain ⟨c, f, l', T', HCS, HCL, HCF, HPL, HSB, HK, HWZ, HX, HZ⟩ := hrel
    obtain ⟨f, rfl⟩ : ∃ f', f = f' + 1 := ⟨f - 1, by have := HCF.out; omega⟩
    have HCL2 : Hid (∀ i ∈ c, i < 256) := hide fun i hi => by have := HCL.out i hi; have := HAL.out; omega
    have HNr := hide ((HK.out.kept _ (block_lt HN.out) N1.out.1 N1.out.2).trans HN.out)
    have HRr := hide ((HK.out.kept _ (block_lt HR.out) N2.out.1 N2.out.2).trans HR.out)
    have HSP := hide (smallerProg (w := wr) (d := c) HNr.out HCS.out HCL2.out)
    have HMS := hide (sizeQ_of HX.out HCS.out HCL2.out)
    obtain ⟨q, hq⟩ : ∃ q, q = ofP (among c) := ⟨_, rfl⟩
    have HQ := hide hq
    rw [← hq] at HX HSP
    obtain ⟨x0, x1, x2, x3⟩ := box_cells HX.out
    clear hq
    have HLE : Hid (c.length ≤ 256) := hide (nodup_below (nodup_of_sorted HCS.out) HCL2.out)
    go_wp2_with fail
    (with_reducible refine HSP.out.mono ?_)
    rintro e w1 ⟨b1, b2, v, rfl, hB1, hb1, hb2, hc1, hc2, hO1⟩
    have HL1 : Hid (LaidK w1 m g v c) := hide (by
      have h1 := HMG.out; have h2 := HGW.out; have h3 := HWZ.out
      exact own_laidK hO1 HLE.out (by omega) (by omega))
    have HS1 := hide (HSB.out.old hB1)
    have HX1 := hide ((hB1.block _ (block_lt HX.out)).trans HX.out)
    have HZ1 := hide ((hB1.block _ (block_lt HZ.out)).trans HZ.out)
    have HN1 := hide ((hB1.block _ (block_lt HNr.out)).trans HNr.out)
    have HR1 := hide ((hB1.block _ (block_lt HRr.out)).trans HRr.out)
    have HK1 : Hid (KeepsM m g W w1) := hide (HK.out.trans (KeepsM.of_below (by have := HMG.out; have := HGW.out; have := HWZ.out; omega) hB1))
    have HSQ : Hid (∀ w0 : World, Below w1.heap.size w1 w0 → Rp.StopsT Try.prog 142 #[.pointer (some ⟨b1, 0, none⟩), .pointer (some ⟨b2, 0, none⟩)] encL (KpS m g w0.heap.size) (TdL (smallerA A c)) (fun ys => ys.length = (smallerA A c).length) (fun _ => True) (smallerA A c).length w0) := hide fun w0 hw => by
      have h1 := HMG.out
      have h2 := HGW.out
      have h3 := HWZ.out
      exact withoutT ((hw.block _ (block_lt hc1)).trans hc1) ((hw.block _ (block_lt hc2)).trans hc2) ((hw.block _ (block_lt HR1.out)).trans HR1.out) ⟨by omega, by omega⟩ ⟨by omega, by omega⟩ N2.out (HL1.out.old hw) HCL.out HA.out HAL.out
    have HFS := hide (failSet (W := w1) (qs := smallerA A c) HS1.out (enters_of Try.func142 (by kernel_rfl) rfl) HSQ.out)
    have HPS : Hid (play (descT (smallerA A) f0 d) l T = play (scanT (smallerA A c) fun
      | some r => descT (smallerA A) f r
      | none => .fin (c.map Int.ofNat) []) l' T') := hide (by rw [HPL.out, desc_scan])
    have HW1 : Hid (W.heap.size + 2 ≤ w1.heap.size) := hide (Nat.le_trans HWZ.out hB1.size)
    clear hB1 hb1 hb2 hc1 hc2 hO1 HSP HSQ HS1 HL1 x0 x1 x2 x3
    go_wp2_with fail
    (with_reducible refine HFS.out.mono ?_)
    rintro e w2 (⟨q2, rfl, hq2, hk, hp⟩ | ⟨c2, l2, T2, rfl, hc2, hk, hs, hp⟩ | ⟨l2, T2, rfl, hk, hs, hp⟩)
    · have HKK := hide (HK1.out.trans hk)
      have HP := hide (HPS.out.trans (hp _))
      have HQ2 := hide hq2
      clear HFS hq2 hk hp
      unfold asks4
      go_wp2_with fail
      exact ⟨rfl, .inl ⟨q2, rfl, HQ2.out, HKK.out, HP.out⟩⟩
    · have HKK := hide (HK1.out.trans hk)
      have HP := hide (HPS.out.trans (hp _))
      have HC2 := hide hc2
      have hk0 := hide hk.below.size
      have HS2 := hide hs
      have HX2 := hide (keepsM_block hk (by have := HMG.out; have := HGW.out; omega) (by have := HGW.out; omega) HX1.out)
      have HZ2 := hide (keepsM_block hk (by have := HMG.out; have := HGW.out; omega) (by have := HGW.out; omega) HZ1.out)
      clear HFS hc2 hk hp hs
      have HA2 := hide (old_block HX2.out (boxQ4 (ofP (among c2))))
      have HT2 := hide (new_block w2 (boxQ4 (ofP (among c2))))
      obtain ⟨x0, x1, x2, x3⟩ := box_cells HA2.out
      obtain ⟨t0, t1, t2, t3⟩ := box_cells HT2.out
      have s0 := Bi.frozen_of HA2.out 0
      have s1 := Bi.frozen_of HA2.out 1
      have s2 := Bi.frozen_of HA2.out 2
      have s3 := Bi.frozen_of HA2.out 3
      go_wp2_with fail
      have h1 := HMG.out
      have h2 := HGW.out
      have hz := HKK.out.below.size
      have hw1 := HW1.out
      have hAB := (Below.refl w2.heap.size w2).alloc (Nat.le_refl _) (boxQ4 (ofP (among c2)))
      have hKA : KeepsM m g W (w2.alloc (boxQ4 (ofP (among c2)))) := HKK.out.trans (KeepsM.of_below (by omega) hAB)
      have hSA := HS2.out.old hAB
      have hsub := HSH.out.sub c c2 HC2.out
      have hless := HSH.out.less c c2 HCL.out HC2.out
      have hss := HCS.out.sublist hsub
      have hll : ∀ i ∈ c2, i < A.length := fun i hi => HCL.out i (hsub.subset hi)
      have hY := putV_block (e := (ofP (among c2)).a) (f := (ofP (among c2)).b) (g := (ofP (among c2)).c) (h := (ofP (among c2)).d) HA2.out
      have hYZ := (putV_other (w := w2.alloc (boxQ4 (ofP (among c2)))) (B := W.heap.size) (a := (ofP (among c2)).a) (b := (ofP (among c2)).b) (c := (ofP (among c2)).c) (d := (ofP (among c2)).d) (k := W.heap.size + 1) (by omega)).trans (old_block HZ2.out _)
      have hm := sizeQ_of (w := putV (w2.alloc (boxQ4 (ofP (among c2)))) W.heap.size (ofP (among c2)).a (ofP (among c2)).b (ofP (among c2)).c (ofP (among c2)).d) hY hss fun i hi => HCL2.out i (hsub.subset hi)
      refine ⟨⟨c2, f, l2, T2, hide hss, hide hll, hide (by have := HCF.out; omega), HP, hide (hSA.other (putV_below (Below.refl m _) (by omega)) (putV_other (by omega)) (putV_other (by omega))), hide ⟨hKA.below.trans (putV_below (Below.refl m _) (by omega)), fun i hi a b => (putV_other (by omega)).trans (hKA.kept i hi a b)⟩, hide ?_, hide hY, hide hYZ⟩, ?_⟩
      · have := hKA.below.size
        simp only [World.size_setCell]
        exact Nat.le_trans (Nat.le_trans hw1 hk0.out) hAB.size
      · exact Nat.lt_of_lt_of_le (Nat.lt_of_le_of_lt (Nat.le_of_eq hm) hless) (Nat.le_of_eq HMS.out.symm)
    · have HKK := hide (HK1.out.trans hk)
      have HP := hide (HPS.out.trans (hp _))
      have HS2 := hide hs
      have HX2 := hide (keepsM_block hk (by have := HMG.out; have := HGW.out; omega) (by have := HGW.out; omega) HX1.out)
      have HZ2 := hide (keepsM_block hk (by have := HMG.out; have := HGW.out; omega) (by have := HGW.out; omega) HZ1.out)
      clear HFS hk hp hs
      have HA2 := hide (old_block HX2.out (.cells #[.int .u64 0, .int .u64 0, .int .u64 0, .int .u64 0] 98))
      have HZA := hide (old_block HZ2.out (.cells #[.int .u64 0, .int .u64 0, .int .u64 0, .int .u64 0] 98))
      obtain ⟨x0, x1, x2, x3⟩ := box_cells HA2.out
      obtain ⟨t0, t1, t2, t3⟩ := box_cells HZA.out
      have s0 := Bi.frozen_of HZA.out 0
      have s1 := Bi.frozen_of HZA.out 1
      have s2 := Bi.frozen_of HZA.out 2
      have s3 := Bi.frozen_of HZA.out 3
      go_wp2_with fail
      have h1 := HMG.out
      have h2 := HGW.out
      have hAB := (Below.refl w2.heap.size w2).alloc (Nat.le_refl _) (boxV 0 0 0 0)
      have hKA : KeepsM m g W (w2.alloc (boxV 0 0 0 0)) := HKK.out.trans (KeepsM.of_below (by have := HKK.out.below.size; omega) hAB)
      have hSA := HS2.out.old hAB
      refine final8 (X := putV (w2.alloc (boxV 0 0 0 0)) (W.heap.size + 1) q.a q.b q.c q.d) rfl ?_
      have hY := putV_block (e := q.a) (f := q.b) (g := q.c) (h := q.d) (old_block HZ2.out (boxV 0 0 0 0))
      have hYK : KeepsM m g W (putV (w2.alloc (boxV 0 0 0 0)) (W.heap.size + 1) q.a q.b q.c q.d) := ⟨hKA.below.trans (putV_below (Below.refl m _) (by omega)), fun i hi a b => (putV_other (by omega)).trans (hKA.kept i hi a b)⟩
      have hYS := hSA.other (putV_below (a := q.a) (b := q.b) (c := q.c) (d := q.d) (B := W.heap.size + 1) (Below.refl m _) (by omega)) (putV_other (by omega)) (putV_other (by omega))
      generalize putV (w2.alloc (boxV 0 0 0 0)) (W.heap.size + 1) q.a q.b q.c q.d = Y at *
      obtain ⟨y0, y1, y2, y3⟩ := box_cells hY
      refine bodyPost_ret (v := setQ q) (by simp [results, Try.results94, go_sem, y0, y1, y2, y3]) rfl ?_
      exact .inr ⟨c, l2, T2, by rw [HQ.out], HCS.out, HCL2.out, hYK, hYS, HP.out⟩
--H>
end Go.Proofs.Ytmkapmbmgpnjaaa.Se
