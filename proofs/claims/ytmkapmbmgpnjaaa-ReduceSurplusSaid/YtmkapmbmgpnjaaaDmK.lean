import Derived.Test.YtmkapmbmgpnjaaaDmI
import Derived.Laws.EntriesVeiled
set_option maxRecDepth 100000
set_option linter.unusedSimpArgs false
set_option linter.unusedVariables false
namespace Go.Proofs.Ytmkapmbmgpnjaaa.Se
open Go Go.Ms Go.Pg Go.Bi Go.Se Go.ChangeShapes Go.WideShapes Go.ChangeAt Go.RowKit Go.Deep Go.Proofs.Ytmkapmbmgpnjaaa.Bi

theorem laidK_new {w : World} {m g : Nat} {v : Value} {xs : List Nat} (h : Laid w v xs) (hm : w.heap.size ≤ m) (hg : w.heap.size ≤ g) : LaidK w m g v xs := by
  obtain ⟨oa, cap, e, h1, h2, hc⟩ := h
  exact ⟨oa, cap, e, h1, h2, fun i hi => by
    obtain ⟨b, o, e, hx⟩ := hc i hi
    have hl : b < w.heap.size := World.block_lt_of_cell? w _ hx
    exact ⟨b, o, e, ⟨by omega, by omega⟩, hx⟩⟩
--H<
set_option maxHeartbeats 16000000 in
theorem changesProg {w : World} {v an : Value} {n : Nat} {l : List Int} (hv : NilRow w v n) (hn : n ≤ 256) (ha : Vs w w.heap.size an l) (hl : l.length ≤ 4096) (hwf : ∀ x ∈ l, 0 ≤ x ∧ x < 256) :
    Calls Try.prog 30 #[v, an] w fun e w' => ∃ res, res = play (changesN n) l [] ∧ Gives w.heap.size w' res e ∧ Below w.heap.size w w' := by
  have hB0 := (Below.refl w.heap.size w).alloc (Nat.le_refl _) (boxQ false nilV nilV nilV)
  have HB0 := hide hB0
  have HR0 : Hid ((w.alloc (boxQ false nilV nilV nilV)).heap[w.heap.size]? = some (boxQ false nilV nilV nilV)) := hide (new_block w _)
  have hsz : (w.alloc (boxQ false nilV nilV nilV)).heap.size = w.heap.size + 1 := by simp
  have HSZ := hide hsz
  have HV0 := hide (hv.old hB0)
  have HVA := hide ha
  have HL := hide hl
  have HWF := hide hwf
  have HNN := hide hn
  have hmin : min (n : Int) 256 = (n : Int) := by omega
  have hmin2 : (if (256 : Int) < (n : Int) then (256 : Int) else (n : Int)) = (n : Int) := by split <;> omega
  have hmf : ∀ (fn : Fn) (first cap : Array Value) (w : World), (Instr.makeFunc fn first cap).run Try.prog w = .ok (.func fn first cap) w := fun _ _ _ _ => rfl
  obtain ⟨oan, capn, rfl, -, -, -⟩ := ha
  obtain ⟨ov, cv, rfl, -⟩ := hv
  clear hB0 hl hwf hsz hn
  go_enter Try.func30, Try.ntmps30
  go_wp2_with fail
  change Calls Try.prog 88 _ (w.alloc (boxQ false nilV nilV nilV)) _
  generalize w.alloc (boxQ false nilV nilV nilV) = W0 at *
  (with_reducible refine (untilProg (n := n) (by have := HNN.out; omega)).mono ?_)
  rintro e w1 ⟨v1, rfl, hB1, hO1⟩
  obtain ⟨o1, k1, rfl⟩ := own_formE hO1
  simp only [List.length_range]
  rw [List.length_range] at hO1
  have hA1 := (Below.refl w1.heap.size w1).alloc (Nat.le_refl _) (box1 (.slice o1 n k1) 30)
  have HB1 : Hid (Below W0.heap.size W0 (w1.alloc (box1 (.slice o1 n k1) 30))) := hide (hB1.trans (hA1.mono hB1.size))
  have HO1 := hide (own_up hO1 hA1)
  have HA1 := hide (new_block w1 (box1 (.slice o1 n k1) 30))
  have HW1 : Hid (W0.heap.size ≤ w1.heap.size) := hide hB1.size
  have HV1 := hide (HV0.out.old HB1.out)
  have HR1 := hide ((HB1.out.block _ (block_lt HR0.out)).trans HR0.out)
  have c1 := cell_of HA1.out 0
  clear hB1 hO1 hA1 HV0
  go_wp2_with fail
  change Calls Try.prog 89 _ (w1.alloc (box1 (.slice o1 n k1) 30)) _
  obtain ⟨W1, hW1⟩ : ∃ W1, W1 = w1.alloc (box1 (.slice o1 n k1) 30) := ⟨_, rfl⟩
  have HSW1 : Hid (W1.heap.size = w1.heap.size + 1) := hide (by rw [hW1]; simp)
  rw [← hW1] at HB1 HO1 HA1 HV1 HR1 c1 ⊢
  clear hW1
  have HI1 := hide (ints_own HO1.out (by rw [List.length_map, List.length_range]; have := HNN.out; omega))
  have HNE := hide (neededN HV1.out HNN.out HI1.out)
  (with_reducible refine HNE.out.mono ?_)
  rintro e w2 ⟨gr, rfl, hgr, hB2, hR2⟩
  have hA2 := ((Below.refl w2.heap.size w2).alloc (Nat.le_refl _) (box1 (.slice (some ⟨gr, 0, none⟩) n n) 95)).alloc (by simp) (box1 (.func (.func 90) #[] #[.pointer (some ⟨w2.heap.size, 0, none⟩)]) 122)
  have HB2 := hide (hB2.trans (hA2.mono hB2.size))
  have HN2 : Hid (((w2.alloc (box1 (.slice (some ⟨gr, 0, none⟩) n n) 95)).alloc (box1 (.func (.func 90) #[] #[.pointer (some ⟨w2.heap.size, 0, none⟩)]) 122)).heap[w2.heap.size]? = some (box1 (.slice (some ⟨gr, 0, none⟩) n n) 95)) := hide (old_block (new_block w2 _) _)
  have HF2 : Hid (((w2.alloc (box1 (.slice (some ⟨gr, 0, none⟩) n n) 95)).alloc (box1 (.func (.func 90) #[] #[.pointer (some ⟨w2.heap.size, 0, none⟩)]) 122)).heap[w2.heap.size + 1]? = some (box1 (.func (.func 90) #[] #[.pointer (some ⟨w2.heap.size, 0, none⟩)]) 122)) := hide (alloc_at (by simp))
  have HRR2 := hide ((hA2.block _ (block_lt hR2)).trans hR2)
  have HZ2 : Hid (w2.heap.size + 2 = ((w2.alloc (box1 (.slice (some ⟨gr, 0, none⟩) n n) 95)).alloc (box1 (.func (.func 90) #[] #[.pointer (some ⟨w2.heap.size, 0, none⟩)]) 122)).heap.size ∧ gr < w2.heap.size) := hide ⟨by simp, block_lt hR2⟩
  clear hB2 hA2 hgr hR2 HNE HI1
  go_wp2_with fail
  change Calls Try.prog 74 _ ((w2.alloc (box1 (.slice (some ⟨gr, 0, none⟩) n n) 95)).alloc (box1 (.func (.func 90) #[] #[.pointer (some ⟨w2.heap.size, 0, none⟩)]) 122)) _
  generalize (w2.alloc (box1 (.slice (some ⟨gr, 0, none⟩) n n) 95)).alloc (box1 (.func (.func 90) #[] #[.pointer (some ⟨w2.heap.size, 0, none⟩)]) 122) = W2 at *
  have HL2 : Hid (Laid W2 (.slice o1 n k1) (List.range n)) := hide ((own_laidK (m := 0) (g := 0) HO1.out (by rw [List.length_range]; exact HNN.out) (by have := HSZ.out; omega) (by have := HSZ.out; omega)).laid.old HB2.out)
  have HA2 := hide ((HB2.out.block _ (block_lt HA1.out)).trans HA1.out)
  have HR2 := hide ((HB2.out.block _ (block_lt HR1.out)).trans HR1.out)
  have HB3 := hide (HB0.out.trans ((HB1.out.trans (HB2.out.mono HB1.out.size)).mono HB0.out.size))
  have HB4 := hide (HB1.out.trans (HB2.out.mono HB1.out.size))
  have HWS : Hid (w.heap.size ≤ W2.heap.size) := hide HB3.out.size
  have HSR := hide (searchS (w := W2) (fn := 92) (caps := #[.pointer (some ⟨w1.heap.size, 0, none⟩), .pointer (some ⟨w2.heap.size + 1, 0, none⟩)]) (R := fun res => res = play (changesN n) l []) (vs_self HVA.out HB3.out) HL.out HWF.out enters92 fun g m W3 hW3 hm hs => by
    have h1 := hs.lt
    have h2 := block_lt HA2.out
    have h3 := HZ2.out
    exact chg1 hs ((hW3.block _ (block_lt HA2.out)).trans HA2.out) ((laidK_new HL2.out (by omega) (by omega)).old hW3) ((hW3.block _ (block_lt HF2.out)).trans HF2.out) ((hW3.block _ (block_lt HN2.out)).trans HN2.out) ((hW3.block _ (block_lt HRR2.out)).trans HRR2.out) ⟨by omega, by omega⟩ ⟨by omega, by omega⟩ ⟨by omega, by omega⟩ ⟨by omega, by omega⟩ HNN.out (by have := hs.gt; omega))
  (with_reducible refine HSR.out.mono ?_)
  rintro e w3 ⟨res, hres, ho, hB⟩
  have HRES := hide hres
  obtain ⟨dd, oa1, na, ca, ok, nk, ck, op, np, cp, x, rfl, hkeep⟩ := gives_form ho
  have HKP := hide hkeep
  have HB5 := hide (HB3.out.trans (hB.mono HB3.out.size))
  have HR := hide ((hB.block _ (block_lt HR2.out)).trans HR2.out)
  have hws := HWS.out
  clear hres ho hkeep hB HSR c1
  obtain ⟨q0, q1, q2, q3⟩ := q_cells HR.out
  have s0 := Bi.frozen_of HR.out 0
  have s1 := Bi.frozen_of HR.out 1
  have s2 := Bi.frozen_of HR.out 2
  have s3 := Bi.frozen_of HR.out 3
  go_wp2_with fail
  refine final8 (X := putQ w3 w.heap.size dd (.slice oa1 na ca) (.slice ok nk ck) (.slice op np cp)) rfl ?_
  have HP := hide (putQ_block (e := dd) (b := .slice oa1 na ca) (l := .slice ok nk ck) (q := .slice op np cp) HR.out)
  have HQ := hide (putQ_below (d := dd) (a := .slice oa1 na ca) (l := .slice ok nk ck) (p := .slice op np cp) HB5.out (B := w.heap.size) (Nat.le_refl _))
  have HO := hide (gives_low hws (HKP.out (putQ w3 w.heap.size dd (.slice oa1 na ca) (.slice ok nk ck) (.slice op np cp)) fun b cs hh => putQ_other (fun e => by subst e; rw [HR.out] at hh; injection hh with hh; injection hh with _ ht; cases ht)))
  clear HKP
  generalize putQ w3 w.heap.size dd (.slice oa1 na ca) (.slice ok nk ck) (.slice op np cp) = X at *
  obtain ⟨x0, x1, x2, x3⟩ := q_cells HP.out
  refine bodyPost_ret (v := .tuple #[questV dd (.slice oa1 na ca) (.slice ok nk ck) (.slice op np cp), .int .i64 x]) (by simp [results, Try.results30, go_sem, x0, x1, x2, x3]) rfl ?_
  exact ⟨res, HRES.out, HO.out, HQ.out⟩
--H>
end Go.Proofs.Ytmkapmbmgpnjaaa.Se
