import Derived.Test.YtmkapmbmgpnjaaaDsI
import Derived.Test.YtmkapmbmgpnjaaaDsH
import Derived.Test.YtmkapmbmgpnjaaaGiL
set_option maxRecDepth 100000
set_option linter.unusedSimpArgs false
set_option linter.unusedVariables false
namespace Go.Proofs.Ytmkapmbmgpnjaaa.Se
open Go Go.Ms Go.Pg Go.Rc Go.Bi Go.Se Go.ChangeShapes Go.WideShapes Go.ChangeAt Go.RowKit Go.Deep Go.Shelf Go.Proofs.Ytmkapmbmgpnjaaa.Bi

attribute [local go_sem] Oper.semAt_some

def Narrowed (W : World) (g m B n : Nat) (b : Bs) (l : List Int) (T : List (Q4 × Int)) (e : Ending) (w' : World) : Prop :=
  (∃ q, e = asks4 q.a q.b q.c q.d ∧ q.Ok ∧ (∀ f, play (diffT (f + 1) b) l T = .ask (memQ q)) ∧ KeepsB m g B W w') ∨
  (∃ b' l' T', e = .returned (.bool true) ∧ Fit n b' ∧ size b' < size b ∧ (∀ f, play (diffT (f + 1) b) l T = play (diffT f b') l' T') ∧ SBox w' g m l' T' ∧ w'.heap[B]? = some (boxB b'.pass b'.fail b'.g) ∧ KeepsB m g B W w') ∨
  (∃ h l' T', e = .returned (.bool false) ∧ (∀ f, play (diffT (f + 1) b) l T = play (doneT b) l' T') ∧ SBox w' g m l' T' ∧ w'.heap[B]? = some (boxB b.pass b.fail h) ∧ KeepsB m g B W w')
theorem len_between (b : Bs) : (upTo (memQ (lessQ b.fail b.pass)) 256).length = (between b).length := by
  rw [← listQ_ofN, List.length_map]
  rfl
def RoundQ (tm : Bool → Array Value) (S : Bool → World → Prop) (Pn : List PanicEntry → World → Prop) : Exit → Act → World → Prop
  | .normal, a, w => ∃ z, a = { tmps := tm z, defers := [] } ∧ S z w
  | .panic ch, a, w => a.defers = [] ∧ Pn ch w
  | _, _, _ => False
theorem lessProg {w : World} {s t : Q4} (h : s.Ok) (k : t.Ok) : Calls Try.prog 76 #[setV s.a s.b s.c s.d, setV t.a t.b t.c t.d] w fun e w' => e = .returned (setV (lessQ s t).a (lessQ s t).b (lessQ s t).c (lessQ s t).d) ∧ Below w.heap.size w w' := withoutSet (sp_mem h) (sp_mem k)

set_option maxHeartbeats 16000000 in
theorem narrowS {W : World} {g m B n : Nat} {l : List Int} {T : List (Q4 × Int)} {b : Bs} (hS : SBox W g m l T) (hb : W.heap[B]? = some (boxB b.pass b.fail b.g)) (hm : m < B) (hg : g < B) (hf : Fit n b) :
    Calls Try.prog 117 #[.pointer (some ⟨B, 0, none⟩), .pointer (some ⟨g, 0, none⟩)] W (Narrowed W g m B n b l T) := by
  have HF := hide hf
  have HM := hide hm
  have HG := hide hg
  have HBW := hide (block_lt hb)
  have hA1 := (Below.refl W.heap.size W).alloc (Nat.le_refl _) (box1 (.pointer (some ⟨B, 0, none⟩)) 183)
  have hA2 := hA1.alloc hA1.size (box1 (.pointer (some ⟨g, 0, none⟩)) 101)
  have hA3 := hA2.alloc hA2.size (box1 (.bool false) 4)
  have HA := hide hA3
  have HS := hide (hS.old hA3)
  have HBX := hide ((hA3.block _ (block_lt hb)).trans hb)
  have H2 := hide (old_block (old_block (new_block W (box1 (.pointer (some ⟨B, 0, none⟩)) 183)) (box1 (.pointer (some ⟨g, 0, none⟩)) 101)) (box1 (.bool false) 4))
  have H3 : Hid ((((W.alloc (box1 (.pointer (some ⟨B, 0, none⟩)) 183)).alloc (box1 (.pointer (some ⟨g, 0, none⟩)) 101)).alloc (box1 (.bool false) 4)).heap[W.heap.size + 1]? = some (box1 (.pointer (some ⟨g, 0, none⟩)) 101)) := hide (old_block (alloc_at (by simp)) _)
  have H4 : Hid ((((W.alloc (box1 (.pointer (some ⟨B, 0, none⟩)) 183)).alloc (box1 (.pointer (some ⟨g, 0, none⟩)) 101)).alloc (box1 (.bool false) 4)).heap[W.heap.size + 2]? = some (box1 (.bool false) 4)) := hide (alloc_at (by simp))
  have HW0 : Hid ((((W.alloc (box1 (.pointer (some ⟨B, 0, none⟩)) 183)).alloc (box1 (.pointer (some ⟨g, 0, none⟩)) 101)).alloc (box1 (.bool false) 4)).heap.size = W.heap.size + 3) := hide (by simp)
  clear hA1 hA2 hA3 hS hb hm hg hf
  refine Rp.calls_of_at (n := 4) (fn := Try.f117) Try.func117 rfl ?_
  simp only [Try.ntmps117, List.size_toArray, List.length_cons, List.length_nil, Nat.reduceAdd, Nat.reduceSub, Array.replicate_succ, Array.replicate_zero, List.push_toArray, List.append_toArray, List.nil_append, List.cons_append]
  refine Rp.At.seqOnly ?_
  go_wp2_with fail
  generalize hW0 : ((W.alloc (box1 (.pointer (some ⟨B, 0, none⟩)) 183)).alloc (box1 (.pointer (some ⟨g, 0, none⟩)) 101)).alloc (box1 (.bool false) 4) = W0 at *
  refine Rp.At.seqOnly ?_
  refine wp_region_held_drew (S := fun w' => Hid (w'.heap[W.heap.size]? = some (box1 (.pointer (some ⟨B, 0, none⟩)) 183) ∧ w'.heap[B]? = some (boxB b.pass b.fail b.g))) (by kernel_rfl) (hide ⟨H2.out, HBX.out⟩) (fun hHeld => ?_)
  refine takeAt (i := 0) (d := some 8) (v := .pointer (some ⟨B, 0, none⟩)) rfl rfl (by kernel_rfl) (by kernel_rfl) (by kernel_rfl) (fun _ _ _ h => h) (Or.inl ⟨by rfl, fun w hS => by have c2 := cell_of hS.out.1 0; go_simp⟩) hHeld ?_
  simp only [Act.put, List.setIfInBounds_toArray, List.set_cons_zero, List.set_cons_succ]
  refine takeAt (i := 1) (d := some 9) (v := .pointer (some ⟨B, 0, none⟩)) rfl rfl (by kernel_rfl) (by kernel_rfl) (by kernel_rfl) (fun _ _ _ h => h) (Or.inl ⟨by rfl, fun w _ => by go_simp⟩) hHeld ?_
  simp only [Act.put, List.setIfInBounds_toArray, List.set_cons_zero, List.set_cons_succ]
  refine takeAt (i := 2) (d := some 10) (v := .pointer (some ⟨B, 4, none⟩)) rfl rfl (by kernel_rfl) (by kernel_rfl) (by kernel_rfl) (fun _ _ _ h => h) (Or.inl ⟨by rfl, fun w _ => by go_simp⟩) hHeld ?_
  simp only [Act.put, List.setIfInBounds_toArray, List.set_cons_zero, List.set_cons_succ]
  refine takeAt (i := 3) (d := some 11) (v := setV b.fail.a b.fail.b b.fail.c b.fail.d) rfl rfl (by kernel_rfl) (by kernel_rfl) (by kernel_rfl) (fun _ _ _ h => h) (Or.inl ⟨by rfl, fun w hS => by obtain ⟨⟨x0, x1, x2, x3⟩, ⟨x4, x5, x6, x7⟩, x8⟩ := b_cells hS.out.2; go_simp⟩) hHeld ?_
  simp only [Act.put, List.setIfInBounds_toArray, List.set_cons_zero, List.set_cons_succ]
  refine takeAt (i := 4) (d := some 12) (v := .pointer (some ⟨B, 0, none⟩)) rfl rfl (by kernel_rfl) (by kernel_rfl) (by kernel_rfl) (fun _ _ _ h => h) (Or.inl ⟨by rfl, fun w hS => by have c2 := cell_of hS.out.1 0; go_simp⟩) hHeld ?_
  simp only [Act.put, List.setIfInBounds_toArray, List.set_cons_zero, List.set_cons_succ]
  refine takeAt (i := 5) (d := some 13) (v := .pointer (some ⟨B, 0, none⟩)) rfl rfl (by kernel_rfl) (by kernel_rfl) (by kernel_rfl) (fun _ _ _ h => h) (Or.inl ⟨by rfl, fun w _ => by go_simp⟩) hHeld ?_
  simp only [Act.put, List.setIfInBounds_toArray, List.set_cons_zero, List.set_cons_succ]
  refine takeAt (i := 6) (d := some 14) (v := .pointer (some ⟨B, 0, none⟩)) rfl rfl (by kernel_rfl) (by kernel_rfl) (by kernel_rfl) (fun _ _ _ h => h) (Or.inl ⟨by rfl, fun w _ => by go_simp⟩) hHeld ?_
  simp only [Act.put, List.setIfInBounds_toArray, List.set_cons_zero, List.set_cons_succ]
  refine takeAt (i := 7) (d := some 15) (v := setV b.pass.a b.pass.b b.pass.c b.pass.d) rfl rfl (by kernel_rfl) (by kernel_rfl) (by kernel_rfl) (fun _ _ _ h => h) (Or.inl ⟨by rfl, fun w hS => by obtain ⟨⟨x0, x1, x2, x3⟩, ⟨x4, x5, x6, x7⟩, x8⟩ := b_cells hS.out.2; go_simp⟩) hHeld ?_
  simp only [Act.put, List.setIfInBounds_toArray, List.set_cons_zero, List.set_cons_succ]
  refine wpAnyH_ready (rs := [8]) (by kernel_rfl) (by simp) ?_
  refine AllReadyH.cons rfl (fun K0 hK => ?_) AllReadyH.nil
  go_simp
  go_at_call 76
  (with_reducible refine (lessProg HF.out.fail.ok HF.out.pass).mono ?_)
  rintro e w1 ⟨rfl, hB1⟩
  have HB1 := hide ((Below.drew (Below.refl W0.heap.size W0)).trans hB1)
  have HH1 : Hid (w1.heap[W.heap.size]? = some (box1 (.pointer (some ⟨B, 0, none⟩)) 183) ∧ w1.heap[B]? = some (boxB b.pass b.fail b.g)) := hide ⟨(HB1.out.block _ (block_lt H2.out)).trans H2.out, (HB1.out.block _ (block_lt HBX.out)).trans HBX.out⟩
  clear hB1
  refine hK.out _ _ HH1 (fun hHeld => ?_)
  clear hK K0
  try simp only [Act.put, List.setIfInBounds_toArray, List.set_cons_zero, List.set_cons_succ]
  refine wpAnyH_ready (rs := [9]) (by kernel_rfl) (by simp) ?_
  refine AllReadyH.cons rfl (fun K0 hK => ?_) AllReadyH.nil
  go_simp
  go_at_call 79
  (with_reducible refine (listProg (sp_mem (less_ok HF.out.fail.ok HF.out.pass))).mono ?_)
  rintro e w2 ⟨vl, rfl, hB2, hO2⟩
  have HB2 := hide (HB1.out.trans (hB2.mono HB1.out.size))
  have HH2 : Hid (w2.heap[W.heap.size]? = some (box1 (.pointer (some ⟨B, 0, none⟩)) 183) ∧ w2.heap[B]? = some (boxB b.pass b.fail b.g)) := hide ⟨(HB2.out.block _ (block_lt H2.out)).trans H2.out, (HB2.out.block _ (block_lt HBX.out)).trans HBX.out⟩
  obtain ⟨oa, cap, rfl⟩ := Go.Il.Own.form hO2
  rw [len_between] at hO2
  simp only [len_between]
  have HO : Hid (Go.Il.Own 3 .i64 W0.heap.size w2 (.slice oa (between b).length cap) (ofN (between b))) := hide (own_mono HB1.out.size hO2)
  clear hB2 hO2 HH1 HB1
  refine hK.out _ _ HH2 (fun hHeld => ?_)
  clear hK K0
  try simp only [Act.put, List.setIfInBounds_toArray, List.set_cons_zero, List.set_cons_succ]
  refine wpAnyH_ready (rs := [10]) (by kernel_rfl) (by simp) ?_
  refine AllReadyH.cons rfl (fun K0 hK => ?_) AllReadyH.nil
  go_simp
  refine hK.out _ _ HH2 (fun hHeld => ?_)
  clear hK K0
  try simp only [Act.put, List.setIfInBounds_toArray, List.set_cons_zero, List.set_cons_succ]
  refine wpAnyH_done (by kernel_rfl) ?_ _
  show Rp.At _ _ _ _ _ _
  have HS2 := hide (HS.out.old HB2.out)
  have H22 := hide HH2.out.1
  have HX2 := hide HH2.out.2
  have H32 := hide ((HB2.out.block _ (block_lt H3.out)).trans H3.out)
  have H42 := hide ((HB2.out.block _ (block_lt H4.out)).trans H4.out)
  have HW2 := hide (HA.out.trans (HB2.out.mono HA.out.size))
  have HSZ : Hid (W.heap.size + 3 ≤ W0.heap.size ∧ W0.heap.size ≤ w2.heap.size) := hide ⟨Nat.le_of_eq HW0.out.symm, HB2.out.size⟩
  obtain ⟨nd, hnd⟩ : ∃ nd, nd = (between b).length := ⟨_, rfl⟩
  have HND := hide hnd
  have HNL : Hid (nd ≤ 256) := hide (by rw [hnd]; exact between_le b)
  rw [← hnd] at HO ⊢
  clear hnd HB2 HH2 H2 H3 H4 HBX HS HA hW0 HW0
  by_cases hlt : nd < 2
  · have t1 : decide ((nd : Int) < 2) = true := decide_eq_true (by omega)
    have t2 : decide (nd < 2) = true := decide_eq_true hlt
    have HLT := hide hlt
    have x4 := cell_of H42.out 0
    have f4 := Bi.frozen_of H42.out 0
    clear hlt
    refine Rp.At.seq (Rp.At.wp ?_)
    go_wp2_with fail
    have HX4 := set1_block (v := .bool false) H42.out
    have HXO : Hid (∀ k, k ≠ W.heap.size + 1 + 1 → (w2.setCell ⟨W.heap.size + 1 + 1, 0, none⟩ (.bool false)).heap[k]? = w2.heap[k]?) := hide fun k hk => Below.heap_setCell _ _ _ _ hk
    have HXB : Hid (Below W.heap.size w2 (w2.setCell ⟨W.heap.size + 1 + 1, 0, none⟩ (.bool false))) := hide ((Below.refl _ _).setCell (p := ⟨W.heap.size + 1 + 1, 0, none⟩) (by show W.heap.size ≤ W.heap.size + 1 + 1; omega) _)
    generalize w2.setCell ⟨W.heap.size + 1 + 1, 0, none⟩ (.bool false) = X at *
    have y4 := cell_of HX4 0
    have hm := HM.out
    have hg := HG.out
    have hbw := HBW.out
    refine Rp.leaves_ret (v := .bool false) (by simp [results, Try.results117, go_sem, y4]) ?_
    exact .inr (.inr ⟨b.g, l, T, rfl, fun f => by rw [diffT_less (by rw [← HND.out]; exact HLT.out)], HS2.out.other (HXB.out.mono (by omega)) (HXO.out m (by omega)) (HXO.out g (by omega)), (HXO.out B (by omega)).trans HX2.out, KeepsB.of_below (by omega) (HW2.out.trans HXB.out)⟩)
  · have t1 : decide ((nd : Int) < 2) = false := decide_eq_false (by omega)
    have t2 : decide (nd < 2) = false := decide_eq_false hlt
    have HGE : Hid (2 ≤ nd) := hide (by omega)
    clear hlt
    refine Rp.At.seq (Rp.At.wp ?_)
    go_wp2_with fail
    show Rp.At _ _ _ _ _ _
    clear t1 t2
    refine Rp.At.seq (Rp.At.seqOnly ?_)
    have c2 := cell_of H22.out 0
    obtain ⟨-, -, x8⟩ := b_cells HX2.out
    go_wp2_with fail
    (with_reducible refine (maker (n := nd) (by have := HNL.out; omega)).mono ?_)
    rintro e w3 ⟨rfl, hB3, hs3, hc3, hl3⟩
    clear c2 x8
    have HB3 := hide hB3
    have HS3 := hide (HS2.out.old hB3)
    have H23 := hide ((hB3.block _ (block_lt H22.out)).trans H22.out)
    have H33 := hide ((hB3.block _ (block_lt H32.out)).trans H32.out)
    have H43 := hide ((hB3.block _ (block_lt H42.out)).trans H42.out)
    have HX3 := hide ((hB3.block _ (block_lt HX2.out)).trans HX2.out)
    have HW3 := hide (HW2.out.trans (hB3.mono HW2.out.size))
    have hcc : count nd (b.g : Int) = countOf b := by
      unfold count countOf
      rw [← HND.out]
      omega
    rw [hcc] at hc3
    obtain ⟨gl, hoa, hgl1, hgl2, -, hcap, hcells⟩ := own_cells HO.out (by have := HGE.out; omega)
    subst hoa
    have HGL : Hid (W.heap.size + 3 ≤ gl ∧ gl < w2.heap.size) := hide ⟨Nat.le_trans HSZ.out.1 hgl1, hgl2⟩
    have HLC : Hid (∀ j (hj : j < (between b).length), w3.cell? ⟨gl, 0 + j, none⟩ = some (.int .i64 ((between b)[j] : Int))) := hide fun j hj => (hB3.cell (p := ⟨gl, 0 + j, none⟩) hgl2).trans ((hcells j (by simpa using hj)).trans (by simp))
    obtain ⟨c, hc⟩ : ∃ c, c = countOf b := ⟨_, rfl⟩
    have HC := hide hc
    have HCN : Hid (2 ≤ c ∧ c ≤ nd) := hide (by rw [hc]; have := count_two HF.out (by rw [← HND.out]; exact HGE.out); rw [← HND.out] at this; exact this)
    rw [← hc] at hc3
    have HHS := hide hs3
    clear hB3 hcells hgl1 hgl2 hcc hc HS2 H22 H32 H42 HX2 HW2 HB3
    go_wp2_with fail
    show Rp.At _ _ _ _ _ _
    refine Rp.At.block ?_
    have hM := HM.out
    have hG := HG.out
    have hBW := HBW.out
    have hSZ := HSZ.out
    have hHS := HHS.out
    have hcn := HCN.out
    have hnl := HNL.out
    refine Rp.At.rangeFunc ⟨_, Try.func117⟩ rfl (enters_of Try.func162 (by kernel_rfl) rfl)
      (stops (b := gl) (o := 0) (cap := cap) (n := nd) (c := c) hcap (by omega) (by omega) (by omega) (by omega) hc3 (fun _ => hl3)) (fun h k => h.trans k) (fun W' r o o' hr hW _ _ => ?_) (Below.refl _ _) (fun _ => rfl)
      (fun pre W' => ∃ l' T', Goes b l T pre.length l' T' ∧ SBox W' g m l' T' ∧ W'.heap[B]? = some (boxB b.pass b.fail b.g) ∧ KeepsB m g B w3 W')
      (fun cd pre W' => cd = .ret ∧ ∃ b' l' T', Fit n b' ∧ size b' < size b ∧ (∀ f, play (diffT (f + 1) b) l T = play (diffT f b') l' T') ∧ SBox W' g m l' T' ∧ W'.heap[B]? = some (boxB b'.pass b'.fail b'.g) ∧ KeepsB m g B W W' ∧ W'.heap[W.heap.size + 1 + 1]? = some (box1 (.bool true) 4))
      (fun ch W' => ∃ q : Q4, Ending.panicked ch = asks4 q.a q.b q.c q.d ∧ q.Ok ∧ (∀ f, play (diffT (f + 1) b) l T = .ask (memQ q)) ∧ KeepsB m g B W W')
      ?own ?ownx ⟨l, T, Goes.zero (by rw [← HND.out]; exact HGE.out), HS3.out, HX3.out, KeepsB.refl _ _ _ _⟩
      (fun x => { tmps := #[.pointer (some ⟨B, 0, none⟩), .pointer (some ⟨g, 0, none⟩), .pointer (some ⟨W.heap.size, 0, none⟩), .pointer (some ⟨W.heap.size + 1, 0, none⟩), .pointer (some ⟨W.heap.size + 1 + 1, 0, none⟩), .slice (some ⟨gl, 0, none⟩) nd cap, .slice (some ⟨gl, cut nd c x, none⟩) (cut nd c (x + 1) - cut nd c x) (cap - cut nd c x), undef, .pointer (some ⟨B, 0, none⟩), .pointer (some ⟨B, 0, none⟩), .pointer (some ⟨B, 4, none⟩), setV b.fail.a b.fail.b b.fail.c b.fail.d, .pointer (some ⟨B, 0, none⟩), .pointer (some ⟨B, 0, none⟩), .pointer (some ⟨B, 0, none⟩), setV b.pass.a b.pass.b b.pass.c b.pass.d, setV (lessQ b.fail b.pass).a (lessQ b.fail b.pass).b (lessQ b.fail b.pass).c (lessQ b.fail b.pass).d, .slice (some ⟨gl, 0, none⟩) nd cap, .slice (some ⟨gl, 0, none⟩) nd cap, .int .i64 (nd : Int), .bool false, .slice (some ⟨gl, 0, none⟩) nd cap, .pointer (some ⟨B, 0, none⟩), .pointer (some ⟨B, 0, none⟩), .pointer (some ⟨B, 8, none⟩), .int .i64 (b.g : Int), .func (.func 162) #[] #[.pointer (some ⟨w2.heap.size + 1, 0, none⟩), .pointer (some ⟨w2.heap.size, 0, none⟩)], .slice (some ⟨gl, cut nd c x, none⟩) (cut nd c (x + 1) - cut nd c x) (cap - cut nd c x), undef, undef, undef, undef, undef, undef, undef, undef, undef, undef, undef, undef, undef, undef, undef, undef, undef, undef, undef, undef, undef, undef, undef, undef], defers := [] }) ?assign ?body ?done ?stop ?panic
    · exact ⟨World.putObj_heap_other (by omega), World.putObj_heap_other (by omega)⟩
    case own =>
      rintro pre A A' row ⟨l', T', h1, h2, h3, h4⟩ hg hr
      have hr' : ∀ r, row = some r → w3.heap.size ≤ r := fun r e => (hr r e).1
      have hz := h4.below.size
      exact ⟨l', T', h1, sbox_grown h2 hg (fun r e => by have := hr' r e; exact ⟨by omega, by omega, by omega⟩), (hg.block B (by omega) (fun e => by have := hr' B e.symm; omega)).trans h3, h4.grown hg (by omega) hr'⟩
    case ownx =>
      rintro cd pre A A' row ⟨rfl, b', l', T', h1, h2, h3, h4, h5, h6, h7⟩ hg hr
      have hr' : ∀ r, row = some r → w3.heap.size ≤ r := fun r e => (hr r e).1
      have hz := h6.below.size
      exact ⟨rfl, b', l', T', h1, h2, h3, sbox_grown h4 hg (fun r e => by have := hr' r e; exact ⟨by omega, by omega, by omega⟩), (hg.block B (block_lt h5) (fun e => by have := hr' B e.symm; omega)).trans h5, h6.grown hg (by omega) (fun r e => by have := hr' r e; omega), (hg.block _ (block_lt h7) (fun e => by have := hr' _ e.symm; omega)).trans h7⟩
    case assign =>
      intro r x W' K hK
      dsimp only [enc]
      gi_wp2
      exact hK
    case body =>
      rintro r pre x W' ⟨l', T', hGo, hS', hb', hk'⟩ hlen hpre
      have hx := Rp.prefix_last hpre
      have HR2 := hide (hk'.same H23.out (by omega) (by omega) (by omega))
      have HR3 := hide (hk'.same H33.out (by omega) (by omega) (by omega))
      have HR4 := hide (hk'.same H43.out (by omega) (by omega) (by omega))
      have hgl := HGL.out
      have HNA : Hid (Nats W'.drew (.slice (some ⟨gl, cut nd c x, none⟩) (cut nd c (x + 1) - cut nd c x) (cap - cut nd c x)) (piece (between b) c x)) := hide (by
        have e := HND.out
        have := nats_piece (w := W'.drew) (gl := gl) (cap := cap) (c := c) (k := x) (d := between b) (fun j hj => (World.cell?_of_block (a := ⟨gl, 0 + j, none⟩) (hk'.kept gl (by omega) (by omega) (by omega) (by omega))).trans (HLC.out j hj)) x.2 (by omega)
        rw [← e] at this
        exact this)
      have HPX : Hid (∀ k ∈ piece (between b) c x, k < 256) := hide fun k hk => listQ_lt (piece_sub hk)
      have hMove : ∀ w4, Below W'.heap.size W' w4 → Calls Try.prog 151 #[.pointer (some ⟨B, 0, none⟩), .pointer (some ⟨g, 0, none⟩), setV (pieceQ (between b) c x).a (pieceQ (between b) c x).b (pieceQ (between b) c x).c (pieceQ (between b) c x).d] w4 fun e w5 =>
          (∃ q, e = .panicked q ∧ KeepsFrom w3.heap.size W' w5 ∧ ∃ q' : Q4, Ending.panicked q = asks4 q'.a q'.b q'.c q'.d ∧ q'.Ok ∧ (∀ f, play (diffT (f + 1) b) l T = .ask (memQ q')) ∧ KeepsB m g B W w5) ∨
          (∃ z, e = .returned (.bool z) ∧ KeepsB m g B W' w5 ∧ ((z = true ∧ ∃ b' l' T', Fit n b' ∧ size b' < size b ∧ (∀ f, play (diffT (f + 1) b) l T = play (diffT f b') l' T') ∧ SBox w5 g m l' T' ∧ w5.heap[B]? = some (boxB b'.pass b'.fail b'.g)) ∨
            (z = false ∧ ∃ l' T', Goes b l T (pre.length + 1) l' T' ∧ SBox w5 g m l' T' ∧ w5.heap[B]? = some (boxB b.pass b.fail b.g)))) := fun w4 h4 => by
        have hz := hk'.below.size
        have hz4 := h4.size
        have hk4 : KeepsB m g B W' w4 := KeepsB.of_below (by omega) h4
        have hkW : KeepsB m g B W W' := ⟨(HW3.out.mono (by omega)).trans hk'.below, fun i hi h1 h2 h3 => (hk'.kept i (by omega) h1 h2 h3).trans (HW3.out.block i hi)⟩
        have hf := HF.out
        refine (moveS (b := b) (c := pieceQ (between b) c x) (hS'.old h4) ((h4.block _ (block_lt hb')).trans hb') hM hG hf.pass hf.fail.ok (ofP_ok _) hf.gran).mono ?_
        have hi : pre.length < countOf b := by rw [← HC.out]; exact hlen
        have e1 : pieceQ (between b) c x.val = pieceQ (between b) (countOf b) pre.length := by rw [hx]; exact congrArg (fun q => pieceQ (between b) q pre.length) HC.out
        rintro e w5 (⟨q, rfl, hq, hp, hk⟩ | ⟨x', y', l2, T2, rfl, hp, hs, hb2, hk⟩)
        · refine .inl ⟨_, rfl, ?_, q, rfl, hq, ?_, hkW.trans (hk4.trans hk)⟩
          · exact ⟨(hk4.trans hk).below.size, fun k o hk1 hk2 _ => (hk4.trans hk).same hk2 (by omega) (by omega) (by omega)⟩
          · intro f
            refine Goes.stop hGo hi (fun k => ?_) f
            rw [e1] at hp
            exact hp k
        · refine .inr ⟨_, rfl, hk4.trans hk, ?_⟩
          rw [e1] at hp
          rw [e1] at hb2
          rw [e1]
          cases hm : moved b (pieceQ (between b) (countOf b) pre.length) x' y' with
          | some b' =>
            rw [hm] at hb2
            obtain ⟨f1, f2, f3⟩ := moved_fit hf hi (by have := HC.out; omega) (by have := HC.out; have := HND.out; omega) hm
            exact .inl ⟨rfl, b', l2, T2, f1, size_moved f1 f3, Goes.found hGo hi hp hm, hs, hb2⟩
          | none =>
            rw [hm] at hb2
            exact .inr ⟨rfl, l2, T2, Goes.next hGo hi hp hm, hs, hb2⟩
      have hkW : KeepsB m g B W W' := ⟨(HW3.out.mono (by omega)).trans hk'.below, fun i hi h1 h2 h3 => (hk'.kept i (by omega) h1 h2 h3).trans (HW3.out.block i hi)⟩
      have c2 : W'.drew.cell? ⟨W.heap.size, 0, none⟩ = some (.pointer (some ⟨B, 0, none⟩)) := cell_of HR2.out 0
      have c3 : W'.drew.cell? ⟨W.heap.size + 1, 0, none⟩ = some (.pointer (some ⟨g, 0, none⟩)) := cell_of HR3.out 0
      have hz' := hk'.below.size
      have hT : ∀ w5, KeepsB m g B W' w5 → (∃ b' l' T', Fit n b' ∧ size b' < size b ∧ (∀ f, play (diffT (f + 1) b) l T = play (diffT f b') l' T') ∧ SBox w5 g m l' T' ∧ w5.heap[B]? = some (boxB b'.pass b'.fail b'.g)) →
          w5.cell? ⟨W.heap.size + 1 + 1, 0, none⟩ = some (.bool false) ∧ w5.frozen? ⟨W.heap.size + 1 + 1, 0, none⟩ = false ∧ ∀ X, X = w5.setCell ⟨W.heap.size + 1 + 1, 0, none⟩ (.bool true) → KeepsFrom w3.heap.size W' X ∧ ∃ b' l' T', Fit n b' ∧ size b' < size b ∧ (∀ f, play (diffT (f + 1) b) l T = play (diffT f b') l' T') ∧ SBox X g m l' T' ∧ X.heap[B]? = some (boxB b'.pass b'.fail b'.g) ∧ KeepsB m g B W X ∧ X.heap[W.heap.size + 1 + 1]? = some (box1 (.bool true) 4) := by
        rintro w5 hk ⟨b', l', T', h1, h2, h3, h4, h5⟩
        have h6 := hk.same HR4.out (by omega) (by omega) (by omega)
        refine ⟨cell_of h6 0, Bi.frozen_of h6 0, fun X hX => ?_⟩
        have hXO : ∀ k, k ≠ W.heap.size + 1 + 1 → X.heap[k]? = w5.heap[k]? := fun k hk => by rw [hX]; exact Below.heap_setCell _ _ _ _ hk
        have hXB : Below W.heap.size w5 X := by rw [hX]; exact (Below.refl _ _).setCell (p := ⟨W.heap.size + 1 + 1, 0, none⟩) (by show W.heap.size ≤ W.heap.size + 1 + 1; omega) _
        have hXK : KeepsB m g B W X := KeepsB.of_below' (by omega) hXB hXO (hkW.trans hk) (by omega)
        refine ⟨⟨Nat.le_trans hk.below.size hXB.size, fun k o hk1 hk2 _ => (hXO k (by omega)).trans (hk.same hk2 (by omega) (by omega) (by omega))⟩, b', l', T', h1, h2, h3, h4.other (hXB.mono (by omega)) (hXO m (by omega)) (hXO g (by omega)), (hXO B (by omega)).trans h5, hXK, by rw [hX]; exact set1_block h6⟩
      have hFl : ∀ w5, KeepsB m g B W' w5 → (∃ l' T', Goes b l T (pre.length + 1) l' T' ∧ SBox w5 g m l' T' ∧ w5.heap[B]? = some (boxB b.pass b.fail b.g)) →
          KeepsFrom w3.heap.size W' w5 ∧ Kp (w2.heap.size + 1) w2.heap.size W' w5 ∧ ∃ l' T', Goes b l T (pre ++ [x]).length l' T' ∧ SBox w5 g m l' T' ∧ w5.heap[B]? = some (boxB b.pass b.fail b.g) ∧ KeepsB m g B w3 w5 := by
        rintro w5 hk ⟨l', T', h1, h2, h3⟩
        refine ⟨⟨hk.below.size, fun k o hk1 hk2 _ => hk.same hk2 (by omega) (by omega) (by omega)⟩, ⟨hk.kept _ (by omega) (by omega) (by omega) (by omega), hk.kept _ (by omega) (by omega) (by omega) (by omega)⟩, l', T', by simpa using h1, h2, h3, hk'.trans hk⟩
      have HMove := hide hMove
      have HT := hide hT
      have HFl := hide hFl
      clear hx hGo hS' hb' hk' hkW hz' hlen hpre hM hG hBW hSZ hHS hcn hnl hgl hMove hT hFl hcap hl3 hc3 hs3
      gi_wp2
      refine wpIn_mono (Q := RoundQ (fun z => #[.pointer (some ⟨B, 0, none⟩), .pointer (some ⟨g, 0, none⟩), .pointer (some ⟨W.heap.size, 0, none⟩), .pointer (some ⟨W.heap.size + 1, 0, none⟩), .pointer (some ⟨W.heap.size + 1 + 1, 0, none⟩), .slice (some ⟨gl, 0, none⟩) nd cap, .slice (some ⟨gl, cut nd c x, none⟩) (cut nd c (x + 1) - cut nd c x) (cap - cut nd c x), undef, .pointer (some ⟨B, 0, none⟩), .pointer (some ⟨B, 0, none⟩), .pointer (some ⟨B, 4, none⟩), setV b.fail.a b.fail.b b.fail.c b.fail.d, .pointer (some ⟨B, 0, none⟩), .pointer (some ⟨B, 0, none⟩), .pointer (some ⟨B, 0, none⟩), setV b.pass.a b.pass.b b.pass.c b.pass.d, setV (lessQ b.fail b.pass).a (lessQ b.fail b.pass).b (lessQ b.fail b.pass).c (lessQ b.fail b.pass).d, .slice (some ⟨gl, 0, none⟩) nd cap, .slice (some ⟨gl, 0, none⟩) nd cap, .int .i64 (nd : Int), .bool false, .slice (some ⟨gl, 0, none⟩) nd cap, .pointer (some ⟨B, 0, none⟩), .pointer (some ⟨B, 0, none⟩), .pointer (some ⟨B, 8, none⟩), .int .i64 (b.g : Int), .func (.func 162) #[] #[.pointer (some ⟨w2.heap.size + 1, 0, none⟩), .pointer (some ⟨w2.heap.size, 0, none⟩)], .slice (some ⟨gl, cut nd c x, none⟩) (cut nd c (x + 1) - cut nd c x) (cap - cut nd c x), .pointer (some ⟨B, 0, none⟩), .pointer (some ⟨g, 0, none⟩), .slice (some ⟨gl, cut nd c x, none⟩) (cut nd c (x + 1) - cut nd c x) (cap - cut nd c x), setV (pieceQ (between b) c x).a (pieceQ (between b) c x).b (pieceQ (between b) c x).c (pieceQ (between b) c x).d, .bool z, undef, undef, undef, undef, undef, undef, undef, undef, undef, undef, undef, undef, undef, undef, undef, undef, undef, undef, undef]) (fun z w5 => KeepsB m g B W' w5 ∧ ((z = true ∧ ∃ b' l' T', Fit n b' ∧ size b' < size b ∧ (∀ f, play (diffT (f + 1) b) l T = play (diffT f b') l' T') ∧ SBox w5 g m l' T' ∧ w5.heap[B]? = some (boxB b'.pass b'.fail b'.g)) ∨
            (z = false ∧ ∃ l' T', Goes b l T (pre.length + 1) l' T' ∧ SBox w5 g m l' T' ∧ w5.heap[B]? = some (boxB b.pass b.fail b.g))))
        (fun q w5 => KeepsFrom w3.heap.size W' w5 ∧ ∃ q' : Q4, Ending.panicked q = asks4 q'.a q'.b q'.c q'.d ∧ q'.Ok ∧ (∀ f, play (diffT (f + 1) b) l T = .ask (memQ q')) ∧ KeepsB m g B W w5)) ?_ ?_
      · refine wpIn_region_any mixedS ?_
        refine wpAnyIn_ready (rs := [0, 1, 2]) (by kernel_rfl) (by simp) (AllReadyIn.cons rfl (fun K hK => ?_) (AllReadyIn.cons rfl (fun K hK => ?_) (AllReadyIn.cons rfl (fun K hK => ?_) (AllReadyIn.nil))))
        · skip
          refine Rp.stepIn_value rfl (fun _ h => by cases h) rfl (v := .pointer (some ⟨B, 0, none⟩)) (w' := W'.drew) (by go_simp) ?_
          refine hK _ _ ?_
          clear hK K
          refine wpAnyIn_ready (rs := [1, 2]) (by kernel_rfl) (by simp) (AllReadyIn.cons rfl (fun K hK => ?_) (AllReadyIn.cons rfl (fun K hK => ?_) (AllReadyIn.nil)))
          · skip
            refine Rp.stepIn_value rfl (fun _ h => by cases h) rfl (v := .pointer (some ⟨g, 0, none⟩)) (w' := W'.drew) (by go_simp) ?_
            refine hK _ _ ?_
            clear hK K
            refine wpAnyIn_ready (rs := [2]) (by kernel_rfl) (by simp) (AllReadyIn.cons rfl (fun K hK => ?_) (AllReadyIn.nil))
            refine Rp.stepIn_value rfl (fun _ h => by cases h) rfl (v := .slice (some ⟨gl, cut nd c x, none⟩) (cut nd c (x + 1) - cut nd c x) (cap - cut nd c x)) (w' := W'.drew) (by go_simp) ?_
            refine hK _ _ ?_
            clear hK K
            refine wpAnyIn_ready (rs := [3]) (by kernel_rfl) (by simp) (AllReadyIn.cons rfl (fun K hK => ?_) (AllReadyIn.nil))
            refine Rp.stepIn_callP rfl (fun _ h => by cases h) (g := 77) (args := #[.slice (some ⟨gl, cut nd c x, none⟩) (cut nd c (x + 1) - cut nd c x) (cap - cut nd c x)]) (by go_simp) trivial rfl (by go_simp) (CallsIn.inRound r (callsIn_wide.2 (setOfPiece HNA.out HPX.out))) ?_
            rintro e w4 ⟨rfl, hB4⟩
            have HB4 := hide ((Below.drew (Below.refl W'.heap.size W')).trans hB4)
            have c2 : w4.cell? ⟨W.heap.size, 0, none⟩ = some (.pointer (some ⟨B, 0, none⟩)) := cell_of ((HB4.out.block _ (block_lt HR2.out)).trans HR2.out) 0
            have c3 : w4.cell? ⟨W.heap.size + 1, 0, none⟩ = some (.pointer (some ⟨g, 0, none⟩)) := cell_of ((HB4.out.block _ (block_lt HR3.out)).trans HR3.out) 0
            clear hB4
            refine .inl ⟨_, rfl, ?_⟩
            refine hK _ _ ?_
            clear hK K
            refine wpAnyIn_ready (rs := [4]) (by kernel_rfl) (by simp) (AllReadyIn.cons rfl (fun K hK => ?_) AllReadyIn.nil)
            refine Rp.stepIn_callP rfl (fun _ h => by cases h) (g := 151) (args := #[.pointer (some ⟨B, 0, none⟩), .pointer (some ⟨g, 0, none⟩), setV (pieceQ (between b) c x).a (pieceQ (between b) c x).b (pieceQ (between b) c x).c (pieceQ (between b) c x).d]) (by go_simp) trivial rfl (by go_simp) (CallsIn.inRound r (callsIn_wide.2 (HMove.out w4 HB4.out))) ?_
            rintro e w5 (⟨q, rfl, hp⟩ | ⟨z, rfl, hp⟩)
            · exact .inr ⟨_, rfl, rfl, hp⟩
            refine .inl ⟨_, rfl, ?_⟩
            refine hK _ _ ?_
            clear hK K
            refine wpAnyIn_done (by kernel_rfl) ?_ _
            exact ⟨z, by simp [Act.put], hp⟩
          · skip
            refine Rp.stepIn_value rfl (fun _ h => by cases h) rfl (v := .slice (some ⟨gl, cut nd c x, none⟩) (cut nd c (x + 1) - cut nd c x) (cap - cut nd c x)) (w' := W'.drew) (by go_simp) ?_
            refine hK _ _ ?_
            clear hK K
            refine wpAnyIn_ready (rs := [1, 3]) (by kernel_rfl) (by simp) (AllReadyIn.cons rfl (fun K hK => ?_) (AllReadyIn.cons rfl (fun K hK => ?_) (AllReadyIn.nil)))
            · skip
              refine Rp.stepIn_value rfl (fun _ h => by cases h) rfl (v := .pointer (some ⟨g, 0, none⟩)) (w' := W'.drew) (by go_simp) ?_
              refine hK _ _ ?_
              clear hK K
              refine wpAnyIn_ready (rs := [3]) (by kernel_rfl) (by simp) (AllReadyIn.cons rfl (fun K hK => ?_) (AllReadyIn.nil))
              refine Rp.stepIn_callP rfl (fun _ h => by cases h) (g := 77) (args := #[.slice (some ⟨gl, cut nd c x, none⟩) (cut nd c (x + 1) - cut nd c x) (cap - cut nd c x)]) (by go_simp) trivial rfl (by go_simp) (CallsIn.inRound r (callsIn_wide.2 (setOfPiece HNA.out HPX.out))) ?_
              rintro e w4 ⟨rfl, hB4⟩
              have HB4 := hide ((Below.drew (Below.refl W'.heap.size W')).trans hB4)
              have c2 : w4.cell? ⟨W.heap.size, 0, none⟩ = some (.pointer (some ⟨B, 0, none⟩)) := cell_of ((HB4.out.block _ (block_lt HR2.out)).trans HR2.out) 0
              have c3 : w4.cell? ⟨W.heap.size + 1, 0, none⟩ = some (.pointer (some ⟨g, 0, none⟩)) := cell_of ((HB4.out.block _ (block_lt HR3.out)).trans HR3.out) 0
              clear hB4
              refine .inl ⟨_, rfl, ?_⟩
              refine hK _ _ ?_
              clear hK K
              refine wpAnyIn_ready (rs := [4]) (by kernel_rfl) (by simp) (AllReadyIn.cons rfl (fun K hK => ?_) AllReadyIn.nil)
              refine Rp.stepIn_callP rfl (fun _ h => by cases h) (g := 151) (args := #[.pointer (some ⟨B, 0, none⟩), .pointer (some ⟨g, 0, none⟩), setV (pieceQ (between b) c x).a (pieceQ (between b) c x).b (pieceQ (between b) c x).c (pieceQ (between b) c x).d]) (by go_simp) trivial rfl (by go_simp) (CallsIn.inRound r (callsIn_wide.2 (HMove.out w4 HB4.out))) ?_
              rintro e w5 (⟨q, rfl, hp⟩ | ⟨z, rfl, hp⟩)
              · exact .inr ⟨_, rfl, rfl, hp⟩
              refine .inl ⟨_, rfl, ?_⟩
              refine hK _ _ ?_
              clear hK K
              refine wpAnyIn_done (by kernel_rfl) ?_ _
              exact ⟨z, by simp [Act.put], hp⟩
            · skip
              refine Rp.stepIn_callP rfl (fun _ h => by cases h) (g := 77) (args := #[.slice (some ⟨gl, cut nd c x, none⟩) (cut nd c (x + 1) - cut nd c x) (cap - cut nd c x)]) (by go_simp) trivial rfl (by go_simp) (CallsIn.inRound r (callsIn_wide.2 (setOfPiece HNA.out HPX.out))) ?_
              rintro e w4 ⟨rfl, hB4⟩
              have HB4 := hide ((Below.drew (Below.refl W'.heap.size W')).trans hB4)
              have c2 : w4.cell? ⟨W.heap.size, 0, none⟩ = some (.pointer (some ⟨B, 0, none⟩)) := cell_of ((HB4.out.block _ (block_lt HR2.out)).trans HR2.out) 0
              have c3 : w4.cell? ⟨W.heap.size + 1, 0, none⟩ = some (.pointer (some ⟨g, 0, none⟩)) := cell_of ((HB4.out.block _ (block_lt HR3.out)).trans HR3.out) 0
              clear hB4
              refine .inl ⟨_, rfl, ?_⟩
              refine hK _ _ ?_
              clear hK K
              refine wpAnyIn_ready (rs := [1]) (by kernel_rfl) (by simp) (AllReadyIn.cons rfl (fun K hK => ?_) (AllReadyIn.nil))
              refine Rp.stepIn_value rfl (fun _ h => by cases h) rfl (v := .pointer (some ⟨g, 0, none⟩)) (w' := w4) (by go_simp) ?_
              refine hK _ _ ?_
              clear hK K
              refine wpAnyIn_ready (rs := [4]) (by kernel_rfl) (by simp) (AllReadyIn.cons rfl (fun K hK => ?_) AllReadyIn.nil)
              refine Rp.stepIn_callP rfl (fun _ h => by cases h) (g := 151) (args := #[.pointer (some ⟨B, 0, none⟩), .pointer (some ⟨g, 0, none⟩), setV (pieceQ (between b) c x).a (pieceQ (between b) c x).b (pieceQ (between b) c x).c (pieceQ (between b) c x).d]) (by go_simp) trivial rfl (by go_simp) (CallsIn.inRound r (callsIn_wide.2 (HMove.out w4 HB4.out))) ?_
              rintro e w5 (⟨q, rfl, hp⟩ | ⟨z, rfl, hp⟩)
              · exact .inr ⟨_, rfl, rfl, hp⟩
              refine .inl ⟨_, rfl, ?_⟩
              refine hK _ _ ?_
              clear hK K
              refine wpAnyIn_done (by kernel_rfl) ?_ _
              exact ⟨z, by simp [Act.put], hp⟩
        · skip
          refine Rp.stepIn_value rfl (fun _ h => by cases h) rfl (v := .pointer (some ⟨g, 0, none⟩)) (w' := W'.drew) (by go_simp) ?_
          refine hK _ _ ?_
          clear hK K
          refine wpAnyIn_ready (rs := [0, 2]) (by kernel_rfl) (by simp) (AllReadyIn.cons rfl (fun K hK => ?_) (AllReadyIn.cons rfl (fun K hK => ?_) (AllReadyIn.nil)))
          · skip
            refine Rp.stepIn_value rfl (fun _ h => by cases h) rfl (v := .pointer (some ⟨B, 0, none⟩)) (w' := W'.drew) (by go_simp) ?_
            refine hK _ _ ?_
            clear hK K
            refine wpAnyIn_ready (rs := [2]) (by kernel_rfl) (by simp) (AllReadyIn.cons rfl (fun K hK => ?_) (AllReadyIn.nil))
            refine Rp.stepIn_value rfl (fun _ h => by cases h) rfl (v := .slice (some ⟨gl, cut nd c x, none⟩) (cut nd c (x + 1) - cut nd c x) (cap - cut nd c x)) (w' := W'.drew) (by go_simp) ?_
            refine hK _ _ ?_
            clear hK K
            refine wpAnyIn_ready (rs := [3]) (by kernel_rfl) (by simp) (AllReadyIn.cons rfl (fun K hK => ?_) (AllReadyIn.nil))
            refine Rp.stepIn_callP rfl (fun _ h => by cases h) (g := 77) (args := #[.slice (some ⟨gl, cut nd c x, none⟩) (cut nd c (x + 1) - cut nd c x) (cap - cut nd c x)]) (by go_simp) trivial rfl (by go_simp) (CallsIn.inRound r (callsIn_wide.2 (setOfPiece HNA.out HPX.out))) ?_
            rintro e w4 ⟨rfl, hB4⟩
            have HB4 := hide ((Below.drew (Below.refl W'.heap.size W')).trans hB4)
            have c2 : w4.cell? ⟨W.heap.size, 0, none⟩ = some (.pointer (some ⟨B, 0, none⟩)) := cell_of ((HB4.out.block _ (block_lt HR2.out)).trans HR2.out) 0
            have c3 : w4.cell? ⟨W.heap.size + 1, 0, none⟩ = some (.pointer (some ⟨g, 0, none⟩)) := cell_of ((HB4.out.block _ (block_lt HR3.out)).trans HR3.out) 0
            clear hB4
            refine .inl ⟨_, rfl, ?_⟩
            refine hK _ _ ?_
            clear hK K
            refine wpAnyIn_ready (rs := [4]) (by kernel_rfl) (by simp) (AllReadyIn.cons rfl (fun K hK => ?_) AllReadyIn.nil)
            refine Rp.stepIn_callP rfl (fun _ h => by cases h) (g := 151) (args := #[.pointer (some ⟨B, 0, none⟩), .pointer (some ⟨g, 0, none⟩), setV (pieceQ (between b) c x).a (pieceQ (between b) c x).b (pieceQ (between b) c x).c (pieceQ (between b) c x).d]) (by go_simp) trivial rfl (by go_simp) (CallsIn.inRound r (callsIn_wide.2 (HMove.out w4 HB4.out))) ?_
            rintro e w5 (⟨q, rfl, hp⟩ | ⟨z, rfl, hp⟩)
            · exact .inr ⟨_, rfl, rfl, hp⟩
            refine .inl ⟨_, rfl, ?_⟩
            refine hK _ _ ?_
            clear hK K
            refine wpAnyIn_done (by kernel_rfl) ?_ _
            exact ⟨z, by simp [Act.put], hp⟩
          · skip
            refine Rp.stepIn_value rfl (fun _ h => by cases h) rfl (v := .slice (some ⟨gl, cut nd c x, none⟩) (cut nd c (x + 1) - cut nd c x) (cap - cut nd c x)) (w' := W'.drew) (by go_simp) ?_
            refine hK _ _ ?_
            clear hK K
            refine wpAnyIn_ready (rs := [0, 3]) (by kernel_rfl) (by simp) (AllReadyIn.cons rfl (fun K hK => ?_) (AllReadyIn.cons rfl (fun K hK => ?_) (AllReadyIn.nil)))
            · skip
              refine Rp.stepIn_value rfl (fun _ h => by cases h) rfl (v := .pointer (some ⟨B, 0, none⟩)) (w' := W'.drew) (by go_simp) ?_
              refine hK _ _ ?_
              clear hK K
              refine wpAnyIn_ready (rs := [3]) (by kernel_rfl) (by simp) (AllReadyIn.cons rfl (fun K hK => ?_) (AllReadyIn.nil))
              refine Rp.stepIn_callP rfl (fun _ h => by cases h) (g := 77) (args := #[.slice (some ⟨gl, cut nd c x, none⟩) (cut nd c (x + 1) - cut nd c x) (cap - cut nd c x)]) (by go_simp) trivial rfl (by go_simp) (CallsIn.inRound r (callsIn_wide.2 (setOfPiece HNA.out HPX.out))) ?_
              rintro e w4 ⟨rfl, hB4⟩
              have HB4 := hide ((Below.drew (Below.refl W'.heap.size W')).trans hB4)
              have c2 : w4.cell? ⟨W.heap.size, 0, none⟩ = some (.pointer (some ⟨B, 0, none⟩)) := cell_of ((HB4.out.block _ (block_lt HR2.out)).trans HR2.out) 0
              have c3 : w4.cell? ⟨W.heap.size + 1, 0, none⟩ = some (.pointer (some ⟨g, 0, none⟩)) := cell_of ((HB4.out.block _ (block_lt HR3.out)).trans HR3.out) 0
              clear hB4
              refine .inl ⟨_, rfl, ?_⟩
              refine hK _ _ ?_
              clear hK K
              refine wpAnyIn_ready (rs := [4]) (by kernel_rfl) (by simp) (AllReadyIn.cons rfl (fun K hK => ?_) AllReadyIn.nil)
              refine Rp.stepIn_callP rfl (fun _ h => by cases h) (g := 151) (args := #[.pointer (some ⟨B, 0, none⟩), .pointer (some ⟨g, 0, none⟩), setV (pieceQ (between b) c x).a (pieceQ (between b) c x).b (pieceQ (between b) c x).c (pieceQ (between b) c x).d]) (by go_simp) trivial rfl (by go_simp) (CallsIn.inRound r (callsIn_wide.2 (HMove.out w4 HB4.out))) ?_
              rintro e w5 (⟨q, rfl, hp⟩ | ⟨z, rfl, hp⟩)
              · exact .inr ⟨_, rfl, rfl, hp⟩
              refine .inl ⟨_, rfl, ?_⟩
              refine hK _ _ ?_
              clear hK K
              refine wpAnyIn_done (by kernel_rfl) ?_ _
              exact ⟨z, by simp [Act.put], hp⟩
            · skip
              refine Rp.stepIn_callP rfl (fun _ h => by cases h) (g := 77) (args := #[.slice (some ⟨gl, cut nd c x, none⟩) (cut nd c (x + 1) - cut nd c x) (cap - cut nd c x)]) (by go_simp) trivial rfl (by go_simp) (CallsIn.inRound r (callsIn_wide.2 (setOfPiece HNA.out HPX.out))) ?_
              rintro e w4 ⟨rfl, hB4⟩
              have HB4 := hide ((Below.drew (Below.refl W'.heap.size W')).trans hB4)
              have c2 : w4.cell? ⟨W.heap.size, 0, none⟩ = some (.pointer (some ⟨B, 0, none⟩)) := cell_of ((HB4.out.block _ (block_lt HR2.out)).trans HR2.out) 0
              have c3 : w4.cell? ⟨W.heap.size + 1, 0, none⟩ = some (.pointer (some ⟨g, 0, none⟩)) := cell_of ((HB4.out.block _ (block_lt HR3.out)).trans HR3.out) 0
              clear hB4
              refine .inl ⟨_, rfl, ?_⟩
              refine hK _ _ ?_
              clear hK K
              refine wpAnyIn_ready (rs := [0]) (by kernel_rfl) (by simp) (AllReadyIn.cons rfl (fun K hK => ?_) (AllReadyIn.nil))
              refine Rp.stepIn_value rfl (fun _ h => by cases h) rfl (v := .pointer (some ⟨B, 0, none⟩)) (w' := w4) (by go_simp) ?_
              refine hK _ _ ?_
              clear hK K
              refine wpAnyIn_ready (rs := [4]) (by kernel_rfl) (by simp) (AllReadyIn.cons rfl (fun K hK => ?_) AllReadyIn.nil)
              refine Rp.stepIn_callP rfl (fun _ h => by cases h) (g := 151) (args := #[.pointer (some ⟨B, 0, none⟩), .pointer (some ⟨g, 0, none⟩), setV (pieceQ (between b) c x).a (pieceQ (between b) c x).b (pieceQ (between b) c x).c (pieceQ (between b) c x).d]) (by go_simp) trivial rfl (by go_simp) (CallsIn.inRound r (callsIn_wide.2 (HMove.out w4 HB4.out))) ?_
              rintro e w5 (⟨q, rfl, hp⟩ | ⟨z, rfl, hp⟩)
              · exact .inr ⟨_, rfl, rfl, hp⟩
              refine .inl ⟨_, rfl, ?_⟩
              refine hK _ _ ?_
              clear hK K
              refine wpAnyIn_done (by kernel_rfl) ?_ _
              exact ⟨z, by simp [Act.put], hp⟩
        · skip
          refine Rp.stepIn_value rfl (fun _ h => by cases h) rfl (v := .slice (some ⟨gl, cut nd c x, none⟩) (cut nd c (x + 1) - cut nd c x) (cap - cut nd c x)) (w' := W'.drew) (by go_simp) ?_
          refine hK _ _ ?_
          clear hK K
          refine wpAnyIn_ready (rs := [0, 1, 3]) (by kernel_rfl) (by simp) (AllReadyIn.cons rfl (fun K hK => ?_) (AllReadyIn.cons rfl (fun K hK => ?_) (AllReadyIn.cons rfl (fun K hK => ?_) (AllReadyIn.nil))))
          · skip
            refine Rp.stepIn_value rfl (fun _ h => by cases h) rfl (v := .pointer (some ⟨B, 0, none⟩)) (w' := W'.drew) (by go_simp) ?_
            refine hK _ _ ?_
            clear hK K
            refine wpAnyIn_ready (rs := [1, 3]) (by kernel_rfl) (by simp) (AllReadyIn.cons rfl (fun K hK => ?_) (AllReadyIn.cons rfl (fun K hK => ?_) (AllReadyIn.nil)))
            · skip
              refine Rp.stepIn_value rfl (fun _ h => by cases h) rfl (v := .pointer (some ⟨g, 0, none⟩)) (w' := W'.drew) (by go_simp) ?_
              refine hK _ _ ?_
              clear hK K
              refine wpAnyIn_ready (rs := [3]) (by kernel_rfl) (by simp) (AllReadyIn.cons rfl (fun K hK => ?_) (AllReadyIn.nil))
              refine Rp.stepIn_callP rfl (fun _ h => by cases h) (g := 77) (args := #[.slice (some ⟨gl, cut nd c x, none⟩) (cut nd c (x + 1) - cut nd c x) (cap - cut nd c x)]) (by go_simp) trivial rfl (by go_simp) (CallsIn.inRound r (callsIn_wide.2 (setOfPiece HNA.out HPX.out))) ?_
              rintro e w4 ⟨rfl, hB4⟩
              have HB4 := hide ((Below.drew (Below.refl W'.heap.size W')).trans hB4)
              have c2 : w4.cell? ⟨W.heap.size, 0, none⟩ = some (.pointer (some ⟨B, 0, none⟩)) := cell_of ((HB4.out.block _ (block_lt HR2.out)).trans HR2.out) 0
              have c3 : w4.cell? ⟨W.heap.size + 1, 0, none⟩ = some (.pointer (some ⟨g, 0, none⟩)) := cell_of ((HB4.out.block _ (block_lt HR3.out)).trans HR3.out) 0
              clear hB4
              refine .inl ⟨_, rfl, ?_⟩
              refine hK _ _ ?_
              clear hK K
              refine wpAnyIn_ready (rs := [4]) (by kernel_rfl) (by simp) (AllReadyIn.cons rfl (fun K hK => ?_) AllReadyIn.nil)
              refine Rp.stepIn_callP rfl (fun _ h => by cases h) (g := 151) (args := #[.pointer (some ⟨B, 0, none⟩), .pointer (some ⟨g, 0, none⟩), setV (pieceQ (between b) c x).a (pieceQ (between b) c x).b (pieceQ (between b) c x).c (pieceQ (between b) c x).d]) (by go_simp) trivial rfl (by go_simp) (CallsIn.inRound r (callsIn_wide.2 (HMove.out w4 HB4.out))) ?_
              rintro e w5 (⟨q, rfl, hp⟩ | ⟨z, rfl, hp⟩)
              · exact .inr ⟨_, rfl, rfl, hp⟩
              refine .inl ⟨_, rfl, ?_⟩
              refine hK _ _ ?_
              clear hK K
              refine wpAnyIn_done (by kernel_rfl) ?_ _
              exact ⟨z, by simp [Act.put], hp⟩
            · skip
              refine Rp.stepIn_callP rfl (fun _ h => by cases h) (g := 77) (args := #[.slice (some ⟨gl, cut nd c x, none⟩) (cut nd c (x + 1) - cut nd c x) (cap - cut nd c x)]) (by go_simp) trivial rfl (by go_simp) (CallsIn.inRound r (callsIn_wide.2 (setOfPiece HNA.out HPX.out))) ?_
              rintro e w4 ⟨rfl, hB4⟩
              have HB4 := hide ((Below.drew (Below.refl W'.heap.size W')).trans hB4)
              have c2 : w4.cell? ⟨W.heap.size, 0, none⟩ = some (.pointer (some ⟨B, 0, none⟩)) := cell_of ((HB4.out.block _ (block_lt HR2.out)).trans HR2.out) 0
              have c3 : w4.cell? ⟨W.heap.size + 1, 0, none⟩ = some (.pointer (some ⟨g, 0, none⟩)) := cell_of ((HB4.out.block _ (block_lt HR3.out)).trans HR3.out) 0
              clear hB4
              refine .inl ⟨_, rfl, ?_⟩
              refine hK _ _ ?_
              clear hK K
              refine wpAnyIn_ready (rs := [1]) (by kernel_rfl) (by simp) (AllReadyIn.cons rfl (fun K hK => ?_) (AllReadyIn.nil))
              refine Rp.stepIn_value rfl (fun _ h => by cases h) rfl (v := .pointer (some ⟨g, 0, none⟩)) (w' := w4) (by go_simp) ?_
              refine hK _ _ ?_
              clear hK K
              refine wpAnyIn_ready (rs := [4]) (by kernel_rfl) (by simp) (AllReadyIn.cons rfl (fun K hK => ?_) AllReadyIn.nil)
              refine Rp.stepIn_callP rfl (fun _ h => by cases h) (g := 151) (args := #[.pointer (some ⟨B, 0, none⟩), .pointer (some ⟨g, 0, none⟩), setV (pieceQ (between b) c x).a (pieceQ (between b) c x).b (pieceQ (between b) c x).c (pieceQ (between b) c x).d]) (by go_simp) trivial rfl (by go_simp) (CallsIn.inRound r (callsIn_wide.2 (HMove.out w4 HB4.out))) ?_
              rintro e w5 (⟨q, rfl, hp⟩ | ⟨z, rfl, hp⟩)
              · exact .inr ⟨_, rfl, rfl, hp⟩
              refine .inl ⟨_, rfl, ?_⟩
              refine hK _ _ ?_
              clear hK K
              refine wpAnyIn_done (by kernel_rfl) ?_ _
              exact ⟨z, by simp [Act.put], hp⟩
          · skip
            refine Rp.stepIn_value rfl (fun _ h => by cases h) rfl (v := .pointer (some ⟨g, 0, none⟩)) (w' := W'.drew) (by go_simp) ?_
            refine hK _ _ ?_
            clear hK K
            refine wpAnyIn_ready (rs := [0, 3]) (by kernel_rfl) (by simp) (AllReadyIn.cons rfl (fun K hK => ?_) (AllReadyIn.cons rfl (fun K hK => ?_) (AllReadyIn.nil)))
            · skip
              refine Rp.stepIn_value rfl (fun _ h => by cases h) rfl (v := .pointer (some ⟨B, 0, none⟩)) (w' := W'.drew) (by go_simp) ?_
              refine hK _ _ ?_
              clear hK K
              refine wpAnyIn_ready (rs := [3]) (by kernel_rfl) (by simp) (AllReadyIn.cons rfl (fun K hK => ?_) (AllReadyIn.nil))
              refine Rp.stepIn_callP rfl (fun _ h => by cases h) (g := 77) (args := #[.slice (some ⟨gl, cut nd c x, none⟩) (cut nd c (x + 1) - cut nd c x) (cap - cut nd c x)]) (by go_simp) trivial rfl (by go_simp) (CallsIn.inRound r (callsIn_wide.2 (setOfPiece HNA.out HPX.out))) ?_
              rintro e w4 ⟨rfl, hB4⟩
              have HB4 := hide ((Below.drew (Below.refl W'.heap.size W')).trans hB4)
              have c2 : w4.cell? ⟨W.heap.size, 0, none⟩ = some (.pointer (some ⟨B, 0, none⟩)) := cell_of ((HB4.out.block _ (block_lt HR2.out)).trans HR2.out) 0
              have c3 : w4.cell? ⟨W.heap.size + 1, 0, none⟩ = some (.pointer (some ⟨g, 0, none⟩)) := cell_of ((HB4.out.block _ (block_lt HR3.out)).trans HR3.out) 0
              clear hB4
              refine .inl ⟨_, rfl, ?_⟩
              refine hK _ _ ?_
              clear hK K
              refine wpAnyIn_ready (rs := [4]) (by kernel_rfl) (by simp) (AllReadyIn.cons rfl (fun K hK => ?_) AllReadyIn.nil)
              refine Rp.stepIn_callP rfl (fun _ h => by cases h) (g := 151) (args := #[.pointer (some ⟨B, 0, none⟩), .pointer (some ⟨g, 0, none⟩), setV (pieceQ (between b) c x).a (pieceQ (between b) c x).b (pieceQ (between b) c x).c (pieceQ (between b) c x).d]) (by go_simp) trivial rfl (by go_simp) (CallsIn.inRound r (callsIn_wide.2 (HMove.out w4 HB4.out))) ?_
              rintro e w5 (⟨q, rfl, hp⟩ | ⟨z, rfl, hp⟩)
              · exact .inr ⟨_, rfl, rfl, hp⟩
              refine .inl ⟨_, rfl, ?_⟩
              refine hK _ _ ?_
              clear hK K
              refine wpAnyIn_done (by kernel_rfl) ?_ _
              exact ⟨z, by simp [Act.put], hp⟩
            · skip
              refine Rp.stepIn_callP rfl (fun _ h => by cases h) (g := 77) (args := #[.slice (some ⟨gl, cut nd c x, none⟩) (cut nd c (x + 1) - cut nd c x) (cap - cut nd c x)]) (by go_simp) trivial rfl (by go_simp) (CallsIn.inRound r (callsIn_wide.2 (setOfPiece HNA.out HPX.out))) ?_
              rintro e w4 ⟨rfl, hB4⟩
              have HB4 := hide ((Below.drew (Below.refl W'.heap.size W')).trans hB4)
              have c2 : w4.cell? ⟨W.heap.size, 0, none⟩ = some (.pointer (some ⟨B, 0, none⟩)) := cell_of ((HB4.out.block _ (block_lt HR2.out)).trans HR2.out) 0
              have c3 : w4.cell? ⟨W.heap.size + 1, 0, none⟩ = some (.pointer (some ⟨g, 0, none⟩)) := cell_of ((HB4.out.block _ (block_lt HR3.out)).trans HR3.out) 0
              clear hB4
              refine .inl ⟨_, rfl, ?_⟩
              refine hK _ _ ?_
              clear hK K
              refine wpAnyIn_ready (rs := [0]) (by kernel_rfl) (by simp) (AllReadyIn.cons rfl (fun K hK => ?_) (AllReadyIn.nil))
              refine Rp.stepIn_value rfl (fun _ h => by cases h) rfl (v := .pointer (some ⟨B, 0, none⟩)) (w' := w4) (by go_simp) ?_
              refine hK _ _ ?_
              clear hK K
              refine wpAnyIn_ready (rs := [4]) (by kernel_rfl) (by simp) (AllReadyIn.cons rfl (fun K hK => ?_) AllReadyIn.nil)
              refine Rp.stepIn_callP rfl (fun _ h => by cases h) (g := 151) (args := #[.pointer (some ⟨B, 0, none⟩), .pointer (some ⟨g, 0, none⟩), setV (pieceQ (between b) c x).a (pieceQ (between b) c x).b (pieceQ (between b) c x).c (pieceQ (between b) c x).d]) (by go_simp) trivial rfl (by go_simp) (CallsIn.inRound r (callsIn_wide.2 (HMove.out w4 HB4.out))) ?_
              rintro e w5 (⟨q, rfl, hp⟩ | ⟨z, rfl, hp⟩)
              · exact .inr ⟨_, rfl, rfl, hp⟩
              refine .inl ⟨_, rfl, ?_⟩
              refine hK _ _ ?_
              clear hK K
              refine wpAnyIn_done (by kernel_rfl) ?_ _
              exact ⟨z, by simp [Act.put], hp⟩
          · skip
            refine Rp.stepIn_callP rfl (fun _ h => by cases h) (g := 77) (args := #[.slice (some ⟨gl, cut nd c x, none⟩) (cut nd c (x + 1) - cut nd c x) (cap - cut nd c x)]) (by go_simp) trivial rfl (by go_simp) (CallsIn.inRound r (callsIn_wide.2 (setOfPiece HNA.out HPX.out))) ?_
            rintro e w4 ⟨rfl, hB4⟩
            have HB4 := hide ((Below.drew (Below.refl W'.heap.size W')).trans hB4)
            have c2 : w4.cell? ⟨W.heap.size, 0, none⟩ = some (.pointer (some ⟨B, 0, none⟩)) := cell_of ((HB4.out.block _ (block_lt HR2.out)).trans HR2.out) 0
            have c3 : w4.cell? ⟨W.heap.size + 1, 0, none⟩ = some (.pointer (some ⟨g, 0, none⟩)) := cell_of ((HB4.out.block _ (block_lt HR3.out)).trans HR3.out) 0
            clear hB4
            refine .inl ⟨_, rfl, ?_⟩
            refine hK _ _ ?_
            clear hK K
            refine wpAnyIn_ready (rs := [0, 1]) (by kernel_rfl) (by simp) (AllReadyIn.cons rfl (fun K hK => ?_) (AllReadyIn.cons rfl (fun K hK => ?_) (AllReadyIn.nil)))
            · skip
              refine Rp.stepIn_value rfl (fun _ h => by cases h) rfl (v := .pointer (some ⟨B, 0, none⟩)) (w' := w4) (by go_simp) ?_
              refine hK _ _ ?_
              clear hK K
              refine wpAnyIn_ready (rs := [1]) (by kernel_rfl) (by simp) (AllReadyIn.cons rfl (fun K hK => ?_) (AllReadyIn.nil))
              refine Rp.stepIn_value rfl (fun _ h => by cases h) rfl (v := .pointer (some ⟨g, 0, none⟩)) (w' := w4) (by go_simp) ?_
              refine hK _ _ ?_
              clear hK K
              refine wpAnyIn_ready (rs := [4]) (by kernel_rfl) (by simp) (AllReadyIn.cons rfl (fun K hK => ?_) AllReadyIn.nil)
              refine Rp.stepIn_callP rfl (fun _ h => by cases h) (g := 151) (args := #[.pointer (some ⟨B, 0, none⟩), .pointer (some ⟨g, 0, none⟩), setV (pieceQ (between b) c x).a (pieceQ (between b) c x).b (pieceQ (between b) c x).c (pieceQ (between b) c x).d]) (by go_simp) trivial rfl (by go_simp) (CallsIn.inRound r (callsIn_wide.2 (HMove.out w4 HB4.out))) ?_
              rintro e w5 (⟨q, rfl, hp⟩ | ⟨z, rfl, hp⟩)
              · exact .inr ⟨_, rfl, rfl, hp⟩
              refine .inl ⟨_, rfl, ?_⟩
              refine hK _ _ ?_
              clear hK K
              refine wpAnyIn_done (by kernel_rfl) ?_ _
              exact ⟨z, by simp [Act.put], hp⟩
            · skip
              refine Rp.stepIn_value rfl (fun _ h => by cases h) rfl (v := .pointer (some ⟨g, 0, none⟩)) (w' := w4) (by go_simp) ?_
              refine hK _ _ ?_
              clear hK K
              refine wpAnyIn_ready (rs := [0]) (by kernel_rfl) (by simp) (AllReadyIn.cons rfl (fun K hK => ?_) (AllReadyIn.nil))
              refine Rp.stepIn_value rfl (fun _ h => by cases h) rfl (v := .pointer (some ⟨B, 0, none⟩)) (w' := w4) (by go_simp) ?_
              refine hK _ _ ?_
              clear hK K
              refine wpAnyIn_ready (rs := [4]) (by kernel_rfl) (by simp) (AllReadyIn.cons rfl (fun K hK => ?_) AllReadyIn.nil)
              refine Rp.stepIn_callP rfl (fun _ h => by cases h) (g := 151) (args := #[.pointer (some ⟨B, 0, none⟩), .pointer (some ⟨g, 0, none⟩), setV (pieceQ (between b) c x).a (pieceQ (between b) c x).b (pieceQ (between b) c x).c (pieceQ (between b) c x).d]) (by go_simp) trivial rfl (by go_simp) (CallsIn.inRound r (callsIn_wide.2 (HMove.out w4 HB4.out))) ?_
              rintro e w5 (⟨q, rfl, hp⟩ | ⟨z, rfl, hp⟩)
              · exact .inr ⟨_, rfl, rfl, hp⟩
              refine .inl ⟨_, rfl, ?_⟩
              refine hK _ _ ?_
              clear hK K
              refine wpAnyIn_done (by kernel_rfl) ?_ _
              exact ⟨z, by simp [Act.put], hp⟩
      · rintro e a5 w5 hq
        cases e with
        | normal =>
          obtain ⟨z, rfl, hkz, (⟨rfl, ht⟩ | ⟨rfl, hf⟩)⟩ := hq
          · obtain ⟨y4, f4, hX⟩ := HT.out w5 hkz ht
            have HXX := hide hX
            clear hkz ht hX
            gi_wp2
            exact ⟨(HXX.out _ rfl).1, rfl, (HXX.out _ rfl).2⟩
          · have HK5 := hide (HFl.out w5 hkz hf)
            clear hkz hf
            gi_wp2
            exact HK5.out
        | panic ch => exact hq
        | ret => exact hq.elim
        | exit _ => exact hq.elim
        | goto _ => exact hq.elim
        | outgrown => exact hq.elim
    case stop =>
      rintro D cd pre W' hD hpre ⟨rfl, b', l', T', h1, h2, h3, h4, h5, h6, h7⟩ hDef
      have hz := h6.below.size
      have hgr := grownBy_putObj' W' D (.deferred none)
      have y4 := cell_of ((World.putObj_heap_other (w := W') (o := .deferred none) (show W.heap.size + 1 + 1 ≠ D by omega)).trans h7) 0
      refine wpIn_ret ?_
      refine Rp.leaves_one (by simp) hDef (Rp.leaves_ret (v := .bool true) (by simp [results, Try.results117, go_sem, y4]) ?_)
      exact .inr (.inl ⟨b', l', T', rfl, h1, h2, h3, sbox_grown h4 hgr (fun r e => by cases e; exact ⟨by omega, by omega, by omega⟩), (World.putObj_heap_other (by omega)).trans h5, h6.grown hgr (by omega) (fun r e => by cases e; omega)⟩)
    case panic =>
      rintro D ch W' hD ⟨q, e, hq, hp, hk⟩ hDef
      have hgr := grownBy_putObj' W' D (.deferred none)
      exact Rp.leaves_one (by simp) hDef (Rp.leaves_panic (.inl ⟨q, e, hq, hp, hk.grown hgr (by omega) (fun r e => by cases e; omega)⟩))
    case done =>
      rintro D xs W' hD rfl ⟨l', T', hGo, hS', hb', hk'⟩ hDef
      rw [List.length_finRange, HC.out] at hGo
      have hz := hk'.below.size
      have c2 := cell_of (hk'.same H23.out (by omega) (by omega) (by omega)) 0
      have h4 := hk'.same H43.out (by omega) (by omega) (by omega)
      have hkW : KeepsB m g B W W' := ⟨(HW3.out.mono (by omega)).trans hk'.below, fun i hi h1 h2 h3 => (hk'.kept i (by omega) h1 h2 h3).trans (HW3.out.block i hi)⟩
      obtain ⟨-, -, x8⟩ := b_cells hb'
      have f8 := Bi.frozen_of hb' 8
      have x4 := cell_of h4 0
      have f4 := Bi.frozen_of h4 0
      have hB2 := block_lt hb'
      have hw : IntKind.i64.wrap (2 * (b.g : Int)) = 2 * (b.g : Int) := by have := HF.out.gran; simp [IntKind.wrap, IntKind.signed, IntKind.bits]; omega
      have HGO := hide hGo
      have HSS := hide hS'
      have HBB := hide hb'
      have HKW := hide hkW
      have HD := hide hD
      have HDE := hide hDef
      have HKK := hide hk'
      have H4 := hide h4
      have HZ := hide hz
      clear hGo hS' hb' hkW hD hDef hk' h4 hz hM hG hBW hSZ hHS hcn hnl hcap hl3 hc3 hs3 hB2
      refine Rp.At.wp ?_
      cases hfin : decide (b.g < nd) with
      | true =>
        have hfin2 : decide ((b.g : Int) < (nd : Int)) = true := decide_eq_true (by have := of_decide_eq_true hfin; omega)
        have HFIN := hide hfin
        go_upto_region 9 with (fail)
        go_region
        rw [show (if (nd : Int) < 2 * (b.g : Int) then (nd : Int) else 2 * (b.g : Int)) = ((min (2 * b.g) nd : Nat) : Int) by split <;> omega]
        obtain ⟨gg, hgg⟩ : ∃ gg, gg = min (2 * b.g) nd := ⟨_, rfl⟩
        have HGG := hide hgg
        rw [← hgg]
        have hXB : (W'.setCell ⟨B, 8, none⟩ (.int .i64 (gg : Int))).drew.heap[B]? = some (boxB b.pass b.fail gg) := by
          refine (heap_setCell_same _ B 8 _ 143 _ HBB.out).trans ?_
          simp [boxB]
        have hXO : ∀ k, k ≠ B → (W'.setCell ⟨B, 8, none⟩ (.int .i64 (gg : Int))).drew.heap[k]? = W'.heap[k]? := fun k hk => Below.heap_setCell _ _ _ _ hk
        have hXL : Below B W' (W'.setCell ⟨B, 8, none⟩ (.int .i64 (gg : Int))).drew := Below.drew ((Below.refl _ _).setCell (p := ⟨B, 8, none⟩) (Nat.le_refl _) _)
        clear hgg x8 f8 c2 x4 f4
        generalize (W'.setCell ⟨B, 8, none⟩ (.int .i64 (gg : Int))).drew = X at *
        have hM := HM.out
        have hBW := HBW.out
        have hG := HG.out
        have hSZ := HSZ.out
        have hHS := HHS.out
        have hD := HD.out
        have hZ := HZ.out
        have h44 := (hXO (W.heap.size + 1 + 1) (by omega)).trans H4.out
        have x4 := cell_of h44 0
        have f4 := Bi.frozen_of h44 0
        have HXX := hide (And.intro hXB (And.intro hXO hXL))
        have H44 := hide h44
        clear hXB hXO hXL hM hBW hG hSZ hHS hD hZ h44
        go_wp2_with fail
        have hM := HM.out
        have hBW := HBW.out
        have hG := HG.out
        have hSZ := HSZ.out
        have hHS := HHS.out
        have hD := HD.out
        have hZ := HZ.out
        obtain ⟨hXB, hXO, hXL⟩ := HXX.out
        have hY4 := set1_block (v := .bool true) H44.out
        have hYO : ∀ k, k ≠ W.heap.size + 1 + 1 → (X.setCell ⟨W.heap.size + 1 + 1, 0, none⟩ (.bool true)).heap[k]? = X.heap[k]? := fun k hk => Below.heap_setCell _ _ _ _ hk
        have hYB : Below W.heap.size X (X.setCell ⟨W.heap.size + 1 + 1, 0, none⟩ (.bool true)) := (Below.refl _ _).setCell (p := ⟨W.heap.size + 1 + 1, 0, none⟩) (by show W.heap.size ≤ W.heap.size + 1 + 1; omega) _
        generalize X.setCell ⟨W.heap.size + 1 + 1, 0, none⟩ (.bool true) = Y at *
        have hgr := grownBy_putObj' Y D (.deferred none)
        have hDY := ((hYO D (by omega)).trans (hXO D (by omega))).trans HDE.out
        have y4 := cell_of ((World.putObj_heap_other (w := Y) (o := .deferred none) (show W.heap.size + 1 + 1 ≠ D by omega)).trans hY4) 0
        have hKY : KeepsB m g B W Y := ⟨HKW.out.below.trans ((hXL.mono (by omega)).trans (hYB.mono (by omega))), fun i hi h1 h2 h3 => ((hYO i (by omega)).trans (hXO i h3)).trans (HKW.out.kept i hi h1 h2 h3)⟩
        have hSY : SBox Y g m l' T' := HSS.out.other ((hXL.mono (by omega)).trans (hYB.mono (by omega))) ((hYO m (by omega)).trans (hXO m (by omega))) ((hYO g (by omega)).trans (hXO g (by omega)))
        have hBY := (hYO B (by omega)).trans hXB
        have hsz := block_lt hDY
        refine Rp.leaves_one (by simp) hDY (Rp.leaves_ret (v := .bool true) (by simp [results, Try.results117, go_sem, y4]) ?_)
        have hnd := HND.out
        have hfn := HFIN.out
        have hlt : b.g < (between b).length := by have := of_decide_eq_true hfn; omega
        have hge : 2 ≤ (between b).length := by have := HGE.out; omega
        refine .inr (.inl ⟨finer b, l', T', rfl, (finer_fit HF.out hge).1, size_finer HF.out hge hlt, HGO.out.finer hlt, sbox_grown hSY hgr (fun r e => by cases e; exact ⟨by omega, by omega, by omega⟩), ?_, hKY.grown hgr (by omega) (fun r e => by cases e; omega)⟩)
        refine (World.putObj_heap_other (by omega)).trans (hBY.trans ?_)
        rw [HGG.out, hnd]
        rfl
      | false =>
        have hfin2 : decide ((b.g : Int) < (nd : Int)) = false := decide_eq_false (by have := of_decide_eq_false hfin; omega)
        have HFIN := hide hfin
        go_upto_region 9 with (fail)
        go_region
        rw [show (if (nd : Int) < 2 * (b.g : Int) then (nd : Int) else 2 * (b.g : Int)) = ((min (2 * b.g) nd : Nat) : Int) by split <;> omega]
        obtain ⟨gg, hgg⟩ : ∃ gg, gg = min (2 * b.g) nd := ⟨_, rfl⟩
        have HGG := hide hgg
        rw [← hgg]
        have hXB : (W'.setCell ⟨B, 8, none⟩ (.int .i64 (gg : Int))).drew.heap[B]? = some (boxB b.pass b.fail gg) := by
          refine (heap_setCell_same _ B 8 _ 143 _ HBB.out).trans ?_
          simp [boxB]
        have hXO : ∀ k, k ≠ B → (W'.setCell ⟨B, 8, none⟩ (.int .i64 (gg : Int))).drew.heap[k]? = W'.heap[k]? := fun k hk => Below.heap_setCell _ _ _ _ hk
        have hXL : Below B W' (W'.setCell ⟨B, 8, none⟩ (.int .i64 (gg : Int))).drew := Below.drew ((Below.refl _ _).setCell (p := ⟨B, 8, none⟩) (Nat.le_refl _) _)
        clear hgg x8 f8 c2 x4 f4
        generalize (W'.setCell ⟨B, 8, none⟩ (.int .i64 (gg : Int))).drew = X at *
        have hM := HM.out
        have hBW := HBW.out
        have hG := HG.out
        have hSZ := HSZ.out
        have hHS := HHS.out
        have hD := HD.out
        have hZ := HZ.out
        have h44 := (hXO (W.heap.size + 1 + 1) (by omega)).trans H4.out
        have x4 := cell_of h44 0
        have f4 := Bi.frozen_of h44 0
        have HXX := hide (And.intro hXB (And.intro hXO hXL))
        have H44 := hide h44
        clear hXB hXO hXL hM hBW hG hSZ hHS hD hZ h44
        go_wp2_with fail
        have hM := HM.out
        have hBW := HBW.out
        have hG := HG.out
        have hSZ := HSZ.out
        have hHS := HHS.out
        have hD := HD.out
        have hZ := HZ.out
        obtain ⟨hXB, hXO, hXL⟩ := HXX.out
        have hY4 := set1_block (v := .bool false) H44.out
        have hYO : ∀ k, k ≠ W.heap.size + 1 + 1 → (X.setCell ⟨W.heap.size + 1 + 1, 0, none⟩ (.bool false)).heap[k]? = X.heap[k]? := fun k hk => Below.heap_setCell _ _ _ _ hk
        have hYB : Below W.heap.size X (X.setCell ⟨W.heap.size + 1 + 1, 0, none⟩ (.bool false)) := (Below.refl _ _).setCell (p := ⟨W.heap.size + 1 + 1, 0, none⟩) (by show W.heap.size ≤ W.heap.size + 1 + 1; omega) _
        generalize X.setCell ⟨W.heap.size + 1 + 1, 0, none⟩ (.bool false) = Y at *
        have hgr := grownBy_putObj' Y D (.deferred none)
        have hDY := ((hYO D (by omega)).trans (hXO D (by omega))).trans HDE.out
        have y4 := cell_of ((World.putObj_heap_other (w := Y) (o := .deferred none) (show W.heap.size + 1 + 1 ≠ D by omega)).trans hY4) 0
        have hKY : KeepsB m g B W Y := ⟨HKW.out.below.trans ((hXL.mono (by omega)).trans (hYB.mono (by omega))), fun i hi h1 h2 h3 => ((hYO i (by omega)).trans (hXO i h3)).trans (HKW.out.kept i hi h1 h2 h3)⟩
        have hSY : SBox Y g m l' T' := HSS.out.other ((hXL.mono (by omega)).trans (hYB.mono (by omega))) ((hYO m (by omega)).trans (hXO m (by omega))) ((hYO g (by omega)).trans (hXO g (by omega)))
        have hBY := (hYO B (by omega)).trans hXB
        have hsz := block_lt hDY
        refine Rp.leaves_one (by simp) hDY (Rp.leaves_ret (v := .bool false) (by simp [results, Try.results117, go_sem, y4]) ?_)
        have hnd := HND.out
        have hfn := HFIN.out
        have hlt : ¬ b.g < (between b).length := by have := of_decide_eq_false hfn; omega
        exact .inr (.inr ⟨gg, l', T', rfl, HGO.out.done hlt, sbox_grown hSY hgr (fun r e => by cases e; exact ⟨by omega, by omega, by omega⟩), (World.putObj_heap_other (by omega)).trans hBY, hKY.grown hgr (by omega) (fun r e => by cases e; omega)⟩)
end Go.Proofs.Ytmkapmbmgpnjaaa.Se
