import Derived.Test.YtmkapmbmgpnjaaaDsE
import Derived.Test.YtmkapmbmgpnjaaaGmC
set_option maxRecDepth 100000
set_option linter.unusedSimpArgs false
set_option linter.unusedVariables false
namespace Go.Proofs.Ytmkapmbmgpnjaaa.Se
open Go Go.Ms Go.Pg Go.Bi Go.Se Go.ChangeShapes Go.WideShapes Go.ChangeAt Go.RowKit Go.Deep Go.Proofs.Ytmkapmbmgpnjaaa.Bi

/-! A step of the search for a difference. -/

abbrev boxB (p f : Q4) (g : Nat) : Obj := .cells #[.int .u64 p.a, .int .u64 p.b, .int .u64 p.c, .int .u64 p.d, .int .u64 f.a, .int .u64 f.b, .int .u64 f.c, .int .u64 f.d, .int .i64 g] 143 (0, 0)
theorem b_cells {w : World} {B g : Nat} {p f : Q4} (h : w.heap[B]? = some (boxB p f g)) :
    (w.cell? ⟨B, 0, none⟩ = some (.int .u64 (p.a : Int)) ∧ w.cell? ⟨B, 1, none⟩ = some (.int .u64 (p.b : Int)) ∧ w.cell? ⟨B, 2, none⟩ = some (.int .u64 (p.c : Int)) ∧ w.cell? ⟨B, 3, none⟩ = some (.int .u64 (p.d : Int))) ∧
    (w.cell? ⟨B, 4, none⟩ = some (.int .u64 (f.a : Int)) ∧ w.cell? ⟨B, 5, none⟩ = some (.int .u64 (f.b : Int)) ∧ w.cell? ⟨B, 6, none⟩ = some (.int .u64 (f.c : Int)) ∧ w.cell? ⟨B, 7, none⟩ = some (.int .u64 (f.d : Int))) ∧ w.cell? ⟨B, 8, none⟩ = some (.int .i64 (g : Int)) :=
  ⟨⟨cell_of h 0, cell_of h 1, cell_of h 2, cell_of h 3⟩, ⟨cell_of h 4, cell_of h 5, cell_of h 6, cell_of h 7⟩, cell_of h 8⟩
structure KeepsB (m g b : Nat) (w w' : World) : Prop where
  below : Below m w w'
  kept : ∀ i, i < w.heap.size → i ≠ m → i ≠ g → i ≠ b → w'.heap[i]? = w.heap[i]?
theorem KeepsB.of {m g b : Nat} {w w' : World} (h : KeepsM m g w w') : KeepsB m g b w w' := ⟨h.below, fun i hi h1 h2 _ => h.kept i hi h1 h2⟩
theorem KeepsB.refl (m g b : Nat) (w : World) : KeepsB m g b w w := .of (.refl _ _ _)
theorem KeepsB.trans {m g b : Nat} {x y z : World} (h : KeepsB m g b x y) (k : KeepsB m g b y z) : KeepsB m g b x z :=
  ⟨h.below.trans k.below, fun i hi h1 h2 h3 => (k.kept i (Nat.lt_of_lt_of_le hi h.below.size) h1 h2 h3).trans (h.kept i hi h1 h2 h3)⟩
abbrev zbox : Obj := .cells #[.int .u64 0, .int .u64 0, .int .u64 0, .int .u64 0] 98 (0, 0)
theorem z_cells {w : World} {k : Nat} (h : w.heap[k]? = some zbox) : (w.cell? ⟨k, 0, none⟩ = some (.int .u64 0) ∧ w.cell? ⟨k, 1, none⟩ = some (.int .u64 0) ∧ w.cell? ⟨k, 2, none⟩ = some (.int .u64 0) ∧ w.cell? ⟨k, 3, none⟩ = some (.int .u64 0)) ∧
    (w.frozen? ⟨k, 0, none⟩ = false ∧ w.frozen? ⟨k, 1, none⟩ = false ∧ w.frozen? ⟨k, 2, none⟩ = false ∧ w.frozen? ⟨k, 3, none⟩ = false) ∧ k < w.heap.size :=
  ⟨⟨cell_of h 0, cell_of h 1, cell_of h 2, cell_of h 3⟩, ⟨Bi.frozen_of h 0, Bi.frozen_of h 1, Bi.frozen_of h 2, Bi.frozen_of h 3⟩, block_lt h⟩
theorem nb0 (w : World) : (w.alloc zbox).heap[w.heap.size]? = some zbox := new_block w zbox
theorem nb1 (w : World) : (w.drew.alloc zbox).heap[w.heap.size]? = some zbox := new_block w.drew zbox
theorem nb2 (w : World) : ((w.alloc zbox).alloc zbox).heap[w.heap.size]? = some zbox := old_block (new_block w zbox) _
theorem nb3 (w : World) : ((w.drew.alloc zbox).alloc zbox).heap[w.heap.size]? = some zbox := old_block (new_block w.drew zbox) _
theorem nb4 (w : World) : ((w.alloc zbox).alloc zbox).heap[w.heap.size + 1]? = some zbox := alloc_at (by simp)
theorem nb5 (w : World) : ((w.drew.alloc zbox).alloc zbox).heap[w.heap.size + 1]? = some zbox := alloc_at (by simp)
theorem z_kept {w w' : World} {k : Nat} (hB : Below w.heap.size w w') (h : w.heap[k]? = some zbox) : w'.heap[k]? = some zbox := (hB.block k (block_lt h)).trans h
def putF (w : World) (B : Nat) (q : Q4) (g : Nat) : World := ((((w.setCell ⟨B, 4, none⟩ (.int .u64 q.a)).setCell ⟨B, 5, none⟩ (.int .u64 q.b)).setCell ⟨B, 6, none⟩ (.int .u64 q.c)).setCell ⟨B, 7, none⟩ (.int .u64 q.d)).setCell ⟨B, 8, none⟩ (.int .i64 g)
def putP (w : World) (B : Nat) (q : Q4) (g : Nat) : World := ((((w.setCell ⟨B, 0, none⟩ (.int .u64 q.a)).setCell ⟨B, 1, none⟩ (.int .u64 q.b)).setCell ⟨B, 2, none⟩ (.int .u64 q.c)).setCell ⟨B, 3, none⟩ (.int .u64 q.d)).setCell ⟨B, 8, none⟩ (.int .i64 g)
theorem putF_block {w : World} {B g h : Nat} {p f q : Q4} (e : w.heap[B]? = some (boxB p f g)) : (putF w B q h).heap[B]? = some (boxB p q h) := by
  have h0 := heap_setCell_same _ B 4 _ 143 (.int .u64 q.a) e
  have h1 := heap_setCell_same _ B 5 _ 143 (.int .u64 q.b) h0
  have h2 := heap_setCell_same _ B 6 _ 143 (.int .u64 q.c) h1
  have h3 := heap_setCell_same _ B 7 _ 143 (.int .u64 q.d) h2
  have h4 := heap_setCell_same _ B 8 _ 143 (.int .i64 h) h3
  refine h4.trans ?_
  simp [boxB]
theorem putP_block {w : World} {B g h : Nat} {p f q : Q4} (e : w.heap[B]? = some (boxB p f g)) : (putP w B q h).heap[B]? = some (boxB q f h) := by
  have h0 := heap_setCell_same _ B 0 _ 143 (.int .u64 q.a) e
  have h1 := heap_setCell_same _ B 1 _ 143 (.int .u64 q.b) h0
  have h2 := heap_setCell_same _ B 2 _ 143 (.int .u64 q.c) h1
  have h3 := heap_setCell_same _ B 3 _ 143 (.int .u64 q.d) h2
  have h4 := heap_setCell_same _ B 8 _ 143 (.int .i64 h) h3
  refine h4.trans ?_
  simp [boxB]
theorem putF_other {w : World} {B k h : Nat} {q : Q4} (e : k ≠ B) : (putF w B q h).heap[k]? = w.heap[k]? := by
  unfold putF
  rw [Below.heap_setCell _ _ _ _ e, Below.heap_setCell _ _ _ _ e, Below.heap_setCell _ _ _ _ e, Below.heap_setCell _ _ _ _ e, Below.heap_setCell _ _ _ _ e]
theorem putP_other {w : World} {B k h : Nat} {q : Q4} (e : k ≠ B) : (putP w B q h).heap[k]? = w.heap[k]? := by
  unfold putP
  rw [Below.heap_setCell _ _ _ _ e, Below.heap_setCell _ _ _ _ e, Below.heap_setCell _ _ _ _ e, Below.heap_setCell _ _ _ _ e, Below.heap_setCell _ _ _ _ e]
theorem putF_below {w : World} {C B h : Nat} {q : Q4} (e : C ≤ B) : Below C w (putF w B q h) :=
  (((((Below.refl C w).setCell (p := ⟨B, 4, none⟩) e _).setCell (p := ⟨B, 5, none⟩) e _).setCell (p := ⟨B, 6, none⟩) e _).setCell (p := ⟨B, 7, none⟩) e _).setCell (p := ⟨B, 8, none⟩) e _
theorem putP_below {w : World} {C B h : Nat} {q : Q4} (e : C ≤ B) : Below C w (putP w B q h) :=
  (((((Below.refl C w).setCell (p := ⟨B, 0, none⟩) e _).setCell (p := ⟨B, 1, none⟩) e _).setCell (p := ⟨B, 2, none⟩) e _).setCell (p := ⟨B, 3, none⟩) e _).setCell (p := ⟨B, 8, none⟩) e _
theorem asked_play {w w' : World} {g m : Nat} {l : List Int} {T : List (Q4 × Int)} {q : Q4} {e : Ending} {f : Int → Value} (h : Asked w g m l T q e w' f) :
    (e = asks4 q.a q.b q.c q.d ∧ KeepsM m g w w' ∧ ∀ k, play (.ask q k) l T = .ask (memQ q)) ∨
    (∃ x l' T', e = .returned (f x) ∧ KeepsM m g w w' ∧ SBox w' g m l' T' ∧ ∀ k, play (.ask q k) l T = play (k x) l' T') := by
  unfold Asked at h
  cases hm : memo T q with
  | some v =>
    rw [hm] at h
    exact .inr ⟨v, l, T, h.1, h.2.1, h.2.2, fun k => play_known hm⟩
  | none =>
    rw [hm] at h
    cases l with
    | nil => exact .inl ⟨h.1, h.2, fun k => play_stop hm⟩
    | cons x l => exact .inr ⟨x, l, _, h.1, h.2.1, h.2.2, fun k => play_next hm⟩
end Go.Proofs.Ytmkapmbmgpnjaaa.Se

set_option maxRecDepth 100000
set_option linter.unusedSimpArgs false
set_option linter.unusedVariables false
namespace Go.Proofs.Ytmkapmbmgpnjaaa.Se
open Go Go.Ms Go.Pg Go.Bi Go.Se Go.ChangeShapes Go.WideShapes Go.ChangeAt Go.RowKit Go.Deep Go.Proofs.Ytmkapmbmgpnjaaa.Bi

set_option maxHeartbeats 16000000 in
theorem moveS {W : World} {g m B : Nat} {l : List Int} {T : List (Q4 × Int)} {b : Bs} {c : Q4} (hS : SBox W g m l T) (hb : W.heap[B]? = some (boxB b.pass b.fail b.g)) (hm : m < B) (hg : g < B) (hp : b.pass.Ok) (hf : b.fail.Ok) (hc : c.Ok) (h2 : 2 ≤ b.g ∧ b.g ≤ 256) :
    Calls Try.prog 151 #[.pointer (some ⟨B, 0, none⟩), .pointer (some ⟨g, 0, none⟩), setV c.a c.b c.c c.d] W fun e w' =>
      (∃ q, e = asks4 q.a q.b q.c q.d ∧ q.Ok ∧ (∀ k, play (moveT b c k) l T = .ask (memQ q)) ∧ KeepsB m g B W w') ∨
      (∃ x y l' T', e = .returned (.bool (moved b c x y).isSome) ∧ (∀ k, play (moveT b c k) l T = play (k (moved b c x y)) l' T') ∧ SBox w' g m l' T' ∧
        w'.heap[B]? = some (boxB ((moved b c x y).getD b).pass ((moved b c x y).getD b).fail ((moved b c x y).getD b).g) ∧ KeepsB m g B W w') := by
  have hB0 := (Below.refl W.heap.size W).alloc (Nat.le_refl _) (boxV c.a c.b c.c c.d)
  have HB0 := hide hB0
  have HS0 := hide (hS.old hB0)
  have HBB := hide (old_block hb (boxV c.a c.b c.c c.d))
  have HC0 := hide (new_block W (boxV c.a c.b c.c c.d))
  have HP := hide hp
  have HF := hide hf
  have HC := hide hc
  have HM := hide hm
  have HG := hide hg
  have H2 := hide h2
  have HBW := hide (block_lt hb)
  have HBU : Hid (B < (W.alloc (boxV c.a c.b c.c c.d)).heap.size) := hide (by have := HBW.out; simp; omega)
  clear hB0 hS hb hp hf hc h2 hm hg
  have HOR : Hid (∀ w, Calls Try.prog 81 #[setV b.pass.a b.pass.b b.pass.c b.pass.d, setV c.a c.b c.c c.d] w fun e w' => e = .returned (setV (orQ b.pass c).a (orQ b.pass c).b (orQ b.pass c).c (orQ b.pass c).d) ∧ Below w.heap.size w w') := hide fun w => withSet (sp_mem HP.out) (sp_mem HC.out)
  have HLE : Hid (∀ w, Calls Try.prog 76 #[setV b.fail.a b.fail.b b.fail.c b.fail.d, setV c.a c.b c.c c.d] w fun e w' => e = .returned (setV (lessQ b.fail c).a (lessQ b.fail c).b (lessQ b.fail c).c (lessQ b.fail c).d) ∧ Below w.heap.size w w') := hide fun w => withoutSet (sp_mem HF.out) (sp_mem HC.out)
  have HMO : Hid ((orQ b.pass c).Ok) := hide (or_ok HP.out HC.out)
  have HLO : Hid ((lessQ b.fail c).Ok) := hide (less_ok HF.out HC.out)
  obtain ⟨⟨x0, x1, x2, x3⟩, ⟨x4, x5, x6, x7⟩, x8⟩ := b_cells HBB.out
  obtain ⟨y0, y1, y2, y3⟩ := box_cells HC0.out
  have hbz := HBU.out
  have hcz := block_lt HC0.out
  go_enter Try.func151, Try.ntmps151
  go_upto_region 1 with (fail)
  generalize hW1 : W.alloc (boxV c.a c.b c.c c.d) = W1 at *
  go_cut [7, 8] from 12 to 23 (fun s7 s8 wr => ∃ n7 n8 : Nat, s7 = .pointer (some ⟨n7, 0, none⟩) ∧ s8 = .pointer (some ⟨n8, 0, none⟩) ∧ Hid (W1.heap.size ≤ n7 ∧ W1.heap.size ≤ n8 ∧ Below W1.heap.size W1 wr ∧ wr.heap[n7]? = some (boxV (orQ b.pass c).a (orQ b.pass c).b (orQ b.pass c).c (orQ b.pass c).d) ∧ wr.heap[n8]? = some (boxV (lessQ b.fail c).a (lessQ b.fail c).b (lessQ b.fail c).c (lessQ b.fail c).d)))
  case first =>
    clear x0 x1 x2 x3 x4 x5 x6 x7 x8 y0 y1 y2 y3
    generalize orQ b.pass c = mo at *
    generalize lessQ b.fail c = le at *
    refine wp_region_held_drew (S := fun w' => Hid (w'.heap[B]? = some (boxB b.pass b.fail b.g) ∧ w'.heap[W.heap.size]? = some (boxV c.a c.b c.c c.d))) (by kernel_rfl) (hide ⟨HBB.out, HC0.out⟩) (fun hHeld => ?_)
    refine takeAt (i := 0) (d := some 12) (v := .pointer (some ⟨B, 0, none⟩)) rfl rfl (by kernel_rfl) (by kernel_rfl) (by kernel_rfl) (fun _ _ _ h => h) (Or.inl ⟨by rfl, fun w hS => by go_simp⟩) hHeld ?_
    simp only [Act.put, List.setIfInBounds_toArray, List.set_cons_zero, List.set_cons_succ]
    refine takeAt (i := 1) (d := some 13) (v := .pointer (some ⟨B, 0, none⟩)) rfl rfl (by kernel_rfl) (by kernel_rfl) (by kernel_rfl) (fun _ _ _ h => h) (Or.inl ⟨by rfl, fun w hS => by go_simp⟩) hHeld ?_
    simp only [Act.put, List.setIfInBounds_toArray, List.set_cons_zero, List.set_cons_succ]
    refine takeAt (i := 2) (d := some 14) (v := .pointer (some ⟨B, 0, none⟩)) rfl rfl (by kernel_rfl) (by kernel_rfl) (by kernel_rfl) (fun _ _ _ h => h) (Or.inl ⟨by rfl, fun w hS => by go_simp⟩) hHeld ?_
    simp only [Act.put, List.setIfInBounds_toArray, List.set_cons_zero, List.set_cons_succ]
    refine takeAt (i := 3) (d := some 15) (v := setV b.pass.a b.pass.b b.pass.c b.pass.d) rfl rfl (by kernel_rfl) (by kernel_rfl) (by kernel_rfl) (fun _ _ _ h => h) (Or.inl ⟨by rfl, fun w hS => by obtain ⟨⟨x0, x1, x2, x3⟩, ⟨x4, x5, x6, x7⟩, x8⟩ := b_cells hS.out.1; go_simp⟩) hHeld ?_
    simp only [Act.put, List.setIfInBounds_toArray, List.set_cons_zero, List.set_cons_succ]
    refine takeAt (i := 4) (d := some 16) (v := setV c.a c.b c.c c.d) rfl rfl (by kernel_rfl) (by kernel_rfl) (by kernel_rfl) (fun _ _ _ h => h) (Or.inl ⟨by rfl, fun w hS => by obtain ⟨y0, y1, y2, y3⟩ := box_cells hS.out.2; go_simp⟩) hHeld ?_
    simp only [Act.put, List.setIfInBounds_toArray, List.set_cons_zero, List.set_cons_succ]
    refine takeAt (i := 6) (d := some 18) (v := .pointer (some ⟨B, 0, none⟩)) rfl rfl (by kernel_rfl) (by kernel_rfl) (by kernel_rfl) (fun _ _ _ h => h) (Or.inl ⟨by rfl, fun w hS => by go_simp⟩) hHeld ?_
    simp only [Act.put, List.setIfInBounds_toArray, List.set_cons_zero, List.set_cons_succ]
    refine takeAt (i := 7) (d := some 19) (v := .pointer (some ⟨B, 0, none⟩)) rfl rfl (by kernel_rfl) (by kernel_rfl) (by kernel_rfl) (fun _ _ _ h => h) (Or.inl ⟨by rfl, fun w hS => by go_simp⟩) hHeld ?_
    simp only [Act.put, List.setIfInBounds_toArray, List.set_cons_zero, List.set_cons_succ]
    refine takeAt (i := 8) (d := some 20) (v := .pointer (some ⟨B, 4, none⟩)) rfl rfl (by kernel_rfl) (by kernel_rfl) (by kernel_rfl) (fun _ _ _ h => h) (Or.inl ⟨by rfl, fun w hS => by go_simp⟩) hHeld ?_
    simp only [Act.put, List.setIfInBounds_toArray, List.set_cons_zero, List.set_cons_succ]
    refine takeAt (i := 9) (d := some 21) (v := setV b.fail.a b.fail.b b.fail.c b.fail.d) rfl rfl (by kernel_rfl) (by kernel_rfl) (by kernel_rfl) (fun _ _ _ h => h) (Or.inl ⟨by rfl, fun w hS => by obtain ⟨⟨x0, x1, x2, x3⟩, ⟨x4, x5, x6, x7⟩, x8⟩ := b_cells hS.out.1; go_simp⟩) hHeld ?_
    simp only [Act.put, List.setIfInBounds_toArray, List.set_cons_zero, List.set_cons_succ]
    refine takeAt (i := 10) (d := some 22) (v := setV c.a c.b c.c c.d) rfl rfl (by kernel_rfl) (by kernel_rfl) (by kernel_rfl) (fun _ _ _ h => h) (Or.inl ⟨by rfl, fun w hS => by obtain ⟨y0, y1, y2, y3⟩ := box_cells hS.out.2; go_simp⟩) hHeld ?_
    simp only [Act.put, List.setIfInBounds_toArray, List.set_cons_zero, List.set_cons_succ]
    have HBv0 := hide (Below.drew (Below.refl W1.heap.size W1))
    generalize W1.drew = v0 at *
    refine wpAnyH_ready (rs := [5, 12, 13]) (by kernel_rfl) (by simp) ?_
    refine AllReadyH.cons rfl (fun K0 hK => ?_) (AllReadyH.cons rfl (fun K0 hK => ?_) (AllReadyH.cons rfl (fun K0 hK => ?_) (AllReadyH.nil)))
    · skip
      go_simp
      go_at_call 81
      (with_reducible refine (HOR.out _).mono ?_)
      rintro e v1 ⟨rfl, hB⟩
      have HBv1 := hide (HBv0.out.trans (hB.mono HBv0.out.size))
      clear hB
      refine hK.out _ _ (hide ⟨(HBv1.out.block _ hbz).trans HBB.out, (HBv1.out.block _ hcz).trans HC0.out⟩) (fun hHeld => ?_)
      clear hK K0
      try simp only [Act.put, List.setIfInBounds_toArray, List.set_cons_zero, List.set_cons_succ]
      refine wpAnyH_ready (rs := [11, 12, 13]) (by kernel_rfl) (by simp) ?_
      refine AllReadyH.cons rfl (fun K0 hK => ?_) (AllReadyH.cons rfl (fun K0 hK => ?_) (AllReadyH.cons rfl (fun K0 hK => ?_) (AllReadyH.nil)))
      · skip
        go_simp
        go_at_call 76
        (with_reducible refine (HLE.out _).mono ?_)
        rintro e v2 ⟨rfl, hB⟩
        have HBv2 := hide (HBv1.out.trans (hB.mono HBv1.out.size))
        clear hB
        refine hK.out _ _ (hide ⟨(HBv2.out.block _ hbz).trans HBB.out, (HBv2.out.block _ hcz).trans HC0.out⟩) (fun hHeld => ?_)
        clear hK K0
        try simp only [Act.put, List.setIfInBounds_toArray, List.set_cons_zero, List.set_cons_succ]
        refine wpAnyH_ready (rs := [12, 13]) (by kernel_rfl) (by simp) ?_
        refine AllReadyH.cons rfl (fun K0 hK => ?_) (AllReadyH.cons rfl (fun K0 hK => ?_) (AllReadyH.nil))
        · skip
          go_simp
          have HBv3 := hide (HBv2.out.alloc HBv2.out.size zbox)
          have HZ7 := hide (new_block v2 zbox)
          have HN7 : Hid (W1.heap.size ≤ v2.heap.size) := hide HBv2.out.size
          refine hK.out _ _ (hide ⟨(HBv3.out.block _ hbz).trans HBB.out, (HBv3.out.block _ hcz).trans HC0.out⟩) (fun hHeld => ?_)
          clear hK K0
          try simp only [Act.put, List.setIfInBounds_toArray, List.set_cons_zero, List.set_cons_succ]
          clear HBv2
          generalize v2.alloc zbox = v3 at *
          generalize v2.heap.size = n7 at *
          refine wpAnyH_ready (rs := [13]) (by kernel_rfl) (by simp) ?_
          refine AllReadyH.cons rfl (fun K0 hK => ?_) (AllReadyH.nil)
          go_simp
          have HBv4 := hide (HBv3.out.alloc HBv3.out.size zbox)
          have HNE : Hid (n7 ≠ v3.heap.size) := hide (Nat.ne_of_lt (block_lt HZ7.out))
          replace HZ7 := hide (old_block HZ7.out zbox)
          have HZ8 := hide (new_block v3 zbox)
          have HN8 : Hid (W1.heap.size ≤ v3.heap.size) := hide HBv3.out.size
          refine hK.out _ _ (hide ⟨(HBv4.out.block _ hbz).trans HBB.out, (HBv4.out.block _ hcz).trans HC0.out⟩) (fun hHeld => ?_)
          clear hK K0
          try simp only [Act.put, List.setIfInBounds_toArray, List.set_cons_zero, List.set_cons_succ]
          clear HBv3
          generalize v3.alloc zbox = v4 at *
          generalize v3.heap.size = n8 at *
          refine wpAnyH_ready (rs := [14]) (by kernel_rfl) (by simp) ?_
          refine AllReadyH.cons rfl (fun K0 hK => ?_) AllReadyH.nil
          obtain ⟨⟨za, zb, zc, zd⟩, ⟨ze, zf, zg, zh⟩, zi⟩ := z_cells HZ7.out
          go_simp
          show K0 _ (putV v4 n7 mo.a mo.b mo.c mo.d)
          clear za zb zc zd ze zf zg zh zi
          have HBv5 := hide (putV_below (a := mo.a) (b := mo.b) (c := mo.c) (d := mo.d) HBv4.out HN7.out)
          have HS7 := hide (putV_block (e := mo.a) (f := mo.b) (g := mo.c) (h := mo.d) (a := 0) (b := 0) (c := 0) (d := 0) HZ7.out)
          replace HZ8 := hide ((putV_other (a := mo.a) (b := mo.b) (c := mo.c) (d := mo.d) HNE.out.symm).trans HZ8.out)
          refine hK.out _ _ (hide ⟨(HBv5.out.block _ hbz).trans HBB.out, (HBv5.out.block _ hcz).trans HC0.out⟩) (fun hHeld => ?_)
          clear hK K0
          try simp only [Act.put, List.setIfInBounds_toArray, List.set_cons_zero, List.set_cons_succ]
          generalize putV v4 n7 mo.a mo.b mo.c mo.d = v5 at *
          refine wpAnyH_ready (rs := [15]) (by kernel_rfl) (by simp) ?_
          refine AllReadyH.cons rfl (fun K0 hK => ?_) AllReadyH.nil
          obtain ⟨⟨za, zb, zc, zd⟩, ⟨ze, zf, zg, zh⟩, zi⟩ := z_cells HZ8.out
          go_simp
          show K0 _ (putV v5 n8 le.a le.b le.c le.d)
          clear za zb zc zd ze zf zg zh zi
          have HBv6 := hide (putV_below (a := le.a) (b := le.b) (c := le.c) (d := le.d) HBv5.out HN8.out)
          have HS8 := hide (putV_block (e := le.a) (f := le.b) (g := le.c) (h := le.d) (a := 0) (b := 0) (c := 0) (d := 0) HZ8.out)
          replace HS7 := hide ((putV_other (a := le.a) (b := le.b) (c := le.c) (d := le.d) HNE.out).trans HS7.out)
          refine hK.out _ _ (hide ⟨(HBv6.out.block _ hbz).trans HBB.out, (HBv6.out.block _ hcz).trans HC0.out⟩) (fun hHeld => ?_)
          clear hK K0
          try simp only [Act.put, List.setIfInBounds_toArray, List.set_cons_zero, List.set_cons_succ]
          generalize putV v5 n8 le.a le.b le.c le.d = v6 at *
          refine wpAnyH_done (by kernel_rfl) ?_ _
          go_wp2_with fail
          go_meet
          exact ⟨n7, n8, rfl, rfl, hide ⟨HN7.out, HN8.out, HBv6.out, HS7.out, HS8.out⟩⟩
        · skip
          go_simp
          have HBv3 := hide (HBv2.out.alloc HBv2.out.size zbox)
          have HZ8 := hide (new_block v2 zbox)
          have HN8 : Hid (W1.heap.size ≤ v2.heap.size) := hide HBv2.out.size
          refine hK.out _ _ (hide ⟨(HBv3.out.block _ hbz).trans HBB.out, (HBv3.out.block _ hcz).trans HC0.out⟩) (fun hHeld => ?_)
          clear hK K0
          try simp only [Act.put, List.setIfInBounds_toArray, List.set_cons_zero, List.set_cons_succ]
          clear HBv2
          generalize v2.alloc zbox = v3 at *
          generalize v2.heap.size = n8 at *
          refine wpAnyH_ready (rs := [12]) (by kernel_rfl) (by simp) ?_
          refine AllReadyH.cons rfl (fun K0 hK => ?_) (AllReadyH.nil)
          go_simp
          have HBv4 := hide (HBv3.out.alloc HBv3.out.size zbox)
          have HNE : Hid (v3.heap.size ≠ n8) := hide (Nat.ne_of_gt (block_lt HZ8.out))
          replace HZ8 := hide (old_block HZ8.out zbox)
          have HZ7 := hide (new_block v3 zbox)
          have HN7 : Hid (W1.heap.size ≤ v3.heap.size) := hide HBv3.out.size
          refine hK.out _ _ (hide ⟨(HBv4.out.block _ hbz).trans HBB.out, (HBv4.out.block _ hcz).trans HC0.out⟩) (fun hHeld => ?_)
          clear hK K0
          try simp only [Act.put, List.setIfInBounds_toArray, List.set_cons_zero, List.set_cons_succ]
          clear HBv3
          generalize v3.alloc zbox = v4 at *
          generalize v3.heap.size = n7 at *
          refine wpAnyH_ready (rs := [14]) (by kernel_rfl) (by simp) ?_
          refine AllReadyH.cons rfl (fun K0 hK => ?_) AllReadyH.nil
          obtain ⟨⟨za, zb, zc, zd⟩, ⟨ze, zf, zg, zh⟩, zi⟩ := z_cells HZ7.out
          go_simp
          show K0 _ (putV v4 n7 mo.a mo.b mo.c mo.d)
          clear za zb zc zd ze zf zg zh zi
          have HBv5 := hide (putV_below (a := mo.a) (b := mo.b) (c := mo.c) (d := mo.d) HBv4.out HN7.out)
          have HS7 := hide (putV_block (e := mo.a) (f := mo.b) (g := mo.c) (h := mo.d) (a := 0) (b := 0) (c := 0) (d := 0) HZ7.out)
          replace HZ8 := hide ((putV_other (a := mo.a) (b := mo.b) (c := mo.c) (d := mo.d) HNE.out.symm).trans HZ8.out)
          refine hK.out _ _ (hide ⟨(HBv5.out.block _ hbz).trans HBB.out, (HBv5.out.block _ hcz).trans HC0.out⟩) (fun hHeld => ?_)
          clear hK K0
          try simp only [Act.put, List.setIfInBounds_toArray, List.set_cons_zero, List.set_cons_succ]
          generalize putV v4 n7 mo.a mo.b mo.c mo.d = v5 at *
          refine wpAnyH_ready (rs := [15]) (by kernel_rfl) (by simp) ?_
          refine AllReadyH.cons rfl (fun K0 hK => ?_) AllReadyH.nil
          obtain ⟨⟨za, zb, zc, zd⟩, ⟨ze, zf, zg, zh⟩, zi⟩ := z_cells HZ8.out
          go_simp
          show K0 _ (putV v5 n8 le.a le.b le.c le.d)
          clear za zb zc zd ze zf zg zh zi
          have HBv6 := hide (putV_below (a := le.a) (b := le.b) (c := le.c) (d := le.d) HBv5.out HN8.out)
          have HS8 := hide (putV_block (e := le.a) (f := le.b) (g := le.c) (h := le.d) (a := 0) (b := 0) (c := 0) (d := 0) HZ8.out)
          replace HS7 := hide ((putV_other (a := le.a) (b := le.b) (c := le.c) (d := le.d) HNE.out).trans HS7.out)
          refine hK.out _ _ (hide ⟨(HBv6.out.block _ hbz).trans HBB.out, (HBv6.out.block _ hcz).trans HC0.out⟩) (fun hHeld => ?_)
          clear hK K0
          try simp only [Act.put, List.setIfInBounds_toArray, List.set_cons_zero, List.set_cons_succ]
          generalize putV v5 n8 le.a le.b le.c le.d = v6 at *
          refine wpAnyH_done (by kernel_rfl) ?_ _
          go_wp2_with fail
          go_meet
          exact ⟨n7, n8, rfl, rfl, hide ⟨HN7.out, HN8.out, HBv6.out, HS7.out, HS8.out⟩⟩
      · skip
        go_simp
        have HBv2 := hide (HBv1.out.alloc HBv1.out.size zbox)
        have HZ7 := hide (new_block v1 zbox)
        have HN7 : Hid (W1.heap.size ≤ v1.heap.size) := hide HBv1.out.size
        refine hK.out _ _ (hide ⟨(HBv2.out.block _ hbz).trans HBB.out, (HBv2.out.block _ hcz).trans HC0.out⟩) (fun hHeld => ?_)
        clear hK K0
        try simp only [Act.put, List.setIfInBounds_toArray, List.set_cons_zero, List.set_cons_succ]
        clear HBv1
        generalize v1.alloc zbox = v2 at *
        generalize v1.heap.size = n7 at *
        refine wpAnyH_ready (rs := [11, 13]) (by kernel_rfl) (by simp) ?_
        refine AllReadyH.cons rfl (fun K0 hK => ?_) (AllReadyH.cons rfl (fun K0 hK => ?_) (AllReadyH.nil))
        · skip
          go_simp
          go_at_call 76
          (with_reducible refine (HLE.out _).mono ?_)
          rintro e v3 ⟨rfl, hB⟩
          have HBv3 := hide (HBv2.out.trans (hB.mono HBv2.out.size))
          replace HZ7 := hide ((hB.block _ (block_lt HZ7.out)).trans HZ7.out)
          clear hB
          refine hK.out _ _ (hide ⟨(HBv3.out.block _ hbz).trans HBB.out, (HBv3.out.block _ hcz).trans HC0.out⟩) (fun hHeld => ?_)
          clear hK K0
          try simp only [Act.put, List.setIfInBounds_toArray, List.set_cons_zero, List.set_cons_succ]
          refine wpAnyH_ready (rs := [13]) (by kernel_rfl) (by simp) ?_
          refine AllReadyH.cons rfl (fun K0 hK => ?_) (AllReadyH.nil)
          go_simp
          have HBv4 := hide (HBv3.out.alloc HBv3.out.size zbox)
          have HNE : Hid (n7 ≠ v3.heap.size) := hide (Nat.ne_of_lt (block_lt HZ7.out))
          replace HZ7 := hide (old_block HZ7.out zbox)
          have HZ8 := hide (new_block v3 zbox)
          have HN8 : Hid (W1.heap.size ≤ v3.heap.size) := hide HBv3.out.size
          refine hK.out _ _ (hide ⟨(HBv4.out.block _ hbz).trans HBB.out, (HBv4.out.block _ hcz).trans HC0.out⟩) (fun hHeld => ?_)
          clear hK K0
          try simp only [Act.put, List.setIfInBounds_toArray, List.set_cons_zero, List.set_cons_succ]
          clear HBv3
          generalize v3.alloc zbox = v4 at *
          generalize v3.heap.size = n8 at *
          refine wpAnyH_ready (rs := [14]) (by kernel_rfl) (by simp) ?_
          refine AllReadyH.cons rfl (fun K0 hK => ?_) AllReadyH.nil
          obtain ⟨⟨za, zb, zc, zd⟩, ⟨ze, zf, zg, zh⟩, zi⟩ := z_cells HZ7.out
          go_simp
          show K0 _ (putV v4 n7 mo.a mo.b mo.c mo.d)
          clear za zb zc zd ze zf zg zh zi
          have HBv5 := hide (putV_below (a := mo.a) (b := mo.b) (c := mo.c) (d := mo.d) HBv4.out HN7.out)
          have HS7 := hide (putV_block (e := mo.a) (f := mo.b) (g := mo.c) (h := mo.d) (a := 0) (b := 0) (c := 0) (d := 0) HZ7.out)
          replace HZ8 := hide ((putV_other (a := mo.a) (b := mo.b) (c := mo.c) (d := mo.d) HNE.out.symm).trans HZ8.out)
          refine hK.out _ _ (hide ⟨(HBv5.out.block _ hbz).trans HBB.out, (HBv5.out.block _ hcz).trans HC0.out⟩) (fun hHeld => ?_)
          clear hK K0
          try simp only [Act.put, List.setIfInBounds_toArray, List.set_cons_zero, List.set_cons_succ]
          generalize putV v4 n7 mo.a mo.b mo.c mo.d = v5 at *
          refine wpAnyH_ready (rs := [15]) (by kernel_rfl) (by simp) ?_
          refine AllReadyH.cons rfl (fun K0 hK => ?_) AllReadyH.nil
          obtain ⟨⟨za, zb, zc, zd⟩, ⟨ze, zf, zg, zh⟩, zi⟩ := z_cells HZ8.out
          go_simp
          show K0 _ (putV v5 n8 le.a le.b le.c le.d)
          clear za zb zc zd ze zf zg zh zi
          have HBv6 := hide (putV_below (a := le.a) (b := le.b) (c := le.c) (d := le.d) HBv5.out HN8.out)
          have HS8 := hide (putV_block (e := le.a) (f := le.b) (g := le.c) (h := le.d) (a := 0) (b := 0) (c := 0) (d := 0) HZ8.out)
          replace HS7 := hide ((putV_other (a := le.a) (b := le.b) (c := le.c) (d := le.d) HNE.out).trans HS7.out)
          refine hK.out _ _ (hide ⟨(HBv6.out.block _ hbz).trans HBB.out, (HBv6.out.block _ hcz).trans HC0.out⟩) (fun hHeld => ?_)
          clear hK K0
          try simp only [Act.put, List.setIfInBounds_toArray, List.set_cons_zero, List.set_cons_succ]
          generalize putV v5 n8 le.a le.b le.c le.d = v6 at *
          refine wpAnyH_done (by kernel_rfl) ?_ _
          go_wp2_with fail
          go_meet
          exact ⟨n7, n8, rfl, rfl, hide ⟨HN7.out, HN8.out, HBv6.out, HS7.out, HS8.out⟩⟩
        · skip
          go_simp
          have HBv3 := hide (HBv2.out.alloc HBv2.out.size zbox)
          have HNE : Hid (n7 ≠ v2.heap.size) := hide (Nat.ne_of_lt (block_lt HZ7.out))
          replace HZ7 := hide (old_block HZ7.out zbox)
          have HZ8 := hide (new_block v2 zbox)
          have HN8 : Hid (W1.heap.size ≤ v2.heap.size) := hide HBv2.out.size
          refine hK.out _ _ (hide ⟨(HBv3.out.block _ hbz).trans HBB.out, (HBv3.out.block _ hcz).trans HC0.out⟩) (fun hHeld => ?_)
          clear hK K0
          try simp only [Act.put, List.setIfInBounds_toArray, List.set_cons_zero, List.set_cons_succ]
          clear HBv2
          generalize v2.alloc zbox = v3 at *
          generalize v2.heap.size = n8 at *
          refine wpAnyH_ready (rs := [11]) (by kernel_rfl) (by simp) ?_
          refine AllReadyH.cons rfl (fun K0 hK => ?_) (AllReadyH.nil)
          go_simp
          go_at_call 76
          (with_reducible refine (HLE.out _).mono ?_)
          rintro e v4 ⟨rfl, hB⟩
          have HBv4 := hide (HBv3.out.trans (hB.mono HBv3.out.size))
          replace HZ7 := hide ((hB.block _ (block_lt HZ7.out)).trans HZ7.out)
          replace HZ8 := hide ((hB.block _ (block_lt HZ8.out)).trans HZ8.out)
          clear hB
          refine hK.out _ _ (hide ⟨(HBv4.out.block _ hbz).trans HBB.out, (HBv4.out.block _ hcz).trans HC0.out⟩) (fun hHeld => ?_)
          clear hK K0
          try simp only [Act.put, List.setIfInBounds_toArray, List.set_cons_zero, List.set_cons_succ]
          refine wpAnyH_ready (rs := [14]) (by kernel_rfl) (by simp) ?_
          refine AllReadyH.cons rfl (fun K0 hK => ?_) AllReadyH.nil
          obtain ⟨⟨za, zb, zc, zd⟩, ⟨ze, zf, zg, zh⟩, zi⟩ := z_cells HZ7.out
          go_simp
          show K0 _ (putV v4 n7 mo.a mo.b mo.c mo.d)
          clear za zb zc zd ze zf zg zh zi
          have HBv5 := hide (putV_below (a := mo.a) (b := mo.b) (c := mo.c) (d := mo.d) HBv4.out HN7.out)
          have HS7 := hide (putV_block (e := mo.a) (f := mo.b) (g := mo.c) (h := mo.d) (a := 0) (b := 0) (c := 0) (d := 0) HZ7.out)
          replace HZ8 := hide ((putV_other (a := mo.a) (b := mo.b) (c := mo.c) (d := mo.d) HNE.out.symm).trans HZ8.out)
          refine hK.out _ _ (hide ⟨(HBv5.out.block _ hbz).trans HBB.out, (HBv5.out.block _ hcz).trans HC0.out⟩) (fun hHeld => ?_)
          clear hK K0
          try simp only [Act.put, List.setIfInBounds_toArray, List.set_cons_zero, List.set_cons_succ]
          generalize putV v4 n7 mo.a mo.b mo.c mo.d = v5 at *
          refine wpAnyH_ready (rs := [15]) (by kernel_rfl) (by simp) ?_
          refine AllReadyH.cons rfl (fun K0 hK => ?_) AllReadyH.nil
          obtain ⟨⟨za, zb, zc, zd⟩, ⟨ze, zf, zg, zh⟩, zi⟩ := z_cells HZ8.out
          go_simp
          show K0 _ (putV v5 n8 le.a le.b le.c le.d)
          clear za zb zc zd ze zf zg zh zi
          have HBv6 := hide (putV_below (a := le.a) (b := le.b) (c := le.c) (d := le.d) HBv5.out HN8.out)
          have HS8 := hide (putV_block (e := le.a) (f := le.b) (g := le.c) (h := le.d) (a := 0) (b := 0) (c := 0) (d := 0) HZ8.out)
          replace HS7 := hide ((putV_other (a := le.a) (b := le.b) (c := le.c) (d := le.d) HNE.out).trans HS7.out)
          refine hK.out _ _ (hide ⟨(HBv6.out.block _ hbz).trans HBB.out, (HBv6.out.block _ hcz).trans HC0.out⟩) (fun hHeld => ?_)
          clear hK K0
          try simp only [Act.put, List.setIfInBounds_toArray, List.set_cons_zero, List.set_cons_succ]
          generalize putV v5 n8 le.a le.b le.c le.d = v6 at *
          refine wpAnyH_done (by kernel_rfl) ?_ _
          go_wp2_with fail
          go_meet
          exact ⟨n7, n8, rfl, rfl, hide ⟨HN7.out, HN8.out, HBv6.out, HS7.out, HS8.out⟩⟩
      · skip
        go_simp
        have HBv2 := hide (HBv1.out.alloc HBv1.out.size zbox)
        have HZ8 := hide (new_block v1 zbox)
        have HN8 : Hid (W1.heap.size ≤ v1.heap.size) := hide HBv1.out.size
        refine hK.out _ _ (hide ⟨(HBv2.out.block _ hbz).trans HBB.out, (HBv2.out.block _ hcz).trans HC0.out⟩) (fun hHeld => ?_)
        clear hK K0
        try simp only [Act.put, List.setIfInBounds_toArray, List.set_cons_zero, List.set_cons_succ]
        clear HBv1
        generalize v1.alloc zbox = v2 at *
        generalize v1.heap.size = n8 at *
        refine wpAnyH_ready (rs := [11, 12]) (by kernel_rfl) (by simp) ?_
        refine AllReadyH.cons rfl (fun K0 hK => ?_) (AllReadyH.cons rfl (fun K0 hK => ?_) (AllReadyH.nil))
        · skip
          go_simp
          go_at_call 76
          (with_reducible refine (HLE.out _).mono ?_)
          rintro e v3 ⟨rfl, hB⟩
          have HBv3 := hide (HBv2.out.trans (hB.mono HBv2.out.size))
          replace HZ8 := hide ((hB.block _ (block_lt HZ8.out)).trans HZ8.out)
          clear hB
          refine hK.out _ _ (hide ⟨(HBv3.out.block _ hbz).trans HBB.out, (HBv3.out.block _ hcz).trans HC0.out⟩) (fun hHeld => ?_)
          clear hK K0
          try simp only [Act.put, List.setIfInBounds_toArray, List.set_cons_zero, List.set_cons_succ]
          refine wpAnyH_ready (rs := [12]) (by kernel_rfl) (by simp) ?_
          refine AllReadyH.cons rfl (fun K0 hK => ?_) (AllReadyH.nil)
          go_simp
          have HBv4 := hide (HBv3.out.alloc HBv3.out.size zbox)
          have HNE : Hid (v3.heap.size ≠ n8) := hide (Nat.ne_of_gt (block_lt HZ8.out))
          replace HZ8 := hide (old_block HZ8.out zbox)
          have HZ7 := hide (new_block v3 zbox)
          have HN7 : Hid (W1.heap.size ≤ v3.heap.size) := hide HBv3.out.size
          refine hK.out _ _ (hide ⟨(HBv4.out.block _ hbz).trans HBB.out, (HBv4.out.block _ hcz).trans HC0.out⟩) (fun hHeld => ?_)
          clear hK K0
          try simp only [Act.put, List.setIfInBounds_toArray, List.set_cons_zero, List.set_cons_succ]
          clear HBv3
          generalize v3.alloc zbox = v4 at *
          generalize v3.heap.size = n7 at *
          refine wpAnyH_ready (rs := [14]) (by kernel_rfl) (by simp) ?_
          refine AllReadyH.cons rfl (fun K0 hK => ?_) AllReadyH.nil
          obtain ⟨⟨za, zb, zc, zd⟩, ⟨ze, zf, zg, zh⟩, zi⟩ := z_cells HZ7.out
          go_simp
          show K0 _ (putV v4 n7 mo.a mo.b mo.c mo.d)
          clear za zb zc zd ze zf zg zh zi
          have HBv5 := hide (putV_below (a := mo.a) (b := mo.b) (c := mo.c) (d := mo.d) HBv4.out HN7.out)
          have HS7 := hide (putV_block (e := mo.a) (f := mo.b) (g := mo.c) (h := mo.d) (a := 0) (b := 0) (c := 0) (d := 0) HZ7.out)
          replace HZ8 := hide ((putV_other (a := mo.a) (b := mo.b) (c := mo.c) (d := mo.d) HNE.out.symm).trans HZ8.out)
          refine hK.out _ _ (hide ⟨(HBv5.out.block _ hbz).trans HBB.out, (HBv5.out.block _ hcz).trans HC0.out⟩) (fun hHeld => ?_)
          clear hK K0
          try simp only [Act.put, List.setIfInBounds_toArray, List.set_cons_zero, List.set_cons_succ]
          generalize putV v4 n7 mo.a mo.b mo.c mo.d = v5 at *
          refine wpAnyH_ready (rs := [15]) (by kernel_rfl) (by simp) ?_
          refine AllReadyH.cons rfl (fun K0 hK => ?_) AllReadyH.nil
          obtain ⟨⟨za, zb, zc, zd⟩, ⟨ze, zf, zg, zh⟩, zi⟩ := z_cells HZ8.out
          go_simp
          show K0 _ (putV v5 n8 le.a le.b le.c le.d)
          clear za zb zc zd ze zf zg zh zi
          have HBv6 := hide (putV_below (a := le.a) (b := le.b) (c := le.c) (d := le.d) HBv5.out HN8.out)
          have HS8 := hide (putV_block (e := le.a) (f := le.b) (g := le.c) (h := le.d) (a := 0) (b := 0) (c := 0) (d := 0) HZ8.out)
          replace HS7 := hide ((putV_other (a := le.a) (b := le.b) (c := le.c) (d := le.d) HNE.out).trans HS7.out)
          refine hK.out _ _ (hide ⟨(HBv6.out.block _ hbz).trans HBB.out, (HBv6.out.block _ hcz).trans HC0.out⟩) (fun hHeld => ?_)
          clear hK K0
          try simp only [Act.put, List.setIfInBounds_toArray, List.set_cons_zero, List.set_cons_succ]
          generalize putV v5 n8 le.a le.b le.c le.d = v6 at *
          refine wpAnyH_done (by kernel_rfl) ?_ _
          go_wp2_with fail
          go_meet
          exact ⟨n7, n8, rfl, rfl, hide ⟨HN7.out, HN8.out, HBv6.out, HS7.out, HS8.out⟩⟩
        · skip
          go_simp
          have HBv3 := hide (HBv2.out.alloc HBv2.out.size zbox)
          have HNE : Hid (v2.heap.size ≠ n8) := hide (Nat.ne_of_gt (block_lt HZ8.out))
          replace HZ8 := hide (old_block HZ8.out zbox)
          have HZ7 := hide (new_block v2 zbox)
          have HN7 : Hid (W1.heap.size ≤ v2.heap.size) := hide HBv2.out.size
          refine hK.out _ _ (hide ⟨(HBv3.out.block _ hbz).trans HBB.out, (HBv3.out.block _ hcz).trans HC0.out⟩) (fun hHeld => ?_)
          clear hK K0
          try simp only [Act.put, List.setIfInBounds_toArray, List.set_cons_zero, List.set_cons_succ]
          clear HBv2
          generalize v2.alloc zbox = v3 at *
          generalize v2.heap.size = n7 at *
          refine wpAnyH_ready (rs := [11]) (by kernel_rfl) (by simp) ?_
          refine AllReadyH.cons rfl (fun K0 hK => ?_) (AllReadyH.nil)
          go_simp
          go_at_call 76
          (with_reducible refine (HLE.out _).mono ?_)
          rintro e v4 ⟨rfl, hB⟩
          have HBv4 := hide (HBv3.out.trans (hB.mono HBv3.out.size))
          replace HZ7 := hide ((hB.block _ (block_lt HZ7.out)).trans HZ7.out)
          replace HZ8 := hide ((hB.block _ (block_lt HZ8.out)).trans HZ8.out)
          clear hB
          refine hK.out _ _ (hide ⟨(HBv4.out.block _ hbz).trans HBB.out, (HBv4.out.block _ hcz).trans HC0.out⟩) (fun hHeld => ?_)
          clear hK K0
          try simp only [Act.put, List.setIfInBounds_toArray, List.set_cons_zero, List.set_cons_succ]
          refine wpAnyH_ready (rs := [14]) (by kernel_rfl) (by simp) ?_
          refine AllReadyH.cons rfl (fun K0 hK => ?_) AllReadyH.nil
          obtain ⟨⟨za, zb, zc, zd⟩, ⟨ze, zf, zg, zh⟩, zi⟩ := z_cells HZ7.out
          go_simp
          show K0 _ (putV v4 n7 mo.a mo.b mo.c mo.d)
          clear za zb zc zd ze zf zg zh zi
          have HBv5 := hide (putV_below (a := mo.a) (b := mo.b) (c := mo.c) (d := mo.d) HBv4.out HN7.out)
          have HS7 := hide (putV_block (e := mo.a) (f := mo.b) (g := mo.c) (h := mo.d) (a := 0) (b := 0) (c := 0) (d := 0) HZ7.out)
          replace HZ8 := hide ((putV_other (a := mo.a) (b := mo.b) (c := mo.c) (d := mo.d) HNE.out.symm).trans HZ8.out)
          refine hK.out _ _ (hide ⟨(HBv5.out.block _ hbz).trans HBB.out, (HBv5.out.block _ hcz).trans HC0.out⟩) (fun hHeld => ?_)
          clear hK K0
          try simp only [Act.put, List.setIfInBounds_toArray, List.set_cons_zero, List.set_cons_succ]
          generalize putV v4 n7 mo.a mo.b mo.c mo.d = v5 at *
          refine wpAnyH_ready (rs := [15]) (by kernel_rfl) (by simp) ?_
          refine AllReadyH.cons rfl (fun K0 hK => ?_) AllReadyH.nil
          obtain ⟨⟨za, zb, zc, zd⟩, ⟨ze, zf, zg, zh⟩, zi⟩ := z_cells HZ8.out
          go_simp
          show K0 _ (putV v5 n8 le.a le.b le.c le.d)
          clear za zb zc zd ze zf zg zh zi
          have HBv6 := hide (putV_below (a := le.a) (b := le.b) (c := le.c) (d := le.d) HBv5.out HN8.out)
          have HS8 := hide (putV_block (e := le.a) (f := le.b) (g := le.c) (h := le.d) (a := 0) (b := 0) (c := 0) (d := 0) HZ8.out)
          replace HS7 := hide ((putV_other (a := le.a) (b := le.b) (c := le.c) (d := le.d) HNE.out).trans HS7.out)
          refine hK.out _ _ (hide ⟨(HBv6.out.block _ hbz).trans HBB.out, (HBv6.out.block _ hcz).trans HC0.out⟩) (fun hHeld => ?_)
          clear hK K0
          try simp only [Act.put, List.setIfInBounds_toArray, List.set_cons_zero, List.set_cons_succ]
          generalize putV v5 n8 le.a le.b le.c le.d = v6 at *
          refine wpAnyH_done (by kernel_rfl) ?_ _
          go_wp2_with fail
          go_meet
          exact ⟨n7, n8, rfl, rfl, hide ⟨HN7.out, HN8.out, HBv6.out, HS7.out, HS8.out⟩⟩
    · skip
      go_simp
      have HBv1 := hide (HBv0.out.alloc HBv0.out.size zbox)
      have HZ7 := hide (new_block v0 zbox)
      have HN7 : Hid (W1.heap.size ≤ v0.heap.size) := hide HBv0.out.size
      refine hK.out _ _ (hide ⟨(HBv1.out.block _ hbz).trans HBB.out, (HBv1.out.block _ hcz).trans HC0.out⟩) (fun hHeld => ?_)
      clear hK K0
      try simp only [Act.put, List.setIfInBounds_toArray, List.set_cons_zero, List.set_cons_succ]
      clear HBv0
      generalize v0.alloc zbox = v1 at *
      generalize v0.heap.size = n7 at *
      refine wpAnyH_ready (rs := [5, 13]) (by kernel_rfl) (by simp) ?_
      refine AllReadyH.cons rfl (fun K0 hK => ?_) (AllReadyH.cons rfl (fun K0 hK => ?_) (AllReadyH.nil))
      · skip
        go_simp
        go_at_call 81
        (with_reducible refine (HOR.out _).mono ?_)
        rintro e v2 ⟨rfl, hB⟩
        have HBv2 := hide (HBv1.out.trans (hB.mono HBv1.out.size))
        replace HZ7 := hide ((hB.block _ (block_lt HZ7.out)).trans HZ7.out)
        clear hB
        refine hK.out _ _ (hide ⟨(HBv2.out.block _ hbz).trans HBB.out, (HBv2.out.block _ hcz).trans HC0.out⟩) (fun hHeld => ?_)
        clear hK K0
        try simp only [Act.put, List.setIfInBounds_toArray, List.set_cons_zero, List.set_cons_succ]
        refine wpAnyH_ready (rs := [11, 13]) (by kernel_rfl) (by simp) ?_
        refine AllReadyH.cons rfl (fun K0 hK => ?_) (AllReadyH.cons rfl (fun K0 hK => ?_) (AllReadyH.nil))
        · skip
          go_simp
          go_at_call 76
          (with_reducible refine (HLE.out _).mono ?_)
          rintro e v3 ⟨rfl, hB⟩
          have HBv3 := hide (HBv2.out.trans (hB.mono HBv2.out.size))
          replace HZ7 := hide ((hB.block _ (block_lt HZ7.out)).trans HZ7.out)
          clear hB
          refine hK.out _ _ (hide ⟨(HBv3.out.block _ hbz).trans HBB.out, (HBv3.out.block _ hcz).trans HC0.out⟩) (fun hHeld => ?_)
          clear hK K0
          try simp only [Act.put, List.setIfInBounds_toArray, List.set_cons_zero, List.set_cons_succ]
          refine wpAnyH_ready (rs := [13]) (by kernel_rfl) (by simp) ?_
          refine AllReadyH.cons rfl (fun K0 hK => ?_) (AllReadyH.nil)
          go_simp
          have HBv4 := hide (HBv3.out.alloc HBv3.out.size zbox)
          have HNE : Hid (n7 ≠ v3.heap.size) := hide (Nat.ne_of_lt (block_lt HZ7.out))
          replace HZ7 := hide (old_block HZ7.out zbox)
          have HZ8 := hide (new_block v3 zbox)
          have HN8 : Hid (W1.heap.size ≤ v3.heap.size) := hide HBv3.out.size
          refine hK.out _ _ (hide ⟨(HBv4.out.block _ hbz).trans HBB.out, (HBv4.out.block _ hcz).trans HC0.out⟩) (fun hHeld => ?_)
          clear hK K0
          try simp only [Act.put, List.setIfInBounds_toArray, List.set_cons_zero, List.set_cons_succ]
          clear HBv3
          generalize v3.alloc zbox = v4 at *
          generalize v3.heap.size = n8 at *
          refine wpAnyH_ready (rs := [14]) (by kernel_rfl) (by simp) ?_
          refine AllReadyH.cons rfl (fun K0 hK => ?_) AllReadyH.nil
          obtain ⟨⟨za, zb, zc, zd⟩, ⟨ze, zf, zg, zh⟩, zi⟩ := z_cells HZ7.out
          go_simp
          show K0 _ (putV v4 n7 mo.a mo.b mo.c mo.d)
          clear za zb zc zd ze zf zg zh zi
          have HBv5 := hide (putV_below (a := mo.a) (b := mo.b) (c := mo.c) (d := mo.d) HBv4.out HN7.out)
          have HS7 := hide (putV_block (e := mo.a) (f := mo.b) (g := mo.c) (h := mo.d) (a := 0) (b := 0) (c := 0) (d := 0) HZ7.out)
          replace HZ8 := hide ((putV_other (a := mo.a) (b := mo.b) (c := mo.c) (d := mo.d) HNE.out.symm).trans HZ8.out)
          refine hK.out _ _ (hide ⟨(HBv5.out.block _ hbz).trans HBB.out, (HBv5.out.block _ hcz).trans HC0.out⟩) (fun hHeld => ?_)
          clear hK K0
          try simp only [Act.put, List.setIfInBounds_toArray, List.set_cons_zero, List.set_cons_succ]
          generalize putV v4 n7 mo.a mo.b mo.c mo.d = v5 at *
          refine wpAnyH_ready (rs := [15]) (by kernel_rfl) (by simp) ?_
          refine AllReadyH.cons rfl (fun K0 hK => ?_) AllReadyH.nil
          obtain ⟨⟨za, zb, zc, zd⟩, ⟨ze, zf, zg, zh⟩, zi⟩ := z_cells HZ8.out
          go_simp
          show K0 _ (putV v5 n8 le.a le.b le.c le.d)
          clear za zb zc zd ze zf zg zh zi
          have HBv6 := hide (putV_below (a := le.a) (b := le.b) (c := le.c) (d := le.d) HBv5.out HN8.out)
          have HS8 := hide (putV_block (e := le.a) (f := le.b) (g := le.c) (h := le.d) (a := 0) (b := 0) (c := 0) (d := 0) HZ8.out)
          replace HS7 := hide ((putV_other (a := le.a) (b := le.b) (c := le.c) (d := le.d) HNE.out).trans HS7.out)
          refine hK.out _ _ (hide ⟨(HBv6.out.block _ hbz).trans HBB.out, (HBv6.out.block _ hcz).trans HC0.out⟩) (fun hHeld => ?_)
          clear hK K0
          try simp only [Act.put, List.setIfInBounds_toArray, List.set_cons_zero, List.set_cons_succ]
          generalize putV v5 n8 le.a le.b le.c le.d = v6 at *
          refine wpAnyH_done (by kernel_rfl) ?_ _
          go_wp2_with fail
          go_meet
          exact ⟨n7, n8, rfl, rfl, hide ⟨HN7.out, HN8.out, HBv6.out, HS7.out, HS8.out⟩⟩
        · skip
          go_simp
          have HBv3 := hide (HBv2.out.alloc HBv2.out.size zbox)
          have HNE : Hid (n7 ≠ v2.heap.size) := hide (Nat.ne_of_lt (block_lt HZ7.out))
          replace HZ7 := hide (old_block HZ7.out zbox)
          have HZ8 := hide (new_block v2 zbox)
          have HN8 : Hid (W1.heap.size ≤ v2.heap.size) := hide HBv2.out.size
          refine hK.out _ _ (hide ⟨(HBv3.out.block _ hbz).trans HBB.out, (HBv3.out.block _ hcz).trans HC0.out⟩) (fun hHeld => ?_)
          clear hK K0
          try simp only [Act.put, List.setIfInBounds_toArray, List.set_cons_zero, List.set_cons_succ]
          clear HBv2
          generalize v2.alloc zbox = v3 at *
          generalize v2.heap.size = n8 at *
          refine wpAnyH_ready (rs := [11]) (by kernel_rfl) (by simp) ?_
          refine AllReadyH.cons rfl (fun K0 hK => ?_) (AllReadyH.nil)
          go_simp
          go_at_call 76
          (with_reducible refine (HLE.out _).mono ?_)
          rintro e v4 ⟨rfl, hB⟩
          have HBv4 := hide (HBv3.out.trans (hB.mono HBv3.out.size))
          replace HZ7 := hide ((hB.block _ (block_lt HZ7.out)).trans HZ7.out)
          replace HZ8 := hide ((hB.block _ (block_lt HZ8.out)).trans HZ8.out)
          clear hB
          refine hK.out _ _ (hide ⟨(HBv4.out.block _ hbz).trans HBB.out, (HBv4.out.block _ hcz).trans HC0.out⟩) (fun hHeld => ?_)
          clear hK K0
          try simp only [Act.put, List.setIfInBounds_toArray, List.set_cons_zero, List.set_cons_succ]
          refine wpAnyH_ready (rs := [14]) (by kernel_rfl) (by simp) ?_
          refine AllReadyH.cons rfl (fun K0 hK => ?_) AllReadyH.nil
          obtain ⟨⟨za, zb, zc, zd⟩, ⟨ze, zf, zg, zh⟩, zi⟩ := z_cells HZ7.out
          go_simp
          show K0 _ (putV v4 n7 mo.a mo.b mo.c mo.d)
          clear za zb zc zd ze zf zg zh zi
          have HBv5 := hide (putV_below (a := mo.a) (b := mo.b) (c := mo.c) (d := mo.d) HBv4.out HN7.out)
          have HS7 := hide (putV_block (e := mo.a) (f := mo.b) (g := mo.c) (h := mo.d) (a := 0) (b := 0) (c := 0) (d := 0) HZ7.out)
          replace HZ8 := hide ((putV_other (a := mo.a) (b := mo.b) (c := mo.c) (d := mo.d) HNE.out.symm).trans HZ8.out)
          refine hK.out _ _ (hide ⟨(HBv5.out.block _ hbz).trans HBB.out, (HBv5.out.block _ hcz).trans HC0.out⟩) (fun hHeld => ?_)
          clear hK K0
          try simp only [Act.put, List.setIfInBounds_toArray, List.set_cons_zero, List.set_cons_succ]
          generalize putV v4 n7 mo.a mo.b mo.c mo.d = v5 at *
          refine wpAnyH_ready (rs := [15]) (by kernel_rfl) (by simp) ?_
          refine AllReadyH.cons rfl (fun K0 hK => ?_) AllReadyH.nil
          obtain ⟨⟨za, zb, zc, zd⟩, ⟨ze, zf, zg, zh⟩, zi⟩ := z_cells HZ8.out
          go_simp
          show K0 _ (putV v5 n8 le.a le.b le.c le.d)
          clear za zb zc zd ze zf zg zh zi
          have HBv6 := hide (putV_below (a := le.a) (b := le.b) (c := le.c) (d := le.d) HBv5.out HN8.out)
          have HS8 := hide (putV_block (e := le.a) (f := le.b) (g := le.c) (h := le.d) (a := 0) (b := 0) (c := 0) (d := 0) HZ8.out)
          replace HS7 := hide ((putV_other (a := le.a) (b := le.b) (c := le.c) (d := le.d) HNE.out).trans HS7.out)
          refine hK.out _ _ (hide ⟨(HBv6.out.block _ hbz).trans HBB.out, (HBv6.out.block _ hcz).trans HC0.out⟩) (fun hHeld => ?_)
          clear hK K0
          try simp only [Act.put, List.setIfInBounds_toArray, List.set_cons_zero, List.set_cons_succ]
          generalize putV v5 n8 le.a le.b le.c le.d = v6 at *
          refine wpAnyH_done (by kernel_rfl) ?_ _
          go_wp2_with fail
          go_meet
          exact ⟨n7, n8, rfl, rfl, hide ⟨HN7.out, HN8.out, HBv6.out, HS7.out, HS8.out⟩⟩
      · skip
        go_simp
        have HBv2 := hide (HBv1.out.alloc HBv1.out.size zbox)
        have HNE : Hid (n7 ≠ v1.heap.size) := hide (Nat.ne_of_lt (block_lt HZ7.out))
        replace HZ7 := hide (old_block HZ7.out zbox)
        have HZ8 := hide (new_block v1 zbox)
        have HN8 : Hid (W1.heap.size ≤ v1.heap.size) := hide HBv1.out.size
        refine hK.out _ _ (hide ⟨(HBv2.out.block _ hbz).trans HBB.out, (HBv2.out.block _ hcz).trans HC0.out⟩) (fun hHeld => ?_)
        clear hK K0
        try simp only [Act.put, List.setIfInBounds_toArray, List.set_cons_zero, List.set_cons_succ]
        clear HBv1
        generalize v1.alloc zbox = v2 at *
        generalize v1.heap.size = n8 at *
        refine wpAnyH_ready (rs := [5]) (by kernel_rfl) (by simp) ?_
        refine AllReadyH.cons rfl (fun K0 hK => ?_) (AllReadyH.nil)
        go_simp
        go_at_call 81
        (with_reducible refine (HOR.out _).mono ?_)
        rintro e v3 ⟨rfl, hB⟩
        have HBv3 := hide (HBv2.out.trans (hB.mono HBv2.out.size))
        replace HZ7 := hide ((hB.block _ (block_lt HZ7.out)).trans HZ7.out)
        replace HZ8 := hide ((hB.block _ (block_lt HZ8.out)).trans HZ8.out)
        clear hB
        refine hK.out _ _ (hide ⟨(HBv3.out.block _ hbz).trans HBB.out, (HBv3.out.block _ hcz).trans HC0.out⟩) (fun hHeld => ?_)
        clear hK K0
        try simp only [Act.put, List.setIfInBounds_toArray, List.set_cons_zero, List.set_cons_succ]
        refine wpAnyH_ready (rs := [11]) (by kernel_rfl) (by simp) ?_
        refine AllReadyH.cons rfl (fun K0 hK => ?_) (AllReadyH.nil)
        go_simp
        go_at_call 76
        (with_reducible refine (HLE.out _).mono ?_)
        rintro e v4 ⟨rfl, hB⟩
        have HBv4 := hide (HBv3.out.trans (hB.mono HBv3.out.size))
        replace HZ7 := hide ((hB.block _ (block_lt HZ7.out)).trans HZ7.out)
        replace HZ8 := hide ((hB.block _ (block_lt HZ8.out)).trans HZ8.out)
        clear hB
        refine hK.out _ _ (hide ⟨(HBv4.out.block _ hbz).trans HBB.out, (HBv4.out.block _ hcz).trans HC0.out⟩) (fun hHeld => ?_)
        clear hK K0
        try simp only [Act.put, List.setIfInBounds_toArray, List.set_cons_zero, List.set_cons_succ]
        refine wpAnyH_ready (rs := [14]) (by kernel_rfl) (by simp) ?_
        refine AllReadyH.cons rfl (fun K0 hK => ?_) AllReadyH.nil
        obtain ⟨⟨za, zb, zc, zd⟩, ⟨ze, zf, zg, zh⟩, zi⟩ := z_cells HZ7.out
        go_simp
        show K0 _ (putV v4 n7 mo.a mo.b mo.c mo.d)
        clear za zb zc zd ze zf zg zh zi
        have HBv5 := hide (putV_below (a := mo.a) (b := mo.b) (c := mo.c) (d := mo.d) HBv4.out HN7.out)
        have HS7 := hide (putV_block (e := mo.a) (f := mo.b) (g := mo.c) (h := mo.d) (a := 0) (b := 0) (c := 0) (d := 0) HZ7.out)
        replace HZ8 := hide ((putV_other (a := mo.a) (b := mo.b) (c := mo.c) (d := mo.d) HNE.out.symm).trans HZ8.out)
        refine hK.out _ _ (hide ⟨(HBv5.out.block _ hbz).trans HBB.out, (HBv5.out.block _ hcz).trans HC0.out⟩) (fun hHeld => ?_)
        clear hK K0
        try simp only [Act.put, List.setIfInBounds_toArray, List.set_cons_zero, List.set_cons_succ]
        generalize putV v4 n7 mo.a mo.b mo.c mo.d = v5 at *
        refine wpAnyH_ready (rs := [15]) (by kernel_rfl) (by simp) ?_
        refine AllReadyH.cons rfl (fun K0 hK => ?_) AllReadyH.nil
        obtain ⟨⟨za, zb, zc, zd⟩, ⟨ze, zf, zg, zh⟩, zi⟩ := z_cells HZ8.out
        go_simp
        show K0 _ (putV v5 n8 le.a le.b le.c le.d)
        clear za zb zc zd ze zf zg zh zi
        have HBv6 := hide (putV_below (a := le.a) (b := le.b) (c := le.c) (d := le.d) HBv5.out HN8.out)
        have HS8 := hide (putV_block (e := le.a) (f := le.b) (g := le.c) (h := le.d) (a := 0) (b := 0) (c := 0) (d := 0) HZ8.out)
        replace HS7 := hide ((putV_other (a := le.a) (b := le.b) (c := le.c) (d := le.d) HNE.out).trans HS7.out)
        refine hK.out _ _ (hide ⟨(HBv6.out.block _ hbz).trans HBB.out, (HBv6.out.block _ hcz).trans HC0.out⟩) (fun hHeld => ?_)
        clear hK K0
        try simp only [Act.put, List.setIfInBounds_toArray, List.set_cons_zero, List.set_cons_succ]
        generalize putV v5 n8 le.a le.b le.c le.d = v6 at *
        refine wpAnyH_done (by kernel_rfl) ?_ _
        go_wp2_with fail
        go_meet
        exact ⟨n7, n8, rfl, rfl, hide ⟨HN7.out, HN8.out, HBv6.out, HS7.out, HS8.out⟩⟩
    · skip
      go_simp
      have HBv1 := hide (HBv0.out.alloc HBv0.out.size zbox)
      have HZ8 := hide (new_block v0 zbox)
      have HN8 : Hid (W1.heap.size ≤ v0.heap.size) := hide HBv0.out.size
      refine hK.out _ _ (hide ⟨(HBv1.out.block _ hbz).trans HBB.out, (HBv1.out.block _ hcz).trans HC0.out⟩) (fun hHeld => ?_)
      clear hK K0
      try simp only [Act.put, List.setIfInBounds_toArray, List.set_cons_zero, List.set_cons_succ]
      clear HBv0
      generalize v0.alloc zbox = v1 at *
      generalize v0.heap.size = n8 at *
      refine wpAnyH_ready (rs := [5, 12]) (by kernel_rfl) (by simp) ?_
      refine AllReadyH.cons rfl (fun K0 hK => ?_) (AllReadyH.cons rfl (fun K0 hK => ?_) (AllReadyH.nil))
      · skip
        go_simp
        go_at_call 81
        (with_reducible refine (HOR.out _).mono ?_)
        rintro e v2 ⟨rfl, hB⟩
        have HBv2 := hide (HBv1.out.trans (hB.mono HBv1.out.size))
        replace HZ8 := hide ((hB.block _ (block_lt HZ8.out)).trans HZ8.out)
        clear hB
        refine hK.out _ _ (hide ⟨(HBv2.out.block _ hbz).trans HBB.out, (HBv2.out.block _ hcz).trans HC0.out⟩) (fun hHeld => ?_)
        clear hK K0
        try simp only [Act.put, List.setIfInBounds_toArray, List.set_cons_zero, List.set_cons_succ]
        refine wpAnyH_ready (rs := [11, 12]) (by kernel_rfl) (by simp) ?_
        refine AllReadyH.cons rfl (fun K0 hK => ?_) (AllReadyH.cons rfl (fun K0 hK => ?_) (AllReadyH.nil))
        · skip
          go_simp
          go_at_call 76
          (with_reducible refine (HLE.out _).mono ?_)
          rintro e v3 ⟨rfl, hB⟩
          have HBv3 := hide (HBv2.out.trans (hB.mono HBv2.out.size))
          replace HZ8 := hide ((hB.block _ (block_lt HZ8.out)).trans HZ8.out)
          clear hB
          refine hK.out _ _ (hide ⟨(HBv3.out.block _ hbz).trans HBB.out, (HBv3.out.block _ hcz).trans HC0.out⟩) (fun hHeld => ?_)
          clear hK K0
          try simp only [Act.put, List.setIfInBounds_toArray, List.set_cons_zero, List.set_cons_succ]
          refine wpAnyH_ready (rs := [12]) (by kernel_rfl) (by simp) ?_
          refine AllReadyH.cons rfl (fun K0 hK => ?_) (AllReadyH.nil)
          go_simp
          have HBv4 := hide (HBv3.out.alloc HBv3.out.size zbox)
          have HNE : Hid (v3.heap.size ≠ n8) := hide (Nat.ne_of_gt (block_lt HZ8.out))
          replace HZ8 := hide (old_block HZ8.out zbox)
          have HZ7 := hide (new_block v3 zbox)
          have HN7 : Hid (W1.heap.size ≤ v3.heap.size) := hide HBv3.out.size
          refine hK.out _ _ (hide ⟨(HBv4.out.block _ hbz).trans HBB.out, (HBv4.out.block _ hcz).trans HC0.out⟩) (fun hHeld => ?_)
          clear hK K0
          try simp only [Act.put, List.setIfInBounds_toArray, List.set_cons_zero, List.set_cons_succ]
          clear HBv3
          generalize v3.alloc zbox = v4 at *
          generalize v3.heap.size = n7 at *
          refine wpAnyH_ready (rs := [14]) (by kernel_rfl) (by simp) ?_
          refine AllReadyH.cons rfl (fun K0 hK => ?_) AllReadyH.nil
          obtain ⟨⟨za, zb, zc, zd⟩, ⟨ze, zf, zg, zh⟩, zi⟩ := z_cells HZ7.out
          go_simp
          show K0 _ (putV v4 n7 mo.a mo.b mo.c mo.d)
          clear za zb zc zd ze zf zg zh zi
          have HBv5 := hide (putV_below (a := mo.a) (b := mo.b) (c := mo.c) (d := mo.d) HBv4.out HN7.out)
          have HS7 := hide (putV_block (e := mo.a) (f := mo.b) (g := mo.c) (h := mo.d) (a := 0) (b := 0) (c := 0) (d := 0) HZ7.out)
          replace HZ8 := hide ((putV_other (a := mo.a) (b := mo.b) (c := mo.c) (d := mo.d) HNE.out.symm).trans HZ8.out)
          refine hK.out _ _ (hide ⟨(HBv5.out.block _ hbz).trans HBB.out, (HBv5.out.block _ hcz).trans HC0.out⟩) (fun hHeld => ?_)
          clear hK K0
          try simp only [Act.put, List.setIfInBounds_toArray, List.set_cons_zero, List.set_cons_succ]
          generalize putV v4 n7 mo.a mo.b mo.c mo.d = v5 at *
          refine wpAnyH_ready (rs := [15]) (by kernel_rfl) (by simp) ?_
          refine AllReadyH.cons rfl (fun K0 hK => ?_) AllReadyH.nil
          obtain ⟨⟨za, zb, zc, zd⟩, ⟨ze, zf, zg, zh⟩, zi⟩ := z_cells HZ8.out
          go_simp
          show K0 _ (putV v5 n8 le.a le.b le.c le.d)
          clear za zb zc zd ze zf zg zh zi
          have HBv6 := hide (putV_below (a := le.a) (b := le.b) (c := le.c) (d := le.d) HBv5.out HN8.out)
          have HS8 := hide (putV_block (e := le.a) (f := le.b) (g := le.c) (h := le.d) (a := 0) (b := 0) (c := 0) (d := 0) HZ8.out)
          replace HS7 := hide ((putV_other (a := le.a) (b := le.b) (c := le.c) (d := le.d) HNE.out).trans HS7.out)
          refine hK.out _ _ (hide ⟨(HBv6.out.block _ hbz).trans HBB.out, (HBv6.out.block _ hcz).trans HC0.out⟩) (fun hHeld => ?_)
          clear hK K0
          try simp only [Act.put, List.setIfInBounds_toArray, List.set_cons_zero, List.set_cons_succ]
          generalize putV v5 n8 le.a le.b le.c le.d = v6 at *
          refine wpAnyH_done (by kernel_rfl) ?_ _
          go_wp2_with fail
          go_meet
          exact ⟨n7, n8, rfl, rfl, hide ⟨HN7.out, HN8.out, HBv6.out, HS7.out, HS8.out⟩⟩
        · skip
          go_simp
          have HBv3 := hide (HBv2.out.alloc HBv2.out.size zbox)
          have HNE : Hid (v2.heap.size ≠ n8) := hide (Nat.ne_of_gt (block_lt HZ8.out))
          replace HZ8 := hide (old_block HZ8.out zbox)
          have HZ7 := hide (new_block v2 zbox)
          have HN7 : Hid (W1.heap.size ≤ v2.heap.size) := hide HBv2.out.size
          refine hK.out _ _ (hide ⟨(HBv3.out.block _ hbz).trans HBB.out, (HBv3.out.block _ hcz).trans HC0.out⟩) (fun hHeld => ?_)
          clear hK K0
          try simp only [Act.put, List.setIfInBounds_toArray, List.set_cons_zero, List.set_cons_succ]
          clear HBv2
          generalize v2.alloc zbox = v3 at *
          generalize v2.heap.size = n7 at *
          refine wpAnyH_ready (rs := [11]) (by kernel_rfl) (by simp) ?_
          refine AllReadyH.cons rfl (fun K0 hK => ?_) (AllReadyH.nil)
          go_simp
          go_at_call 76
          (with_reducible refine (HLE.out _).mono ?_)
          rintro e v4 ⟨rfl, hB⟩
          have HBv4 := hide (HBv3.out.trans (hB.mono HBv3.out.size))
          replace HZ7 := hide ((hB.block _ (block_lt HZ7.out)).trans HZ7.out)
          replace HZ8 := hide ((hB.block _ (block_lt HZ8.out)).trans HZ8.out)
          clear hB
          refine hK.out _ _ (hide ⟨(HBv4.out.block _ hbz).trans HBB.out, (HBv4.out.block _ hcz).trans HC0.out⟩) (fun hHeld => ?_)
          clear hK K0
          try simp only [Act.put, List.setIfInBounds_toArray, List.set_cons_zero, List.set_cons_succ]
          refine wpAnyH_ready (rs := [14]) (by kernel_rfl) (by simp) ?_
          refine AllReadyH.cons rfl (fun K0 hK => ?_) AllReadyH.nil
          obtain ⟨⟨za, zb, zc, zd⟩, ⟨ze, zf, zg, zh⟩, zi⟩ := z_cells HZ7.out
          go_simp
          show K0 _ (putV v4 n7 mo.a mo.b mo.c mo.d)
          clear za zb zc zd ze zf zg zh zi
          have HBv5 := hide (putV_below (a := mo.a) (b := mo.b) (c := mo.c) (d := mo.d) HBv4.out HN7.out)
          have HS7 := hide (putV_block (e := mo.a) (f := mo.b) (g := mo.c) (h := mo.d) (a := 0) (b := 0) (c := 0) (d := 0) HZ7.out)
          replace HZ8 := hide ((putV_other (a := mo.a) (b := mo.b) (c := mo.c) (d := mo.d) HNE.out.symm).trans HZ8.out)
          refine hK.out _ _ (hide ⟨(HBv5.out.block _ hbz).trans HBB.out, (HBv5.out.block _ hcz).trans HC0.out⟩) (fun hHeld => ?_)
          clear hK K0
          try simp only [Act.put, List.setIfInBounds_toArray, List.set_cons_zero, List.set_cons_succ]
          generalize putV v4 n7 mo.a mo.b mo.c mo.d = v5 at *
          refine wpAnyH_ready (rs := [15]) (by kernel_rfl) (by simp) ?_
          refine AllReadyH.cons rfl (fun K0 hK => ?_) AllReadyH.nil
          obtain ⟨⟨za, zb, zc, zd⟩, ⟨ze, zf, zg, zh⟩, zi⟩ := z_cells HZ8.out
          go_simp
          show K0 _ (putV v5 n8 le.a le.b le.c le.d)
          clear za zb zc zd ze zf zg zh zi
          have HBv6 := hide (putV_below (a := le.a) (b := le.b) (c := le.c) (d := le.d) HBv5.out HN8.out)
          have HS8 := hide (putV_block (e := le.a) (f := le.b) (g := le.c) (h := le.d) (a := 0) (b := 0) (c := 0) (d := 0) HZ8.out)
          replace HS7 := hide ((putV_other (a := le.a) (b := le.b) (c := le.c) (d := le.d) HNE.out).trans HS7.out)
          refine hK.out _ _ (hide ⟨(HBv6.out.block _ hbz).trans HBB.out, (HBv6.out.block _ hcz).trans HC0.out⟩) (fun hHeld => ?_)
          clear hK K0
          try simp only [Act.put, List.setIfInBounds_toArray, List.set_cons_zero, List.set_cons_succ]
          generalize putV v5 n8 le.a le.b le.c le.d = v6 at *
          refine wpAnyH_done (by kernel_rfl) ?_ _
          go_wp2_with fail
          go_meet
          exact ⟨n7, n8, rfl, rfl, hide ⟨HN7.out, HN8.out, HBv6.out, HS7.out, HS8.out⟩⟩
      · skip
        go_simp
        have HBv2 := hide (HBv1.out.alloc HBv1.out.size zbox)
        have HNE : Hid (v1.heap.size ≠ n8) := hide (Nat.ne_of_gt (block_lt HZ8.out))
        replace HZ8 := hide (old_block HZ8.out zbox)
        have HZ7 := hide (new_block v1 zbox)
        have HN7 : Hid (W1.heap.size ≤ v1.heap.size) := hide HBv1.out.size
        refine hK.out _ _ (hide ⟨(HBv2.out.block _ hbz).trans HBB.out, (HBv2.out.block _ hcz).trans HC0.out⟩) (fun hHeld => ?_)
        clear hK K0
        try simp only [Act.put, List.setIfInBounds_toArray, List.set_cons_zero, List.set_cons_succ]
        clear HBv1
        generalize v1.alloc zbox = v2 at *
        generalize v1.heap.size = n7 at *
        refine wpAnyH_ready (rs := [5]) (by kernel_rfl) (by simp) ?_
        refine AllReadyH.cons rfl (fun K0 hK => ?_) (AllReadyH.nil)
        go_simp
        go_at_call 81
        (with_reducible refine (HOR.out _).mono ?_)
        rintro e v3 ⟨rfl, hB⟩
        have HBv3 := hide (HBv2.out.trans (hB.mono HBv2.out.size))
        replace HZ7 := hide ((hB.block _ (block_lt HZ7.out)).trans HZ7.out)
        replace HZ8 := hide ((hB.block _ (block_lt HZ8.out)).trans HZ8.out)
        clear hB
        refine hK.out _ _ (hide ⟨(HBv3.out.block _ hbz).trans HBB.out, (HBv3.out.block _ hcz).trans HC0.out⟩) (fun hHeld => ?_)
        clear hK K0
        try simp only [Act.put, List.setIfInBounds_toArray, List.set_cons_zero, List.set_cons_succ]
        refine wpAnyH_ready (rs := [11]) (by kernel_rfl) (by simp) ?_
        refine AllReadyH.cons rfl (fun K0 hK => ?_) (AllReadyH.nil)
        go_simp
        go_at_call 76
        (with_reducible refine (HLE.out _).mono ?_)
        rintro e v4 ⟨rfl, hB⟩
        have HBv4 := hide (HBv3.out.trans (hB.mono HBv3.out.size))
        replace HZ7 := hide ((hB.block _ (block_lt HZ7.out)).trans HZ7.out)
        replace HZ8 := hide ((hB.block _ (block_lt HZ8.out)).trans HZ8.out)
        clear hB
        refine hK.out _ _ (hide ⟨(HBv4.out.block _ hbz).trans HBB.out, (HBv4.out.block _ hcz).trans HC0.out⟩) (fun hHeld => ?_)
        clear hK K0
        try simp only [Act.put, List.setIfInBounds_toArray, List.set_cons_zero, List.set_cons_succ]
        refine wpAnyH_ready (rs := [14]) (by kernel_rfl) (by simp) ?_
        refine AllReadyH.cons rfl (fun K0 hK => ?_) AllReadyH.nil
        obtain ⟨⟨za, zb, zc, zd⟩, ⟨ze, zf, zg, zh⟩, zi⟩ := z_cells HZ7.out
        go_simp
        show K0 _ (putV v4 n7 mo.a mo.b mo.c mo.d)
        clear za zb zc zd ze zf zg zh zi
        have HBv5 := hide (putV_below (a := mo.a) (b := mo.b) (c := mo.c) (d := mo.d) HBv4.out HN7.out)
        have HS7 := hide (putV_block (e := mo.a) (f := mo.b) (g := mo.c) (h := mo.d) (a := 0) (b := 0) (c := 0) (d := 0) HZ7.out)
        replace HZ8 := hide ((putV_other (a := mo.a) (b := mo.b) (c := mo.c) (d := mo.d) HNE.out.symm).trans HZ8.out)
        refine hK.out _ _ (hide ⟨(HBv5.out.block _ hbz).trans HBB.out, (HBv5.out.block _ hcz).trans HC0.out⟩) (fun hHeld => ?_)
        clear hK K0
        try simp only [Act.put, List.setIfInBounds_toArray, List.set_cons_zero, List.set_cons_succ]
        generalize putV v4 n7 mo.a mo.b mo.c mo.d = v5 at *
        refine wpAnyH_ready (rs := [15]) (by kernel_rfl) (by simp) ?_
        refine AllReadyH.cons rfl (fun K0 hK => ?_) AllReadyH.nil
        obtain ⟨⟨za, zb, zc, zd⟩, ⟨ze, zf, zg, zh⟩, zi⟩ := z_cells HZ8.out
        go_simp
        show K0 _ (putV v5 n8 le.a le.b le.c le.d)
        clear za zb zc zd ze zf zg zh zi
        have HBv6 := hide (putV_below (a := le.a) (b := le.b) (c := le.c) (d := le.d) HBv5.out HN8.out)
        have HS8 := hide (putV_block (e := le.a) (f := le.b) (g := le.c) (h := le.d) (a := 0) (b := 0) (c := 0) (d := 0) HZ8.out)
        replace HS7 := hide ((putV_other (a := le.a) (b := le.b) (c := le.c) (d := le.d) HNE.out).trans HS7.out)
        refine hK.out _ _ (hide ⟨(HBv6.out.block _ hbz).trans HBB.out, (HBv6.out.block _ hcz).trans HC0.out⟩) (fun hHeld => ?_)
        clear hK K0
        try simp only [Act.put, List.setIfInBounds_toArray, List.set_cons_zero, List.set_cons_succ]
        generalize putV v5 n8 le.a le.b le.c le.d = v6 at *
        refine wpAnyH_done (by kernel_rfl) ?_ _
        go_wp2_with fail
        go_meet
        exact ⟨n7, n8, rfl, rfl, hide ⟨HN7.out, HN8.out, HBv6.out, HS7.out, HS8.out⟩⟩
  case rest =>
    obtain ⟨n7, n8, rfl, rfl, HR⟩ := hcut
    have HS := hide (HS0.out.old HR.out.2.2.1)
    have HN7 : Hid (W1.heap.size ≤ n7) := hide HR.out.1
    have HN8 : Hid (W1.heap.size ≤ n8) := hide HR.out.2.1
    have HBC := hide HR.out.2.2.1
    have HB7 := hide HR.out.2.2.2.1
    have HB8 := hide HR.out.2.2.2.2
    have HBX := hide ((HBC.out.block _ hbz).trans HBB.out)
    have HSM := hide HS.out.lt
    have HBM := HM.out
    have HBG := HG.out
    clear HR x0 x1 x2 x3 x4 x5 x6 x7 x8 y0 y1 y2 y3
    go_upto_region 2 with (fail)
    refine wp_region_held_drew (S := fun w' => Hid (w'.heap[n7]? = some (boxV (orQ b.pass c).a (orQ b.pass c).b (orQ b.pass c).c (orQ b.pass c).d) ∧ w'.heap[n8]? = some (boxV (lessQ b.fail c).a (lessQ b.fail c).b (lessQ b.fail c).c (lessQ b.fail c).d))) (by kernel_rfl) (hide ⟨HB7.out, HB8.out⟩) (fun hHeld => ?_)
    refine takeAt (i := 0) (d := some 24) (v := .pointer (some ⟨g, 0, none⟩)) rfl rfl (by kernel_rfl) (by kernel_rfl) (by kernel_rfl) (fun _ _ _ h => h) (Or.inl ⟨by rfl, fun w _ => by go_simp⟩) hHeld ?_
    simp only [Act.put, List.setIfInBounds_toArray, List.set_cons_zero, List.set_cons_succ]
    refine takeAt (i := 1) (d := some 25) (v := setV (orQ b.pass c).a (orQ b.pass c).b (orQ b.pass c).c (orQ b.pass c).d) rfl rfl (by kernel_rfl) (by kernel_rfl) (by kernel_rfl) (fun _ _ _ h => h) (Or.inl ⟨by rfl, fun w hS => by obtain ⟨y0, y1, y2, y3⟩ := box_cells hS.out.1; go_simp⟩) hHeld ?_
    simp only [Act.put, List.setIfInBounds_toArray, List.set_cons_zero, List.set_cons_succ]
    refine takeAt (i := 3) (d := some 27) (v := .pointer (some ⟨g, 0, none⟩)) rfl rfl (by kernel_rfl) (by kernel_rfl) (by kernel_rfl) (fun _ _ _ h => h) (Or.inl ⟨by rfl, fun w _ => by go_simp⟩) hHeld ?_
    simp only [Act.put, List.setIfInBounds_toArray, List.set_cons_zero, List.set_cons_succ]
    refine takeAt (i := 4) (d := some 28) (v := setV (lessQ b.fail c).a (lessQ b.fail c).b (lessQ b.fail c).c (lessQ b.fail c).d) rfl rfl (by kernel_rfl) (by kernel_rfl) (by kernel_rfl) (fun _ _ _ h => h) (Or.inl ⟨by rfl, fun w hS => by obtain ⟨y0, y1, y2, y3⟩ := box_cells hS.out.2; go_simp⟩) hHeld ?_
    simp only [Act.put, List.setIfInBounds_toArray, List.set_cons_zero, List.set_cons_succ]
    refine wpAnyH_ready (rs := [2]) (by kernel_rfl) (by simp) ?_
    refine AllReadyH.cons rfl (fun K0 hK => ?_) AllReadyH.nil
    go_simp
    go_at_call 143
    have HSd := hide (HS.out.old (Below.drew (Below.refl wc.heap.size wc)))
    have HBd := hide (HBC.out.trans ((Below.drew (Below.refl wc.heap.size wc)).mono HBC.out.size))
    (with_reducible refine (verdictS (q := orQ b.pass c) HSd.out HMO.out).mono ?_)
    rintro e w1 ha
    have HKW : Hid (KeepsM m g W wc.drew) := hide (KeepsM.of_below (by have := HBW.out; omega) (HB0.out.trans (HBd.out.mono HB0.out.size)))
    rcases asked_play ha with ⟨rfl, hk, hpl⟩ | ⟨x, l1, T1, rfl, hk, hs, hpl⟩
    · have HK := hide (HKW.out.trans hk)
      have HPL := hide hpl
      clear ha hk hpl
      unfold asks4
      go_wp2_with fail
      exact ⟨rfl, .inl ⟨orQ b.pass c, rfl, HMO.out, fun k => HPL.out _, KeepsB.of HK.out⟩⟩
    have HK := hide (HKW.out.trans hk)
    have HPL := hide hpl
    have HS1 := hide hs
    have HH1 : Hid (w1.heap[n7]? = some (boxV (orQ b.pass c).a (orQ b.pass c).b (orQ b.pass c).c (orQ b.pass c).d) ∧ w1.heap[n8]? = some (boxV (lessQ b.fail c).a (lessQ b.fail c).b (lessQ b.fail c).c (lessQ b.fail c).d)) := hide ⟨keepsM_block hk (by have := HN7.out; omega) (by have := HN7.out; omega) HB7.out, keepsM_block hk (by have := HN8.out; omega) (by have := HN8.out; omega) HB8.out⟩
    have HBX1 := hide (keepsM_block hk (by omega) (by omega) HBX.out)
    clear ha hk hpl hs
    refine hK.out _ _ HH1 (fun hHeld => ?_)
    clear hK K0
    try simp only [Act.put, List.setIfInBounds_toArray, List.set_cons_zero, List.set_cons_succ]
    refine wpAnyH_ready (rs := [5]) (by kernel_rfl) (by simp) ?_
    refine AllReadyH.cons rfl (fun K0 hK => ?_) AllReadyH.nil
    go_simp
    go_at_call 143
    (with_reducible refine (verdictS (q := lessQ b.fail c) HS1.out HLO.out).mono ?_)
    rintro e w2 ha
    rcases asked_play ha with ⟨rfl, hk, hpl⟩ | ⟨y, l2, T2, rfl, hk, hs, hpl⟩
    · have HK2 := hide (HK.out.trans hk)
      have HPL2 := hide hpl
      clear ha hk hpl
      unfold asks4
      go_wp2_with fail
      exact ⟨rfl, .inl ⟨lessQ b.fail c, rfl, HLO.out, fun k => (HPL.out _).trans (HPL2.out _), KeepsB.of HK2.out⟩⟩
    have HK2 := hide (HK.out.trans hk)
    have HPL2 : Hid (∀ k, play (moveT b c k) l T = play (k (moved b c x y)) l2 T2) := hide fun k => (HPL.out _).trans (hpl _)
    have HS2 := hide hs
    have HH2 : Hid (w2.heap[n7]? = some (boxV (orQ b.pass c).a (orQ b.pass c).b (orQ b.pass c).c (orQ b.pass c).d) ∧ w2.heap[n8]? = some (boxV (lessQ b.fail c).a (lessQ b.fail c).b (lessQ b.fail c).c (lessQ b.fail c).d)) := hide ⟨keepsM_block hk (by have := HN7.out; omega) (by have := HN7.out; omega) HH1.out.1, keepsM_block hk (by have := HN8.out; omega) (by have := HN8.out; omega) HH1.out.2⟩
    have HBX2 := hide (keepsM_block hk (by omega) (by omega) HBX1.out)
    clear ha hk hpl hs
    refine hK.out _ _ HH2 (fun hHeld => ?_)
    clear hK K0
    try simp only [Act.put, List.setIfInBounds_toArray, List.set_cons_zero, List.set_cons_succ]
    refine wpAnyH_ready (rs := [6]) (by kernel_rfl) (by simp) ?_
    refine AllReadyH.cons rfl (fun K0 hK => ?_) AllReadyH.nil
    go_simp
    refine hK.out _ _ HH2 (fun hHeld => ?_)
    clear hK K0
    try simp only [Act.put, List.setIfInBounds_toArray, List.set_cons_zero, List.set_cons_succ]
    refine wpAnyH_ready (rs := [7]) (by kernel_rfl) (by simp) ?_
    refine AllReadyH.cons rfl (fun K0 hK => ?_) AllReadyH.nil
    go_simp
    refine hK.out _ _ HH2 (fun hHeld => ?_)
    clear hK K0
    try simp only [Act.put, List.setIfInBounds_toArray, List.set_cons_zero, List.set_cons_succ]
    refine wpAnyH_done (by kernel_rfl) ?_ _
    obtain ⟨m0, m1, m2, m3⟩ := box_cells HH2.out.1
    obtain ⟨q0, q1, q2, q3⟩ := box_cells HH2.out.2
    obtain ⟨⟨x0, x1, x2, x3⟩, ⟨x4, x5, x6, x7⟩, x8⟩ := b_cells HBX2.out
    have s0 := Bi.frozen_of HBX2.out 0
    have s1 := Bi.frozen_of HBX2.out 1
    have s2 := Bi.frozen_of HBX2.out 2
    have s3 := Bi.frozen_of HBX2.out 3
    have s4 := Bi.frozen_of HBX2.out 4
    have s5 := Bi.frozen_of HBX2.out 5
    have s6 := Bi.frozen_of HBX2.out 6
    have s7 := Bi.frozen_of HBX2.out 7
    have s8 := Bi.frozen_of HBX2.out 8
    have hzb := block_lt HBX2.out
    have hw : IntKind.i64.wrap ((b.g : Int) - 1) = (b.g : Int) - 1 := by have := H2.out; simp [IntKind.wrap, IntKind.signed, IntKind.bits]; omega
    go_upto_region 5 with (fail)
    rw [show (if (b.g : Int) - 1 < 2 then 2 else (b.g : Int) - 1) = ((max (b.g - 1) 2 : Nat) : Int) by have := H2.out; split <;> omega]
    obtain ⟨co, hco⟩ : ∃ co, co = max (b.g - 1) 2 := ⟨_, rfl⟩
    have HCO := hide hco
    rw [← hco]
    clear hco
    by_cases c1 : x = 2
    · have HMV : Hid (moved b c x y = some ⟨b.pass, orQ b.pass c, 2⟩) := hide (by unfold moved; rw [if_pos c1])
      have d1 : (x == (2 : Int)) = true := by simp [c1]
      clear c1
      go_wp2_with fail
      refine final8 (X := putF w2 B (orQ b.pass c) 2) rfl ?_
      have HZ := hide (putF_block (q := orQ b.pass c) (h := 2) HBX2.out)
      have HY := hide (putF_below (w := w2) (B := B) (q := orQ b.pass c) (h := 2) (Nat.le_of_lt HM.out))
      have HO : Hid (∀ k, k ≠ B → (putF w2 B (orQ b.pass c) 2).heap[k]? = w2.heap[k]?) := hide fun k hk => putF_other hk
      generalize putF w2 B (orQ b.pass c) 2 = X at *
      go_ret
      refine .inr ⟨x, y, l2, T2, by rw [HMV.out]; rfl, HPL2.out, HS2.out.other HY.out (HO.out m (by have := HM.out; omega)) (HO.out g (by have := HG.out; omega)), by rw [HMV.out]; exact HZ.out, (KeepsB.of HK2.out).trans ⟨HY.out, fun k _ _ _ hk => HO.out k hk⟩⟩
    by_cases c2 : y = 1
    · have HMV : Hid (moved b c x y = some ⟨lessQ b.fail c, b.fail, 2⟩) := hide (by unfold moved; rw [if_neg c1, if_pos c2])
      have d1 : (x == (2 : Int)) = false := beq_false_of_ne c1
      have d2 : (y == (1 : Int)) = true := by simp [c2]
      clear c1 c2
      go_wp2_with fail
      refine final8 (X := putP w2 B (lessQ b.fail c) 2) rfl ?_
      have HZ := hide (putP_block (q := lessQ b.fail c) (h := 2) HBX2.out)
      have HY := hide (putP_below (w := w2) (B := B) (q := lessQ b.fail c) (h := 2) (Nat.le_of_lt HM.out))
      have HO : Hid (∀ k, k ≠ B → (putP w2 B (lessQ b.fail c) 2).heap[k]? = w2.heap[k]?) := hide fun k hk => putP_other hk
      generalize putP w2 B (lessQ b.fail c) 2 = X at *
      go_ret
      refine .inr ⟨x, y, l2, T2, by rw [HMV.out]; rfl, HPL2.out, HS2.out.other HY.out (HO.out m (by have := HM.out; omega)) (HO.out g (by have := HG.out; omega)), by rw [HMV.out]; exact HZ.out, (KeepsB.of HK2.out).trans ⟨HY.out, fun k _ _ _ hk => HO.out k hk⟩⟩
    by_cases c3 : x = 1
    · have HMV : Hid (moved b c x y = some ⟨orQ b.pass c, b.fail, co⟩) := hide (by rw [HCO.out]; unfold moved; rw [if_neg c1, if_neg c2, if_pos c3])
      have d1 : (x == (2 : Int)) = false := beq_false_of_ne c1
      have d2 : (y == (1 : Int)) = false := beq_false_of_ne c2
      have d3 : (x == (1 : Int)) = true := by simp [c3]
      clear c1 c2 c3
      go_wp2_with fail
      refine final8 (X := putP w2 B (orQ b.pass c) co) rfl ?_
      have HZ := hide (putP_block (q := orQ b.pass c) (h := co) HBX2.out)
      have HY := hide (putP_below (w := w2) (B := B) (q := orQ b.pass c) (h := co) (Nat.le_of_lt HM.out))
      have HO : Hid (∀ k, k ≠ B → (putP w2 B (orQ b.pass c) co).heap[k]? = w2.heap[k]?) := hide fun k hk => putP_other hk
      generalize putP w2 B (orQ b.pass c) co = X at *
      go_ret
      refine .inr ⟨x, y, l2, T2, by rw [HMV.out]; rfl, HPL2.out, HS2.out.other HY.out (HO.out m (by have := HM.out; omega)) (HO.out g (by have := HG.out; omega)), by rw [HMV.out]; exact HZ.out, (KeepsB.of HK2.out).trans ⟨HY.out, fun k _ _ _ hk => HO.out k hk⟩⟩
    by_cases c4 : y = 2
    · have HMV : Hid (moved b c x y = some ⟨b.pass, lessQ b.fail c, co⟩) := hide (by rw [HCO.out]; unfold moved; rw [if_neg c1, if_neg c2, if_neg c3, if_pos c4])
      have d1 : (x == (2 : Int)) = false := beq_false_of_ne c1
      have d2 : (y == (1 : Int)) = false := beq_false_of_ne c2
      have d3 : (x == (1 : Int)) = false := beq_false_of_ne c3
      have d4 : (y == (2 : Int)) = true := by simp [c4]
      clear c1 c2 c3 c4
      go_wp2_with fail
      refine final8 (X := putF w2 B (lessQ b.fail c) co) rfl ?_
      have HZ := hide (putF_block (q := lessQ b.fail c) (h := co) HBX2.out)
      have HY := hide (putF_below (w := w2) (B := B) (q := lessQ b.fail c) (h := co) (Nat.le_of_lt HM.out))
      have HO : Hid (∀ k, k ≠ B → (putF w2 B (lessQ b.fail c) co).heap[k]? = w2.heap[k]?) := hide fun k hk => putF_other hk
      generalize putF w2 B (lessQ b.fail c) co = X at *
      go_ret
      refine .inr ⟨x, y, l2, T2, by rw [HMV.out]; rfl, HPL2.out, HS2.out.other HY.out (HO.out m (by have := HM.out; omega)) (HO.out g (by have := HG.out; omega)), by rw [HMV.out]; exact HZ.out, (KeepsB.of HK2.out).trans ⟨HY.out, fun k _ _ _ hk => HO.out k hk⟩⟩
    · have HMV : Hid (moved b c x y = none) := hide (by unfold moved; rw [if_neg c1, if_neg c2, if_neg c3, if_neg c4])
      have d1 : (x == (2 : Int)) = false := beq_false_of_ne c1
      have d2 : (y == (1 : Int)) = false := beq_false_of_ne c2
      have d3 : (x == (1 : Int)) = false := beq_false_of_ne c3
      have d4 : (y == (2 : Int)) = false := beq_false_of_ne c4
      clear c1 c2 c3 c4
      go_wp2_with fail
      go_ret
      exact .inr ⟨x, y, l2, T2, by rw [HMV.out]; rfl, HPL2.out, HS2.out, by rw [HMV.out]; exact HBX2.out, KeepsB.of HK2.out⟩
end Go.Proofs.Ytmkapmbmgpnjaaa.Se

