import Derived.Test.YtmkapmbmgpnjaaaDcE
import Derived.Test.YtmkapmbmgpnjaaaDsN
set_option maxRecDepth 100000
set_option linter.unusedSimpArgs false
set_option linter.unusedVariables false
namespace Go.Proofs.Ytmkapmbmgpnjaaa.Se
open Go Go.Ms Go.Pg Go.Bi Go.Se Go.ChangeShapes Go.WideShapes Go.ChangeAt Go.RowKit Go.Deep Go.Proofs.Ytmkapmbmgpnjaaa.Bi

/-! What Counted keeps between two questions. -/
theorem own_blk {w : World} {B : Nat} {v : Value} {l : List Int} (h : Go.Il.Own 3 .i64 B w v l) {i : Nat} (hi : i < l.length) : ∃ b, v.ownBlock = some b ∧ B ≤ b ∧ b < w.heap.size ∧ ∃ cs, w.heap[b]? = some (.cells cs 3 (0, 0)) := by
  rcases h.2 with ⟨_, h0⟩ | ⟨g, cap, cur, rfl, hb, hh, _⟩
  · omega
  · exact ⟨g, rfl, hb, block_lt hh, cur, hh⟩
theorem own_laid {w : World} {B : Nat} {v : Value} {xs : List Nat} (h : Go.Il.Own 3 .i64 B w v (xs.map Int.ofNat)) (hl : xs.length ≤ 256) : Laid w v xs := by
  obtain ⟨oa, cap, rfl, hc⟩ := h.at
  have hcap : xs.length ≤ cap := by
    rcases h.2 with ⟨e, h0⟩ | ⟨g, cap', cur, e, hb, hh, hnc, _⟩
    · rw [List.length_map] at h0; omega
    · injection e with e1 e2 e3
      rw [List.length_map] at hnc
      omega
  refine ⟨oa, cap, by rw [List.length_map], hcap, hl, fun i hi => ?_⟩
  obtain ⟨g, e, hx⟩ := hc i (by simpa using hi)
  exact ⟨g, 0, e, by rw [Nat.zero_add, hx]; simp⟩
theorem own_apart {w : World} {B Lb C : Nat} {v : Value} {xs : List Nat} {cs : Array Value} (h : Go.Il.Own 3 .i64 B w v (xs.map Int.ofNat)) (hl : xs.length ≤ 256) (hb : v.ownBlock ≠ some Lb) (hC : w.heap[C]? = some (.cells cs 139 (0, 0))) : Apart w Lb C v xs := by
  obtain ⟨oa, cap, e0, -, hl, hc⟩ := own_laid h hl
  refine ⟨oa, cap, e0, hl, fun i hi => ?_⟩
  obtain ⟨b, o, e, hx⟩ := hc i hi
  obtain ⟨b', e', -, -, cs', hh⟩ := own_blk h (i := i) (by simpa using hi)
  subst e0
  rw [e] at e'
  injection e' with e'
  subst e'
  refine ⟨b, o, e, ⟨fun q => hb (by rw [e, q]; rfl), fun q => ?_⟩, hx⟩
  have q : b = C := q
  subst q
  have hh2 : w.heap[b]? = some (.cells cs' 3 (0, 0)) := hh
  rw [hC] at hh2
  injection hh2 with hh2
  injection hh2 with _ ht
  cases ht
theorem laid_nats {w : World} {v : Value} {xs : List Nat} (h : Laid w v xs) : Nats w v xs := by
  obtain ⟨oa, cap, e, _, hl, hc⟩ := h
  exact ⟨oa, cap, e, by omega, hc⟩
structure Lie (W : World) (g m C Lb B0 : Nat) : Prop where
  mg : m < g
  gw : g < W.heap.size
  b0 : W.heap.size < B0
  c : B0 ≤ C
  l : B0 ≤ Lb
  ne : C ≠ Lb
structure CntAt (W w : World) (g m C Lb B0 n s : Nat) (c : Cs) (l : List Int) (T : List (Q4 × Int)) : Prop where
  box : ∃ kv, w.heap[C]? = some (boxC kv (levV Lb n) s) ∧ Go.Il.Own 3 .i64 B0 w kv (c.kept.map Int.ofNat) ∧ kv.ownBlock ≠ some Lb
  lev : w.heap[Lb]? = some (boxL c.lev)
  sb : SBox w g m l T
  keeps : KeepsM m g W w
  quest : w.heap[W.heap.size]? = some (boxQ false nilV nilV nilV)
theorem CntAt.moved {W w w' : World} {g m C Lb B0 n s : Nat} {c : Cs} {l l' : List Int} {T T' : List (Q4 × Int)} (hL : Lie W g m C Lb B0) (h : CntAt W w g m C Lb B0 n s c l T) (hk : KeepsM m g w w') (hs : SBox w' g m l' T') : CntAt W w' g m C Lb B0 n s c l' T' := by
  obtain ⟨kv, hb, ho, hn⟩ := h.box
  have h1 := hL.mg
  have h2 := hL.gw
  have h3 := hL.b0
  have h4 := hL.c
  have h5 := hL.l
  exact ⟨⟨kv, keepsM_block hk (by omega) (by omega) hb, Bi.own_same ho fun b cs hB hh => hk.kept b (block_lt hh) (by omega) (by omega), hn⟩, keepsM_block hk (by omega) (by omega) h.lev, hs, h.keeps.trans hk, keepsM_block hk (by omega) (by omega) h.quest⟩
theorem CntAt.below {W w w' : World} {g m C Lb B0 n s : Nat} {c : Cs} {l : List Int} {T : List (Q4 × Int)} (hL : Lie W g m C Lb B0) (h : CntAt W w g m C Lb B0 n s c l T) (hB : Below w.heap.size w w') : CntAt W w' g m C Lb B0 n s c l T := by
  have h1 := hL.mg
  have h2 := hL.gw
  have h3 := h.keeps.below.size
  exact h.moved hL (KeepsM.of_below (by omega) hB) (h.sb.old hB)
theorem CntAt.written {W w w' : World} {g m C Lb B0 n s : Nat} {c c' : Cs} {l : List Int} {T : List (Q4 × Int)} {kv : Value} (hL : Lie W g m C Lb B0) (h : CntAt W w g m C Lb B0 n s c l T) (hb : w'.heap[C]? = some (boxC kv (levV Lb n) s)) (hl : w'.heap[Lb]? = some (boxL c'.lev))
    (ho : Go.Il.Own 3 .i64 B0 w kv (c'.kept.map Int.ofNat)) (hn : kv.ownBlock ≠ some Lb) (hk : ∀ k, k ≠ Lb → k ≠ C → w'.heap[k]? = w.heap[k]?) (hB : Below B0 w w') : CntAt W w' g m C Lb B0 n s c' l T := by
  have h1 := hL.mg
  have h2 := hL.gw
  have h3 := hL.b0
  have h4 := hL.c
  have h5 := hL.l
  have hC : ∃ cs, w.heap[C]? = some (.cells cs 139 (0, 0)) := by obtain ⟨kv', hb', -, -⟩ := h.box; exact ⟨_, hb'⟩
  obtain ⟨cs, hC⟩ := hC
  refine ⟨⟨kv, hb, own_kept ho fun b cs' fr hb1 hh hv => hk b (fun q => by subst q; exact hn hv) (fun q => by
    subst q
    rw [hC] at hh
    injection hh with hh
    injection hh with _ ht
    cases ht), hn⟩, hl, h.sb.other (hB.mono (by omega)) (hk m (by omega) (by omega)) (hk g (by omega) (by omega)), ⟨h.keeps.below.trans (hB.mono (by omega)), fun i hi x y => (hk i (by omega) (by omega)).trans (h.keeps.kept i hi x y)⟩, (hk _ (by omega) (by omega)).trans h.quest⟩
theorem cnt_one {W w : World} {g m C Lb B0 n s : Nat} {c c' : Cs} {l l' : List Int} {T T' : List (Q4 × Int)} (h : CntAt W w g m C Lb B0 n s c l T) (k : CntAt W w g m C Lb B0 n s c' l' T') (hl : c.kept.length ≤ 256) (hl' : c'.kept.length ≤ 256) : c = c' := by
  obtain ⟨kv, hb, ho, _⟩ := h.box
  obtain ⟨kv', hb', ho', _⟩ := k.box
  rw [hb] at hb'
  injection hb' with hb'
  injection hb' with hb' _
  have e : kv = kv' := by
    have := congrArg (fun a : Array Value => a[0]?) hb'
    simpa using this
  subst e
  obtain ⟨oa, cap, e1, _, _, hc⟩ := own_laid ho hl
  obtain ⟨oa', cap', e2, _, _, hc'⟩ := own_laid ho' hl'
  rw [e1] at e2
  injection e2 with e2 e3 e4
  have hk : c.kept = c'.kept := by
    apply List.ext_getElem e3
    intro i h1 h2
    obtain ⟨b, o, e5, hx⟩ := hc i h1
    obtain ⟨b', o', e6, hx'⟩ := hc' i h2
    rw [← e2, e5] at e6
    injection e6 with e6
    injection e6 with e7 e8
    subst e7 e8
    rw [hx] at hx'
    injection hx' with hx'
    injection hx' with _ hx'
    omega
  have hv : c.lev = c'.lev := by
    have h1 := h.lev
    have h2 := k.lev
    rw [h1] at h2
    injection h2 with h2
    injection h2 with h2 _
    have h3 := congrArg Array.toList h2
    simp only at h3
    have : ∀ (a b : List Nat), a.map (fun n : Nat => Value.int .i64 (n : Int)) = b.map (fun n : Nat => Value.int .i64 (n : Int)) → a = b := fun a b e => by
      have h4 := congrArg List.length e
      simp only [List.length_map] at h4
      apply List.ext_getElem h4
      intro i h5 h6
      have h7 := congrArg (fun q : List Value => q[i]?) e
      simp only [List.getElem?_map, List.getElem?_eq_getElem h5, List.getElem?_eq_getElem h6, Option.map_some] at h7
      injection h7 with h7
      injection h7 with _ h7
      omega
    exact this _ _ h3
  cases c; cases c'
  simp only at hk hv
  rw [hk, hv]
noncomputable def leftAt (W w : World) (g m C Lb B0 n s la : Nat) : Nat := by
  classical
  exact if h : ∃ c l T, CntAt W w g m C Lb B0 n s c l T ∧ c.kept.length ≤ 256 then toDo la (Classical.choose h) else 0
theorem leftAt_eq {W w : World} {g m C Lb B0 n s la : Nat} {c : Cs} {l : List Int} {T : List (Q4 × Int)} (h : CntAt W w g m C Lb B0 n s c l T) (hl : c.kept.length ≤ 256) : leftAt W w g m C Lb B0 n s la = toDo la c := by
  unfold leftAt
  have hx : ∃ c l T, CntAt W w g m C Lb B0 n s c l T ∧ c.kept.length ≤ 256 := ⟨c, l, T, h, hl⟩
  rw [dif_pos hx]
  obtain ⟨l2, T2, h2, hl2⟩ := Classical.choose_spec hx
  rw [cnt_one h2 h hl2 hl]
end Go.Proofs.Ytmkapmbmgpnjaaa.Se

set_option maxRecDepth 100000
set_option linter.unusedSimpArgs false
set_option linter.unusedVariables false
namespace Go.Proofs.Ytmkapmbmgpnjaaa.Se
open Go Go.Ms Go.Pg Go.Bi Go.Se Go.ChangeShapes Go.WideShapes Go.ChangeAt Go.RowKit Go.Deep Go.Proofs.Ytmkapmbmgpnjaaa.Bi

theorem made_zero (n : Nat) : madeCells #[.int .i64 0] (n * 1) = ((List.replicate n 0).map fun n : Nat => Value.int .i64 (n : Int)).toArray := by
  apply Array.ext
  · simp [madeCells]
  · intro i h1 h2
    simp [madeCells, Nat.mod_one]
theorem makeInts (n : Nat) (hn : n ≤ 1000) (W : World) : (Instr.makeSlice 30 (.int .i64 (n : Int)) (.int .i64 (n : Int))).run Try.prog W = .ok (.slice (some ⟨W.heap.size, 0, none⟩) n n) (W.alloc (boxL (List.replicate n 0))) := by
  have g : (Try.prog.info? 3).map (fun i => (i.size, i.bytes, i.zero.map fun z => z.cells)) = some (1, 8, some #[.int .i64 0]) := by kernel_rfl
  cases hi : Try.prog.info? 3 with
  | none => rw [hi] at g; cases g
  | some i =>
    rw [hi] at g
    simp only [Option.map_some, Option.some.injEq, Prod.mk.injEq] at g
    obtain ⟨g1, g2, g3⟩ := g
    cases hz : i.zero with
    | none => rw [hz] at g3; cases g3
    | some z =>
      rw [hz] at g3
      simp only [Option.map_some, Option.some.injEq] at g3
      have h := run_make (P := Try.prog) W 30 3 i z Try.underlying30 hi hz .i64 .i64 n n (by omega) (by omega) (by rw [g2]; omega) (by omega)
      rw [g3, g1, Int.toNat_natCast, made_zero] at h
      exact h
def putC (w : World) (C : Nat) (kv lv : Value) (s : Nat) : World := ((w.setCell ⟨C, 0, none⟩ kv).setCell ⟨C, 1, none⟩ lv).setCell ⟨C, 2, none⟩ (.int .i64 (s : Int))
theorem putC_block {w : World} {C s t : Nat} {kv lv kv' lv' : Value} (h : w.heap[C]? = some (boxC kv lv s)) : (putC w C kv' lv' t).heap[C]? = some (boxC kv' lv' t) := by
  have h0 := heap_setCell_same _ C 0 _ 139 kv' h
  have h1 := heap_setCell_same _ C 1 _ 139 lv' h0
  have h2 := heap_setCell_same _ C 2 _ 139 (.int .i64 (t : Int)) h1
  refine h2.trans ?_
  simp [boxC]
theorem putC_other {w : World} {C k s : Nat} {kv lv : Value} (h : k ≠ C) : (putC w C kv lv s).heap[k]? = w.heap[k]? := by
  unfold putC
  rw [Below.heap_setCell _ _ _ _ h, Below.heap_setCell _ _ _ _ h, Below.heap_setCell _ _ _ _ h]
theorem putC_below {w0 w : World} {B C s : Nat} {kv lv : Value} (h : Below B w0 w) (hB : B ≤ C) : Below B w0 (putC w C kv lv s) :=
  ((h.setCell (p := ⟨C, 0, none⟩) hB _).setCell (p := ⟨C, 1, none⟩) hB _).setCell (p := ⟨C, 2, none⟩) hB _
theorem own_form' {w : World} {B : Nat} {v : Value} {xs : List Nat} (h : Go.Il.Own 3 .i64 B w v (xs.map Int.ofNat)) : ∃ oa cap, v = .slice oa xs.length cap := by
  obtain ⟨oa, cap, e⟩ := Go.Il.Own.form h
  exact ⟨oa, cap, by rw [e, List.length_map]⟩
theorem own_not {w : World} {B L : Nat} {v : Value} {l : List Int} (h : Go.Il.Own 3 .i64 B w v l) (hL : L < B ∨ w.heap.size ≤ L) : v.ownBlock ≠ some L := fun e => by
  have := h.lt L e
  omega

set_option maxHeartbeats 16000000 in
theorem count1 {B g m c1 c2 : Nat} {W : World} {n s : Nat} {z : Int} {l : List Int} (hS : SBox W g m l []) (hc1 : W.cell? ⟨c1, 0, none⟩ = some (.int .i64 (n : Int))) (hc2 : W.cell? ⟨c2, 0, none⟩ = some (.int .i64 z)) (hn : n ≤ 256) (hz : min (max z 1) 256 = (s : Int)) (hB : B ≤ W.heap.size) :
    Calls Try.prog 108 #[.pointer (some ⟨g, 0, none⟩), .pointer (some ⟨c1, 0, none⟩), .pointer (some ⟨c2, 0, none⟩)] W fun e w' => ∃ res, res = play (countN n s (lastOf s)) l [] ∧ Comes B g m W res e w' := by
  obtain ⟨la, hla⟩ : ∃ la, la = lastOf s := ⟨_, rfl⟩
  have HLA := hide hla
  have HST : Hid (Start s la) := hide (by rw [hla]; exact start_of (by omega) (by omega))
  rw [← hla]
  clear hla
  have HN := hide hn
  have HBB := hide hB
  have HMG := hide hS.lt
  have HGW := hide hS.gt
  have HZ := hide hz
  have HS1 : Hid (1 ≤ s ∧ s ≤ 256) := hide (by omega)
  have hB0 := (Below.refl W.heap.size W).alloc (Nat.le_refl _) (boxQ false nilV nilV nilV)
  have HB0 := hide hB0
  have HS0 := hide (hS.old hB0)
  have HC1 := hide (cell_old hB0 hc1)
  have HC2 := hide (cell_old hB0 hc2)
  have HR0 := hide (new_block W (boxQ false nilV nilV nilV))
  have HSZ : Hid ((W.alloc (boxQ false nilV nilV nilV)).heap.size = W.heap.size + 1) := hide (by simp)
  have hmk := makeInts n (by omega)
  clear hB0 hc1 hc2 hn hB hS hz
  go_enter Try.func108, Try.ntmps108
  go_upto_region 1 with (fail)
  generalize hW1 : W.alloc (boxQ false nilV nilV nilV) = W1 at *
  go_cut [6] from 9 to 16 (fun s6 wr => ∃ (C Lb : Nat) (kv : Value), s6 = .pointer (some ⟨C, 0, none⟩) ∧ Hid (W1.heap.size ≤ C ∧ W1.heap.size ≤ Lb ∧ C ≠ Lb ∧ Below W1.heap.size W1 wr ∧ wr.heap[C]? = some (boxC kv (levV Lb n) s) ∧ wr.heap[Lb]? = some (boxL (List.replicate n 0)) ∧ Go.Il.Own 3 .i64 W1.heap.size wr kv ((List.range n).map Int.ofNat) ∧ kv.ownBlock ≠ some Lb))
  case first =>
    refine wp_region_held_drew (S := fun w' => Hid (w'.cell? ⟨c1, 0, none⟩ = some (.int .i64 (n : Int)) ∧ w'.cell? ⟨c2, 0, none⟩ = some (.int .i64 z))) (by kernel_rfl) (hide ⟨HC1.out, HC2.out⟩) (fun hHeld => ?_)
    refine takeAt (i := 0) (d := some 9) (v := .int .i64 (n : Int)) rfl rfl (by kernel_rfl) (by kernel_rfl) (by kernel_rfl) (fun _ _ _ h => h) (Or.inl ⟨by rfl, fun w hS => by have c1 := hS.out.1; go_simp⟩) hHeld ?_
    simp only [Act.put, List.setIfInBounds_toArray, List.set_cons_zero, List.set_cons_succ]
    refine takeAt (i := 2) (d := some 11) (v := .int .i64 (n : Int)) rfl rfl (by kernel_rfl) (by kernel_rfl) (by kernel_rfl) (fun _ _ _ h => h) (Or.inl ⟨by rfl, fun w hS => by have c1 := hS.out.1; go_simp⟩) hHeld ?_
    simp only [Act.put, List.setIfInBounds_toArray, List.set_cons_zero, List.set_cons_succ]
    refine takeAt (i := 4) (d := some 13) (v := .int .i64 z) rfl rfl (by kernel_rfl) (by kernel_rfl) (by kernel_rfl) (fun _ _ _ h => h) (Or.inl ⟨by rfl, fun w hS => by have c2 := hS.out.2; go_simp⟩) hHeld ?_
    simp only [Act.put, List.setIfInBounds_toArray, List.set_cons_zero, List.set_cons_succ]
    refine takeAt (i := 5) (d := some 14) (v := .int .i64 (max z 1)) rfl rfl (by kernel_rfl) (by kernel_rfl) (by kernel_rfl) (fun _ _ _ h => h) (Or.inl ⟨by rfl, fun w hS => by go_simp; try omega⟩) hHeld ?_
    simp only [Act.put, List.setIfInBounds_toArray, List.set_cons_zero, List.set_cons_succ]
    refine takeAt (i := 6) (d := some 15) (v := .int .i64 (s : Int)) rfl rfl (by kernel_rfl) (by kernel_rfl) (by kernel_rfl) (fun _ _ _ h => h) (Or.inl ⟨by rfl, fun w hS => by have := HZ.out; go_simp; try omega⟩) hHeld ?_
    simp only [Act.put, List.setIfInBounds_toArray, List.set_cons_zero, List.set_cons_succ]
    have HBv0 := hide (Below.drew (Below.refl W1.heap.size W1))
    generalize W1.drew = v0 at *
    refine wpAnyH_ready (rs := [1, 3, 8]) (by kernel_rfl) (by simp) ?_
    refine AllReadyH.cons rfl (fun K0 hK => ?_) (AllReadyH.cons rfl (fun K0 hK => ?_) (AllReadyH.cons rfl (fun K0 hK => ?_) (AllReadyH.nil)))
    · skip
      go_simp
      go_at_call 88
      (with_reducible refine (untilProg (n := n) (by have := HN.out; omega)).mono ?_)
      rintro e v1 ⟨kv, rfl, hBn, hOn⟩
      obtain ⟨ok, ck, rfl⟩ := Go.Il.Own.form hOn
      simp only [List.length_map, List.length_range]
      rw [List.length_map, List.length_range] at hOn
      have HBv1 := hide (HBv0.out.trans (hBn.mono HBv0.out.size))
      have HO := hide (own_mono (B' := W1.heap.size) HBv0.out.size hOn)
      clear hBn hOn
      refine hK.out _ _ (hide ⟨cell_old HBv1.out HC1.out, cell_old HBv1.out HC2.out⟩) (fun hHeld => ?_)
      clear hK K0
      try simp only [Act.put, List.setIfInBounds_toArray, List.set_cons_zero, List.set_cons_succ]
      refine wpAnyH_ready (rs := [3, 8]) (by kernel_rfl) (by simp) ?_
      refine AllReadyH.cons rfl (fun K0 hK => ?_) (AllReadyH.cons rfl (fun K0 hK => ?_) (AllReadyH.nil))
      · skip
        go_simp
        have HBv2 := hide (HBv1.out.alloc HBv1.out.size (boxL (List.replicate n 0)))
        have HKL := hide (own_not HO.out (.inr (Nat.le_refl v1.heap.size)))
        replace HO := hide (World.ownsRow.alloc HO.out (boxL (List.replicate n 0)))
        have HLZ := hide (new_block v1 (boxL (List.replicate n 0)))
        have HLW : Hid (W1.heap.size ≤ v1.heap.size) := hide HBv1.out.size
        refine hK.out _ _ (hide ⟨cell_old HBv2.out HC1.out, cell_old HBv2.out HC2.out⟩) (fun hHeld => ?_)
        clear hK K0
        try simp only [Act.put, List.setIfInBounds_toArray, List.set_cons_zero, List.set_cons_succ]
        clear HBv1
        generalize v1.alloc (boxL (List.replicate n 0)) = v2 at *
        generalize v1.heap.size = Lb at *
        have HLY := HLZ
        refine takeAt (i := 7) (d := some 16) (v := .agg #[.slice ok n ck, .slice (some ⟨Lb, 0, none⟩) n n, .int .i64 (s : Int)]) rfl rfl (by kernel_rfl) (by kernel_rfl) (by kernel_rfl) (fun _ _ _ h => h) (Or.inl ⟨by rfl, fun w hS => by go_simp⟩) hHeld ?_
        simp only [Act.put, List.setIfInBounds_toArray, List.set_cons_zero, List.set_cons_succ]
        refine wpAnyH_ready (rs := [8]) (by kernel_rfl) (by simp) ?_
        refine AllReadyH.cons rfl (fun K0 hK => ?_) (AllReadyH.nil)
        go_simp
        have HBv3 := hide (HBv2.out.alloc HBv2.out.size (boxC (.slice none 0 0) (.slice none 0 0) 0))
        replace HO := hide (World.ownsRow.alloc HO.out (boxC (.slice none 0 0) (.slice none 0 0) 0))
        replace HLZ := hide (old_block HLZ.out (boxC (.slice none 0 0) (.slice none 0 0) 0))
        clear HLY
        have HLY := HLZ
        have HCZ := hide (new_block v2 (boxC (.slice none 0 0) (.slice none 0 0) 0))
        have HCW : Hid (W1.heap.size ≤ v2.heap.size) := hide HBv2.out.size
        refine hK.out _ _ (hide ⟨cell_old HBv3.out HC1.out, cell_old HBv3.out HC2.out⟩) (fun hHeld => ?_)
        clear hK K0
        try simp only [Act.put, List.setIfInBounds_toArray, List.set_cons_zero, List.set_cons_succ]
        change wpAnyH _ _ _ _ _ _ _ _ (v2.alloc (boxC (.slice none 0 0) (.slice none 0 0) 0))
        clear HBv2
        generalize v2.alloc (boxC (.slice none 0 0) (.slice none 0 0) 0) = v3 at *
        generalize v2.heap.size = C at *
        refine wpAnyH_ready (rs := [9]) (by kernel_rfl) (by simp) ?_
        refine AllReadyH.cons rfl (fun K0 hK => ?_) AllReadyH.nil
        obtain ⟨e0, e1, e2⟩ := c_cells HCZ.out
        have g0 := Bi.frozen_of HCZ.out 0
        have g1 := Bi.frozen_of HCZ.out 1
        have g2 := Bi.frozen_of HCZ.out 2
        have hbC := block_lt HCZ.out
        go_simp
        show K0 _ (putC v3 C (.slice ok n ck) (levV Lb n) s)
        have HNE : Hid (C ≠ Lb) := hide (fun q => by
          have h1 := HCZ.out
          rw [q, HLZ.out] at h1
          injection h1 with h1
          injection h1 with _ ht
          cases ht)
        have HX1 := hide (putC_block (kv' := .slice ok n ck) (lv' := levV Lb n) (t := s) HCZ.out)
        have HX2 := hide ((putC_other (kv := .slice ok n ck) (lv := levV Lb n) (s := s) HNE.out.symm).trans HLZ.out)
        have HX3 := hide (putC_below (kv := .slice ok n ck) (lv := levV Lb n) (s := s) HBv3.out HCW.out)
        have HX4 : Hid (Go.Il.Own 3 .i64 W1.heap.size (putC v3 C (.slice ok n ck) (levV Lb n) s) (.slice ok n ck) ((List.range n).map Int.ofNat)) := hide (Bi.own_same HO.out fun b cs _ hh => putC_other (fun q => by
          have h1 := HCZ.out
          rw [← q, hh] at h1
          injection h1 with h1
          injection h1 with _ ht
          cases ht))
        refine hK.out _ _ (hide ⟨cell_old HX3.out HC1.out, cell_old HX3.out HC2.out⟩) (fun hHeld => ?_)
        clear hK K0 e0 e1 e2 g0 g1 g2 hbC
        try simp only [Act.put, List.setIfInBounds_toArray, List.set_cons_zero, List.set_cons_succ]
        refine wpAnyH_done (by kernel_rfl) ?_ _
        go_wp2_with fail
        go_meet
        exact ⟨C, Lb, _, rfl, hide ⟨HCW.out, HLW.out, HNE.out, HX3.out, HX1.out, HX2.out, HX4.out, HKL.out⟩⟩
      · skip
        go_simp
        have HBv2 := hide (HBv1.out.alloc HBv1.out.size (boxC (.slice none 0 0) (.slice none 0 0) 0))
        replace HO := hide (World.ownsRow.alloc HO.out (boxC (.slice none 0 0) (.slice none 0 0) 0))
        have HCZ := hide (new_block v1 (boxC (.slice none 0 0) (.slice none 0 0) 0))
        have HCW : Hid (W1.heap.size ≤ v1.heap.size) := hide HBv1.out.size
        refine hK.out _ _ (hide ⟨cell_old HBv2.out HC1.out, cell_old HBv2.out HC2.out⟩) (fun hHeld => ?_)
        clear hK K0
        try simp only [Act.put, List.setIfInBounds_toArray, List.set_cons_zero, List.set_cons_succ]
        change wpAnyH _ _ _ _ _ _ _ _ (v1.alloc (boxC (.slice none 0 0) (.slice none 0 0) 0))
        clear HBv1
        generalize v1.alloc (boxC (.slice none 0 0) (.slice none 0 0) 0) = v2 at *
        generalize v1.heap.size = C at *
        refine wpAnyH_ready (rs := [3]) (by kernel_rfl) (by simp) ?_
        refine AllReadyH.cons rfl (fun K0 hK => ?_) (AllReadyH.nil)
        go_simp
        have HBv3 := hide (HBv2.out.alloc HBv2.out.size (boxL (List.replicate n 0)))
        have HKL := hide (own_not HO.out (.inr (Nat.le_refl v2.heap.size)))
        replace HO := hide (World.ownsRow.alloc HO.out (boxL (List.replicate n 0)))
        replace HCZ := hide (old_block HCZ.out (boxL (List.replicate n 0)))
        have HLZ := hide (new_block v2 (boxL (List.replicate n 0)))
        have HLW : Hid (W1.heap.size ≤ v2.heap.size) := hide HBv2.out.size
        refine hK.out _ _ (hide ⟨cell_old HBv3.out HC1.out, cell_old HBv3.out HC2.out⟩) (fun hHeld => ?_)
        clear hK K0
        try simp only [Act.put, List.setIfInBounds_toArray, List.set_cons_zero, List.set_cons_succ]
        clear HBv2
        generalize v2.alloc (boxL (List.replicate n 0)) = v3 at *
        generalize v2.heap.size = Lb at *
        have HLY := HLZ
        refine takeAt (i := 7) (d := some 16) (v := .agg #[.slice ok n ck, .slice (some ⟨Lb, 0, none⟩) n n, .int .i64 (s : Int)]) rfl rfl (by kernel_rfl) (by kernel_rfl) (by kernel_rfl) (fun _ _ _ h => h) (Or.inl ⟨by rfl, fun w hS => by go_simp⟩) hHeld ?_
        simp only [Act.put, List.setIfInBounds_toArray, List.set_cons_zero, List.set_cons_succ]
        refine wpAnyH_ready (rs := [9]) (by kernel_rfl) (by simp) ?_
        refine AllReadyH.cons rfl (fun K0 hK => ?_) AllReadyH.nil
        obtain ⟨e0, e1, e2⟩ := c_cells HCZ.out
        have g0 := Bi.frozen_of HCZ.out 0
        have g1 := Bi.frozen_of HCZ.out 1
        have g2 := Bi.frozen_of HCZ.out 2
        have hbC := block_lt HCZ.out
        go_simp
        show K0 _ (putC v3 C (.slice ok n ck) (levV Lb n) s)
        have HNE : Hid (C ≠ Lb) := hide (fun q => by
          have h1 := HCZ.out
          rw [q, HLZ.out] at h1
          injection h1 with h1
          injection h1 with _ ht
          cases ht)
        have HX1 := hide (putC_block (kv' := .slice ok n ck) (lv' := levV Lb n) (t := s) HCZ.out)
        have HX2 := hide ((putC_other (kv := .slice ok n ck) (lv := levV Lb n) (s := s) HNE.out.symm).trans HLZ.out)
        have HX3 := hide (putC_below (kv := .slice ok n ck) (lv := levV Lb n) (s := s) HBv3.out HCW.out)
        have HX4 : Hid (Go.Il.Own 3 .i64 W1.heap.size (putC v3 C (.slice ok n ck) (levV Lb n) s) (.slice ok n ck) ((List.range n).map Int.ofNat)) := hide (Bi.own_same HO.out fun b cs _ hh => putC_other (fun q => by
          have h1 := HCZ.out
          rw [← q, hh] at h1
          injection h1 with h1
          injection h1 with _ ht
          cases ht))
        refine hK.out _ _ (hide ⟨cell_old HX3.out HC1.out, cell_old HX3.out HC2.out⟩) (fun hHeld => ?_)
        clear hK K0 e0 e1 e2 g0 g1 g2 hbC
        try simp only [Act.put, List.setIfInBounds_toArray, List.set_cons_zero, List.set_cons_succ]
        refine wpAnyH_done (by kernel_rfl) ?_ _
        go_wp2_with fail
        go_meet
        exact ⟨C, Lb, _, rfl, hide ⟨HCW.out, HLW.out, HNE.out, HX3.out, HX1.out, HX2.out, HX4.out, HKL.out⟩⟩
    · skip
      go_simp
      have HBv1 := hide (HBv0.out.alloc HBv0.out.size (boxL (List.replicate n 0)))
      have HLZ := hide (new_block v0 (boxL (List.replicate n 0)))
      have HLW : Hid (W1.heap.size ≤ v0.heap.size) := hide HBv0.out.size
      refine hK.out _ _ (hide ⟨cell_old HBv1.out HC1.out, cell_old HBv1.out HC2.out⟩) (fun hHeld => ?_)
      clear hK K0
      try simp only [Act.put, List.setIfInBounds_toArray, List.set_cons_zero, List.set_cons_succ]
      clear HBv0
      generalize v0.alloc (boxL (List.replicate n 0)) = v1 at *
      generalize v0.heap.size = Lb at *
      have HLY := HLZ
      refine wpAnyH_ready (rs := [1, 8]) (by kernel_rfl) (by simp) ?_
      refine AllReadyH.cons rfl (fun K0 hK => ?_) (AllReadyH.cons rfl (fun K0 hK => ?_) (AllReadyH.nil))
      · skip
        go_simp
        go_at_call 88
        (with_reducible refine (untilProg (n := n) (by have := HN.out; omega)).mono ?_)
        rintro e v2 ⟨kv, rfl, hBn, hOn⟩
        obtain ⟨ok, ck, rfl⟩ := Go.Il.Own.form hOn
        simp only [List.length_map, List.length_range]
        rw [List.length_map, List.length_range] at hOn
        have HBv2 := hide (HBv1.out.trans (hBn.mono HBv1.out.size))
        replace HLZ := hide ((hBn.block _ (block_lt HLZ.out)).trans HLZ.out)
        have HKL := hide (own_not hOn (.inl (block_lt HLY.out)))
        have HO := hide (own_mono (B' := W1.heap.size) HBv1.out.size hOn)
        clear hBn hOn
        refine hK.out _ _ (hide ⟨cell_old HBv2.out HC1.out, cell_old HBv2.out HC2.out⟩) (fun hHeld => ?_)
        clear hK K0
        try simp only [Act.put, List.setIfInBounds_toArray, List.set_cons_zero, List.set_cons_succ]
        refine takeAt (i := 7) (d := some 16) (v := .agg #[.slice ok n ck, .slice (some ⟨Lb, 0, none⟩) n n, .int .i64 (s : Int)]) rfl rfl (by kernel_rfl) (by kernel_rfl) (by kernel_rfl) (fun _ _ _ h => h) (Or.inl ⟨by rfl, fun w hS => by go_simp⟩) hHeld ?_
        simp only [Act.put, List.setIfInBounds_toArray, List.set_cons_zero, List.set_cons_succ]
        refine wpAnyH_ready (rs := [8]) (by kernel_rfl) (by simp) ?_
        refine AllReadyH.cons rfl (fun K0 hK => ?_) (AllReadyH.nil)
        go_simp
        have HBv3 := hide (HBv2.out.alloc HBv2.out.size (boxC (.slice none 0 0) (.slice none 0 0) 0))
        replace HO := hide (World.ownsRow.alloc HO.out (boxC (.slice none 0 0) (.slice none 0 0) 0))
        replace HLZ := hide (old_block HLZ.out (boxC (.slice none 0 0) (.slice none 0 0) 0))
        clear HLY
        have HLY := HLZ
        have HCZ := hide (new_block v2 (boxC (.slice none 0 0) (.slice none 0 0) 0))
        have HCW : Hid (W1.heap.size ≤ v2.heap.size) := hide HBv2.out.size
        refine hK.out _ _ (hide ⟨cell_old HBv3.out HC1.out, cell_old HBv3.out HC2.out⟩) (fun hHeld => ?_)
        clear hK K0
        try simp only [Act.put, List.setIfInBounds_toArray, List.set_cons_zero, List.set_cons_succ]
        change wpAnyH _ _ _ _ _ _ _ _ (v2.alloc (boxC (.slice none 0 0) (.slice none 0 0) 0))
        clear HBv2
        generalize v2.alloc (boxC (.slice none 0 0) (.slice none 0 0) 0) = v3 at *
        generalize v2.heap.size = C at *
        refine wpAnyH_ready (rs := [9]) (by kernel_rfl) (by simp) ?_
        refine AllReadyH.cons rfl (fun K0 hK => ?_) AllReadyH.nil
        obtain ⟨e0, e1, e2⟩ := c_cells HCZ.out
        have g0 := Bi.frozen_of HCZ.out 0
        have g1 := Bi.frozen_of HCZ.out 1
        have g2 := Bi.frozen_of HCZ.out 2
        have hbC := block_lt HCZ.out
        go_simp
        show K0 _ (putC v3 C (.slice ok n ck) (levV Lb n) s)
        have HNE : Hid (C ≠ Lb) := hide (fun q => by
          have h1 := HCZ.out
          rw [q, HLZ.out] at h1
          injection h1 with h1
          injection h1 with _ ht
          cases ht)
        have HX1 := hide (putC_block (kv' := .slice ok n ck) (lv' := levV Lb n) (t := s) HCZ.out)
        have HX2 := hide ((putC_other (kv := .slice ok n ck) (lv := levV Lb n) (s := s) HNE.out.symm).trans HLZ.out)
        have HX3 := hide (putC_below (kv := .slice ok n ck) (lv := levV Lb n) (s := s) HBv3.out HCW.out)
        have HX4 : Hid (Go.Il.Own 3 .i64 W1.heap.size (putC v3 C (.slice ok n ck) (levV Lb n) s) (.slice ok n ck) ((List.range n).map Int.ofNat)) := hide (Bi.own_same HO.out fun b cs _ hh => putC_other (fun q => by
          have h1 := HCZ.out
          rw [← q, hh] at h1
          injection h1 with h1
          injection h1 with _ ht
          cases ht))
        refine hK.out _ _ (hide ⟨cell_old HX3.out HC1.out, cell_old HX3.out HC2.out⟩) (fun hHeld => ?_)
        clear hK K0 e0 e1 e2 g0 g1 g2 hbC
        try simp only [Act.put, List.setIfInBounds_toArray, List.set_cons_zero, List.set_cons_succ]
        refine wpAnyH_done (by kernel_rfl) ?_ _
        go_wp2_with fail
        go_meet
        exact ⟨C, Lb, _, rfl, hide ⟨HCW.out, HLW.out, HNE.out, HX3.out, HX1.out, HX2.out, HX4.out, HKL.out⟩⟩
      · skip
        go_simp
        have HBv2 := hide (HBv1.out.alloc HBv1.out.size (boxC (.slice none 0 0) (.slice none 0 0) 0))
        replace HLZ := hide (old_block HLZ.out (boxC (.slice none 0 0) (.slice none 0 0) 0))
        clear HLY
        have HLY := HLZ
        have HCZ := hide (new_block v1 (boxC (.slice none 0 0) (.slice none 0 0) 0))
        have HCW : Hid (W1.heap.size ≤ v1.heap.size) := hide HBv1.out.size
        refine hK.out _ _ (hide ⟨cell_old HBv2.out HC1.out, cell_old HBv2.out HC2.out⟩) (fun hHeld => ?_)
        clear hK K0
        try simp only [Act.put, List.setIfInBounds_toArray, List.set_cons_zero, List.set_cons_succ]
        change wpAnyH _ _ _ _ _ _ _ _ (v1.alloc (boxC (.slice none 0 0) (.slice none 0 0) 0))
        clear HBv1
        generalize v1.alloc (boxC (.slice none 0 0) (.slice none 0 0) 0) = v2 at *
        generalize v1.heap.size = C at *
        refine wpAnyH_ready (rs := [1]) (by kernel_rfl) (by simp) ?_
        refine AllReadyH.cons rfl (fun K0 hK => ?_) (AllReadyH.nil)
        go_simp
        go_at_call 88
        (with_reducible refine (untilProg (n := n) (by have := HN.out; omega)).mono ?_)
        rintro e v3 ⟨kv, rfl, hBn, hOn⟩
        obtain ⟨ok, ck, rfl⟩ := Go.Il.Own.form hOn
        simp only [List.length_map, List.length_range]
        rw [List.length_map, List.length_range] at hOn
        have HBv3 := hide (HBv2.out.trans (hBn.mono HBv2.out.size))
        replace HLZ := hide ((hBn.block _ (block_lt HLZ.out)).trans HLZ.out)
        have HKL := hide (own_not hOn (.inl (block_lt HLY.out)))
        replace HCZ := hide ((hBn.block _ (block_lt HCZ.out)).trans HCZ.out)
        have HO := hide (own_mono (B' := W1.heap.size) HBv2.out.size hOn)
        clear hBn hOn
        refine hK.out _ _ (hide ⟨cell_old HBv3.out HC1.out, cell_old HBv3.out HC2.out⟩) (fun hHeld => ?_)
        clear hK K0
        try simp only [Act.put, List.setIfInBounds_toArray, List.set_cons_zero, List.set_cons_succ]
        refine takeAt (i := 7) (d := some 16) (v := .agg #[.slice ok n ck, .slice (some ⟨Lb, 0, none⟩) n n, .int .i64 (s : Int)]) rfl rfl (by kernel_rfl) (by kernel_rfl) (by kernel_rfl) (fun _ _ _ h => h) (Or.inl ⟨by rfl, fun w hS => by go_simp⟩) hHeld ?_
        simp only [Act.put, List.setIfInBounds_toArray, List.set_cons_zero, List.set_cons_succ]
        refine wpAnyH_ready (rs := [9]) (by kernel_rfl) (by simp) ?_
        refine AllReadyH.cons rfl (fun K0 hK => ?_) AllReadyH.nil
        obtain ⟨e0, e1, e2⟩ := c_cells HCZ.out
        have g0 := Bi.frozen_of HCZ.out 0
        have g1 := Bi.frozen_of HCZ.out 1
        have g2 := Bi.frozen_of HCZ.out 2
        have hbC := block_lt HCZ.out
        go_simp
        show K0 _ (putC v3 C (.slice ok n ck) (levV Lb n) s)
        have HNE : Hid (C ≠ Lb) := hide (fun q => by
          have h1 := HCZ.out
          rw [q, HLZ.out] at h1
          injection h1 with h1
          injection h1 with _ ht
          cases ht)
        have HX1 := hide (putC_block (kv' := .slice ok n ck) (lv' := levV Lb n) (t := s) HCZ.out)
        have HX2 := hide ((putC_other (kv := .slice ok n ck) (lv := levV Lb n) (s := s) HNE.out.symm).trans HLZ.out)
        have HX3 := hide (putC_below (kv := .slice ok n ck) (lv := levV Lb n) (s := s) HBv3.out HCW.out)
        have HX4 : Hid (Go.Il.Own 3 .i64 W1.heap.size (putC v3 C (.slice ok n ck) (levV Lb n) s) (.slice ok n ck) ((List.range n).map Int.ofNat)) := hide (Bi.own_same HO.out fun b cs _ hh => putC_other (fun q => by
          have h1 := HCZ.out
          rw [← q, hh] at h1
          injection h1 with h1
          injection h1 with _ ht
          cases ht))
        refine hK.out _ _ (hide ⟨cell_old HX3.out HC1.out, cell_old HX3.out HC2.out⟩) (fun hHeld => ?_)
        clear hK K0 e0 e1 e2 g0 g1 g2 hbC
        try simp only [Act.put, List.setIfInBounds_toArray, List.set_cons_zero, List.set_cons_succ]
        refine wpAnyH_done (by kernel_rfl) ?_ _
        go_wp2_with fail
        go_meet
        exact ⟨C, Lb, _, rfl, hide ⟨HCW.out, HLW.out, HNE.out, HX3.out, HX1.out, HX2.out, HX4.out, HKL.out⟩⟩
    · skip
      go_simp
      have HBv1 := hide (HBv0.out.alloc HBv0.out.size (boxC (.slice none 0 0) (.slice none 0 0) 0))
      have HCZ := hide (new_block v0 (boxC (.slice none 0 0) (.slice none 0 0) 0))
      have HCW : Hid (W1.heap.size ≤ v0.heap.size) := hide HBv0.out.size
      refine hK.out _ _ (hide ⟨cell_old HBv1.out HC1.out, cell_old HBv1.out HC2.out⟩) (fun hHeld => ?_)
      clear hK K0
      try simp only [Act.put, List.setIfInBounds_toArray, List.set_cons_zero, List.set_cons_succ]
      change wpAnyH _ _ _ _ _ _ _ _ (v0.alloc (boxC (.slice none 0 0) (.slice none 0 0) 0))
      clear HBv0
      generalize v0.alloc (boxC (.slice none 0 0) (.slice none 0 0) 0) = v1 at *
      generalize v0.heap.size = C at *
      refine wpAnyH_ready (rs := [1, 3]) (by kernel_rfl) (by simp) ?_
      refine AllReadyH.cons rfl (fun K0 hK => ?_) (AllReadyH.cons rfl (fun K0 hK => ?_) (AllReadyH.nil))
      · skip
        go_simp
        go_at_call 88
        (with_reducible refine (untilProg (n := n) (by have := HN.out; omega)).mono ?_)
        rintro e v2 ⟨kv, rfl, hBn, hOn⟩
        obtain ⟨ok, ck, rfl⟩ := Go.Il.Own.form hOn
        simp only [List.length_map, List.length_range]
        rw [List.length_map, List.length_range] at hOn
        have HBv2 := hide (HBv1.out.trans (hBn.mono HBv1.out.size))
        replace HCZ := hide ((hBn.block _ (block_lt HCZ.out)).trans HCZ.out)
        have HO := hide (own_mono (B' := W1.heap.size) HBv1.out.size hOn)
        clear hBn hOn
        refine hK.out _ _ (hide ⟨cell_old HBv2.out HC1.out, cell_old HBv2.out HC2.out⟩) (fun hHeld => ?_)
        clear hK K0
        try simp only [Act.put, List.setIfInBounds_toArray, List.set_cons_zero, List.set_cons_succ]
        refine wpAnyH_ready (rs := [3]) (by kernel_rfl) (by simp) ?_
        refine AllReadyH.cons rfl (fun K0 hK => ?_) (AllReadyH.nil)
        go_simp
        have HBv3 := hide (HBv2.out.alloc HBv2.out.size (boxL (List.replicate n 0)))
        have HKL := hide (own_not HO.out (.inr (Nat.le_refl v2.heap.size)))
        replace HO := hide (World.ownsRow.alloc HO.out (boxL (List.replicate n 0)))
        replace HCZ := hide (old_block HCZ.out (boxL (List.replicate n 0)))
        have HLZ := hide (new_block v2 (boxL (List.replicate n 0)))
        have HLW : Hid (W1.heap.size ≤ v2.heap.size) := hide HBv2.out.size
        refine hK.out _ _ (hide ⟨cell_old HBv3.out HC1.out, cell_old HBv3.out HC2.out⟩) (fun hHeld => ?_)
        clear hK K0
        try simp only [Act.put, List.setIfInBounds_toArray, List.set_cons_zero, List.set_cons_succ]
        clear HBv2
        generalize v2.alloc (boxL (List.replicate n 0)) = v3 at *
        generalize v2.heap.size = Lb at *
        have HLY := HLZ
        refine takeAt (i := 7) (d := some 16) (v := .agg #[.slice ok n ck, .slice (some ⟨Lb, 0, none⟩) n n, .int .i64 (s : Int)]) rfl rfl (by kernel_rfl) (by kernel_rfl) (by kernel_rfl) (fun _ _ _ h => h) (Or.inl ⟨by rfl, fun w hS => by go_simp⟩) hHeld ?_
        simp only [Act.put, List.setIfInBounds_toArray, List.set_cons_zero, List.set_cons_succ]
        refine wpAnyH_ready (rs := [9]) (by kernel_rfl) (by simp) ?_
        refine AllReadyH.cons rfl (fun K0 hK => ?_) AllReadyH.nil
        obtain ⟨e0, e1, e2⟩ := c_cells HCZ.out
        have g0 := Bi.frozen_of HCZ.out 0
        have g1 := Bi.frozen_of HCZ.out 1
        have g2 := Bi.frozen_of HCZ.out 2
        have hbC := block_lt HCZ.out
        go_simp
        show K0 _ (putC v3 C (.slice ok n ck) (levV Lb n) s)
        have HNE : Hid (C ≠ Lb) := hide (fun q => by
          have h1 := HCZ.out
          rw [q, HLZ.out] at h1
          injection h1 with h1
          injection h1 with _ ht
          cases ht)
        have HX1 := hide (putC_block (kv' := .slice ok n ck) (lv' := levV Lb n) (t := s) HCZ.out)
        have HX2 := hide ((putC_other (kv := .slice ok n ck) (lv := levV Lb n) (s := s) HNE.out.symm).trans HLZ.out)
        have HX3 := hide (putC_below (kv := .slice ok n ck) (lv := levV Lb n) (s := s) HBv3.out HCW.out)
        have HX4 : Hid (Go.Il.Own 3 .i64 W1.heap.size (putC v3 C (.slice ok n ck) (levV Lb n) s) (.slice ok n ck) ((List.range n).map Int.ofNat)) := hide (Bi.own_same HO.out fun b cs _ hh => putC_other (fun q => by
          have h1 := HCZ.out
          rw [← q, hh] at h1
          injection h1 with h1
          injection h1 with _ ht
          cases ht))
        refine hK.out _ _ (hide ⟨cell_old HX3.out HC1.out, cell_old HX3.out HC2.out⟩) (fun hHeld => ?_)
        clear hK K0 e0 e1 e2 g0 g1 g2 hbC
        try simp only [Act.put, List.setIfInBounds_toArray, List.set_cons_zero, List.set_cons_succ]
        refine wpAnyH_done (by kernel_rfl) ?_ _
        go_wp2_with fail
        go_meet
        exact ⟨C, Lb, _, rfl, hide ⟨HCW.out, HLW.out, HNE.out, HX3.out, HX1.out, HX2.out, HX4.out, HKL.out⟩⟩
      · skip
        go_simp
        have HBv2 := hide (HBv1.out.alloc HBv1.out.size (boxL (List.replicate n 0)))
        replace HCZ := hide (old_block HCZ.out (boxL (List.replicate n 0)))
        have HLZ := hide (new_block v1 (boxL (List.replicate n 0)))
        have HLW : Hid (W1.heap.size ≤ v1.heap.size) := hide HBv1.out.size
        refine hK.out _ _ (hide ⟨cell_old HBv2.out HC1.out, cell_old HBv2.out HC2.out⟩) (fun hHeld => ?_)
        clear hK K0
        try simp only [Act.put, List.setIfInBounds_toArray, List.set_cons_zero, List.set_cons_succ]
        clear HBv1
        generalize v1.alloc (boxL (List.replicate n 0)) = v2 at *
        generalize v1.heap.size = Lb at *
        have HLY := HLZ
        refine wpAnyH_ready (rs := [1]) (by kernel_rfl) (by simp) ?_
        refine AllReadyH.cons rfl (fun K0 hK => ?_) (AllReadyH.nil)
        go_simp
        go_at_call 88
        (with_reducible refine (untilProg (n := n) (by have := HN.out; omega)).mono ?_)
        rintro e v3 ⟨kv, rfl, hBn, hOn⟩
        obtain ⟨ok, ck, rfl⟩ := Go.Il.Own.form hOn
        simp only [List.length_map, List.length_range]
        rw [List.length_map, List.length_range] at hOn
        have HBv3 := hide (HBv2.out.trans (hBn.mono HBv2.out.size))
        replace HLZ := hide ((hBn.block _ (block_lt HLZ.out)).trans HLZ.out)
        have HKL := hide (own_not hOn (.inl (block_lt HLY.out)))
        replace HCZ := hide ((hBn.block _ (block_lt HCZ.out)).trans HCZ.out)
        have HO := hide (own_mono (B' := W1.heap.size) HBv2.out.size hOn)
        clear hBn hOn
        refine hK.out _ _ (hide ⟨cell_old HBv3.out HC1.out, cell_old HBv3.out HC2.out⟩) (fun hHeld => ?_)
        clear hK K0
        try simp only [Act.put, List.setIfInBounds_toArray, List.set_cons_zero, List.set_cons_succ]
        refine takeAt (i := 7) (d := some 16) (v := .agg #[.slice ok n ck, .slice (some ⟨Lb, 0, none⟩) n n, .int .i64 (s : Int)]) rfl rfl (by kernel_rfl) (by kernel_rfl) (by kernel_rfl) (fun _ _ _ h => h) (Or.inl ⟨by rfl, fun w hS => by go_simp⟩) hHeld ?_
        simp only [Act.put, List.setIfInBounds_toArray, List.set_cons_zero, List.set_cons_succ]
        refine wpAnyH_ready (rs := [9]) (by kernel_rfl) (by simp) ?_
        refine AllReadyH.cons rfl (fun K0 hK => ?_) AllReadyH.nil
        obtain ⟨e0, e1, e2⟩ := c_cells HCZ.out
        have g0 := Bi.frozen_of HCZ.out 0
        have g1 := Bi.frozen_of HCZ.out 1
        have g2 := Bi.frozen_of HCZ.out 2
        have hbC := block_lt HCZ.out
        go_simp
        show K0 _ (putC v3 C (.slice ok n ck) (levV Lb n) s)
        have HNE : Hid (C ≠ Lb) := hide (fun q => by
          have h1 := HCZ.out
          rw [q, HLZ.out] at h1
          injection h1 with h1
          injection h1 with _ ht
          cases ht)
        have HX1 := hide (putC_block (kv' := .slice ok n ck) (lv' := levV Lb n) (t := s) HCZ.out)
        have HX2 := hide ((putC_other (kv := .slice ok n ck) (lv := levV Lb n) (s := s) HNE.out.symm).trans HLZ.out)
        have HX3 := hide (putC_below (kv := .slice ok n ck) (lv := levV Lb n) (s := s) HBv3.out HCW.out)
        have HX4 : Hid (Go.Il.Own 3 .i64 W1.heap.size (putC v3 C (.slice ok n ck) (levV Lb n) s) (.slice ok n ck) ((List.range n).map Int.ofNat)) := hide (Bi.own_same HO.out fun b cs _ hh => putC_other (fun q => by
          have h1 := HCZ.out
          rw [← q, hh] at h1
          injection h1 with h1
          injection h1 with _ ht
          cases ht))
        refine hK.out _ _ (hide ⟨cell_old HX3.out HC1.out, cell_old HX3.out HC2.out⟩) (fun hHeld => ?_)
        clear hK K0 e0 e1 e2 g0 g1 g2 hbC
        try simp only [Act.put, List.setIfInBounds_toArray, List.set_cons_zero, List.set_cons_succ]
        refine wpAnyH_done (by kernel_rfl) ?_ _
        go_wp2_with fail
        go_meet
        exact ⟨C, Lb, _, rfl, hide ⟨HCW.out, HLW.out, HNE.out, HX3.out, HX1.out, HX2.out, HX4.out, HKL.out⟩⟩
  case rest =>
    obtain ⟨C, Lb, kv, rfl, HR⟩ := hcut
    obtain ⟨hr1, hr2, hr3, hr4, hr5, hr6, hr7, hr8⟩ := HR.out
    have HL : Hid (Lie W g m C Lb W1.heap.size) := hide ⟨HMG.out, HGW.out, by rw [HSZ.out]; omega, hr1, hr2, hr3⟩
    have HCN : Hid (CntAt W wc g m C Lb W1.heap.size n s ⟨List.range n, List.replicate n 0⟩ l []) := hide ⟨⟨kv, hr5, hr7, hr8⟩, hr6, HS0.out.old hr4, KeepsM.of_below (by have := HMG.out; have := HGW.out; omega) (HB0.out.trans (hr4.mono HB0.out.size)), (hr4.block _ (block_lt HR0.out)).trans HR0.out⟩
    have HFF : Hid (FitC n la ⟨List.range n, List.replicate n 0⟩) := hide (fit_first n la)
    have HBW : Hid (B ≤ W1.heap.size) := hide (by rw [HSZ.out]; have := HBB.out; omega)
    clear hr1 hr2 hr3 hr4 hr6 hr7 hr8 HR HS0 HC1 HC2 HR0 HB0 hmk hr5
    obtain ⟨kv, hbx, hok, hnb⟩ := HCN.out.box
    obtain ⟨ok, ck, rfl⟩ := own_form' hok
    simp only [List.length_range] at hbx hok hnb
    have HSQ := hide (setOfQ (w := wc) (laid_nats (own_laid hok (by simp; exact HN.out))) (fun k hk => by have := List.mem_range.1 hk; have := HN.out; omega))
    rw [allQ_among] at HSQ
    obtain ⟨x0, x1, x2⟩ := c_cells hbx
    clear hbx hok hnb
    go_wp2_with fail
    (with_reducible refine HSQ.out.mono ?_)
    rintro e w1 ⟨rfl, hB1⟩
    have HCN1 := hide (HCN.out.below HL.out hB1)
    clear hB1 HSQ HCN x0 x1 x2
    go_wp2_with fail
    (with_reducible refine (failsS HCN1.out.sb (small_all (n := n)).ok).mono ?_)
    rintro e w2 ha
    rcases asked_play ha with ⟨rfl, hk, hpl⟩ | ⟨x, l1, T1, rfl, hk, hs, hpl⟩
    · have HK := hide (HCN1.out.keeps.trans hk)
      have HP : Hid (play (countN n s la) l [] = .ask (memQ (allQ n))) := hide (hpl _)
      clear ha hk hpl
      unfold asks4
      go_wp2_with fail
      exact ⟨rfl, _, HP.out.symm, _, _, _, _, rfl, sp_mem (small_all (n := n)).ok, HK.out⟩
    have HCN2 := hide (HCN1.out.moved HL.out hk hs)
    have HP2 : Hid (play (countN n s la) l [] = _) := hide (hpl fun v => if v = 2 then countT s la 800000 ⟨List.range n, List.replicate n 0⟩ else .err 7)
    clear ha hk hpl hs HCN1
    rcases (Decidable.em (x = 2)).symm with hx | hx
    · have d1 : (x == (2 : Int)) = false := beq_false_of_ne hx
      have HP3 : Hid (play (countN n s la) l [] = .err 7) := hide (by rw [HP2.out]; simp only [if_neg hx]; rfl)
      clear hx HP2
      obtain ⟨q0, q1, q2, q3⟩ := q_cells HCN2.out.quest
      have s0 := Bi.frozen_of HCN2.out.quest 0
      have s1 := Bi.frozen_of HCN2.out.quest 1
      have s2 := Bi.frozen_of HCN2.out.quest 2
      have s3 := Bi.frozen_of HCN2.out.quest 3
      go_wp2_with fail
      refine final8 (X := putQ w2 W.heap.size false nilV nilV nilV) rfl ?_
      have HP9 := hide (putQ_block (e := false) (b := nilV) (l := nilV) (q := nilV) HCN2.out.quest)
      have HK9 := hide (keepsM_put (d := false) (a := nilV) (k := nilV) (p := nilV) (by have := HMG.out; have := HGW.out; omega) HCN2.out.keeps (Nat.le_refl W.heap.size))
      generalize putQ w2 W.heap.size false nilV nilV nilV = X at *
      obtain ⟨y0, y1, y2, y3⟩ := q_cells HP9.out
      refine bodyPost_ret (v := .tuple #[questV false nilV nilV nilV, .int .i64 7]) (by simp [results, Try.results108, go_sem, y0, y1, y2, y3]) rfl ?_
      exact ⟨_, HP3.out.symm, rfl, by decide, HK9.out⟩
    have d1 : (x == (2 : Int)) = true := by simp [hx]
    have HP3 : Hid (play (countN n s la) l [] = play (countT s la 800000 ⟨List.range n, List.replicate n 0⟩) l1 T1) := hide (by rw [HP2.out]; simp only [if_pos hx])
    clear hx HP2
    go_wp2_with fail
    go_loopw [7] (fun s7 wr => ∃ (c : Cs) (f : Nat) (l' : List Int) (T' : List (Q4 × Int)), Hid (FitC n la c) ∧ Hid (toDo la c < f) ∧ Hid (play (countN n s la) l [] = play (countT s la f c) l' T') ∧ Hid (CntAt W wr g m C Lb W1.heap.size n s c l' T')) (fun s7 wr => leftAt W wr g m C Lb W1.heap.size n s la)
    case atStart => exact ⟨_, 800000, l1, T1, HFF, hide (toDo_le HST.out HN.out HFF.out), HP3, HCN2⟩
    case round =>
      obtain ⟨c, f, l', T', HF, HTD, HPL, HCT⟩ := hrel
      obtain ⟨f, rfl⟩ : ∃ f', f = f' + 1 := ⟨f - 1, by have := HTD.out; omega⟩
      have hkl : c.kept.length ≤ 256 := Nat.le_trans (kept_le HF.out) HN.out
      have HKL := hide hkl
      obtain ⟨kv, hbx, hok, hnb⟩ := HCT.out.box
      have HGP := hide (groupProg (w := wr) hbx HCT.out.lev (by rw [← HLA.out]; exact HF.out) HN.out (own_apart hok hkl hnb hbx) HS1.out)
      rw [← HLA.out] at HGP
      have HLW := hide (block_lt HCT.out.lev)
      clear hkl hbx hok hnb
      go_wp2_with fail
      (with_reducible refine HGP.out.mono ?_)
      rintro e w3 ⟨gv, rfl, hgo, hB3⟩
      have HC3 := hide (HCT.out.below HL.out hB3)
      have HLT : Hid (leftAt W wr g m C Lb W1.heap.size n s la = toDo la c) := hide (leftAt_eq HCT.out HKL.out)
      have HW3 : Hid (W1.heap.size ≤ w3.heap.size) := hide (by have := HL.out.l; have := HLW.out; have := hB3.size; omega)
      have HG3 : Hid (Go.Il.Own 3 .i64 W1.heap.size w3 gv ((groupOf s la c).map Int.ofNat)) := hide (own_mono (by have := HL.out.l; have := HLW.out; omega) hgo)
      have HGN : Hid (gv.ownBlock ≠ some Lb) := hide (own_not hgo (.inl HLW.out))
      clear hgo hB3 HGP
      obtain ⟨og, cg, rfl⟩ := own_form' HG3.out
      obtain ⟨kv, hbx, hok, hnb⟩ := HC3.out.box
      obtain ⟨ok, ck, rfl⟩ := own_form' hok
      obtain ⟨x0, x1, x2⟩ := c_cells hbx
      have HBX := hide hbx
      have HOK := hide hok
      have HNB := hide hnb
      clear hbx hok hnb
      by_cases hg : groupOf s la c = []
      · have HP4 : Hid (play (countN n s la) l [] = .fin (c.kept.map Int.ofNat) [] l') := hide (by rw [HPL.out, countT, if_pos hg]; rfl)
        rw [hg] at HG3 HGN ⊢
        obtain ⟨q0, q1, q2, q3⟩ := q_cells HC3.out.quest
        have s0 := Bi.frozen_of HC3.out.quest 0
        have s1 := Bi.frozen_of HC3.out.quest 1
        have s2 := Bi.frozen_of HC3.out.quest 2
        have s3 := Bi.frozen_of HC3.out.quest 3
        go_wp2_with fail
        refine final8 (X := putQ w3 W.heap.size true nilV (.slice ok c.kept.length ck) nilV) rfl ?_
        have HP9 := hide (putQ_block (e := true) (b := nilV) (l := .slice ok c.kept.length ck) (q := nilV) HC3.out.quest)
        have HK9 := hide (keepsM_put (d := true) (a := nilV) (k := .slice ok c.kept.length ck) (p := nilV) (by have := HMG.out; have := HGW.out; omega) HC3.out.keeps (Nat.le_refl W.heap.size))
        have HS9 := hide (sbox_put (d := true) (a := nilV) (k := .slice ok c.kept.length ck) (p := nilV) HC3.out.sb HGW.out)
        have HO9 := hide (own_putQ (d := true) (a := nilV) (k := .slice ok c.kept.length ck) (p := nilV) HOK.out HC3.out.quest)
        generalize putQ w3 W.heap.size true nilV (.slice ok c.kept.length ck) nilV = X at *
        obtain ⟨y0, y1, y2, y3⟩ := q_cells HP9.out
        refine bodyPost_ret (v := .tuple #[questV true nilV (.slice ok c.kept.length ck) nilV, .int .i64 0]) (by simp [results, Try.results108, go_sem, y0, y1, y2, y3]) rfl ?_
        exact ⟨_, HP4.out.symm, _, _, _, rfl, own_mono HBW.out HO9.out, Go.Il.Own.nil _ _ _ _, HK9.out, HS9.out⟩
      · have HGE := hide hg
        obtain ⟨G, hG⟩ : ∃ G, G = groupOf s la c := ⟨_, rfl⟩
        have HGG := hide hG
        obtain ⟨R, hR⟩ : ∃ R, R = restOf c.kept G := ⟨_, rfl⟩
        have HRR := hide hR
        rw [← hG] at HG3 HGN hg ⊢
        have HGsub : Hid (G.Sublist c.kept) := hide (by
          rw [hG]
          unfold groupOf
          split
          · exact List.nil_sublist _
          · exact (List.take_sublist _ _).trans List.filter_sublist)
        have HGL : Hid (G.length ≤ 256) := hide (Nat.le_trans HGsub.out.length_le HKL.out)
        have HRL : Hid (R.length ≤ 256) := hide (by rw [hR]; unfold restOf; exact Nat.le_trans (List.length_filter_le _ _) HKL.out)
        have HRlow : Hid (∀ i ∈ R, i < n) := hide fun i hi => by rw [hR] at hi; exact HF.out.low i (rest_mem.1 hi).1
        have HRsort : Hid (R.Pairwise (· < ·)) := hide (by rw [hR]; exact HF.out.sorted.filter _)
        have HLEV : Hid (∀ i, c.lev.getD i 0 ≤ 1000) := hide fun i => by have h1 : c.lev.getD i 0 ≤ la + 1 := HF.out.lev i; have := HST.out.small; omega
        have hpos : 0 < G.length := by
          cases h : G with
          | nil => exact absurd h hg
          | cons a b => simp
        have e0 : (((G.length : Nat) : Int) == 0) = false := beq_false_of_ne (by omega)
        have HWP := hide (withoutProg (w := w3) (own_laid HOK.out HKL.out) (own_laid HG3.out HGL.out))
        rw [without_rest c.kept G HF.out.sorted HGsub.out, ← hR] at HWP
        have HPA : Hid (play (countN n s la) l [] = play (.ask (ofP (among R)) fun v => if v = 2 then countT s la f ⟨R, lowered la R c.lev⟩ else countT s la f ⟨c.kept, raised G c.lev⟩) l' T') := hide (by
          rw [HPL.out, countT, if_neg HGE.out, ← hG, ← hR])
        clear hg hG hR HPL
        go_wp2_with fail
        (with_reducible refine HWP.out.mono ?_)
        rintro e w4 ⟨rv, rfl, hro, hB4⟩
        have HC4 := hide (HC3.out.below HL.out hB4)
        have HRN : Hid (rv.ownBlock ≠ some Lb) := hide (own_not hro (.inl (by have := block_lt HC3.out.lev; omega)))
        have HRO : Hid (Go.Il.Own 3 .i64 W1.heap.size w4 rv (R.map Int.ofNat)) := hide (own_mono HW3.out hro)
        have HG4 := hide (own_up HG3.out hB4)
        obtain ⟨orv, crv, rfl⟩ := own_form' HRO.out
        clear HC3 HWP hB4 hro x0 x1 x2 HBX HOK HNB
        go_wp2_with fail
        (with_reducible refine (setOfQ (w := w4) (laid_nats (own_laid HRO.out HRL.out)) (fun k hk => Nat.lt_of_lt_of_le (HRlow.out k hk) HN.out)).mono ?_)
        rintro e w5 ⟨rfl, hB5⟩
        have HC5 := hide (HC4.out.below HL.out hB5)
        have HR5 := hide (own_up HRO.out hB5)
        have HG5 := hide (own_up HG4.out hB5)
        clear HC4 hB5
        go_wp2_with fail
        (with_reducible refine (failsS (q := ofP (among R)) HC5.out.sb (ofP_ok _)).mono ?_)
        rintro e w6 ha
        rcases asked_play ha with ⟨rfl, hk, hpl⟩ | ⟨x, l2, T2, rfl, hk, hs, hpl⟩
        · have HK := hide (HC5.out.keeps.trans hk)
          have HP := hide (HPA.out.trans (hpl _))
          clear ha hk hpl
          unfold asks4
          go_wp2_with fail
          exact ⟨rfl, _, HP.out.symm, _, _, _, _, rfl, sp_mem (ofP_ok _), HK.out⟩
        have HC6 := hide (HC5.out.moved HL.out hk hs)
        have HPB := hide (HPA.out.trans (hpl _))
        have hb0 : ∀ b, W1.heap.size ≤ b → b ≠ m ∧ b ≠ g := fun b hb => by have := HMG.out; have := HGW.out; have := HL.out.b0; omega
        have HR6 : Hid (Go.Il.Own 3 .i64 W1.heap.size w6 (.slice orv R.length crv) (R.map Int.ofNat)) := hide (Bi.own_same HR5.out fun b cs hB hh => hk.kept b (block_lt hh) (hb0 b hB).1 (hb0 b hB).2)
        have HG6 : Hid (Go.Il.Own 3 .i64 W1.heap.size w6 (.slice og G.length cg) (G.map Int.ofNat)) := hide (Bi.own_same HG5.out fun b cs hB hh => hk.kept b (block_lt hh) (hb0 b hB).1 (hb0 b hB).2)
        clear ha hk hpl hs HC5 HR5 HG5 hb0
        obtain ⟨kv6, hbx, hok, hnb⟩ := HC6.out.box
        have HBX := hide hbx
        have HOK := hide hok
        have HNB := hide hnb
        clear hbx hok hnb
        rcases Decidable.em (x = 2) with hx | hx
        · have d2 : (x == (2 : Int)) = true := by simp [hx]
          have HPC : Hid (play (countN n s la) l [] = play (countT s la f ⟨R, lowered la R c.lev⟩) l2 T2) := hide (by rw [HPB.out]; simp only [if_pos hx])
          clear hx HPB
          go_wp2_with fail
          (with_reducible refine (keepProg (M := W1.heap.size) HBX.out HC6.out.lev HF.out.len HL.out.ne (own_apart HR6.out HRL.out HRN.out HBX.out) HRsort.out HRlow.out HLEV.out HS1.out ⟨HL.out.c, HL.out.l⟩).mono ?_)
          rintro e w7 ⟨rfl, h1, h2, h3, h4⟩
          rw [← HLA.out] at h2
          have HC7 : Hid (CntAt W w7 g m C Lb W1.heap.size n s ⟨R, lowered la R c.lev⟩ l2 T2) := hide (HC6.out.written HL.out h1 h2 HR6.out HRN.out h3 h4)
          have HFK : Hid (FitC n la ⟨R, lowered la R c.lev⟩) := hide (by rw [HRR.out, HGG.out]; exact (fit_keep (s := s) HF.out).1)
          have HTK : Hid (toDo la ⟨R, lowered la R c.lev⟩ < toDo la c) := hide (by rw [HRR.out, HGG.out]; exact toDo_keep HST.out HN.out HF.out HGE.out)
          clear h1 h2 h3 h4
          go_wp2_with fail
          exact ⟨⟨_, f, l2, T2, HFK, hide (by have := HTK.out; have := HTD.out; omega), HPC, HC7⟩, by rw [HLT.out, leftAt_eq HC7.out HRL.out]; exact HTK.out⟩
        · have d2 : (x == (2 : Int)) = false := beq_false_of_ne hx
          have HPC : Hid (play (countN n s la) l [] = play (countT s la f ⟨c.kept, raised G c.lev⟩) l2 T2) := hide (by rw [HPB.out]; simp only [if_neg hx])
          clear hx HPB
          have HGsort : Hid (G.Pairwise (· < ·)) := hide (HF.out.sorted.sublist HGsub.out)
          go_wp2_with fail
          (with_reducible refine (raiseProg HBX.out HC6.out.lev HF.out.len HL.out.ne (own_apart HG6.out HGL.out HGN.out HBX.out) HGsort.out (fun i hi => HF.out.low i (List.Sublist.mem hi HGsub.out)) HLEV.out).mono ?_)
          rintro e w7 ⟨rfl, h2, h3, h4⟩
          have HC7 : Hid (CntAt W w7 g m C Lb W1.heap.size n s ⟨c.kept, raised G c.lev⟩ l2 T2) := hide (HC6.out.written HL.out ((h3 C HL.out.ne).trans HBX.out) h2 HOK.out HNB.out (fun k a _ => h3 k a) (h4.mono HL.out.l))
          have HFK : Hid (FitC n la ⟨c.kept, raised G c.lev⟩) := hide (by rw [HGG.out]; exact fit_raise (s := s) HF.out)
          have HTK : Hid (toDo la ⟨c.kept, raised G c.lev⟩ < toDo la c) := hide (by rw [HGG.out]; exact toDo_raise (s := s) HF.out HGE.out)
          clear h2 h3 h4
          go_wp2_with fail
          exact ⟨⟨_, f, l2, T2, HFK, hide (by have := HTK.out; have := HTD.out; omega), HPC, HC7⟩, by rw [HLT.out, leftAt_eq HC7.out HKL.out]; exact HTK.out⟩
end Go.Proofs.Ytmkapmbmgpnjaaa.Se

set_option maxRecDepth 100000
set_option linter.unusedSimpArgs false
set_option linter.unusedVariables false
namespace Go.Proofs.Ytmkapmbmgpnjaaa.Se
open Go Go.Ms Go.Pg Go.Bi Go.Se Go.ChangeShapes Go.WideShapes Go.ChangeAt Go.RowKit Go.Deep Go.Proofs.Ytmkapmbmgpnjaaa.Bi

theorem enters108 (args : Array Value) (W : World) : (callFunc 108 args).run Try.prog W = .ok (.enter 108 args) W := by
  simp [callFunc, go_sem, Try.func108]
  rfl
set_option maxHeartbeats 8000000 in
theorem countProg {w : World} {an : Value} {z st : Int} {n s : Nat} {l : List Int} (hz : z ≤ 256) (hn : max z 0 = (n : Int)) (hs : min (max st 1) 256 = (s : Int)) (ha : Vs w w.heap.size an l) (hl : l.length ≤ 4096) (hwf : ∀ x ∈ l, 0 ≤ x ∧ x < 256) :
    Calls Try.prog 50 #[.int .i64 z, .int .i64 st, an] w fun e w' => ∃ res, res = play (countN n s (lastOf s)) l [] ∧ Gives w.heap.size w' res e ∧ Below w.heap.size w w' := by
  have hB0 := (((Below.refl w.heap.size w).alloc (Nat.le_refl _) (box1 (.int .i64 n) 3)).alloc (by simp) (box1 (.int .i64 st) 3)).alloc (by simp; omega) (boxQ false nilV nilV nilV)
  have HB0 := hide hB0
  have HBX : Hid ((((w.alloc (box1 (.int .i64 n) 3)).alloc (box1 (.int .i64 st) 3)).alloc (boxQ false nilV nilV nilV)).heap[w.heap.size]? = some (box1 (.int .i64 n) 3)) := hide (old_block (old_block (new_block w _) _) _)
  have HBY : Hid ((((w.alloc (box1 (.int .i64 n) 3)).alloc (box1 (.int .i64 st) 3)).alloc (boxQ false nilV nilV nilV)).heap[w.heap.size + 1]? = some (box1 (.int .i64 st) 3)) := hide (old_block (alloc_at (by simp)) _)
  have HR0 : Hid ((((w.alloc (box1 (.int .i64 n) 3)).alloc (box1 (.int .i64 st) 3)).alloc (boxQ false nilV nilV nilV)).heap[w.heap.size + 2]? = some (boxQ false nilV nilV nilV)) := hide (alloc_at (by simp))
  have hsz : (((w.alloc (box1 (.int .i64 n) 3)).alloc (box1 (.int .i64 st) 3)).alloc (boxQ false nilV nilV nilV)).heap.size = w.heap.size + 3 := by simp
  have HSZ := hide hsz
  have HVA := hide ha
  have x0 := cell_of HBX.out 0
  have y0 := cell_of HBY.out 0
  have HIT := hide (fun W => itemsProg (w := W) hz hn)
  have HL := hide hl
  have HWF := hide hwf
  have HSS := hide hs
  have HNN : Hid (n ≤ 256) := hide (by omega)
  have hmf : ∀ (fn : Fn) (first cap : Array Value) (w : World), (Instr.makeFunc fn first cap).run Try.prog w = .ok (.func fn first cap) w := fun _ _ _ _ => rfl
  obtain ⟨oan, capn, rfl, -, -, -⟩ := ha
  clear hB0 hl hwf hz hn hsz hs
  go_enter Try.func50, Try.ntmps50
  go_wp2_with fail
  (with_reducible refine (HIT.out _).mono ?_)
  rintro e w1 ⟨rfl, rfl⟩
  clear HIT
  go_wp2_with fail
  change Calls Try.prog 74 _ (((w.alloc (box1 (.int .i64 n) 3)).alloc (box1 (.int .i64 st) 3)).alloc (boxQ false nilV nilV nilV)) _
  generalize ((w.alloc (box1 (.int .i64 n) 3)).alloc (box1 (.int .i64 st) 3)).alloc (boxQ false nilV nilV nilV) = W at *
  have HSR := hide (searchS (w := W) (fn := 108) (caps := #[.pointer (some ⟨w.heap.size, 0, none⟩), .pointer (some ⟨w.heap.size + 1, 0, none⟩)]) (R := fun res => res = play (countN n s (lastOf s)) l []) (vs_self HVA.out HB0.out) HL.out HWF.out enters108 fun g m W2 hW2 hm hs => by
    have hxW : W2.cell? ⟨w.heap.size, 0, none⟩ = some (.int .i64 (n : Int)) := cell_old hW2 x0
    have hyW : W2.cell? ⟨w.heap.size + 1, 0, none⟩ = some (.int .i64 st) := cell_old hW2 y0
    exact count1 hs hxW hyW HNN.out HSS.out (by have := hs.gt; have := hs.lt; omega))
  (with_reducible refine HSR.out.mono ?_)
  rintro e w1 ⟨res, hres, ho, hB⟩
  have HRES := hide hres
  obtain ⟨dd, oa1, na, ca, ok, nk, ck, op, np, cp, x, rfl, hkeep⟩ := gives_form ho
  have HKP := hide hkeep
  have HB1 := hide (HB0.out.trans (hB.mono HB0.out.size))
  have HR := hide ((hB.block _ (block_lt HR0.out)).trans HR0.out)
  have hws : w.heap.size ≤ W.heap.size := HB0.out.size
  clear hres ho hkeep hB x0 y0
  obtain ⟨q0, q1, q2, q3⟩ := q_cells HR.out
  have s0 := Bi.frozen_of HR.out 0
  have s1 := Bi.frozen_of HR.out 1
  have s2 := Bi.frozen_of HR.out 2
  have s3 := Bi.frozen_of HR.out 3
  go_wp2_with fail
  refine final8 (X := putQ w1 (w.heap.size + 2) dd (.slice oa1 na ca) (.slice ok nk ck) (.slice op np cp)) rfl ?_
  have HP := hide (putQ_block (e := dd) (b := .slice oa1 na ca) (l := .slice ok nk ck) (q := .slice op np cp) HR.out)
  have HQ := hide (putQ_below (d := dd) (a := .slice oa1 na ca) (l := .slice ok nk ck) (p := .slice op np cp) HB1.out (B := w.heap.size + 2) (by omega))
  have HO := hide (gives_low hws (HKP.out (putQ w1 (w.heap.size + 2) dd (.slice oa1 na ca) (.slice ok nk ck) (.slice op np cp)) fun b cs hh => putQ_other (fun e => by subst e; rw [HR.out] at hh; injection hh with hh; injection hh with _ ht; cases ht)))
  clear HKP
  generalize putQ w1 (w.heap.size + 2) dd (.slice oa1 na ca) (.slice ok nk ck) (.slice op np cp) = X at *
  obtain ⟨x0, x1, x2, x3⟩ := q_cells HP.out
  refine bodyPost_ret (v := .tuple #[questV dd (.slice oa1 na ca) (.slice ok nk ck) (.slice op np cp), .int .i64 x]) (by simp [results, Try.results50, go_sem, x0, x1, x2, x3]) rfl ?_
  exact ⟨res, HRES.out, HO.out, HQ.out⟩

set_option maxHeartbeats 8000000 in
theorem askCount {w : World} {an : Value} {z st : Int} {n s : Nat} {l : List Int} (hz : z ≤ 256) (hn : max z 0 = (n : Int)) (hs : min (max st 1) 256 = (s : Int)) (ha : Vs w w.heap.size an l) (hl : l.length ≤ 4096) (hwf : ∀ x ∈ l, 0 ≤ x ∧ x < 256) :
    Calls Try.prog 46 #[.int .u8 1, .int .i64 z, .int .i64 st, an] w fun e w' => ∃ res, res = play (countN n s (lastOf s)) l [] ∧ Gives w.heap.size w' res e ∧ Below w.heap.size w w' := by
  have hB0 := (Below.refl w.heap.size w).alloc (Nat.le_refl _) (boxQ false nilV nilV nilV)
  have HB0 := hide hB0
  have HR0 := hide (new_block w (boxQ false nilV nilV nilV))
  have hsz : (w.alloc (boxQ false nilV nilV nilV)).heap.size = w.heap.size + 1 := by simp
  have HSZ := hide hsz
  have HD := hide (countProg (w := w.alloc (boxQ false nilV nilV nilV)) hz hn hs (vs_self ha hB0) hl hwf)
  obtain ⟨oan, capn, rfl, -, -, -⟩ := ha
  clear hB0 hl hwf hz hn hsz hs
  go_enter Try.func46, Try.ntmps46
  go_wp2_with fail
  (with_reducible refine HD.out.mono ?_)
  rintro e w1 ⟨res, hres, ho, hB⟩
  have HRES := hide hres
  obtain ⟨dd, oa1, na, ca, ok, nk, ck, op, np, cp, x, rfl, hkeep⟩ := gives_form ho
  have HKP := hide hkeep
  have HB1 := hide (HB0.out.trans (hB.mono HB0.out.size))
  have HR := hide ((hB.block _ (block_lt HR0.out)).trans HR0.out)
  have hws : w.heap.size ≤ (w.alloc (boxQ false nilV nilV nilV)).heap.size := HB0.out.size
  clear hres ho hkeep hB HD
  obtain ⟨q0, q1, q2, q3⟩ := q_cells HR.out
  have s0 := Bi.frozen_of HR.out 0
  have s1 := Bi.frozen_of HR.out 1
  have s2 := Bi.frozen_of HR.out 2
  have s3 := Bi.frozen_of HR.out 3
  go_wp2_with fail
  refine final8 (X := putQ w1 w.heap.size dd (.slice oa1 na ca) (.slice ok nk ck) (.slice op np cp)) rfl ?_
  have HP := hide (putQ_block (e := dd) (b := .slice oa1 na ca) (l := .slice ok nk ck) (q := .slice op np cp) HR.out)
  have HQ := hide (putQ_below (d := dd) (a := .slice oa1 na ca) (l := .slice ok nk ck) (p := .slice op np cp) HB1.out (B := w.heap.size) (Nat.le_refl _))
  have HO := hide (gives_low hws (HKP.out (putQ w1 w.heap.size dd (.slice oa1 na ca) (.slice ok nk ck) (.slice op np cp)) fun b cs hh => putQ_other (fun e => by subst e; rw [HR.out] at hh; injection hh with hh; injection hh with _ ht; cases ht)))
  clear HKP
  generalize putQ w1 w.heap.size dd (.slice oa1 na ca) (.slice ok nk ck) (.slice op np cp) = X at *
  obtain ⟨x0, x1, x2, x3⟩ := q_cells HP.out
  refine bodyPost_ret (v := .tuple #[questV dd (.slice oa1 na ca) (.slice ok nk ck) (.slice op np cp), .int .i64 x]) (by simp [results, Try.results46, go_sem, x0, x1, x2, x3]) rfl ?_
  exact ⟨res, HRES.out, HO.out, HQ.out⟩
end Go.Proofs.Ytmkapmbmgpnjaaa.Se

