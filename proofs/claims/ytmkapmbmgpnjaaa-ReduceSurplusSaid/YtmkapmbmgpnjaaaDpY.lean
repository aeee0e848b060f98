import Derived.Test.YtmkapmbmgpnjaaaDpA
import Derived.Test.YtmkapmbmgpnjaaaGrF
set_option maxRecDepth 100000
set_option linter.unusedSimpArgs false
set_option linter.unusedVariables false
namespace Go.Proofs.Ytmkapmbmgpnjaaa.Se
open Go Go.Ms Go.Pg Go.Bi Go.Se Go.ChangeShapes Go.WideShapes Go.ChangeAt Go.RowKit Go.Deep Go.Proofs.Ytmkapmbmgpnjaaa.Bi

/-! The law ReduceSurplus. -/
def YesS (w : World) (args : Array Value) : Prop := Calls Try.prog 11 args w fun e w' => e = .returned (.bool true) ∧ Below w.heap.size w w'
set_option maxHeartbeats 8000000 in
theorem lawLongS {w : World} {sn sb : Value} {o : Orc} {z st : Int} {wq mo ve : Int} (hz : 7 < z) (hA : Awake) : YesS w #[orcV sn sb o, .int .i64 z, .int .i64 st, .int .u8 wq, .int .u8 mo, .int .u8 ve] := by
  unfold YesS
  unfold Awake at hA
  have t1 : decide ((7 : Int) < z) = true := decide_eq_true hz
  have hB0 := (Below.refl w.heap.size w).alloc (Nat.le_refl _) (boxO sn sb o)
  have HB0 := hide hB0
  clear hB0 hz
  go_enter Try.func11, Try.ntmps11
  go_wp2_with fail
  (with_reducible refine (hA _).mono ?_)
  rintro e w' ⟨rfl, hB⟩
  have HB2 := hide (HB0.out.trans (hB.mono HB0.out.size))
  clear hB
  go_wp2_with fail
  go_ret
  exact ⟨rfl, HB2.out⟩
set_option maxHeartbeats 8000000 in
theorem lawGreatS {w : World} {sn sb : Value} {o : Orc} {z st : Int} {wq mo ve : Int} (hz : z ≤ 7) (ho : OrcAt w sn sb o) (hg : great o = true) (hA : Awake) : YesS w #[orcV sn sb o, .int .i64 z, .int .i64 st, .int .u8 wq, .int .u8 mo, .int .u8 ve] := by
  unfold YesS
  unfold Awake at hA
  have t1 : decide ((7 : Int) < z) = false := decide_eq_false (by omega)
  have hB0 := (Below.refl w.heap.size w).alloc (Nat.le_refl _) (boxO sn sb o)
  have HB0 := hide hB0
  have HG := hide (greatRef (ho.old hB0))
  rw [hg] at HG
  obtain ⟨x0, x1, x2, x3⟩ := o_cells (new_block w (boxO sn sb o))
  clear hB0 ho hg hz
  go_enter Try.func11, Try.ntmps11
  go_wp2_with fail
  (with_reducible refine HG.out.mono ?_)
  rintro e w1 ⟨rfl, hB1⟩
  have HB1 := hide (HB0.out.trans (hB1.mono HB0.out.size))
  clear hB1
  go_wp2_with fail
  (with_reducible refine (hA _).mono ?_)
  rintro e w' ⟨rfl, hB⟩
  have HB2 := hide (HB1.out.trans (hB.mono HB1.out.size))
  clear hB
  go_wp2_with fail
  go_ret
  exact ⟨rfl, HB2.out⟩
theorem grid_block {B : Nat} {w : World} {g n cap : Nat} {ls : List (List Int)} (h : Grid B w (.slice (some ⟨g, 0, none⟩) n cap) ls) : ∃ ob : Obj, w.heap[g]? = some ob ∧ ∃ cs, ob = .cells cs 30 (0, 0) := by
  obtain ⟨xs, h1, h2⟩ := h
  rcases h1.2 with ⟨e, e0⟩ | ⟨g', cap2, cur, e, _, hg, _⟩
  · cases e
  · injection e with e1
    injection e1 with e1
    injection e1 with e1
    subst e1
    exact ⟨_, hg, _, rfl⟩
def AskLong (wh z st : Int) : Prop := ∀ (w : World) (an : Value), Long an → Calls Try.prog 46 #[.int .u8 wh, .int .i64 z, .int .i64 st, an] w fun e w' => e = .returned (.tuple #[questV false nilV nilV nilV, .int .i64 3]) ∧ Below w.heap.size w w'
theorem askLong_of {wh : Nat} {z st : Int} {N : Nat} (h4 : wh < 4) (hz : z ≤ 256) (hN : max z 0 = (N : Int)) : AskLong (wh : Int) z st := by
  obtain ⟨q, hq⟩ : ∃ q : Nat, min (max st 1) 256 = (q : Int) := ⟨(min (max st 1) 256).toNat, by omega⟩
  have fin : ∀ {x : Int} {w : World} {an : Value}, (Calls Try.prog 46 #[.int .u8 x, .int .i64 z, .int .i64 st, an] w fun e w' => ∃ res, res = Rs.err 3 ∧ Gives w.heap.size w' res e ∧ Below w.heap.size w w') →
      Calls Try.prog 46 #[.int .u8 x, .int .i64 z, .int .i64 st, an] w fun e w' => e = .returned (.tuple #[questV false nilV nilV nilV, .int .i64 3]) ∧ Below w.heap.size w w' := fun h =>
    h.mono fun e w' ⟨res, hr, hg, hB⟩ => by
      subst hr
      exact ⟨hg, hB⟩
  rcases (show wh = 0 ∨ wh = 1 ∨ wh = 2 ∨ wh = 3 by omega) with rfl | rfl | rfl | rfl
  · exact fun w an h => fin (askListLong hz hN h)
  · exact fun w an h => fin (askCountLong hz hN hq h)
  · exact fun w an h => fin (askDiffLong hz hN h)
  · exact fun w an h => fin (askChangesLong hz hN h)
theorem make34 : ∃ ob, ∀ W : World, (Instr.makeSlice 34 (.int .i64 4097) (.int .i64 4097)).run Try.prog W = .ok (.slice (some ⟨W.heap.size, 0, none⟩) 4097 4097) (W.alloc ob) := by
  have g : (Try.prog.info? 39).map (fun i => (i.size, i.bytes, i.zero.map fun z => z.cells)) = some (1, 1, some #[.int .u8 0]) := by kernel_rfl
  cases hi : Try.prog.info? 39 with
  | none => rw [hi] at g; cases g
  | some i =>
    rw [hi] at g
    simp only [Option.map_some, Option.some.injEq, Prod.mk.injEq] at g
    obtain ⟨g1, g2, g3⟩ := g
    cases hz : i.zero with
    | none => rw [hz] at g3; cases g3
    | some z => exact ⟨_, fun W => run_make (P := Try.prog) W 34 39 i z Try.underlying34 hi hz .i64 .i64 4097 4097 (by omega) (by omega) (by rw [g2]; omega) (by omega)⟩
theorem fewS {o : Q4 → Int} {n : Nat} {t : Tr} (hn : n ≤ 7) (h : Asks (LowQ n) t) : (trace o t []).length ≤ 128 :=
  Nat.le_trans (small_few (n := n) (by omega) (trace_nodup (o := o) (t := t) (T := [])).1 (trace_asks h)) (Nat.le_trans (Nat.pow_le_pow_right (by decide) hn) (by decide))
--H<
set_option maxHeartbeats 16000000 in
theorem lawMainS {w : World} {sn sb : Value} {o : Orc} {z st ve : Int} {wq mo : Nat} (hz : z ≤ 7) (ho : OrcAt w sn sb o) (hg : great o = false) (hv : 0 ≤ ve ∧ ve < 256) (hA : Awake) : YesS w #[orcV sn sb o, .int .i64 z, .int .i64 st, .int .u8 (wq : Int), .int .u8 (mo : Int), .int .u8 ve] := by
  unfold YesS
  unfold Awake at hA
  obtain ⟨N, hN⟩ : ∃ N : Nat, max z 0 = (N : Int) := ⟨(max z 0).toNat, by omega⟩
  obtain ⟨wh, hwh⟩ : ∃ wh, wh = wq % 4 := ⟨_, rfl⟩
  obtain ⟨M, hM⟩ : ∃ M, M = mo % 9 := ⟨_, rfl⟩
  obtain ⟨t, hS⟩ := search_of (wh := wh) (st := st) (o := ora o) (by omega) (show z ≤ 256 by omega) hN
  have HAL := hide (askLong_of (wh := wh) (st := st) (by omega) (show z ≤ 256 by omega) hN)
  have HS := hide hS
  have hfew : (trace (ora o) t []).length ≤ 128 := fewS (n := N) (by omega) hS.low
  have HTR := hide hfew
  have HSR := hide (fun (W : World) (h : OrcAt W sn sb o) => searchedRef (w := W) h (small_of hg) hS.asks (by omega) hS.sane)
  obtain ⟨qs, hqs⟩ : ∃ qs, qs = (trace (ora o) t []).map fun q => upTo (memQ q) 256 := ⟨_, rfl⟩
  have HQS := hide hqs
  have e4 : (wq : Int).tmod 4 = (wh : Int) := by rw [Int.tmod_eq_emod_of_nonneg (by omega), hwh]; simp
  have w4 : IntKind.u8.wrap (wh : Int) = (wh : Int) := by simp [IntKind.wrap, IntKind.signed, IntKind.bits]; omega
  have e9 : (mo : Int).tmod 9 = (M : Int) := by rw [Int.tmod_eq_emod_of_nonneg (by omega), hM]; simp
  have w9 : IntKind.u8.wrap (M : Int) = (M : Int) := by simp [IntKind.wrap, IntKind.signed, IntKind.bits]; omega
  have v9 : IntKind.i64.wrap (M : Int) = (M : Int) := by simp [IntKind.wrap, IntKind.signed, IntKind.bits]; omega
  have HM9 : Hid (M ≤ 8) := hide (by omega)
  have HVE := hide hv
  have HAW := hide hA
  have HSM := hide (small_of hg)
  have t1 : decide ((7 : Int) < z) = false := decide_eq_false (by omega)
  have hB0 := (Below.refl w.heap.size w).alloc (Nat.le_refl _) (boxO sn sb o)
  have HB0 := hide hB0
  have HO0 := hide (ho.old hB0)
  have HG := hide (greatRef HO0.out)
  rw [hg] at HG
  have HX0 := hide (new_block w (boxO sn sb o))
  obtain ⟨x0, x1, x2, x3⟩ := o_cells HX0.out
  rw [← hqs] at HSR
  clear hB0 ho hg hz hN hA hS hfew hwh hqs hM hv
  go_enter Try.func11, Try.ntmps11
  go_wp2_with fail
  (with_reducible refine HG.out.mono ?_)
  rintro e w1 ⟨rfl, hB1⟩
  have HB1 := hide (HB0.out.trans (hB1.mono HB0.out.size))
  have HO1 := hide (HO0.out.old hB1)
  have HX1 := hide ((hB1.block _ (block_lt HX0.out)).trans HX0.out)
  clear hB1 x0 x1 x2 x3 HG HO0 HX0 HB0
  obtain ⟨x0, x1, x2, x3⟩ := o_cells HX1.out
  go_wp2_with fail
  (with_reducible refine (HSR.out _ HO1.out).mono ?_)
  rintro e w3 ⟨hfd, hB3⟩
  rcases HS.out.ended.symm with he | ⟨kf, pf, he⟩
  · rw [he] at hfd
    obtain ⟨av, rfl, hgr⟩ := hfd
    obtain ⟨oav, cav, rfl⟩ := grid_form hgr
    have hA4 := (Below.refl w3.heap.size w3).alloc (Nat.le_refl _) (boxQ false nilV nilV nilV)
    have HB4 := hide (HB1.out.trans ((hB3.trans (hA4.mono hB3.size)).mono HB1.out.size))
    clear hB3 hgr hA4 HB1 HX1 HO1 x0 x1 x2 x3 HSR he
    go_wp2_with fail
    (with_reducible refine (HAW.out _).mono ?_)
    rintro e w9 ⟨rfl, hB9⟩
    have HB9 := hide (HB4.out.trans (hB9.mono HB4.out.size))
    clear hB9
    go_wp2_with fail
    go_ret
    exact ⟨rfl, HB9.out⟩
  have HLF := hide he
  rw [he] at hfd
  obtain ⟨kv, pv, av, rfl, hk, hp, hgr⟩ := hfd
  obtain ⟨ok, ck, rfl⟩ := Go.Il.Own.form hk
  obtain ⟨op, cp, rfl⟩ := Go.Il.Own.form hp
  obtain ⟨oav, cav, rfl⟩ := grid_form hgr
  have hA4 := (Below.refl w3.heap.size w3).alloc (Nat.le_refl _) (boxQ true nilV (.slice ok kf.length ck) (.slice op pf.length cp))
  have HQ4 := hide (new_block w3 (boxQ true nilV (.slice ok kf.length ck) (.slice op pf.length cp)))
  have HB4 := hide (HB1.out.trans ((hB3.trans (hA4.mono hB3.size)).mono HB1.out.size))
  have HX4 := hide (((hB3.trans (hA4.mono hB3.size)).block _ (block_lt HX1.out)).trans HX1.out)
  have HO4 := hide (HO1.out.old (hB3.trans (hA4.mono hB3.size)))
  have HG4 := hide (hgr.below hA4)
  obtain ⟨q0, q1, q2, q3⟩ := q_cells HQ4.out
  clear hB3 hgr hA4 HB1 HX1 HO1 x0 x1 x2 x3 HSR hk hp he
  have HL : Hid (0 < qs.length ∧ qs.length ≤ 128) := hide (by
    rw [HQS.out, List.length_map]
    exact ⟨HS.out.some, HTR.out⟩)
  have HTL : Hid (qs.length = (trace (ora o) t []).length) := hide (by rw [HQS.out, List.length_map])
  go_wp2_with fail
  change Code.wp _ _ _ _ (w3.alloc (boxQ true nilV (.slice ok kf.length ck) (.slice op pf.length cp)))
  generalize w3.alloc (boxQ true nilV (.slice ok kf.length ck) (.slice op pf.length cp)) = W4 at *
  clear q0 q1 q2 q3 HQ4
  go_loopw [17, 18] (fun s17 s18 wr => ∃ j : Nat, j ≤ qs.length ∧ s18 = .int .i64 (j : Int) ∧ Hid (Go.Il.Own 39 .u8 W4.heap.size wr s17 (((trace (ora o) t []).take j).map (ora o))) ∧ Hid (Below W4.heap.size W4 wr)) (fun _ s18 _ => qs.length - (intOf s18).toNat)
  case atStart => exact ⟨0, Nat.zero_le _, rfl, hide (Go.Il.Own.nil _ _ _ _), hide (Below.refl _ _)⟩
  case round =>
    obtain ⟨j, hj, rfl, HOW, HBj⟩ := hrel
    obtain ⟨l, hl⟩ : ∃ l, l = ((trace (ora o) t []).take j).map (ora o) := ⟨_, rfl⟩
    have HLE := hide hl
    have HLN : Hid (l.length = j) := hide (by rw [hl, List.length_map, List.length_take]; have := HTL.out; omega)
    rw [← hl] at HOW
    obtain ⟨o17, c17, rfl⟩ := Go.Il.Own.form HOW.out
    have HXj := hide ((HBj.out.block _ (block_lt HX4.out)).trans HX4.out)
    have HOj := hide (HO4.out.old HBj.out)
    have HGj := hide (HG4.out.below HBj.out)
    have HWj : Hid (W4.heap.size ≤ wr.heap.size) := hide HBj.out.size
    clear hl
    by_cases hlj : j < qs.length
    · have hj1 : decide ((j : Int) < (qs.length : Int)) = true := decide_eq_true (by omega)
      have hj2 : decide (j < qs.length) = true := decide_eq_true hlj
      have hwj : IntKind.i64.wrap ((j : Int) + 1) = (j : Int) + 1 := wrap_upW hlj (by have := HL.out; omega)
      have HJL := hide hlj
      have HJC := hide hlj
      obtain ⟨gg, p1, k1, rfl, -, hx1, ho1⟩ := grid_get HGj.out (i := j) HJL.out
      obtain ⟨_, hob, cob, rfl⟩ := grid_block HGj.out
      have HOB := hide hob
      have hll : ∀ q ∈ qs, q.length ≤ 1000 := fun q hq => by
        rw [HQS.out] at hq
        obtain ⟨y, _, rfl⟩ := List.mem_map.1 hq
        have := upTo_len y
        omega
      have HI1 := hide (ints_own ho1 (by have := hll _ (List.getElem_mem HJL.out); omega))
      obtain ⟨y1, hy1⟩ : ∃ y1, y1 = qs[j]'HJL.out := ⟨_, rfl⟩
      have HSY : Hid (((trace (ora o) t []).take (j + 1)).map (ora o) = l ++ [((say o y1 : Nat) : Int)]) := hide (by
        have hjt : j < (trace (ora o) t []).length := by have := HTL.out; have := HJL.out; omega
        rw [List.take_succ_eq_append_getElem hjt, List.map_append, List.map_cons, List.map_nil, ← HLE.out]
        have e : y1 = upTo (memQ ((trace (ora o) t [])[j]'hjt)) 256 := by
          rw [hy1]
          have hq := HQS.out
          subst hq
          rw [List.getElem_map]
        rw [e]
        simp only [ora])
      rw [← hy1] at HI1 hx1
      have HX1 := hide hx1
      have j1 : (j : Int) < (qs.length : Int) := by have := HJL.out; omega
      have hzm : W4.heap.size ≤ wr.heap.size := HWj.out
      clear ho1 hll hy1 hlj hx1 hob
      go_upto_region 13 with (fail)
      refine wp_region_held_drew (S := fun w' => Hid (w'.heap[w.heap.size]? = some (boxO sn sb o) ∧ w'.cell? ⟨gg, j, none⟩ = some (.slice p1 y1.length k1))) (by kernel_rfl) (hide ⟨HXj.out, HX1.out⟩) (fun hHeld => ?_)
      refine takeAt (i := 0) (d := some 58) (v := .slice o17 l.length c17) rfl rfl (by kernel_rfl) (by kernel_rfl) (by kernel_rfl) (fun _ _ _ h => h) (Or.inl ⟨by rfl, fun w hS => by go_simp⟩) hHeld ?_
      simp only [Act.put, List.setIfInBounds_toArray, List.set_cons_zero, List.set_cons_succ]
      refine takeAt (i := 1) (d := some 59) (v := orcV sn sb o) rfl rfl (by kernel_rfl) (by kernel_rfl) (by kernel_rfl) (fun _ _ _ h => h) (Or.inl ⟨by rfl, fun w hS => by obtain ⟨x0, x1, x2, x3⟩ := o_cells hS.out.1; go_simp⟩) hHeld ?_
      simp only [Act.put, List.setIfInBounds_toArray, List.set_cons_zero, List.set_cons_succ]
      refine takeAt (i := 2) (d := some 60) (v := .slice (some ⟨gg, 0, none⟩) qs.length cav) rfl rfl (by kernel_rfl) (by kernel_rfl) (by kernel_rfl) (fun _ _ _ h => h) (Or.inl ⟨by rfl, fun w hS => by go_simp⟩) hHeld ?_
      simp only [Act.put, List.setIfInBounds_toArray, List.set_cons_zero, List.set_cons_succ]
      refine takeAt (i := 3) (d := some 61) (v := .int .i64 (j : Int)) rfl rfl (by kernel_rfl) (by kernel_rfl) (by kernel_rfl) (fun _ _ _ h => h) (Or.inl ⟨by rfl, fun w hS => by go_simp⟩) hHeld ?_
      simp only [Act.put, List.setIfInBounds_toArray, List.set_cons_zero, List.set_cons_succ]
      refine takeAt (i := 4) (d := some 62) (v := .pointer (some ⟨gg, j, none⟩)) rfl rfl (by kernel_rfl) (by kernel_rfl) (by kernel_rfl) (fun _ _ _ h => h) (Or.inl ⟨by rfl, fun w hS => by go_simp⟩) hHeld ?_
      simp only [Act.put, List.setIfInBounds_toArray, List.set_cons_zero, List.set_cons_succ]
      refine takeAt (i := 5) (d := some 63) (v := .slice p1 y1.length k1) rfl rfl (by kernel_rfl) (by kernel_rfl) (by kernel_rfl) (fun _ _ _ h => h) (Or.inl ⟨by rfl, fun w hS => by have hcx := hS.out.2; go_simp⟩) hHeld ?_
      simp only [Act.put, List.setIfInBounds_toArray, List.set_cons_zero, List.set_cons_succ]
      refine wpAnyH_ready (rs := [6]) (by kernel_rfl) (by simp) ?_
      refine AllReadyH.cons rfl (fun K0 hK => ?_) AllReadyH.nil
      go_simp
      go_at_call 31
      (with_reducible refine (sayRef (HOj.out.old (Below.drew (Below.refl wr.heap.size wr))) (ints_below HI1.out (Below.drew (Below.refl wr.heap.size wr))) HSM.out).mono ?_)
      rintro e w5 ⟨rfl, hB5⟩
      have HB5 := hide ((Below.drew (Below.refl wr.heap.size wr)).trans hB5)
      have HH5 : Hid (w5.heap[w.heap.size]? = some (boxO sn sb o) ∧ w5.cell? ⟨gg, j, none⟩ = some (.slice p1 y1.length k1)) := hide ⟨(HB5.out.block _ (block_lt HXj.out)).trans HXj.out, cell_old HB5.out HX1.out⟩
      have HOW5 : Hid (Go.Il.Own 39 .u8 W4.heap.size w5 (.slice o17 l.length c17) l) := hide (own_kept HOW.out fun g _ _ _ hh _ => HB5.out.block g (block_lt hh))
      have HOB5 := hide ((HB5.out.block _ (block_lt HOB.out)).trans HOB.out)
      obtain ⟨sv, hsv⟩ : ∃ sv, sv = say o y1 := ⟨_, rfl⟩
      have HSV := hide hsv
      rw [← hsv]
      clear hB5 hsv
      refine hK.out _ _ HH5 (fun hHeld => ?_)
      clear hK K0
      try simp only [Act.put, List.setIfInBounds_toArray, List.set_cons_zero, List.set_cons_succ]
      refine wpAnyH_ready (rs := [7]) (by kernel_rfl) (by simp) ?_
      refine AllReadyH.cons rfl (fun K0 hK => ?_) AllReadyH.nil
      go_simp
      have HA6 := hide (one101 w5 (.cells #[.int .u8 (sv : Int)] 39))
      have HH6 : Hid ((w5.alloc (.cells #[.int .u8 (sv : Int)] 39)).heap[w.heap.size]? = some (boxO sn sb o) ∧ (w5.alloc (.cells #[.int .u8 (sv : Int)] 39)).cell? ⟨gg, j, none⟩ = some (.slice p1 y1.length k1)) := hide ⟨(HA6.out.block _ (block_lt HH5.out.1)).trans HH5.out.1, cell_old HA6.out HH5.out.2⟩
      refine hK.out _ _ HH6 (fun hHeld => ?_)
      clear hK K0
      try simp only [Act.put, List.setIfInBounds_toArray, List.set_cons_zero, List.set_cons_succ]
      refine wpAnyH_ready (rs := [8]) (by kernel_rfl) (by simp) ?_
      refine AllReadyH.cons rfl (fun K0 hK => ?_) AllReadyH.nil
      have hz5 : W4.heap.size ≤ w5.heap.size := Nat.le_trans HWj.out HB5.out.size
      have hl5 : l.length + [(sv : Int)].length ≤ 10000000 := by have := HLN.out; have := HJL.out; have := HL.out; simp; omega
      refine Go.Il.step_push EV39 (by decide) rfl (.tmp 58) (.tmp 65) rfl HOW5.out _ _ [(sv : Int)] _ _ rfl rfl rfl rfl rfl hz5 hl5 rfl ?_
      intro v7 w7 ho7 hs7
      have HO7 := hide ho7
      have HS7 := hide hs7
      obtain ⟨o7, c7, rfl⟩ := Go.Il.Own.form HO7.out
      have HH7 : Hid (w7.heap[w.heap.size]? = some (boxO sn sb o) ∧ w7.cell? ⟨gg, j, none⟩ = some (.slice p1 y1.length k1)) := hide ⟨HS7.out.block HH5.out.1 (by decide), (World.cell?_of_block (a := ⟨gg, j, none⟩) ((HS7.out.block HOB5.out (by decide)).trans HOB5.out.symm)).trans HH5.out.2⟩
      clear ho7 hs7 hz5 hl5
      refine hK.out _ _ HH7 (fun hHeld => ?_)
      clear hK K0
      try simp only [Act.put, List.setIfInBounds_toArray, List.set_cons_zero, List.set_cons_succ]
      refine takeAt (i := 9) (d := some 17) (v := .slice o7 (l ++ [(sv : Int)]).length c7) rfl rfl (by kernel_rfl) (by kernel_rfl) (by kernel_rfl) (fun _ _ _ h => h) (Or.inl ⟨by rfl, fun w hS => by go_simp⟩) hHeld ?_
      simp only [Act.put, List.setIfInBounds_toArray, List.set_cons_zero, List.set_cons_succ]
      refine wpAnyH_done (by kernel_rfl) ?_ _
      go_wp2_with fail
      refine ⟨⟨j + 1, by have := HJC.out; omega, by go_num, hide ?_, hide (HBj.out.trans ((HB5.out.mono HBj.out.size).trans HS7.out.below))⟩, by simp [intOf]; have := HJC.out; omega⟩
      rw [HSY.out, ← HSV.out]
      have h7 := HO7.out
      rw [show (l ++ [(sv : Int)]).length = l.length + 1 by simp] at h7
      exact h7
    · obtain rfl : j = qs.length := by omega
      have hj1 : decide ((qs.length : Int) < (qs.length : Int)) = false := decide_eq_false (by omega)
      clear hlj
      have HWF : Hid (∀ x ∈ l, 0 ≤ x ∧ x < 256) := hide fun x hx => by
        rw [HLE.out] at hx
        obtain ⟨q, _, rfl⟩ := List.mem_map.1 hx
        unfold ora
        rcases say_value o (upTo (memQ q) 256) with h | h | h <;> rw [h] <;> omega
      go_wp2_with fail
      obtain ⟨wo, rfl⟩ : ∃ wo : World, wo = wr := ⟨_, rfl⟩
      go_loopw [17, 19] (fun s17 s19 wr => ∃ k : Nat, k ≤ M + 1 ∧ s19 = .int .i64 (k : Int) ∧ Hid (Go.Il.Own 39 .u8 W4.heap.size wr s17 (l ++ List.replicate k ve)) ∧ Hid (Below W4.heap.size W4 wr)) (fun _ s19 _ => M + 1 - (intOf s19).toNat)
      case atStart => exact ⟨0, Nat.zero_le _, rfl, by simpa using HOW, HBj⟩
      case round =>
        obtain ⟨k, hk, rfl, HOK, HBk⟩ := hrel
        obtain ⟨l2, hl2⟩ : ∃ l2, l2 = l ++ List.replicate k ve := ⟨_, rfl⟩
        have HL2 := hide hl2
        have HLN2 : Hid (l2.length = l.length + k) := hide (by rw [hl2]; simp)
        rw [← hl2] at HOK
        obtain ⟨o18, c18, rfl⟩ := Go.Il.Own.form HOK.out
        clear hl2
        by_cases hkm : k ≤ M
        · have hk1 : decide ((k : Int) ≤ (M : Int)) = true := decide_eq_true (by omega)
          have hk2 : decide (k ≤ M) = true := decide_eq_true hkm
          have hwk : IntKind.i64.wrap ((k : Int) + 1) = (k : Int) + 1 := by have := HM9.out; simp [IntKind.wrap, IntKind.signed, IntKind.bits]; omega
          have hsz : W4.heap.size ≤ wr.heap.size := HBk.out.size
          have hln : l2.length + [ve].length ≤ 10000000 := by have := HLN2.out; have := HLN.out; have := HL.out; have := HM9.out; simp; omega
          have HKM := hide hkm
          clear hkm
          go_wp2_with (first
            | (at_builtin
               (refine Go.Il.wpl_push EV39 (by decide) rfl (.tmp 74) (.tmp 76) rfl HOK.out _ _ [ve] _ _ rfl rfl rfl rfl rfl hsz hln ?_
                intro v7 w7 ho7 hs7
                have HO7 := hide ho7
                have HS7 := hide hs7
                clear ho7 hs7 hsz hln))
            | fail)
          refine ⟨⟨k + 1, by have := HKM.out; omega, by go_num, hide ?_, hide (HBk.out.trans HS7.out.below)⟩, by simp [intOf]; have := HKM.out; omega⟩
          have h7 := HO7.out
          rw [HL2.out, List.append_assoc, ← List.replicate_succ'] at h7
          exact h7
        · obtain rfl : k = M + 1 := by omega
          have hk1 : decide (((M + 1 : Nat) : Int) ≤ (M : Int)) = false := decide_eq_false (by omega)
          have hk3 : decide ((M : Int) + 1 ≤ (M : Int)) = false := decide_eq_false (by omega)
          have HWF2 : Hid (∀ x ∈ l2, 0 ≤ x ∧ x < 256) := hide fun x hx => by
            rw [HL2.out] at hx
            rcases List.mem_append.1 hx with hx | hx
            · exact HWF.out x hx
            · rw [(List.mem_replicate.1 hx).2]; exact HVE.out
          have HAC := hide (HS.out.asks wr _ l2 (vs_own HOK.out (by have := HLN2.out; have := HLN.out; have := HL.out; have := HM9.out; omega)) (by have := HLN2.out; have := HLN.out; have := HL.out; have := HM9.out; omega) HWF2.out)
          have HPL : Hid (play t l2 [] = .fin kf pf (List.replicate (M + 1) ve)) := hide (by
            have h1 := play_ends (o := ora o) (t := t) (T := []) (List.replicate (M + 1) ve) true_nil
            have h2 : l2 = (trace (ora o) t []).map (ora o) ++ List.replicate (M + 1) ve := by
              rw [HL2.out, HLE.out, HTL.out, List.take_length]
            rw [h2, h1]
            rcases leaf_at (o := ora o) t (List.replicate (M + 1) ve) with ⟨k', p', e1, e2⟩ | ⟨x, e1, e2⟩
            · rw [HLF.out] at e1
              injection e1 with e1 e3
              rw [e2, e1, e3]
            · rw [HLF.out] at e1
              cases e1)
          clear hkm
          go_wp2_with fail
          (with_reducible refine HAC.out.mono ?_)
          rintro e w5 ⟨res, hres, hgv, hB5⟩
          rw [HPL.out] at hres
          subst hres
          rw [Gives, if_neg (by simp [List.replicate_succ])] at hgv
          subst hgv
          have HB5 := hide (HB4.out.trans ((HBk.out.trans (hB5.mono HBk.out.size)).mono HB4.out.size))
          obtain ⟨ob, hmk⟩ := make34
          have hmk5 := hmk (w5.alloc (boxQ false nilV nilV nilV))
          rw [World.size_alloc] at hmk5
          have hA6 := ((Below.refl w5.heap.size w5).alloc (Nat.le_refl _) (boxQ false nilV nilV nilV)).alloc (by simp) ob
          have HB6 := hide (HB5.out.trans (hA6.mono HB5.out.size))
          have HAN := hide (HAL.out ((w5.alloc (boxQ false nilV nilV nilV)).alloc ob) (.slice (some ⟨w5.heap.size + 1, 0, none⟩) 4097 4097) ⟨_, _, _, rfl, by omega⟩)
          clear hB5 hmk hA6 HAC
          go_wp2_with fail
          change Calls Try.prog 46 _ ((w5.alloc (boxQ false nilV nilV nilV)).alloc ob) _
          (with_reducible refine HAN.out.mono ?_)
          generalize (w5.alloc (boxQ false nilV nilV nilV)).alloc ob = W6 at *
          rintro e w7 ⟨rfl, hB7⟩
          have HB7 := hide (HB6.out.trans (hB7.mono HB6.out.size))
          have HB8 := hide (HB7.out.alloc HB7.out.size (boxQ false nilV nilV nilV))
          clear hB7 hmk5 HAN
          go_wp2_with fail
          (with_reducible refine (HAW.out _).mono ?_)
          rintro e w9 ⟨rfl, hB9⟩
          have HB9 := hide (HB8.out.trans (hB9.mono HB8.out.size))
          clear hB9
          go_wp2_with fail
          go_ret
          exact ⟨rfl, HB9.out⟩
--H>
end Go.Proofs.Ytmkapmbmgpnjaaa.Se

set_option maxRecDepth 100000
namespace Go.Proofs.Ytmkapmbmgpnjaaa.Se
open Go Go.Ms Go.Pg Go.Bi Go.Se Go.ChangeShapes Go.WideShapes Go.ChangeAt Go.RowKit Go.Deep Go.Proofs.Ytmkapmbmgpnjaaa.Bi

theorem lawAllS {w : World} {sn sb : Value} {o : Orc} {z st ve : Int} {wq mo : Int} (ho : OrcAt w sn sb o) (hq : 0 ≤ wq) (hm : 0 ≤ mo) (hv : 0 ≤ ve ∧ ve < 256) (hA : Awake) : YesS w #[orcV sn sb o, .int .i64 z, .int .i64 st, .int .u8 wq, .int .u8 mo, .int .u8 ve] := by
  by_cases hz : z ≤ 7
  · cases hg : great o with
    | true => exact lawGreatS hz ho hg hA
    | false =>
      obtain ⟨n, rfl⟩ : ∃ n : Nat, wq = (n : Int) := ⟨wq.toNat, by omega⟩
      obtain ⟨m, rfl⟩ : ∃ m : Nat, mo = (m : Int) := ⟨mo.toNat, by omega⟩
      exact lawMainS hz ho hg hv hA
  · exact lawLongS (by omega) hA
theorem trodAll_six {H : Type} {enc : TypeId × Value → H} {P : Program} {w : World} {base : Nat} {spare : Nat → Bool} {held : Bool} {t0 t1 t2 t3 t4 t5 : TypeId} {args : Array Value} {ds : List (DataW H)} {ps : List MemPlace} (h : DataW.TrodAll enc P w base spare held [t0, t1, t2, t3, t4, t5] args.toList ds ps) :
    ∃ v0 v1 v2 v3 v4 v5 d0 d1 d2 d3 d4 d5 p0 p1 p2 p3 p4 p5, args = #[v0, v1, v2, v3, v4, v5] ∧ ds = [d0, d1, d2, d3, d4, d5] ∧ ps = p0 ++ (p1 ++ (p2 ++ (p3 ++ (p4 ++ p5)))) ∧ DataW.Trod enc P w base spare held t0 v0 d0 p0 ∧ DataW.Trod enc P w base spare held t1 v1 d1 p1 ∧
      DataW.Trod enc P w base spare held t2 v2 d2 p2 ∧ DataW.Trod enc P w base spare held t3 v3 d3 p3 ∧ DataW.Trod enc P w base spare held t4 v4 d4 p4 ∧ DataW.Trod enc P w base spare held t5 v5 d5 p5 := by
  obtain ⟨v0, s0, d0, e0, p0, q0, hargs, rfl, rfl, h0, r0⟩ := trodAll_cons h
  obtain ⟨v1, s1, d1, e1, p1, q1, rfl, rfl, rfl, h1, r1⟩ := trodAll_cons r0
  obtain ⟨v2, s2, d2, e2, p2, q2, rfl, rfl, rfl, h2, r2⟩ := trodAll_cons r1
  obtain ⟨v3, s3, d3, e3, p3, q3, rfl, rfl, rfl, h3, r3⟩ := trodAll_cons r2
  obtain ⟨v4, s4, d4, e4, p4, q4, rfl, rfl, rfl, h4, r4⟩ := trodAll_cons r3
  obtain ⟨v5, s5, d5, e5, p5, q5, rfl, rfl, rfl, h5, r5⟩ := trodAll_cons r4
  obtain ⟨rfl, rfl, rfl⟩ := trodAll_nil r5
  exact ⟨v0, v1, v2, v3, v4, v5, d0, d1, d2, d3, d4, d5, p0, p1, p2, p3, p4, p5, by cases args; simp_all, rfl, by simp, h0, h1, h2, h3, h4, h5⟩

theorem liftedS (hA : Awake) (os : Os) (started : os.Started) (H : Type) (enc : TypeId × Value → H) :
    ReturnsInHanded {} Try.checked os 11 .any (Rows.reduceSurplusSpec.pre6 enc Try.prog Try.f11 Rows.reduceSurplusRow.domain false) (Rows.reduceSurplusSpec.post enc Try.prog Try.f11 false true false false) := by
  refine returnsInHanded_of_change (C := Try.checked) own started (by kernel_rfl) Try.func11
    (ChangeSpec.witness6 (enc := enc) (C := Try.checked) false ⟨#[], #[.agg #[.slice none 0 0, .slice none 0 0, .int .u64 0, .int .u8 0], .int .i64 0, .int .i64 0, .int .u8 0, .int .u8 0, .int .u8 0], []⟩ 8 (by kernel_rfl) (by kernel_rfl) (by kernel_rfl) (by kernel_rfl)) ?_
  intro W base args ds gs before hval0 hW hcnd hsz
  have hval : ∀ (j : Nat) t v, Try.f11.params[j]? = some t → args[j]? = some v → Value.okWide Try.prog W .any base t v := hval0
  have hW' := hW
  obtain ⟨p, q, hA0, hV, rfl, hfz, hnd⟩ := hW
  have hT : DataW.TrodAll enc Try.prog W 0 (fun _ => true) true Try.f11.params.toList args.toList ds p := hA0
  rw [Try.params11] at hT hval
  obtain ⟨v0, v1, v2, v3, v4, v5, d0, d1, d2, d3, d4, d5, p0, p1, p2, p3, p4, p5, rfl, rfl, rfl, h0, h1, h2, h3, h4, h5⟩ := trodAll_six hT
  obtain ⟨rfl, rfl⟩ := trodVars_none hV
  obtain ⟨z, rfl, rfl, rfl, wz⟩ := open_int Try.underlying3 (hval 1 3 v1 rfl rfl) h1
  obtain ⟨st, rfl, rfl, rfl, ws⟩ := open_int Try.underlying3 (hval 2 3 v2 rfl rfl) h2
  obtain ⟨wq, rfl, rfl, rfl, wwq⟩ := open_int Try.underlying5 (hval 3 5 v3 rfl rfl) h3
  obtain ⟨mo, rfl, rfl, rfl, wmo⟩ := open_int Try.underlying5 (hval 4 5 v4 rfl rfl) h4
  obtain ⟨ve, rfl, rfl, rfl, wve⟩ := open_int Try.underlying39 (hval 5 39 v5 rfl rfl) h5
  clear hA0 hval0
  simp only [List.append_nil] at hW'
  obtain ⟨sn, sb, o, rfl, hO⟩ := orc_arg (hval 0 48 v0 rfl rfl) h0
  have hlt0 : ∀ x ∈ p0, x.block < W.heap.size := fun x hx => hW'.lt x (by simp [hx])
  have hq0 : 0 ≤ wq := by
    simp [Lit.wf, IntKind.min, IntKind.max, IntKind.signed, IntKind.bits] at wwq
    omega
  have hm0 : 0 ≤ mo := by
    simp [Lit.wf, IntKind.min, IntKind.max, IntKind.signed, IntKind.bits] at wmo
    omega
  have hv0 : 0 ≤ ve ∧ ve < 256 := by
    simp [Lit.wf, IntKind.min, IntKind.max, IntKind.signed, IntKind.bits] at wve
    omega
  refine (lawAllS hO hq0 hm0 hv0 hA).mono fun e W' ⟨he, hB⟩ => ?_
  subst he
  exact ⟨_, rfl, post_of_below (pa := p0) (pv := []) hW' (fun _ _ _ => trodAll_cons_mk (shut_bool Try.underlying4 _) trodAll_mk0)
    (fun sp hsp => by
      have h := trodAll_cons_mk (WideElems.Trod_stays laidOut (by kernel_rfl) (of_decide_eq_true (by kernel_rfl)) h0 (fun x hx => hB.same (hlt0 x hx)) (fun x hx => hsp x (by simp [hx])))
        (trodAll_cons_mk (shut_int (P := Try.prog) (w := W') (base := 0) (spare := sp) (held := true) (enc := enc) Try.underlying3 wz)
        (trodAll_mk4 (shut_int (P := Try.prog) (w := W') (base := 0) (spare := sp) (held := true) (enc := enc) Try.underlying3 ws)
        (shut_int (P := Try.prog) (w := W') (base := 0) (spare := sp) (held := true) (enc := enc) Try.underlying5 wwq)
        (shut_int (P := Try.prog) (w := W') (base := 0) (spare := sp) (held := true) (enc := enc) Try.underlying5 wmo)
        (shut_int (P := Try.prog) (w := W') (base := 0) (spare := sp) (held := true) (enc := enc) Try.underlying39 wve)))
      simp only [List.append_nil] at h
      exact h)
    (fun _ _ => rfl) (by simp) hB
    (ok_one (by kernel_rfl) rfl (okWide_bool_mk Try.underlying4 _))⟩

theorem saidS (hA : Awake) : Rows.ReduceSurplusSaid :=
  OpenClaim.holds_of_wide 11 Try.f11 rfl rfl rfl rfl rfl rfl rfl ⟨rfl, rfl, rfl, rfl, rfl⟩ rfl rfl rfl rfl rfl (by kernel_rfl) Try.func11 (by kernel_rfl)
    (of_decide_eq_true (by kernel_rfl)) (by unfold Func.isWrapper; first | (rw [if_pos (by decide +kernel)]; kernel_rfl) | (rw [if_neg (by decide +kernel)]; exact ⟨rfl, rfl⟩))
    (fun os started H enc _ => liftedS hA os started H enc)
end Go.Proofs.Ytmkapmbmgpnjaaa.Se

