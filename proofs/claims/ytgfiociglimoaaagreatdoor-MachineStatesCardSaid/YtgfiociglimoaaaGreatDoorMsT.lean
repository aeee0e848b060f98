import Derived.Test.YtgfiociglimoaaaGreatDoorMsR
set_option maxRecDepth 100000
namespace Go.Proofs.YtgfiociglimoaaaGreatDoor.Ms
open Go Go.Ms Go.Il Go.Pg Go.ChangeShapes Go.WideShapes Go.ChangeAt Go.RowKit Go.Deep

def IsTwin (w : World) (s : St) (e : Ending) (w' : World) : Prop := ∃ cells : List Value, e = .returned (.agg cells.toArray) ∧ StAt w' cells s ∧ Below w.heap.size w w'

abbrev S1 : TypeId → Prop := fun t => t = 28 ∨ t = 67
abbrev S2 : TypeId → Prop := fun t => t = 28 ∨ t = 67 ∨ t = 48
abbrev S3 : TypeId → Prop := fun t => t = 28 ∨ t = 67 ∨ t = 48 ∨ t = 44
abbrev Sh : TypeId → Prop := fun t => t = 44

abbrev sC (s : St) (t o u : Value) : Array Value := #[t, o, .int .i64 s.inputs, .int .i64 s.clocks, .int .i64 s.frames, .int .u8 s.outcome.fin, .int .u8 s.outcome.fault, .int .i64 s.outcome.line, .int .u8 s.outcome.vk, .int .i64 s.outcome.vn, u, .int .i64 s.outcome.steps]
abbrev zC : Array Value := #[.slice none 0 0, .slice none 0 0, .int .i64 0, .int .i64 0, .int .i64 0, .int .u8 0, .int .u8 0, .int .i64 0, .int .u8 0, .int .i64 0, .slice none 0 0, .int .i64 0]
theorem len_le_flat {α β : Type} {f : α → List β} (hf : ∀ x, 0 < (f x).length) (l : List α) : l.length ≤ (l.flatMap f).length := by
  induction l with
  | nil => simp
  | cons a l ih => rw [List.flatMap_cons, List.length_append, List.length_cons]; have := hf a; omega
theorem three_blocks (w : World) (x y z : Obj) : (((w.alloc x).alloc y).alloc z).heap[w.heap.size]? = some x ∧ (((w.alloc x).alloc y).alloc z).heap[w.heap.size + 1]? = some y ∧ (((w.alloc x).alloc y).alloc z).heap[w.heap.size + 1 + 1]? = some z := by
  have h1 := new_block w x
  have h2 := new_block (w.alloc x) y
  have h3 := new_block ((w.alloc x).alloc y) z
  have e1 : (w.alloc x).heap.size = w.heap.size + 1 := by simp
  have e2 : ((w.alloc x).alloc y).heap.size = w.heap.size + 1 + 1 := by simp
  rw [e1] at h2
  rw [e2] at h3
  exact ⟨old_block (old_block h1 _) _, old_block h2 _, h3⟩

set_option maxHeartbeats 100000000 in
theorem twin {s : St} {cells : List Value} {w : World} (h : StAt w cells s) (hp : (ser s).length ≤ 90000) : Calls Tryz.prog 6 #[.agg cells.toArray] w (IsTwin w s) := by
  obtain ⟨vt, vo, l', rfl, ht, ho, hi1, hi2, hi3, vu, rfl, hu, hw1, hw2, hw3, hw4, hw5, hw6⟩ := h
  obtain ⟨ta, tc, rfl, htl, ht⟩ := ht
  obtain ⟨oa, oc, rfl, hol, ho⟩ := ho
  obtain ⟨ua, uc, rfl, hul, hu⟩ := hu
  have HT := hide ht
  have HO := hide ho
  have HU := hide hu
  have HW := hide (And.intro hi1 (And.intro hi2 (And.intro hi3 (And.intro hw1 (And.intro hw2 (And.intro hw3 (And.intro hw4 (And.intro hw5 hw6))))))))
  have hN : 1 + (s.threads.flatMap serTh).length + 1 + (s.objects.flatMap serOb).length + 3 + (serOc s.outcome).length ≤ 90000 := by
    simp only [ser, List.length_append, List.length_cons, List.length_nil] at hp; omega
  clear ht ho hu hi1 hi2 hi3 hw1 hw2 hw3 hw4 hw5 hw6 hp
  go_enter Tryz.func6, Tryz.ntmps6
  go_wp2_with fail
  have hnt : s.threads.length ≤ 90000 := by have := len_le_flat (f := serTh) (fun x => by simp [serTh]) s.threads; omega
  have hno : s.objects.length ≤ 90000 := by have := len_le_flat (f := serOb) (fun x => by simp [serOb]) s.objects; omega
  have hnu : s.outcome.out.length ≤ 90000 := by have := serOc_len s.outcome; omega
  have T3 := three_blocks w (.cells (sC s (.slice ta s.threads.length tc) (.slice oa s.objects.length oc) (.slice ua s.outcome.out.length uc)) 33) (.cells zC 33) (.cells (sC s (.slice none 0 0) (.slice oa s.objects.length oc) (.slice ua s.outcome.out.length uc)) 33)
  have BB : Below w.heap.size w (((w.alloc (.cells (sC s (.slice ta s.threads.length tc) (.slice oa s.objects.length oc) (.slice ua s.outcome.out.length uc)) 33)).alloc (.cells zC 33)).alloc (.cells (sC s (.slice none 0 0) (.slice oa s.objects.length oc) (.slice ua s.outcome.out.length uc)) 33)) := (two w _ _).alloc (two w _ _).size _
  have TT := hide T3
  have BH := hide BB
  clear T3 BB
  go_loopw [4] (fun i wr => ∃ (k : Nat) (v : Value) (xs : List Value), k ≤ s.threads.length ∧ i = .int .i64 (k : Int) ∧ wr.heap[w.heap.size]? = some (.cells (sC s (.slice ta s.threads.length tc) (.slice oa s.objects.length oc) (.slice ua s.outcome.out.length uc)) 33 (0, 0)) ∧ wr.heap[w.heap.size + 1]? = some (.cells zC 33 (0, 0)) ∧
    wr.heap[w.heap.size + 1 + 1]? = some (.cells (sC s v (.slice oa s.objects.length oc) (.slice ua s.outcome.out.length uc)) 33 (0, 0)) ∧ wr.ownsRow w.heap.size 44 3 v k xs ∧ ListV 3 ThV wr xs (s.threads.take k) ∧ Below w.heap.size w wr) (fun i _ => s.threads.length - (intOf i).toNat)
  case atStart => exact ⟨0, .slice none 0 0, [], by omega, rfl, TT.out.1, TT.out.2.1, TT.out.2.2, World.ownsRow_nil _ _ _ _, ListV.nil _ _ _, BH.out⟩
  case round =>
    obtain ⟨k, v, xs, hk, rfl, hb0, hb1, hb2, hO, hL, hB⟩ := hrel
    obtain ⟨wo, rfl⟩ : ∃ wo : World, wo = wr := ⟨_, rfl⟩
    have b0 := cell_of hb0 0
    have HB0 := hide hb0
    have HB1 := hide hb1
    have HB2 := hide hb2
    have HOk := hide hO
    have HLk := hide hL
    have H0o := hide hB
    have hzo : w.heap.size + 1 + 1 < wo.heap.size := block_lt hb2
    clear hb0 hb1 hb2 hO hL hB TT BH
    by_cases hlt : k < s.threads.length
    ·
      --P<
      have h64 : (k : Int) < (s.threads.length : Int) := by omega
      obtain ⟨b, o, rfl, hP⟩ := HT.out k hlt
      obtain ⟨vf, c1, c2, c3, hr, hw⟩ := thr_now H0o.out hP
      have HWt : Hid (WfI .u8 s.threads[k].rk ∧ WfI .i64 s.threads[k].rn) := ⟨hw, hP.choose_spec.2.2.1.2⟩
      obtain ⟨fa, fc, rfl, hfl, hr⟩ := hr
      have HR := hide hr
      have hstep := flatMap_step_le serTh s.threads k hlt
      have hser : (serTh s.threads[k]).length = 3 + (s.threads[k].frames.flatMap serFr).length := by simp only [serTh, List.length_append, List.length_cons, List.length_nil]; omega
      have hnf : s.threads[k].frames.length ≤ 90000 := by have := len_le_flat (f := serFr) (fun x => by simp [serFr]) s.threads[k].frames; omega
      clear hP hr hw
      go_wp2_with fail
      have hh := hide (new_block wo (.cells #[.slice fa s.threads[k].frames.length fc, .int .u8 s.threads[k].rk, .int .i64 s.threads[k].rn] 44))
      have hbw := hide (one wo (.cells #[.slice fa s.threads[k].frames.length fc, .int .u8 s.threads[k].rk, .int .i64 s.threads[k].rn] 44))
      generalize wo.alloc (.cells #[.slice fa s.threads[k].frames.length fc, .int .u8 s.threads[k].rk, .int .i64 s.threads[k].rn] 44) = w2 at *
      clear b0 c1 c2 c3
      go_loopw [6, 7] (fun v i wi => ∃ (j : Nat) (ys : List Value), j ≤ s.threads[k].frames.length ∧ i = .int .i64 (j : Int) ∧ wi.ownsRow wo.heap.size 48 5 v j ys ∧ ListV 5 FrV wi ys (s.threads[k].frames.take j) ∧ Below wo.heap.size wo wi ∧ Tp Sh w2 wi) (fun _ i _ => s.threads[k].frames.length - (intOf i).toNat)
      case atStart => exact ⟨0, [], by omega, rfl, World.ownsRow_nil _ _ _ _, ListV.nil _ _ _, hbw.out, Tp.refl _ _⟩
      case round =>
        obtain ⟨j, ys, hj, rfl, hO, hL, hB, hT⟩ := hrel
        have hkh := hT _ _ _ _ hh.out rfl
        have d0 := cell_of hkh 0
        have HOj := hide hO
        have HLj := hide hL
        have HBj := hide hB
        have HTj := hide hT
        have HKH := hide hkh
        have hzi : wo.heap.size ≤ wr.heap.size := hB.size
        have H0i : Hid (Below w.heap.size w wr) := H0o.out.trans (hB.mono (by omega))
        clear hO hL hB hT hkh hbw
        by_cases hj2 : j < s.threads[k].frames.length
        ·
          --O<
          have h65 : (j : Int) < (s.threads[k].frames.length : Int) := by omega
          obtain ⟨fb, fo, rfl, hQ⟩ := HR.out j hj2
          obtain ⟨vr, vt', e0, e1, e2, e3, e4, hr1, hr2⟩ := fr_now H0i.out hQ
          have HWf : Hid (WfI .i64 s.threads[k].frames[j].id ∧ WfI .i64 s.threads[k].frames[j].chunk ∧ WfI .i64 s.threads[k].frames[j].pc) := by
            obtain ⟨_, _, q1, q2, q3, _⟩ := hQ
            exact ⟨q1.2, q2.2, q3.2⟩
          obtain ⟨ra, rc, rfl⟩ := hr1.slice
          obtain ⟨ya, yc, rfl⟩ := hr2.slice
          have R1 := hide hr1
          have R2 := hide hr2
          have hfr := flatMap_step_le serFr s.threads[k].frames j hj2
          have hfs := serFr_len s.threads[k].frames[j]
          unfold partsFr at hfs
          clear hQ hr1 hr2
          generalize hx : s.threads[k].frames[j] = x at *
          have HX := hide hx
          clear hx
          go_wp2_with (first
            | (at_builtin
               (
                 refine wpl_clone E45 (by decide) rfl (.const (.slice none 0 0)) (.tmp 38) rfl (R1.out.below (PairAt.keeps _ _) (H0i.out.alloc H0i.out.size _)) rfl rfl (by omega) (pc .u8 .i64) pair_cell pair_back ?_
                 rintro v1 w3 hR1 hB1 ⟨qa, qc, rfl⟩
                 have hg1 := below_block hB1 (new_block wr _)
                 have HG1 := hide hg1
                 have f0 := cell_of hg1 0
                 have f1 := cell_of hg1 1
                 have f2 := cell_of hg1 2
                 have f3 := cell_of hg1 3
                 have f4 := cell_of hg1 4
                 have z3 := frozen_of hg1 3
                 have HR1 := hide hR1
                 have HD1 := hide hB1
                 clear hR1 hB1 hg1 e0 e1 e2 e3 e4))
            | (at_builtin
               have tok := HD1
               (
                 have hb3 : Below w.heap.size w w3 := (H0i.out.alloc H0i.out.size _).trans (HD1.out.mono (by simp; have := H0i.out.size; omega))
                 refine wpl_clone E46 (by decide) rfl (.const (.slice none 0 0)) (.tmp 42) rfl (R2.out.below (PairAt.keeps _ _) (hb3.setCell (by show w.heap.size ≤ wr.heap.size; exact H0i.out.size) _)) rfl rfl (by omega) (pc .i64 .i64) pair_cell pair_back ?_
                 rintro v2 w4 hR2 hB2 ⟨qb, qd, rfl⟩
                 have hg2 := below_block hB2 (set_cells HG1.out 3 (.slice qa x.regs.length qc))
                 have HG2 := hide hg2
                 have g0 := cell_of hg2 0
                 have g1 := cell_of hg2 1
                 have g2 := cell_of hg2 2
                 have g3 := cell_of hg2 3
                 have g4 := cell_of hg2 4
                 have z4 := frozen_of hg2 4
                 have HR2 := hide hR2
                 have HD2 := hide hB2
                 have HB3 := hide hb3
                 clear hR2 hB2 hg2 hb3 f0 f1 f2 f3 f4 z3 tok))
            | (at_builtin
               have tok := HD2
               (
                 refine wpl_pushS E42 (by decide) rfl (.tmp 45) (.tmp 47) rfl (own_chain HOj.out (chain_below HD1.out HD2.out)) _ _ rfl rfl rfl (by intro u hu; simp only [List.mem_cons, List.not_mem_nil, or_false] at hu; rcases hu with rfl | rfl | rfl | rfl | rfl <;> rfl) (by simp [World.setCell]) (by have := HBj.out.size; have := (chain_below (i2 := 4) (u2 := .slice qb x.tries.length qd) HD1.out HD2.out).size; simp [World.setCell] at this; omega) (by omega) ?_
                 intro v6 w6 hO6 hG6
                 have hO5 := own_chain HOj.out (chain_below (i2 := 4) (u2 := .slice qb x.tries.length qd) HD1.out HD2.out)
                 have HO6 := hide hO6
                 have HG6 := hide hG6
                 have HO5 := hide hO5
                 clear hO6 hG6 hO5 g0 g1 g2 g3 g4 z4 tok))
            | fail)
          have hS1 : ¬ S1 48 := by decide
          have hSh : ¬ Sh 48 := by decide
          have hC := chain_below (i2 := 4) (u2 := .slice qb x.tries.length qd) HD1.out HD2.out
          have hal := World.ownsRow.alloc HO5.out (.cells #[.int .i64 x.id, .int .i64 x.chunk, .int .i64 x.pc, .slice qa x.regs.length qc, .slice qb x.tries.length qd] 48)
          have t5 : Tp S1 _ w6 := (tp_alloc _ _).trans (Tp.grown hal hS1 HG6.out)
          have t4 : Tp S1 w4 w6 := (Tp.set HG2.out hS1 _).trans t5
          have t3 : Tp S1 w3 w6 := ((Tp.set HG1.out hS1 _).trans (Tp.below HD2.out)).trans t4
          have tr : Tp S1 wr w6 := (Tp.below hC).trans t5
          have th : Tp Sh wr w6 := ((Tp.below hC).trans (tp_alloc _ _)).trans (Tp.grown hal hSh HG6.out)
          have hb6 : Below wo.heap.size wo w6 := (((HBj.out.trans (hC.mono hzi)).alloc (by have := hC.size; omega) _).grown HG6.out (by have := hC.size; simp at this ⊢; omega) (fun k hk => (hal.lt k hk).1))
          refine ⟨⟨j + 1, _, by omega, by go_num, HO6.out, ?_, hb6, HTj.out.trans th⟩, by simp [intOf]; omega⟩
          rw [List.take_succ_eq_append_getElem hj2, HX.out]
          refine ListV.snoc (HLj.out.keep fun cs y => FrV.keep (Or.inl rfl) (Or.inr rfl) tr cs y) rfl ?_
          exact ⟨_, _, rfl, HWf.out.1, HWf.out.2.1, HWf.out.2.2, HR1.out.keep (Ts.pair (Or.inl rfl) _ _) (Or.inl rfl) t3, HR2.out.keep (Ts.pair (Or.inr rfl) _ _) (Or.inr rfl) t4⟩
          --O>
        · obtain rfl : j = s.threads[k].frames.length := by omega
          obtain ⟨va, vc, rfl⟩ := own_formS HOj.out
          have hLf : ListV 5 FrV wr ys s.threads[k].frames := by
            have := HLj.out
            rw [List.take_length] at this
            exact this
          have HRow := hide (rowT_of HOj.out hLf (by omega))
          have d1 := cell_of HKH.out 1
          have d2 := cell_of HKH.out 2
          have y0 := frozen_of HKH.out 0
          have hbt := below_block HBj.out HB2.out
          have q0 : ∀ u, (wr.setCell ⟨wo.heap.size, 0, none⟩ u).cell? ⟨w.heap.size + 1 + 1, 0, none⟩ = some v := fun u => by
            rw [cell_of ((Tp.set (S := fun t => t = 33) HKH.out (by decide) u) _ _ _ _ hbt rfl)]; rfl
          have HBT := hide hbt
          clear hLf hbt
          go_wp2_with (first
            | (at_builtin
               (
                 refine wpl_pushS E22 (by decide) rfl (.tmp 52) (.tmp 54) rfl (own_chain HOk.out (HBj.out.setCell (p := ⟨wo.heap.size, 0, none⟩) (Nat.le_refl _) (.slice va s.threads[k].frames.length vc))) _ _ rfl rfl rfl (by intro u hu; simp only [List.mem_cons, List.not_mem_nil, or_false] at hu; rcases hu with rfl | rfl | rfl <;> rfl) (by simp [World.setCell]) (by omega) (by omega) ?_
                 intro v7 w7 hO7 hG7
                 have hO5 := own_chain HOk.out (HBj.out.setCell (p := ⟨wo.heap.size, 0, none⟩) (Nat.le_refl _) (.slice va s.threads[k].frames.length vc))
                 obtain ⟨za, zc, rfl⟩ := own_formS hO7
                 have hal := World.ownsRow.alloc hO5 (.cells #[.slice va s.threads[k].frames.length vc, .int .u8 s.threads[k].rk, .int .i64 s.threads[k].rn] 44)
                 have t33 : Tp (fun t => t = 33) wr w7 := ((Tp.set HKH.out (by decide) _).trans (tp_alloc _ _)).trans (Tp.grown hal (by decide) hG7)
                 have hbt7 := t33 _ _ _ _ HBT.out rfl
                 have p0 := cell_of hbt7 0
                 have y7 := frozen_of hbt7 0
                 have HO7 := hide hO7
                 have HG7 := hide hG7
                 have HAL := hide hal
                 have HT33 := hide t33
                 have HBT7 := hide hbt7
                 clear hO7 hG7 hO5 hal t33 hbt7 d0 d1 d2 y0 q0))
            | fail)
          have tset : ∀ S : TypeId → Prop, ¬ S 33 → Tp S w7 (w7.setCell ⟨w.heap.size + 1 + 1, 0, none⟩ (.slice za (k + 1) zc)) := fun S h => Tp.set HBT7.out h _
          have t2 : Tp S2 wr (w7.setCell ⟨w.heap.size + 1 + 1, 0, none⟩ (.slice za (k + 1) zc)) := (((Tp.set HKH.out (by decide) _).trans (tp_alloc _ _)).trans (Tp.grown HAL.out (by decide) HG7.out)).trans (tset _ (by decide))
          have hb7 : Below w.heap.size w (w7.setCell ⟨w.heap.size + 1 + 1, 0, none⟩ (.slice za (k + 1) zc)) := by
            have e1 := H0i.out.setCell (p := ⟨wo.heap.size, 0, none⟩) (by show w.heap.size ≤ wo.heap.size; omega) (.slice va s.threads[k].frames.length vc)
            have e2 := e1.alloc e1.size (.cells #[.slice va s.threads[k].frames.length vc, .int .u8 s.threads[k].rk, .int .i64 s.threads[k].rn] 44)
            exact (e2.grown HG7.out e2.size (fun q hq => (HAL.out.lt q hq).1)).setCell (p := ⟨w.heap.size + 1 + 1, 0, none⟩) (by show w.heap.size ≤ w.heap.size + 1 + 1; omega) _
          have hbx : ∀ g cs, g ≠ w.heap.size + 1 + 1 → wo.heap[g]? = some (.cells cs 33 (0, 0)) → (w7.setCell ⟨w.heap.size + 1 + 1, 0, none⟩ (.slice za (k + 1) zc)).heap[g]? = some (.cells cs 33 (0, 0)) := fun g cs hne hg => by
            rw [Below.heap_setCell _ _ _ _ hne]
            exact HT33.out _ _ _ _ (below_block HBj.out hg) rfl
          refine ⟨⟨k + 1, .slice za (k + 1) zc, _, by omega, by go_num, hbx _ _ (by omega) HB0.out, hbx _ _ (by omega) HB1.out, ?_, own_tp (S := fun t => t = 44) HO7.out (tset _ (by decide)) rfl, ?_, hb7⟩, by simp [intOf]; omega⟩
          · have := set_cells HBT7.out 0 (.slice za (k + 1) zc)
            exact this
          · rw [List.take_succ_eq_append_getElem hlt]
            refine ListV.snoc (HLk.out.keep fun cs y => ThV.keep (Or.inl rfl) (Or.inr (Or.inl rfl)) (Or.inr (Or.inr rfl)) ((Tp.below HBj.out).trans t2) cs y) rfl ?_
            exact ⟨_, rfl, HWt.out.1, HWt.out.2, HRow.out.keep (FrV.ts (Or.inl rfl) (Or.inr (Or.inl rfl)) (Or.inr (Or.inr rfl))) (Or.inr (Or.inr rfl)) t2⟩
      --P>
    · obtain rfl : k = s.threads.length := by omega
      have hL0 : ListV 3 ThV wo xs s.threads := by
        have := HLk.out
        rw [List.take_length] at this
        exact this
      have hRT := rowT_of HOk.out hL0 (by omega)
      obtain ⟨vta, vtc, rfl⟩ := own_formS HOk.out
      have b1 := cell_of HB2.out 1
      have z1 := frozen_of HB2.out 1
      go_wp2_with fail
      have tq : ∀ S : TypeId → Prop, ¬ S 33 → Tp S wo (wo.setCell ⟨w.heap.size + 1 + 1, 1, none⟩ (.slice none 0 0)) := fun S h => Tp.set HB2.out h _
      have HRT := hide (hRT.keep (S := S3) (ThV.ts (Or.inl rfl) (Or.inr (Or.inl rfl)) (Or.inr (Or.inr (Or.inl rfl))) (Or.inr (Or.inr (Or.inr rfl)))) (Or.inr (Or.inr (Or.inr rfl))) (tq S3 (by decide)))
      have HC0 : Hid ((wo.setCell ⟨w.heap.size + 1 + 1, 1, none⟩ (.slice none 0 0)).heap[w.heap.size]? = some (.cells (sC s (.slice ta s.threads.length tc) (.slice oa s.objects.length oc) (.slice ua s.outcome.out.length uc)) 33 (0, 0))) := (Below.heap_setCell _ _ _ _ (show w.heap.size ≠ w.heap.size + 1 + 1 by omega)).trans HB0.out
      have HC1 : Hid ((wo.setCell ⟨w.heap.size + 1 + 1, 1, none⟩ (.slice none 0 0)).heap[w.heap.size + 1]? = some (.cells zC 33 (0, 0))) := (Below.heap_setCell _ _ _ _ (show w.heap.size + 1 ≠ w.heap.size + 1 + 1 by omega)).trans HB1.out
      have HC2 : Hid ((wo.setCell ⟨w.heap.size + 1 + 1, 1, none⟩ (.slice none 0 0)).heap[w.heap.size + 1 + 1]? = some (.cells (sC s (.slice vta s.threads.length vtc) (.slice none 0 0) (.slice ua s.outcome.out.length uc)) 33 (0, 0))) := set_cells HB2.out 1 (.slice none 0 0)
      have HD : Hid (Below w.heap.size w (wo.setCell ⟨w.heap.size + 1 + 1, 1, none⟩ (.slice none 0 0))) := H0o.out.setCell (p := ⟨w.heap.size + 1 + 1, 1, none⟩) (by show w.heap.size ≤ w.heap.size + 1 + 1; omega) _
      clear hRT hL0 b0 b1 z1 tq HB0 HB1 HB2 HOk HLk H0o hzo
      generalize wo.setCell ⟨w.heap.size + 1 + 1, 1, none⟩ (.slice none 0 0) = wp at *
      go_loopw [9] (fun i wr => ∃ (k : Nat) (v : Value) (xs : List Value), k ≤ s.objects.length ∧ i = .int .i64 (k : Int) ∧ wr.heap[w.heap.size]? = some (.cells (sC s (.slice ta s.threads.length tc) (.slice oa s.objects.length oc) (.slice ua s.outcome.out.length uc)) 33 (0, 0)) ∧ wr.heap[w.heap.size + 1]? = some (.cells zC 33 (0, 0)) ∧
        wr.heap[w.heap.size + 1 + 1]? = some (.cells (sC s (.slice vta s.threads.length vtc) v (.slice ua s.outcome.out.length uc)) 33 (0, 0)) ∧ wr.ownsRow w.heap.size 50 3 v k xs ∧ ListV 3 ObV wr xs (s.objects.take k) ∧ RowT 44 3 (AtOf 3 ThV) wr (.slice vta s.threads.length vtc) s.threads ∧ Below w.heap.size w wr) (fun i _ => s.objects.length - (intOf i).toNat)
      case atStart => exact ⟨0, .slice none 0 0, [], by omega, rfl, HC0.out, HC1.out, HC2.out, World.ownsRow_nil _ _ _ _, ListV.nil _ _ _, HRT.out, HD.out⟩
      case round =>
        obtain ⟨k, v, xs, hk, rfl, hb0, hb1, hb2, hO, hL, hR, hB⟩ := hrel
        have b0 := cell_of hb0 1
        have HB0 := hide hb0
        have HB1 := hide hb1
        have HB2 := hide hb2
        have HOk := hide hO
        have HLk := hide hL
        have HRk := hide hR
        have H0o := hide hB
        have hzo : w.heap.size + 1 + 1 < wr.heap.size := block_lt hb2
        clear hb0 hb1 hb2 hO hL hR hB HC0 HC1 HC2 HRT HD
        by_cases hlt2 : k < s.objects.length
        ·
          --O<
          have h64 : (k : Int) < (s.objects.length : Int) := by omega
          obtain ⟨b, o, rfl, hP⟩ := HO.out k hlt2
          obtain ⟨vc', c1, c2, c3, hr⟩ := ob_now H0o.out hP
          have HWo : Hid (WfI .i64 s.objects[k].chunk ∧ WfI .i64 s.objects[k].owner) := by
            obtain ⟨_, q1, _, q2, _⟩ := hP
            exact ⟨q1.2, q2.2⟩
          obtain ⟨ca, cc, rfl⟩ := hr.slice
          have HR := hide hr
          have hstep := flatMap_step_le serOb s.objects k hlt2
          have hser : (serOb s.objects[k]).length = 3 + 2 * s.objects[k].cells.length := by simp only [serOb, List.length_append, List.length_cons, List.length_nil, serPs_len]; omega
          clear hP hr
          go_wp2_with (first
            | (at_builtin
               (
                 refine wpl_clone E45 (by decide) rfl (.const (.slice none 0 0)) (.tmp 71) rfl (HR.out.below (PairAt.keeps _ _) (H0o.out.alloc H0o.out.size _)) rfl rfl (by omega) (pc .u8 .i64) pair_cell pair_back ?_
                 rintro v1 w3 hR1 hB1 ⟨qa, qc, rfl⟩
                 have hg1 := below_block hB1 (new_block wr _)
                 have HG1 := hide hg1
                 have f0 := cell_of hg1 0
                 have f1 := cell_of hg1 1
                 have f2 := cell_of hg1 2
                 have z3 := frozen_of hg1 1
                 have q0 : ∀ u, (w3.setCell ⟨wr.heap.size, 1, none⟩ u).cell? ⟨w.heap.size + 1 + 1, 1, none⟩ = some v := fun u => by
                   have hb := below_block hB1 (old_block HB2.out _)
                   rw [cell_of ((Tp.set (S := fun t => t = 33) hg1 (by decide) u) _ _ _ _ hb rfl)]; rfl
                 have HR1 := hide hR1
                 have HD1 := hide hB1
                 clear hR1 hB1 hg1 c1 c2 c3 b0))
            | (at_builtin
               have tok := HD1
               (
                 refine wpl_pushS E23 (by decide) rfl (.tmp 75) (.tmp 77) rfl (own_chain HOk.out (chain_one HD1.out)) _ _ rfl rfl rfl (by intro u hu; simp only [List.mem_cons, List.not_mem_nil, or_false] at hu; rcases hu with rfl | rfl | rfl <;> rfl) (by simp [World.setCell]) (by have := (chain_one (i1 := 1) (u1 := .slice qa s.objects[k].cells.length qc) HD1.out).size; simp [World.setCell] at this; omega) (by omega) ?_
                 intro v7 w7 hO7 hG7
                 have hO5 := own_chain HOk.out (chain_one (i1 := 1) (u1 := .slice qa s.objects[k].cells.length qc) HD1.out)
                 obtain ⟨za, zc, rfl⟩ := own_formS hO7
                 have hal := World.ownsRow.alloc hO5 (.cells #[.int .i64 s.objects[k].chunk, .slice qa s.objects[k].cells.length qc, .int .i64 s.objects[k].owner] 50)
                 have t33 : Tp (fun t => t = 33) wr w7 := ((Tp.below (chain_one (i1 := 1) (u1 := .slice qa s.objects[k].cells.length qc) HD1.out)).trans (tp_alloc _ _)).trans (Tp.grown hal (by decide) hG7)
                 have hbt7 := t33 _ _ _ _ HB2.out rfl
                 have p0 := cell_of hbt7 1
                 have y7 := frozen_of hbt7 1
                 have HO7 := hide hO7
                 have HG7 := hide hG7
                 have HAL := hide hal
                 have HT33 := hide t33
                 have HBT7 := hide hbt7
                 clear hO7 hG7 hO5 hal t33 hbt7 f0 f1 f2 z3 q0 tok))
            | fail)
          have tset : ∀ S : TypeId → Prop, ¬ S 33 → Tp S w7 (w7.setCell ⟨w.heap.size + 1 + 1, 1, none⟩ (.slice za (k + 1) zc)) := fun S h => Tp.set HBT7.out h _
          have hC := chain_one (i1 := 1) (u1 := .slice qa s.objects[k].cells.length qc) HD1.out
          have t7 : Tp S3 wr (w7.setCell ⟨w.heap.size + 1 + 1, 1, none⟩ (.slice za (k + 1) zc)) := (((Tp.below hC).trans (tp_alloc _ _)).trans (Tp.grown HAL.out (by decide) HG7.out)).trans (tset _ (by decide))
          have t1 : Tp S1 w3 (w7.setCell ⟨w.heap.size + 1 + 1, 1, none⟩ (.slice za (k + 1) zc)) := (((Tp.set HG1.out (by decide) _).trans (tp_alloc _ _)).trans (Tp.grown HAL.out (by decide) HG7.out)).trans (tset _ (by decide))
          have hb7 : Below w.heap.size w (w7.setCell ⟨w.heap.size + 1 + 1, 1, none⟩ (.slice za (k + 1) zc)) := by
            have e1 := H0o.out.trans (hC.mono (by omega : w.heap.size ≤ wr.heap.size))
            have e2 := e1.alloc e1.size (.cells #[.int .i64 s.objects[k].chunk, .slice qa s.objects[k].cells.length qc, .int .i64 s.objects[k].owner] 50)
            exact (e2.grown HG7.out e2.size (fun q hq => (HAL.out.lt q hq).1)).setCell (p := ⟨w.heap.size + 1 + 1, 1, none⟩) (by show w.heap.size ≤ w.heap.size + 1 + 1; omega) _
          have hbx : ∀ g cs, g ≠ w.heap.size + 1 + 1 → wr.heap[g]? = some (.cells cs 33 (0, 0)) → (w7.setCell ⟨w.heap.size + 1 + 1, 1, none⟩ (.slice za (k + 1) zc)).heap[g]? = some (.cells cs 33 (0, 0)) := fun g cs hne hg => by
            rw [Below.heap_setCell _ _ _ _ hne]
            exact HT33.out _ _ _ _ hg rfl
          refine ⟨⟨k + 1, .slice za (k + 1) zc, _, by omega, by go_num, hbx _ _ (by omega) HB0.out, hbx _ _ (by omega) HB1.out, ?_, own_tp (S := fun t => t = 50) HO7.out (tset _ (by decide)) rfl, ?_, ?_, hb7⟩, by simp [intOf]; omega⟩
          · have := set_cells HBT7.out 1 (.slice za (k + 1) zc)
            exact this
          · rw [List.take_succ_eq_append_getElem hlt2]
            refine ListV.snoc (HLk.out.keep fun cs y => ObV.keep (Or.inl rfl) t7 cs y) rfl ?_
            exact ⟨_, rfl, HWo.out.1, HWo.out.2, HR1.out.keep (Ts.pair (Or.inl rfl) _ _) (Or.inl rfl) t1⟩
          · exact HRk.out.keep (S := S3) (ThV.ts (Or.inl rfl) (Or.inr (Or.inl rfl)) (Or.inr (Or.inr (Or.inl rfl))) (Or.inr (Or.inr (Or.inr rfl)))) (Or.inr (Or.inr (Or.inr rfl))) t7
          --O>
        · obtain rfl : k = s.objects.length := by omega
          have hL0 : ListV 3 ObV wr xs s.objects := by
            have := HLk.out
            rw [List.take_length] at this
            exact this
          have HRO := hide (rowT_of HOk.out hL0 (by omega))
          obtain ⟨voa, voc, rfl⟩ := own_formS HOk.out
          have b10 := cell_of HB0.out 10
          clear hL0
          go_wp2_with (first
            | (at_builtin
               (
                 refine wpl_clone E29' (by decide) rfl (.const (.slice none 0 0)) (.tmp 82) rfl (RowAt.below (NumAt.keeps _) H0o.out ⟨ua, uc, rfl, hul, HU.out⟩) rfl rfl (by omega) (fun x => [.int .i64 x]) num_cell num_back ?_
                 rintro v1 w3 hR1 hB1 ⟨qa, qc, rfl⟩
                 have hbt := below_block hB1 HB2.out
                 have hbr := below_block hB1 HB1.out
                 clear b10 b0
                 have b0 := cell_of hbt 0
                 have b1 := cell_of hbt 1
                 have b2 := cell_of hbt 2
                 have b3 := cell_of hbt 3
                 have b4 := cell_of hbt 4
                 have b5 := cell_of hbt 5
                 have b6 := cell_of hbt 6
                 have b7 := cell_of hbt 7
                 have b8 := cell_of hbt 8
                 have b9 := cell_of hbt 9
                 have b10 := cell_of hbt 10
                 have b11 := cell_of hbt 11
                 have z10 := frozen_of hbt 10
                 have r0 := cell_of hbr 0
                 have y0 := frozen_of hbr 0
                 have r1 := cell_of hbr 1
                 have y1 := frozen_of hbr 1
                 have r2 := cell_of hbr 2
                 have y2 := frozen_of hbr 2
                 have r3 := cell_of hbr 3
                 have y3 := frozen_of hbr 3
                 have r4 := cell_of hbr 4
                 have y4 := frozen_of hbr 4
                 have r5 := cell_of hbr 5
                 have y5 := frozen_of hbr 5
                 have r6 := cell_of hbr 6
                 have y6 := frozen_of hbr 6
                 have r7 := cell_of hbr 7
                 have y7 := frozen_of hbr 7
                 have r8 := cell_of hbr 8
                 have y8 := frozen_of hbr 8
                 have r9 := cell_of hbr 9
                 have y9 := frozen_of hbr 9
                 have r10 := cell_of hbr 10
                 have y10 := frozen_of hbr 10
                 have r11 := cell_of hbr 11
                 have y11 := frozen_of hbr 11
                 have HR1 := hide hR1
                 have HD1 := hide hB1
                 have HBT := hide hbt
                 have HBR := hide hbr
                 clear hR1 hB1 hbt hbr))
            | fail)
          have hbr2 : (w3.setCell ⟨w.heap.size + 1 + 1, 10, none⟩ (.slice qa s.outcome.out.length qc)).heap[w.heap.size + 1]? = some (.cells zC 33 (0, 0)) := (Below.heap_setCell _ _ _ _ (show w.heap.size + 1 ≠ w.heap.size + 1 + 1 by omega)).trans HBR.out
          have tw : ∀ S : TypeId → Prop, ¬ S 33 → Tp S w3 (sets (w.heap.size + 1) [(0, Value.slice vta s.threads.length vtc), (1, Value.slice voa s.objects.length voc), (2, Value.int .i64 s.inputs), (3, Value.int .i64 s.clocks), (4, Value.int .i64 s.frames), (5, Value.int .u8 s.outcome.fin), (6, Value.int .u8 s.outcome.fault), (7, Value.int .i64 s.outcome.line), (8, Value.int .u8 s.outcome.vk), (9, Value.int .i64 s.outcome.vn), (10, Value.slice qa s.outcome.out.length qc), (11, Value.int .i64 s.outcome.steps)] (w3.setCell ⟨w.heap.size + 1 + 1, 10, none⟩ (.slice qa s.outcome.out.length qc))) := fun S h => (Tp.set HBT.out h _).trans (tp_sets h _ hbr2)
          have hbw : Below w.heap.size w (sets (w.heap.size + 1) [(0, Value.slice vta s.threads.length vtc), (1, Value.slice voa s.objects.length voc), (2, Value.int .i64 s.inputs), (3, Value.int .i64 s.clocks), (4, Value.int .i64 s.frames), (5, Value.int .u8 s.outcome.fin), (6, Value.int .u8 s.outcome.fault), (7, Value.int .i64 s.outcome.line), (8, Value.int .u8 s.outcome.vk), (9, Value.int .i64 s.outcome.vn), (10, Value.slice qa s.outcome.out.length qc), (11, Value.int .i64 s.outcome.steps)] (w3.setCell ⟨w.heap.size + 1 + 1, 10, none⟩ (.slice qa s.outcome.out.length qc))) := by
            have e1 := H0o.out.trans (HD1.out.mono (by omega : w.heap.size ≤ wr.heap.size))
            exact below_sets (by omega) _ (e1.setCell (p := ⟨w.heap.size + 1 + 1, 10, none⟩) (by show w.heap.size ≤ w.heap.size + 1 + 1; omega) _)
          have rt := HRk.out.keep (S := S3) (ThV.ts (Or.inl rfl) (Or.inr (Or.inl rfl)) (Or.inr (Or.inr (Or.inl rfl))) (Or.inr (Or.inr (Or.inr rfl)))) (Or.inr (Or.inr (Or.inr rfl))) ((Tp.below HD1.out).trans (tw S3 (by decide)))
          have ro := HRO.out.keep (S := fun t => t = 28 ∨ t = 50) (ObV.ts (Or.inl rfl) (Or.inr rfl)) (Or.inr rfl) ((Tp.below HD1.out).trans (tw _ (by decide)))
          have ru := HR1.out.keep (S := fun t => t = 2) (Ts.num (S := fun t => t = 2) rfl _) rfl (tw _ (by decide))
          have hblk : (sets (w.heap.size + 1) [(0, Value.slice vta s.threads.length vtc), (1, Value.slice voa s.objects.length voc), (2, Value.int .i64 s.inputs), (3, Value.int .i64 s.clocks), (4, Value.int .i64 s.frames), (5, Value.int .u8 s.outcome.fin), (6, Value.int .u8 s.outcome.fault), (7, Value.int .i64 s.outcome.line), (8, Value.int .u8 s.outcome.vk), (9, Value.int .i64 s.outcome.vn), (10, Value.slice qa s.outcome.out.length qc), (11, Value.int .i64 s.outcome.steps)] (w3.setCell ⟨w.heap.size + 1 + 1, 10, none⟩ (.slice qa s.outcome.out.length qc))).heap[w.heap.size + 1]? = some (.cells #[.slice vta s.threads.length vtc, .slice voa s.objects.length voc, .int .i64 s.inputs, .int .i64 s.clocks, .int .i64 s.frames, .int .u8 s.outcome.fin, .int .u8 s.outcome.fault, .int .i64 s.outcome.line, .int .u8 s.outcome.vk, .int .i64 s.outcome.vn, .slice qa s.outcome.out.length qc, .int .i64 s.outcome.steps] 33 (0, 0)) := by
            rw [sets_block _ hbr2]
            simp
          change bodyPost _ _ _ _ _ (sets (w.heap.size + 1) [(0, Value.slice vta s.threads.length vtc), (1, Value.slice voa s.objects.length voc), (2, Value.int .i64 s.inputs), (3, Value.int .i64 s.clocks), (4, Value.int .i64 s.frames), (5, Value.int .u8 s.outcome.fin), (6, Value.int .u8 s.outcome.fault), (7, Value.int .i64 s.outcome.line), (8, Value.int .u8 s.outcome.vk), (9, Value.int .i64 s.outcome.vn), (10, Value.slice qa s.outcome.out.length qc), (11, Value.int .i64 s.outcome.steps)] (w3.setCell ⟨w.heap.size + 1 + 1, 10, none⟩ (.slice qa s.outcome.out.length qc)))
          generalize sets (w.heap.size + 1) [(0, Value.slice vta s.threads.length vtc), (1, Value.slice voa s.objects.length voc), (2, Value.int .i64 s.inputs), (3, Value.int .i64 s.clocks), (4, Value.int .i64 s.frames), (5, Value.int .u8 s.outcome.fin), (6, Value.int .u8 s.outcome.fault), (7, Value.int .i64 s.outcome.line), (8, Value.int .u8 s.outcome.vk), (9, Value.int .i64 s.outcome.vn), (10, Value.slice qa s.outcome.out.length qc), (11, Value.int .i64 s.outcome.steps)] (w3.setCell ⟨w.heap.size + 1 + 1, 10, none⟩ (.slice qa s.outcome.out.length qc)) = W at *
          have k0 := cell_of hblk 0
          have k1 := cell_of hblk 1
          have k2 := cell_of hblk 2
          have k3 := cell_of hblk 3
          have k4 := cell_of hblk 4
          have k5 := cell_of hblk 5
          have k6 := cell_of hblk 6
          have k7 := cell_of hblk 7
          have k8 := cell_of hblk 8
          have k9 := cell_of hblk 9
          have k10 := cell_of hblk 10
          have k11 := cell_of hblk 11
          clear b0 b1 b2 b3 b4 b5 b6 b7 b8 b9 b10 b11 r0 r1 r2 r3 r4 r5 r6 r7 r8 r9 r10 r11 y0 y1 y2 y3 y4 y5 y6 y7 y8 y9 y10 y11 z10
          refine bodyPost_ret (v := .agg #[.slice vta s.threads.length vtc, .slice voa s.objects.length voc, .int .i64 s.inputs, .int .i64 s.clocks, .int .i64 s.frames, .int .u8 s.outcome.fin, .int .u8 s.outcome.fault, .int .i64 s.outcome.line, .int .u8 s.outcome.vk, .int .i64 s.outcome.vn, .slice qa s.outcome.out.length qc, .int .i64 s.outcome.steps]) (by simp [results, Tryz.results6, go_sem, k0, k1, k2, k3, k4, k5, k6, k7, k8, k9, k10, k11]) rfl ?_
          obtain ⟨i1, i2, i3, i4, i5, i6, i7, i8, i9⟩ := HW.out
          exact ⟨[.slice vta s.threads.length vtc, .slice voa s.objects.length voc, .int .i64 s.inputs, .int .i64 s.clocks, .int .i64 s.frames, .int .u8 s.outcome.fin, .int .u8 s.outcome.fault, .int .i64 s.outcome.line, .int .u8 s.outcome.vk, .int .i64 s.outcome.vn, .slice qa s.outcome.out.length qc, .int .i64 s.outcome.steps], rfl, ⟨_, _, _, rfl, row_map (fun _ _ _ => th_back) rt.1, row_map (fun _ _ _ => ob_back) ro.1, i1, i2, i3, _, rfl, ru.1, i4, i5, i6, i7, i8, i9⟩, hbw⟩
end Go.Proofs.YtgfiociglimoaaaGreatDoor.Ms
