import Derived.Test.YtgfiociglimoaaaGreatDoorMsK
import Derived.Test.YtgfiociglimoaaaGreatDoorIlB
import Derived.IntWalk
set_option maxRecDepth 100000
namespace Go.Proofs.YtgfiociglimoaaaGreatDoor.Ms
open Go Go.Ms Go.Il Go.Pg Go.ChangeShapes Go.WideShapes Go.ChangeAt Go.RowKit Go.Deep

theorem E29 : IntElem Tryz.prog 29 2 .i64 8 := IntElem.mk Tryz.underlying29 (by kernel_rfl)
theorem E37 : IntElem Tryz.prog 37 5 .u8 1 := IntElem.mk Tryz.underlying37 (by kernel_rfl)
theorem Own.drew {e : TypeId} {k : IntKind} {B : Nat} {w : World} {v : Value} {l : List Int} (h : Own e k B w v l) : Own e k B w.drew v l := h
theorem un_drew {e : TypeId} {B : Nat} {w w' : World} (h : Stp e B w.drew w') : Stp e B w w' := ((Stp.refl e B w).drew).trans h

theorem wrap_u64 (n : Int) : IntKind.u64.wrap n = n % 18446744073709551616 := by simp [IntKind.wrap, IntKind.signed, IntKind.bits]
theorem wrap_u8 (n : Int) : IntKind.u8.wrap n = n % 256 := by simp [IntKind.wrap, IntKind.signed, IntKind.bits]
theorem div_bd {X : Int} (h : 0 ≤ X ∧ X ≤ 18446744073709551615) (q : Nat) : 0 ≤ X / 256 ^ q ∧ X / 256 ^ q ≤ 18446744073709551615 := by
  have hp : (0 : Int) < 256 ^ q := Int.pow_pos (by omega)
  exact ⟨Int.ediv_nonneg h.1 (by omega), Int.le_trans (Int.ediv_le_self _ h.1) h.2⟩
theorem div_div (X : Int) (q : Nat) : X / 256 ^ q / 256 = X / 256 ^ (q + 1) := by
  have hp : (0 : Int) ≤ 256 ^ q := Int.le_of_lt (Int.pow_pos (by omega))
  rw [Int.pow_succ]
  first
    | rw [Int.ediv_ediv hp]
    | rw [Int.ediv_ediv_eq_ediv_mul _ hp]
    | rw [Int.ediv_ediv_of_nonneg hp]
theorem byte64 (N : Int) (q : Nat) (h : q < 8) : (N % 18446744073709551616) / 256 ^ q % 256 = N / 256 ^ q % 256 := by
  match q, h with
  | 0, _ | 1, _ | 2, _ | 3, _ | 4, _ | 5, _ | 6, _ | 7, _ => simp; try omega

set_option maxHeartbeats 100000000 in
theorem refBytes {s : St} {cells : List Value} {w : World} (h : StAt w cells s) (hp : (ser s).length ≤ 90000) : Calls Tryz.prog 8 #[.agg cells.toArray] w (RetBytes w (stBytes s)) := by
  obtain ⟨vt, vo, l', rfl, ht, ho, hi1, hi2, hi3, vu, rfl, hu, hw1, hw2, hw3, hw4, hw5, hw6⟩ := h
  obtain ⟨ta, tc, rfl, htl, ht⟩ := ht
  obtain ⟨oa, oc, rfl, hol, ho⟩ := ho
  obtain ⟨ua, uc, rfl, hul, hu⟩ := hu
  have HP := hide hp
  have HT := hide ht
  have HO := hide ho
  have HU := hide hu
  obtain ⟨x0, x1⟩ := wf_u8 hw1
  obtain ⟨x2, x3⟩ := wf_u8 hw2
  obtain ⟨x4, x5⟩ := wf_u8 hw4
  have hN : 1 + (s.threads.flatMap serTh).length + 1 + (s.objects.flatMap serOb).length + 3 + (serOc s.outcome).length ≤ 90000 := by
    simp only [ser, List.length_append, List.length_cons, List.length_nil] at hp; omega
  clear ht ho hu hi1 hi2 hi3 hw1 hw2 hw3 hw4 hw5 hw6 hp
  go_enter Tryz.func8, Tryz.ntmps8
  go_wp2_with (first
    | (at_builtin
       (
         refine wpl_push E29 (by decide) rfl (.tmp 18) (.tmp 22) rfl (Own.nil 2 .i64 w.heap.size _) _ _ [(s.threads.length : Int)] _ _ rfl rfl rfl rfl (by simp) (by omega) (by simp) ?_
         intro v1 w1 ho1 hs1
         have HO1 : Hid (Own 2 .i64 w.heap.size w1 v1 [(s.threads.length : Int)]) := ho1
         have HK1 := hide (hs1.block (new_block w _) (by decide))
         have H01 : Hid (Below w.heap.size w w1) := (one w _).trans hs1.below
         clear ho1 hs1))
    | fail)
  go_loopw [3, 4] (fun v i wr => ∃ k : Nat, k ≤ s.threads.length ∧ i = .int .i64 (k : Int) ∧ Own 2 .i64 w.heap.size wr v ([(s.threads.length : Int)] ++ (s.threads.take k).flatMap serTh) ∧ Stp 2 w.heap.size w1 wr) (fun _ i _ => s.threads.length - (intOf i).toNat)
  case atStart => exact ⟨0, by omega, rfl, by simpa using HO1.out, Stp.refl _ _ _⟩
  case round =>
    obtain ⟨k, hk, rfl, hO, hS⟩ := hrel
    have HOr := hide hO
    have HS := hide hS
    have H0r := hide (H01.out.trans hS.below)
    have hz : w.heap.size ≤ wr.heap.size := H0r.out.size
    have b0 := cell_of (hS.block HK1.out (by decide)) 0
    clear hO hS HO1
    by_cases hlt : k < s.threads.length
    ·
      --O<
      have h64 : (k : Int) < (s.threads.length : Int) := by omega
      obtain ⟨b, o, rfl, hP⟩ := HT.out k hlt
      obtain ⟨vf, c1, c2, c3, hr, hw⟩ := thr_now H0r.out hP
      obtain ⟨fa, fc, rfl, hfl, hr⟩ := hr
      have HR := hide hr
      obtain ⟨y0, y1⟩ := wf_u8 hw
      have hstep := flatMap_step_le serTh s.threads k hlt
      have hser : (serTh s.threads[k]).length = 3 + (s.threads[k].frames.flatMap serFr).length := by simp only [serTh, List.length_append, List.length_cons, List.length_nil]; omega
      clear hP hr hw
      go_wp2_with (first
        | (at_builtin
           (
             refine wpl_push E29 (by decide) rfl (.tmp 36) (.tmp 40) rfl (HOr.out.alloc _) _ _ [(s.threads[k].frames.length : Int)] _ _ rfl rfl rfl rfl (by simp) (by omega) (by simp only [List.length_append, List.length_cons, List.length_nil]; omega) ?_
             intro v2 w2 ho2 hs2
             have HO2 := hide ho2
             have HK2 := hide (hs2.block (new_block wr _) (by decide))
             have HS2 := hide (((Stp.refl 2 w.heap.size wr).alloc hz _).trans hs2)
             clear ho2 hs2 b0 c1 c2 c3 HOr))
        | fail)
      go_loopw [3, 6] (fun v i wi => ∃ j : Nat, j ≤ s.threads[k].frames.length ∧ i = .int .i64 (j : Int) ∧ Own 2 .i64 w.heap.size wi v ([(s.threads.length : Int)] ++ (s.threads.take k).flatMap serTh ++ ([(s.threads[k].frames.length : Int)] ++ (s.threads[k].frames.take j).flatMap serFr)) ∧ Stp 2 w.heap.size w2 wi) (fun _ i _ => s.threads[k].frames.length - (intOf i).toNat)
      case atStart => exact ⟨0, by omega, rfl, by simpa using HO2.out, Stp.refl _ _ _⟩
      case round =>
        obtain ⟨j, hj, rfl, hO, hS⟩ := hrel
        have HOi := hide hO
        have HSi := hide hS
        have H0i := hide (H0r.out.trans (HS2.out.trans hS).below)
        have hzi : w.heap.size ≤ wr.heap.size := H0i.out.size
        have hkb := hS.block HK2.out (by decide)
        have b0 := cell_of hkb 0
        have b1 := cell_of hkb 1
        have b2 := cell_of hkb 2
        clear hO hS HO2 hkb
        by_cases hj2 : j < s.threads[k].frames.length
        · have h65 : (j : Int) < (s.threads[k].frames.length : Int) := by omega
          obtain ⟨fb, fo, rfl, hQ⟩ := HR.out j hj2
          obtain ⟨vr, vt, e0, e1, e2, e3, e4, hr1, hr2⟩ := fr_now H0i.out hQ
          obtain ⟨ra, rc, rfl, hrl, hr1⟩ := hr1
          obtain ⟨ya, yc, rfl, hyl, hr2⟩ := hr2
          have R1 := hide hr1
          have R2 := hide hr2
          have hfr := flatMap_step_le serFr s.threads[k].frames j hj2
          have hfs := serFr_len s.threads[k].frames[j]
          unfold partsFr at hfs
          clear hQ hr1 hr2
          generalize hx : s.threads[k].frames[j] = x at *
          have HX := hide hx
          clear hx
          go_wp2_with (first
            | (at_builtin
               (
                 refine wpl_push E29 (by decide) rfl (.tmp 54) (.tmp 64) rfl (HOi.out.alloc _) _ _ [x.id, x.chunk, x.pc, (x.regs.length : Int)] _ _ rfl rfl rfl rfl (by simp) (by omega) (by simp only [List.length_append, List.length_cons, List.length_nil]; omega) ?_
                 intro v3 w3 ho3 hs3
                 have HO3 := hide ho3
                 have HK3 := hide (hs3.block (new_block wr _) (by decide))
                 have HS3 := hide (((Stp.refl 2 w.heap.size wr).alloc hzi _).trans hs3)
                 clear ho3 hs3 b0 b1 b2 e0 e1 e2 e3 e4 HOi))
            | fail)
          have hML : ([(s.threads.length : Int)] ++ (s.threads.take k).flatMap serTh ++ ([(s.threads[k].frames.length : Int)] ++ (s.threads[k].frames.take j).flatMap serFr)).length + (serFr x).length ≤ 90000 := by
            simp only [List.length_append, List.length_cons, List.length_nil]; omega
          generalize hM : [(s.threads.length : Int)] ++ (s.threads.take k).flatMap serTh ++ ([(s.threads[k].frames.length : Int)] ++ (s.threads[k].frames.take j).flatMap serFr) = M at *
          have HM := hide hM
          have H03 := hide (H0i.out.trans HS3.out.below)
          clear hM
          go_loopw [3, 8] (fun v i wi => ∃ m : Nat, m ≤ x.regs.length ∧ i = .int .i64 (m : Int) ∧ Own 2 .i64 w.heap.size wi v (M ++ [x.id, x.chunk, x.pc, (x.regs.length : Int)] ++ serPs (x.regs.take m)) ∧ Stp 2 w.heap.size w3 wi) (fun _ i _ => x.regs.length - (intOf i).toNat)
          case atStart => exact ⟨0, by omega, rfl, by simpa [serPs] using HO3.out, Stp.refl _ _ _⟩
          case round =>
            obtain ⟨m, hm, rfl, hO, hS⟩ := hrel
            have HOm := hide hO
            have HSm := hide hS
            have H0m := hide (H03.out.trans hS.below)
            have hzm : w.heap.size ≤ wr.heap.size := H0m.out.size
            have hkb := hS.block HK3.out (by decide)
            have b3 := cell_of hkb 3
            have b4 := cell_of hkb 4
            clear hO hS HO3 hkb
            by_cases hm2 : m < x.regs.length
            · have h66 : (m : Int) < (x.regs.length : Int) := by omega
              obtain ⟨qb, qo, rfl, hQ⟩ := R1.out m hm2
              obtain ⟨e0, e1⟩ := pair_now H0m.out hQ
              obtain ⟨z0, z1⟩ := wf_u8 hQ.1.2
              clear hQ
              have hl4 : (M ++ [x.id, x.chunk, x.pc, (x.regs.length : Int)] ++ serPs (x.regs.take m)).length + [x.regs[m].1, x.regs[m].2].length ≤ 10000000 := by
                simp only [List.length_append, List.length_cons, List.length_nil, serPs_len, List.length_take]; omega
              have hwz : IntKind.i64.wrap x.regs[m].1 = x.regs[m].1 := IntWalk.i64_in _ (by omega)
              go_wp2_with fail
              --H<
              go_region_law ((
                refine step_push E29 (by decide) rfl (.tmp 73) (.tmp 87) rfl HOm.out.drew _ _ [x.regs[m].1, x.regs[m].2] _ _ rfl rfl rfl rfl rfl hzm hl4 rfl ?_
                intro v4 w4 ho4 hs4))
              all_goals
                have HO5 := hide ho4
                have HS5 := hide (un_drew hs4)
                clear ho4 hs4 hwz e0 e1 b3 b4
                go_wp2
                refine ⟨⟨m + 1, by omega, by go_num, ?_, HSm.out.trans HS5.out⟩, by simp [intOf]; omega⟩
                rw [serPs_take _ m hm2, ← List.append_assoc]
                exact HO5.out
              --H>
            · obtain rfl : m = x.regs.length := by omega
              have HOn : Hid (Own 2 .i64 w.heap.size wr u3 (M ++ ([x.id, x.chunk, x.pc, (x.regs.length : Int)] ++ serPs x.regs))) := by
                have := HOm.out
                rw [List.take_length, List.append_assoc] at this
                exact this
              have HK4 := hide (HSm.out.block HK3.out (by decide))
              clear HOm
              go_wp2_with (first
                | (at_builtin
                   (
                     refine wpl_push E29 (by decide) rfl (.tmp 89) (.tmp 93) rfl HOn.out _ _ [(x.tries.length : Int)] _ _ rfl rfl rfl rfl rfl hzm (by simp only [List.length_append, List.length_cons, List.length_nil, serPs_len]; omega) ?_
                     intro v5 w5 ho5 hs5
                     have HO5 := hide ho5
                     have HS5 := hide (HSm.out.trans hs5)
                     have HK5 := hide (hs5.block HK4.out (by decide))
                     clear ho5 hs5 HOn HK4 b3 b4))
                | fail)
              have H05 := hide (H03.out.trans HS5.out.below)
              have HM5 : Hid (Own 2 .i64 w.heap.size w5 v5 (M ++ ([x.id, x.chunk, x.pc, (x.regs.length : Int)] ++ serPs x.regs ++ [(x.tries.length : Int)]))) := by
                have := HO5.out
                rw [List.append_assoc] at this
                exact this
              clear HO5 HSm H0m hzm hm hm2 HK3 R1
              go_loopw [3, 9] (fun v i wi => ∃ m : Nat, m ≤ x.tries.length ∧ i = .int .i64 (m : Int) ∧ Own 2 .i64 w.heap.size wi v (M ++ ([x.id, x.chunk, x.pc, (x.regs.length : Int)] ++ serPs x.regs ++ [(x.tries.length : Int)]) ++ serPs (x.tries.take m)) ∧ Stp 2 w.heap.size w5 wi) (fun _ i _ => x.tries.length - (intOf i).toNat)
              case atStart => exact ⟨0, by omega, rfl, by simpa [serPs] using HM5.out, Stp.refl _ _ _⟩
              case round =>
                obtain ⟨m, hm, rfl, hO, hS⟩ := hrel
                have HOm := hide hO
                have HSm := hide hS
                have H0m := hide (H05.out.trans hS.below)
                have hzm : w.heap.size ≤ wr.heap.size := H0m.out.size
                have b4 := cell_of (hS.block HK5.out (by decide)) 4
                clear hO hS HM5
                by_cases hm2 : m < x.tries.length
                · have h66 : (m : Int) < (x.tries.length : Int) := by omega
                  obtain ⟨qb, qo, rfl, hQ⟩ := R2.out m hm2
                  obtain ⟨e0, e1⟩ := pair_now H0m.out hQ
                  clear hQ
                  have hl4 : (M ++ ([x.id, x.chunk, x.pc, (x.regs.length : Int)] ++ serPs x.regs ++ [(x.tries.length : Int)]) ++ serPs (x.tries.take m)).length + [x.tries[m].1, x.tries[m].2].length ≤ 10000000 := by
                    simp only [List.length_append, List.length_cons, List.length_nil, serPs_len, List.length_take]; omega
                  go_wp2_with fail
                  --H<
                  go_region_law ((
                    refine step_push E29 (by decide) rfl (.tmp 102) (.tmp 115) rfl HOm.out.drew _ _ [x.tries[m].1, x.tries[m].2] _ _ rfl rfl rfl rfl rfl hzm hl4 rfl ?_
                    intro v6 w6 ho6 hs6))
                  all_goals
                    have HO6 := hide ho6
                    have HS6 := hide (un_drew hs6)
                    clear ho6 hs6 e0 e1 b4
                    go_wp2
                    refine ⟨⟨m + 1, by omega, by go_num, ?_, HSm.out.trans HS6.out⟩, by simp [intOf]; omega⟩
                    rw [serPs_take _ m hm2, ← List.append_assoc]
                    exact HO6.out
                  --H>
                · obtain rfl : m = x.tries.length := by omega
                  go_wp2
                  refine ⟨⟨j + 1, by omega, by go_num, ?_, HSi.out.trans (HS3.out.trans (HS5.out.trans HSm.out))⟩, by simp [intOf]; omega⟩
                  have e : [(s.threads.length : Int)] ++ (s.threads.take k).flatMap serTh ++ ([(s.threads[k].frames.length : Int)] ++ (s.threads[k].frames.take (j + 1)).flatMap serFr) = M ++ ([x.id, x.chunk, x.pc, (x.regs.length : Int)] ++ serPs x.regs ++ [(x.tries.length : Int)]) ++ serPs (x.tries.take x.tries.length) := by
                    rw [flatMap_take serFr _ j hj2, HX.out, ← HM.out]; simp [serFr]
                  rw [e]
                  exact HOm.out
        · obtain rfl : j = s.threads[k].frames.length := by omega
          have HOn : Hid (Own 2 .i64 w.heap.size wr u3 ([(s.threads.length : Int)] ++ (s.threads.take k).flatMap serTh ++ ([(s.threads[k].frames.length : Int)] ++ s.threads[k].frames.flatMap serFr))) := by
            have := HOi.out
            rw [List.take_length] at this
            exact this
          clear HOi
          go_wp2_with (first
            | (at_builtin
               (
                 refine wpl_push E29 (by decide) rfl (.tmp 117) (.tmp 125) rfl HOn.out _ _ [s.threads[k].rk, s.threads[k].rn] _ _ rfl rfl rfl rfl rfl hzi (by simp only [List.length_append, List.length_cons, List.length_nil]; omega) ?_
                 intro v5 w5 ho5 hs5
                 have HO5 := hide ho5
                 have HS5 := hide (HSi.out.trans hs5)
                 clear ho5 hs5 HOn b0 b1 b2))
            | fail)
          refine ⟨⟨k + 1, by omega, by go_num, ?_, HS.out.trans (HS2.out.trans HS5.out)⟩, by simp [intOf]; omega⟩
          rw [flatMap_take serTh _ k hlt]
          simpa [serTh] using HO5.out
      --O>
    · obtain rfl : k = s.threads.length := by omega
      have HOn : Hid (Own 2 .i64 w.heap.size wr u3 ([(s.threads.length : Int)] ++ s.threads.flatMap serTh)) := by
        have := HOr.out
        rw [List.take_length] at this
        exact this
      have hkb := HS.out.block HK1.out (by decide)
      have b1 := cell_of hkb 1
      have HKB := hide hkb
      clear HOr hkb
      go_wp2_with (first
        | (at_builtin
           (
             refine wpl_push E29 (by decide) rfl (.tmp 127) (.tmp 131) rfl HOn.out _ _ [(s.objects.length : Int)] _ _ rfl rfl rfl rfl rfl hz (by simp only [List.length_append, List.length_cons, List.length_nil]; omega) ?_
             intro v3 w3 ho3 hs3
             have HO3 := hide ho3
             have HK3 := hide (hs3.block HKB.out (by decide))
             have H03 := hide (H0r.out.trans hs3.below)
             clear ho3 hs3 HOn HKB b0 b1))
        | fail)
      have HT3 : Hid (Own 2 .i64 w.heap.size w3 v3 (([(s.threads.length : Int)] ++ s.threads.flatMap serTh) ++ [(s.objects.length : Int)])) := HO3
      have hlT : ([(s.threads.length : Int)] ++ s.threads.flatMap serTh).length + (s.objects.flatMap serOb).length ≤ 90000 := by
        simp only [List.length_append, List.length_cons, List.length_nil]; omega
      generalize hTT : [(s.threads.length : Int)] ++ s.threads.flatMap serTh = TT at *
      have HTT := hide hTT
      clear hTT HO3 HT HS H0r hz hlt hk
      go_loopw [3, 10] (fun v i wi => ∃ k : Nat, k ≤ s.objects.length ∧ i = .int .i64 (k : Int) ∧ Own 2 .i64 w.heap.size wi v (TT ++ ([(s.objects.length : Int)] ++ (s.objects.take k).flatMap serOb)) ∧ Stp 2 w.heap.size w3 wi) (fun _ i _ => s.objects.length - (intOf i).toNat)
      case atStart => exact ⟨0, by omega, rfl, by simpa using HT3.out, Stp.refl _ _ _⟩
      case round =>
        obtain ⟨k, hk, rfl, hO, hS⟩ := hrel
        have HOr := hide hO
        have HS := hide hS
        have H0r := hide (H03.out.trans hS.below)
        have hz : w.heap.size ≤ wr.heap.size := H0r.out.size
        have hkb := hS.block HK3.out (by decide)
        have b1 := cell_of hkb 1
        have HKB := hide hkb
        clear hO hS HT3 hkb
        by_cases hlt : k < s.objects.length
        ·
          --O<
          have h64 : (k : Int) < (s.objects.length : Int) := by omega
          obtain ⟨b, o, rfl, hP⟩ := HO.out k hlt
          obtain ⟨vc, c1, c2, c3, hr⟩ := ob_now H0r.out hP
          obtain ⟨va, vd, rfl, hvl, hr⟩ := hr
          have HR := hide hr
          have hstep := flatMap_step_le serOb s.objects k hlt
          have hser : (serOb s.objects[k]).length = 3 + 2 * s.objects[k].cells.length := by simp only [serOb, List.length_append, List.length_cons, List.length_nil, serPs_len]; omega
          have hML : (TT ++ ([(s.objects.length : Int)] ++ (s.objects.take k).flatMap serOb)).length + 2 * s.objects[k].cells.length ≤ 90000 := by
            simp only [List.length_append, List.length_cons, List.length_nil]; omega
          clear hP hr
          generalize hM : TT ++ ([(s.objects.length : Int)] ++ (s.objects.take k).flatMap serOb) = M at *
          have HM := hide hM
          clear hM
          go_wp2_with (first
            | (at_builtin
               (
                 refine wpl_push E29 (by decide) rfl (.tmp 145) (.tmp 151) rfl (HOr.out.alloc _) _ _ [s.objects[k].chunk, (s.objects[k].cells.length : Int)] _ _ rfl rfl rfl rfl (by simp) (by omega) (by simp only [List.length_cons, List.length_nil]; omega) ?_
                 intro v5 w5 ho5 hs5
                 have HO5 := hide ho5
                 have HK5 := hide (hs5.block (new_block wr _) (by decide))
                 have HS5 := hide (((Stp.refl 2 w.heap.size wr).alloc hz _).trans hs5)
                 clear ho5 hs5 b1 c1 c2 c3 HOr))
            | fail)
          have H05 := hide (H0r.out.trans HS5.out.below)
          go_loopw [3, 12] (fun v i wi => ∃ m : Nat, m ≤ s.objects[k].cells.length ∧ i = .int .i64 (m : Int) ∧ Own 2 .i64 w.heap.size wi v (M ++ [s.objects[k].chunk, (s.objects[k].cells.length : Int)] ++ serPs (s.objects[k].cells.take m)) ∧ Stp 2 w.heap.size w5 wi) (fun _ i _ => s.objects[k].cells.length - (intOf i).toNat)
          case atStart => exact ⟨0, by omega, rfl, by simpa [serPs] using HO5.out, Stp.refl _ _ _⟩
          case round =>
            obtain ⟨m, hm, rfl, hO, hS⟩ := hrel
            have HOm := hide hO
            have HSm := hide hS
            have H0m := hide (H05.out.trans hS.below)
            have hzm : w.heap.size ≤ wr.heap.size := H0m.out.size
            have hkb := hS.block HK5.out (by decide)
            have b1 := cell_of hkb 1
            have b2 := cell_of hkb 2
            clear hO hS HO5 hkb
            by_cases hm2 : m < s.objects[k].cells.length
            · have h66 : (m : Int) < (s.objects[k].cells.length : Int) := by omega
              obtain ⟨qb, qo, rfl, hQ⟩ := HR.out m hm2
              obtain ⟨e0, e1⟩ := pair_now H0m.out hQ
              obtain ⟨z0, z1⟩ := wf_u8 hQ.1.2
              clear hQ
              have hl4 : (M ++ [s.objects[k].chunk, (s.objects[k].cells.length : Int)] ++ serPs (s.objects[k].cells.take m)).length + [s.objects[k].cells[m].1, s.objects[k].cells[m].2].length ≤ 10000000 := by
                simp only [List.length_append, List.length_cons, List.length_nil, serPs_len, List.length_take]; omega
              have hwz : IntKind.i64.wrap s.objects[k].cells[m].1 = s.objects[k].cells[m].1 := IntWalk.i64_in _ (by omega)
              go_wp2_with fail
              --H<
              go_region_law ((
                refine step_push E29 (by decide) rfl (.tmp 160) (.tmp 174) rfl HOm.out.drew _ _ [s.objects[k].cells[m].1, s.objects[k].cells[m].2] _ _ rfl rfl rfl rfl rfl hzm hl4 rfl ?_
                intro v6 w6 ho6 hs6))
              all_goals
                have HO6 := hide ho6
                have HS6 := hide (un_drew hs6)
                clear ho6 hs6 hwz e0 e1 b1 b2
                go_wp2
                refine ⟨⟨m + 1, by omega, by go_num, ?_, HSm.out.trans HS6.out⟩, by simp [intOf]; omega⟩
                rw [serPs_take _ m hm2, ← List.append_assoc]
                exact HO6.out
              --H>
            · obtain rfl : m = s.objects[k].cells.length := by omega
              have HOn : Hid (Own 2 .i64 w.heap.size wr u3 (M ++ [s.objects[k].chunk, (s.objects[k].cells.length : Int)] ++ serPs s.objects[k].cells)) := by
                have := HOm.out
                rw [List.take_length] at this
                exact this
              clear HOm
              go_wp2_with (first
                | (at_builtin
                   (
                     refine wpl_push E29 (by decide) rfl (.tmp 176) (.tmp 179) rfl HOn.out _ _ [s.objects[k].owner] _ _ rfl rfl rfl rfl rfl hzm (by simp only [List.length_append, List.length_cons, List.length_nil, serPs_len]; omega) ?_
                     intro v6 w6 ho6 hs6
                     have HO6 := hide ho6
                     have HS6 := hide (HSm.out.trans hs6)
                     clear ho6 hs6 HOn b1 b2))
                | fail)
              refine ⟨⟨k + 1, by omega, by go_num, ?_, HS.out.trans (HS5.out.trans HS6.out)⟩, by simp [intOf]; omega⟩
              have e : TT ++ ([(s.objects.length : Int)] ++ (s.objects.take (k + 1)).flatMap serOb) = M ++ [s.objects[k].chunk, (s.objects[k].cells.length : Int)] ++ serPs s.objects[k].cells ++ [s.objects[k].owner] := by
                rw [flatMap_take serOb _ k hlt, ← HM.out]; simp [serOb]
              rw [e]
              exact HO6.out
          --O>
        · obtain rfl : k = s.objects.length := by omega
          have HOn : Hid (Own 2 .i64 w.heap.size wr u3 (TT ++ ([(s.objects.length : Int)] ++ s.objects.flatMap serOb))) := by
            have := HOr.out
            rw [List.take_length] at this
            exact this
          have b2 := cell_of HKB.out 2
          have b3 := cell_of HKB.out 3
          have b4 := cell_of HKB.out 4
          have b5 := cell_of HKB.out 5
          have b6 := cell_of HKB.out 6
          have b7 := cell_of HKB.out 7
          have b8 := cell_of HKB.out 8
          have b9 := cell_of HKB.out 9
          have b10 := cell_of HKB.out 10
          have b11 := cell_of HKB.out 11
          have hoc := serOc_len s.outcome
          have hsz := block_lt HKB.out
          have hTl : (TT ++ ([(s.objects.length : Int)] ++ s.objects.flatMap serOb)).length + s.outcome.out.length ≤ 90000 := by
            rw [← HTT.out]; simp only [List.length_append, List.length_cons, List.length_nil]; omega
          clear HOr
          generalize hM : TT ++ ([(s.objects.length : Int)] ++ s.objects.flatMap serOb) = M at *
          have HM := hide hM
          clear hM
          go_wp2_with (first
            | (at_builtin
               have tok := HOn
               (
                 refine wpl_push E29 (by decide) rfl (.tmp 183) (.tmp 208) rfl (HOn.out.alloc _) _ _ [s.inputs, s.clocks, s.frames, s.outcome.fin, s.outcome.fault, s.outcome.line, s.outcome.vk, s.outcome.vn, (s.outcome.out.length : Int)] _ _ rfl rfl rfl rfl (by simp) (by omega) (by simp only [List.length_cons, List.length_nil]; omega) ?_
                 intro v5 w5 ho5 hs5
                 have HO5 := hide ho5
                 have hkk := hs5.block (new_block wr _) (by decide)
                 have d5 := cell_of hkk 5
                 have HK5 := hide hkk
                 have HS5 := hide (((Stp.refl 2 w.heap.size wr).alloc hz _).trans hs5)
                 clear ho5 hs5 HOn b1 b2 b3 b4 b5 b6 b7 b8 b9 b10 b11 tok hkk))
            | (at_builtin
               have tok := HO5
               (
                 refine wpl_pushRow E29 (by decide) rfl (.tmp 210) (.tmp 212) rfl HO5.out ⟨ua, uc, rfl, hul, HU.out⟩ (H0r.out.trans HS5.out.below) (by have := (H0r.out.trans HS5.out.below).size; omega) rfl rfl (by simp only [List.length_append, List.length_cons, List.length_nil]; omega) ?_
                 intro v6 w6 ho6 hs6
                 have HO6 := hide ho6
                 have hkk := hs6.block HK5.out (by decide)
                 have d6 := cell_of hkk 6
                 have HS6 := hide (HS5.out.trans hs6)
                 clear ho6 hs6 HO5 HK5 d5 tok hkk HS5))
            | (at_builtin
               have tok := HO6
               (
                 refine wpl_push E29 (by decide) rfl (.tmp 214) (.tmp 217) rfl HO6.out _ _ [s.outcome.steps] _ _ rfl rfl rfl rfl rfl (by have := (H0r.out.trans HS6.out.below).size; omega) (by simp only [List.length_append, List.length_cons, List.length_nil]; omega) ?_
                 intro v7 w7 ho7 hs7
                 have HO7 := hide ho7
                 have HS7 := hide (HS6.out.trans hs7)
                 clear ho7 hs7 HO6 d6 tok HS6))
            | fail)
          have hser : M ++ [s.inputs, s.clocks, s.frames, s.outcome.fin, s.outcome.fault, s.outcome.line, s.outcome.vk, s.outcome.vn, (s.outcome.out.length : Int)] ++ s.outcome.out ++ [s.outcome.steps] = ser s := by
            rw [← HM.out, ← HTT.out]; simp [ser, serOc]
          have HO8 : Hid (Own 2 .i64 w.heap.size w7 v7 (ser s)) := by
            have := HO7.out
            rw [hser] at this
            exact this
          have H07 := hide (H0r.out.trans HS7.out.below)
          clear hser HO7 HS7 hTl hlt hk hz HKB HO HU H03 HK3
          obtain ⟨xa, xc, rfl, _⟩ := HO8.out.at
          have hsl : (ser s).length ≤ 90000 := HP.out
          go_loopw [14, 15] (fun v i wi => ∃ k : Nat, k ≤ (ser s).length ∧ i = .int .i64 (k : Int) ∧ Own 5 .u8 w.heap.size wi v (((ser s).take k).flatMap enc) ∧ Stp 5 w.heap.size w7 wi) (fun _ i _ => (ser s).length - (intOf i).toNat)
          case atStart => exact ⟨0, by omega, rfl, Own.nil _ _ _ _, Stp.refl _ _ _⟩
          case round =>
            obtain ⟨k, hk, rfl, hO, hS⟩ := hrel
            have HOr := hide hO
            have HS := hide hS
            have H0r := hide (H07.out.trans hS.below)
            have hz : w.heap.size ≤ wr.heap.size := H0r.out.size
            clear hO hS
            by_cases hlt : k < (ser s).length
            · have h64 : (k : Int) < ((ser s).length : Int) := by omega
              obtain ⟨_, _, e, hat⟩ := (HO8.out.stp HS.out (by decide)).at
              obtain ⟨g7, e', c⟩ := hat k hlt
              obtain ⟨rfl, _, rfl⟩ := (Value.slice.injEq _ _ _ _ _ _).mp e
              subst e'
              clear hat e
              generalize hN : (ser s)[k] = N at *
              have HN := hide hN
              clear hN
              go_wp2_with fail
              have hX : IntKind.u64.wrap N = N % 18446744073709551616 := wrap_u64 N
              obtain ⟨X, hXe⟩ : ∃ X, X = IntKind.u64.wrap N := ⟨_, rfl⟩
              rw [← hXe] at hX
              have hX0 : 0 ≤ X ∧ X ≤ 18446744073709551615 := by omega
              simp only [← hXe]
              have HX := hide hX
              clear hX hXe c
              go_loopw [14, 16, 17] (fun v n i wi => ∃ (q : Nat) (Y : Int), q ≤ 8 ∧ i = .int .i64 (q : Int) ∧ n = .int .u64 Y ∧ Y = X / 256 ^ q ∧ Own 5 .u8 w.heap.size wi v (((ser s).take k).flatMap enc ++ (enc N).take q) ∧ Stp 5 w.heap.size wr wi) (fun _ _ i _ => 8 - (intOf i).toNat)
              case atStart => exact ⟨0, X, by omega, rfl, rfl, by simp, by simpa using HOr.out, Stp.refl _ _ _⟩
              case round =>
                obtain ⟨q, Y, hq, rfl, rfl, hY, hO, hS⟩ := hrel
                have HOq := hide hO
                have HSq := hide hS
                have hzq : w.heap.size ≤ wr.heap.size := by have := hS.below.size; omega
                have hY0 : 0 ≤ Y ∧ Y ≤ 18446744073709551615 := by rw [hY]; exact div_bd hX0 q
                have HY := hide hY
                clear hO hS hY HOr
                by_cases hq2 : q < 8
                · have h65 : (q : Int) < 8 := by omega
                  have hl9 : (((ser s).take k).flatMap enc ++ (enc N).take q).length + [IntKind.u8.wrap Y].length ≤ 10000000 := by
                    simp only [List.length_append, List.length_cons, List.length_nil, encs_len, List.length_take, enc_len]; omega
                  go_wp2_with (first
                    | (at_builtin
                       (
                         refine wpl_push E37 (by decide) rfl (.tmp 234) (.tmp 237) rfl HOq.out _ _ [IntKind.u8.wrap Y] _ _ rfl rfl rfl rfl rfl hzq hl9 ?_
                         intro v8 w8 ho8 hs8
                         have HO9 := hide ho8
                         have HS9 := hide hs8
                         clear ho8 hs8 HOq))
                    | fail)
                  refine ⟨⟨q + 1, Y / 256, by omega, by go_num, rfl, ?_, ?_, HSq.out.trans HS9.out⟩, by simp [intOf]; omega⟩
                  · rw [HY.out]; exact div_div X q
                  · have e : IntKind.u8.wrap Y = N / 256 ^ q % 256 := by rw [wrap_u8, HY.out, HX.out, byte64 N q hq2]
                    have := HO9.out
                    rw [e] at this
                    rw [enc_take N q hq2, ← List.append_assoc]
                    exact this
                · obtain rfl : q = 8 := by omega
                  go_wp2
                  refine ⟨⟨k + 1, by omega, by go_num, ?_, HS.out.trans HSq.out⟩, by simp [intOf]; omega⟩
                  rw [flatMap_take enc _ k hlt, HN.out]
                  have := HOq.out
                  rw [enc_all] at this
                  exact this
            · obtain rfl : k = (ser s).length := by omega
              go_wp2
              go_ret
              have := HOr.out
              rw [List.take_length] at this
              exact ⟨u14, rfl, this, H0r.out⟩
end Go.Proofs.YtgfiociglimoaaaGreatDoor.Ms
