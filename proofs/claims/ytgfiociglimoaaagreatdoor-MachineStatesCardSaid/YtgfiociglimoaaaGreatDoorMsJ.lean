import Derived.Test.YtgfiociglimoaaaGreatDoorMsI
set_option maxRecDepth 100000
namespace Go.Proofs.YtgfiociglimoaaaGreatDoor.Ms
open Go Go.Ms Go.Pg Go.ChangeShapes Go.WideShapes Go.ChangeAt Go.RowKit Go.Deep

theorem flatMap_step_le {α β : Type} (f : α → List β) (l : List α) (k : Nat) (h : k < l.length) : ((l.take k).flatMap f).length + (f l[k]).length ≤ (l.flatMap f).length := by
  have h1 := flatMap_take_le f l (k + 1)
  rw [flatMap_take f l k h, List.length_append] at h1
  exact h1

def RetBytes (w : World) (l : List Int) (e : Ending) (w' : World) : Prop := ∃ v, e = .returned v ∧ w'.ownsRow w.heap.size 5 1 v l.length (l.map (.int .u8)) ∧ Below w.heap.size w w'

theorem thr_now {w0 w : World} (h0 : Below w0.heap.size w0 w) {b p : Nat} {x : Th} (h : ThAt w0 b p x) : ∃ vf, w.cell? ⟨b, p, none⟩ = some vf ∧ w.cell? ⟨b, p + 1, none⟩ = some (.int .u8 x.rk) ∧ w.cell? ⟨b, p + 2, none⟩ = some (.int .i64 x.rn) ∧ RowAt 5 FrAt w0 vf x.frames ∧ WfI .u8 x.rk := by
  obtain ⟨vf, h1, h2, h3, h4⟩ := h
  exact ⟨vf, cell_below h0 h1, cell_below h0 h2.1, cell_below h0 h3.1, h4, h2.2⟩
theorem fr_now {w0 w : World} (h0 : Below w0.heap.size w0 w) {b p : Nat} {x : Fr} (h : FrAt w0 b p x) : ∃ vr vt, w.cell? ⟨b, p, none⟩ = some (.int .i64 x.id) ∧ w.cell? ⟨b, p + 1, none⟩ = some (.int .i64 x.chunk) ∧ w.cell? ⟨b, p + 2, none⟩ = some (.int .i64 x.pc) ∧
    w.cell? ⟨b, p + 3, none⟩ = some vr ∧ w.cell? ⟨b, p + 4, none⟩ = some vt ∧ RowAt 2 (PairAt .u8 .i64) w0 vr x.regs ∧ RowAt 2 (PairAt .i64 .i64) w0 vt x.tries := by
  obtain ⟨vr, vt, h1, h2, h3, h4, h5, h6, h7⟩ := h
  exact ⟨vr, vt, cell_below h0 h1.1, cell_below h0 h2.1, cell_below h0 h3.1, cell_below h0 h4, cell_below h0 h5, h6, h7⟩
theorem ob_now {w0 w : World} (h0 : Below w0.heap.size w0 w) {b p : Nat} {x : Ob} (h : ObAt w0 b p x) : ∃ vc, w.cell? ⟨b, p, none⟩ = some (.int .i64 x.chunk) ∧ w.cell? ⟨b, p + 1, none⟩ = some vc ∧ w.cell? ⟨b, p + 2, none⟩ = some (.int .i64 x.owner) ∧ RowAt 2 (PairAt .u8 .i64) w0 vc x.cells := by
  obtain ⟨vc, h1, h2, h3, h4⟩ := h
  exact ⟨vc, cell_below h0 h1.1, cell_below h0 h2, cell_below h0 h3.1, h4⟩

theorem buf_new (w : World) (o : Obj) : Buf 60 5 w.heap.size (w.heap.size + 1) ((w.alloc o).alloc (.cells #[.slice none 0 0] 60)) [] := by
  have h := new_block (w.alloc o) (.cells #[.slice none 0 0] 60)
  have e : (w.alloc o).heap.size = w.heap.size + 1 := by simp
  rw [e] at h
  exact ⟨by omega, .slice none 0 0, h, World.ownsRow_nil _ _ _ _⟩

set_option maxHeartbeats 40000000 in
theorem codeBytes {s : St} {cells : List Value} {w : World} (h : StAt w cells s) (hp : (ser s).length ≤ 90000) : Calls Tryz.prog 7 #[.agg cells.toArray] w (RetBytes w (stBytes s)) := by
  obtain ⟨vt, vo, l', rfl, ht, ho, hi1, hi2, hi3, vu, rfl, hu, hw1, hw2, hw3, hw4, hw5, hw6⟩ := h
  obtain ⟨ta, tc, rfl, htl, ht⟩ := ht
  obtain ⟨oa, oc, rfl, hol, ho⟩ := ho
  obtain ⟨ua, uc, rfl⟩ := hu.slice
  have HT := hide ht
  have HO := hide ho
  have HU := hide hu
  have HW : Hid (WfI .u8 s.outcome.fin ∧ WfI .u8 s.outcome.fault ∧ WfI .u8 s.outcome.vk) := ⟨hw1, hw2, hw4⟩
  have hN : 1 + (s.threads.flatMap serTh).length + 1 + (s.objects.flatMap serOb).length + 3 + (serOc s.outcome).length ≤ 90000 := by
    simp only [ser, List.length_append, List.length_cons, List.length_nil] at hp; omega
  clear ht ho hu hi1 hi2 hi3 hw1 hw2 hw3 hw4 hw5 hw6 hp
  go_enter Tryz.func7, Tryz.ntmps7
  go_wp2_with (first
    | (go_at_call 15
       (
         (with_reducible refine (counts1 (buf_new w _) (by simp) (by simp)).mono ?_)
         rintro e w1 ⟨rfl, hb1, hs1⟩
         have hk1 := hs1.block ((Below.heap_alloc _ _ _ (by simp)).trans (new_block w _)) (by omega) (by decide)
         have c0 := cell_of hk1 0
         have HB1 : Hid (Buf 60 5 w.heap.size (w.heap.size + 1) w1 ([(s.threads.length : Int)].flatMap enc)) := hide (by simpa using hb1)
         have HK1 := hide hk1
         have H01 : Hid (Below w.heap.size w w1) := (two w _ _).trans hs1.below
         clear hb1 hs1 hk1))
    | fail)
  clear c0
  go_loopw [18] (fun i wr => ∃ k : Nat, k ≤ s.threads.length ∧ i = .int .i64 (k : Int) ∧ Buf 60 5 w.heap.size (w.heap.size + 1) wr (([(s.threads.length : Int)] ++ (s.threads.take k).flatMap serTh).flatMap enc) ∧ Step 5 w.heap.size (w.heap.size + 1) w1 wr) (fun i _ => s.threads.length - (intOf i).toNat)
  case atStart => exact ⟨0, by omega, rfl, by simpa using HB1.out, Step.refl _ _ _ _⟩
  case round =>
    obtain ⟨k, hk, rfl, hB, hS⟩ := hrel
    have HB := hide hB
    have HS := hide hS
    have hgr := hB.lt
    clear hB hS HB1
    by_cases hlt : k < s.threads.length
    · have h64 : (k : Int) < (s.threads.length : Int) := by omega
      obtain ⟨b, o, rfl, hP⟩ := HT.out k hlt
      have H0r : Hid (Below w.heap.size w wr) := H01.out.trans HS.out.below
      obtain ⟨vf, c1, c2, c3, hr, hw⟩ := thr_now H0r.out hP
      obtain ⟨fa, fc, rfl, hfl, hr⟩ := hr
      have HR := hide hr
      have HV : Hid (WfI .u8 s.threads[k].rk) := hw
      have hstep := flatMap_step_le serTh s.threads k hlt
      have hser : (serTh s.threads[k]).length = 3 + (s.threads[k].frames.flatMap serFr).length := by simp only [serTh, List.length_append, List.length_cons, List.length_nil]; omega
      clear hP hr hw
      go_wp2_with (first
        | (go_at_call 15
           (
             (with_reducible refine (counts1 (HB.out.alloc _) (by simp only [encs_len, List.length_append, List.length_cons, List.length_nil]; omega) (by simp)).mono ?_)
             rintro e w2 ⟨rfl, hb2, hs2⟩
             have hk2 := hs2.block (new_block wr _) (by omega) (by decide)
             have d0 := cell_of hk2 0
             rw [← List.flatMap_append] at hb2
             have HB2 := hide hb2
             have HK2 := hide hk2
             have HS2 := hide (((Step.refl 5 w.heap.size (w.heap.size + 1) wr).alloc (by omega) _).trans hs2)
             clear hb2 hs2 hk2))
        | fail)
      clear d0 c1 c2 c3 HB
      go_loopw [30] (fun i wi => ∃ j : Nat, j ≤ s.threads[k].frames.length ∧ i = .int .i64 (j : Int) ∧ Buf 60 5 w.heap.size (w.heap.size + 1) wi (([(s.threads.length : Int)] ++ (s.threads.take k).flatMap serTh ++ ([(s.threads[k].frames.length : Int)] ++ (s.threads[k].frames.take j).flatMap serFr)).flatMap enc) ∧ Step 5 w.heap.size (w.heap.size + 1) w2 wi) (fun i _ => s.threads[k].frames.length - (intOf i).toNat)
      case atStart => exact ⟨0, by omega, rfl, by simpa using HB2.out, Step.refl _ _ _ _⟩
      case round =>
        obtain ⟨j, hj, rfl, hB, hS⟩ := hrel
        have HBi := hide hB
        have HSi := hide hS
        have hgi := hB.lt
        clear hB hS HB2
        by_cases hj2 : j < s.threads[k].frames.length
        · have h65 : (j : Int) < (s.threads[k].frames.length : Int) := by omega
          obtain ⟨fb, fo, rfl, hQ⟩ := HR.out j hj2
          have H0i := hide (H0r.out.trans (HS2.out.trans HSi.out).below)
          obtain ⟨vr, vt, e0, e1, e2, e3, e4, hr1, hr2⟩ := fr_now H0i.out hQ
          obtain ⟨ra, rc, rfl⟩ := hr1.slice
          obtain ⟨ya, yc, rfl⟩ := hr2.slice
          have R1 := hide hr1
          have R2 := hide hr2
          have hfr := flatMap_step_le serFr s.threads[k].frames j hj2
          clear hQ hr1 hr2
          go_wp2_with (first
            | (go_at_call 16
               (
                 (with_reducible refine (frame (x := s.threads[k].frames[j]) (H0i.out.alloc H0i.out.size _) R1.out R2.out (HBi.out.alloc _) (by simp only [encs_len, List.length_append, List.length_cons, List.length_nil]; omega)).mono ?_)
                 rintro e w3 ⟨rfl, hb3, hs3⟩
                 rw [← List.flatMap_append] at hb3
                 have HB3 := hide hb3
                 have HS3 := hide (((Step.refl 5 w.heap.size (w.heap.size + 1) _).alloc H0i.out.size _).trans hs3)
                 clear hb3 hs3))
            | fail)
          refine ⟨⟨j + 1, by omega, by go_num, ?_, HSi.out.trans HS3.out⟩, by simp [intOf]; omega⟩
          rw [flatMap_take serFr _ j hj2, ← List.append_assoc [(s.threads[k].frames.length : Int)], ← List.append_assoc (_ ++ _) (_ ++ _)]
          exact HB3.out
        · obtain rfl : j = s.threads[k].frames.length := by omega
          have hkb := HSi.out.block HK2.out (by omega) (by decide)
          have d1 := cell_of hkb 1
          have d2 := cell_of hkb 2
          clear hkb
          go_wp2_with (first
            | (go_at_call 17
               (
                 (with_reducible refine (value HBi.out (by simp only [encs_len, List.length_append, List.length_cons, List.length_nil, List.take_length]; omega) HV.out).mono ?_)
                 rintro e w3 ⟨rfl, hb3, hs3⟩
                 rw [← List.flatMap_append] at hb3
                 have HB3 := hide hb3
                 have HS3 := hide hs3
                 clear hb3 hs3))
            | fail)
          refine ⟨⟨k + 1, by omega, by go_num, ?_, HS.out.trans (HS2.out.trans (HSi.out.trans HS3.out))⟩, by simp [intOf]; omega⟩
          rw [flatMap_take serTh _ k hlt]
          simpa [serTh] using HB3.out
    · obtain rfl : k = s.threads.length := by omega
      have hkb := HS.out.block HK1.out (by omega) (by decide)
      have d1 := cell_of hkb 1
      have HKB := hide hkb
      clear hkb
      go_wp2_with (first
        | (go_at_call 15
           (
             (with_reducible refine (counts1 HB.out (by simp only [encs_len, List.length_append, List.length_cons, List.length_nil, List.take_length]; omega) (by simp)).mono ?_)
             rintro e w3 ⟨rfl, hb3, hs3⟩
             rw [← List.flatMap_append] at hb3
             have HB3 := hide hb3
             have H03 := hide (H01.out.trans (HS.out.trans hs3).below)
             have HK3 := hide (hs3.block HKB.out (by omega) (by decide))
             have f1 := cell_of HK3.out 1
             clear hb3 hs3 HKB d1))
        | fail)
      have hg3 := HB3.out.lt
      clear f1 HB HS HK1 H01 HT hgr hlt hk
      go_loopw [49] (fun i wr => ∃ k : Nat, k ≤ s.objects.length ∧ i = .int .i64 (k : Int) ∧ Buf 60 5 w.heap.size (w.heap.size + 1) wr (([(s.threads.length : Int)] ++ s.threads.flatMap serTh ++ ([(s.objects.length : Int)] ++ (s.objects.take k).flatMap serOb)).flatMap enc) ∧ Step 5 w.heap.size (w.heap.size + 1) w3 wr) (fun i _ => s.objects.length - (intOf i).toNat)
      case atStart => exact ⟨0, by omega, rfl, by simpa using HB3.out, Step.refl _ _ _ _⟩
      case round =>
        obtain ⟨k, hk, rfl, hB, hS⟩ := hrel
        have HB := hide hB
        have HS := hide hS
        have hgr := hB.lt
        have H0r := hide (H03.out.trans hS.below)
        clear hB hS HB3
        by_cases hlt : k < s.objects.length
        · have h64 : (k : Int) < (s.objects.length : Int) := by omega
          obtain ⟨b, o, rfl, hP⟩ := HO.out k hlt
          obtain ⟨vc, c1, c2, c3, hr⟩ := ob_now H0r.out hP
          obtain ⟨va, vd, rfl⟩ := hr.slice
          have HR := hide hr
          have hstep := flatMap_step_le serOb s.objects k hlt
          have hser : (serOb s.objects[k]).length = 3 + 2 * s.objects[k].cells.length := by simp only [serOb, List.length_append, List.length_cons, List.length_nil, serPs_len]; omega
          clear hP hr
          go_wp2_with (first
            | (go_at_call 15
               have tok := HB
               (
                 (with_reducible refine (counts1 (HB.out.alloc _) (by simp only [encs_len, List.length_append, List.length_cons, List.length_nil]; omega) (by simp)).mono ?_)
                 rintro e w2 ⟨rfl, hb2, hs2⟩
                 have hk2 := hs2.block (new_block wr _) (by omega) (by decide)
                 have d1 := cell_of hk2 1
                 have d2 := cell_of hk2 2
                 rw [← List.flatMap_append] at hb2
                 have HB2 := hide hb2
                 have HK2 := hide hk2
                 have HS2 := hide (((Step.refl 5 w.heap.size (w.heap.size + 1) wr).alloc (by omega) _).trans hs2)
                 clear hb2 hs2 hk2 HB tok c1 c2 c3))
            | (go_at_call 18
               (
                 (with_reducible refine (values (H0r.out.trans HS2.out.below) HR.out HB2.out (by simp only [encs_len, List.length_append, List.length_cons, List.length_nil]; omega)).mono ?_)
                 rintro e w4 ⟨rfl, hb4, hs4⟩
                 have hk4 := hs4.block HK2.out (by omega) (by decide)
                 have e2 := cell_of hk4 2
                 rw [← List.flatMap_append] at hb4
                 have HB4 := hide hb4
                 have HS4 := hide (HS2.out.trans hs4)
                 clear hb4 hs4 hk4 HB2 HS2 HK2 d1 d2))
            | (go_at_call 15
               have tok := HB4
               (
                 (with_reducible refine (counts1 HB4.out (by simp only [encs_len, List.length_append, List.length_cons, List.length_nil, serPs_len]; omega) (by simp)).mono ?_)
                 rintro e w5 ⟨rfl, hb5, hs5⟩
                 rw [← List.flatMap_append] at hb5
                 have HB5 := hide hb5
                 have HS5 := hide (HS4.out.trans hs5)
                 clear hb5 hs5 HB4 HS4 e2 tok))
            | fail)
          refine ⟨⟨k + 1, by omega, by go_num, ?_, HS.out.trans HS5.out⟩, by simp [intOf]; omega⟩
          rw [flatMap_take serOb _ k hlt]
          simpa [serOb] using HB5.out
        · obtain rfl : k = s.objects.length := by omega
          have hkb := HS.out.block HK3.out (by omega) (by decide)
          have d2 := cell_of hkb 2
          have d3 := cell_of hkb 3
          have d4 := cell_of hkb 4
          have HKB := hide hkb
          clear hkb
          go_wp2_with (first
            | (go_at_call 15
               (
                 (with_reducible refine (counts3 HB.out (by simp only [encs_len, List.length_append, List.length_cons, List.length_nil, List.take_length]; omega) (by simp)).mono ?_)
                 rintro e w2 ⟨rfl, hb2, hs2⟩
                 have hk2 := hs2.block HKB.out (by omega) (by decide)
                 have e5 := cell_of hk2 5
                 have e6 := cell_of hk2 6
                 have e7 := cell_of hk2 7
                 have e8 := cell_of hk2 8
                 have e9 := cell_of hk2 9
                 have e10 := cell_of hk2 10
                 have e11 := cell_of hk2 11
                 rw [← List.flatMap_append] at hb2
                 have HB2 := hide hb2
                 have HS2 := hide hs2
                 clear hb2 hs2 hk2 d2 d3 d4 HKB))
            | (go_at_call 19
               (
                 (with_reducible refine (outcome (H0r.out.trans HS2.out.below) HU.out HW.out.1 HW.out.2.1 HW.out.2.2 HB2.out (by simp only [encs_len, List.length_append, List.length_cons, List.length_nil, List.take_length]; omega)).mono ?_)
                 rintro e w4 ⟨rfl, hb4, hs4⟩
                 rw [← List.flatMap_append] at hb4
                 obtain ⟨hBg, v, hg, hv⟩ := hb4
                 have f0 := cell_of hg 0
                 have HV := hide hv
                 have H04 := hide (H0r.out.trans (HS2.out.trans hs4).below)
                 clear hs4 HB2 HS2 e5 e6 e7 e8 e9 e10 e11 hg hv))
            | fail)
          go_ret
          have e : [(s.threads.length : Int)] ++ s.threads.flatMap serTh ++ ([(s.objects.length : Int)] ++ (s.objects.take s.objects.length).flatMap serOb) ++ [s.inputs, s.clocks, s.frames] ++ serOc s.outcome = ser s := by simp [ser]
          refine ⟨v, rfl, ?_, H04.out⟩
          have := HV.out
          rw [e] at this
          exact this
end Go.Proofs.YtgfiociglimoaaaGreatDoor.Ms
