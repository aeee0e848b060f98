import Derived.Test.YtgfiociglimoaaaGreatDoorMsE
set_option maxRecDepth 100000
namespace Go.Proofs.YtgfiociglimoaaaGreatDoor.Ms
open Go Go.Ms Go.Pg Go.ChangeShapes Go.WideShapes Go.ChangeAt Go.RowKit Go.Deep

theorem hide {p : Prop} (h : p) : Hid p := h
theorem two (w : World) (x y : Obj) : Below w.heap.size w ((w.alloc x).alloc y) := ((Below.refl _ w).alloc (Nat.le_refl _) x).alloc (by simp [World.alloc, -World.alloc_eq]) y

set_option maxHeartbeats 4000000 in
theorem counts {B g c cap : Nat} {fr : Nat × Nat} {l xs : List Int} {w : World} (hb : Buf 60 5 B g w l) (hx : w.heap[c]? = some (.cells (xs.map (Value.int .i64)).toArray 3 fr)) (hcg : c ≠ g) (hl : l.length + 8 * xs.length ≤ 1000000) :
    Calls Tryz.prog 15 #[.pointer (some ⟨g, 0, none⟩), .slice (some ⟨c, 0, none⟩) xs.length cap] w (Wrote B g w l xs) := by
  have HX := hide hx
  clear hx
  go_enter Tryz.func15, Tryz.ntmps15
  go_wp2
  go_loopw [8] (fun i wr => ∃ k : Nat, k ≤ xs.length ∧ i = .int .i64 (k : Int) ∧ Buf 60 5 B g wr (l ++ (xs.take k).flatMap enc) ∧ Step 5 B g w wr) (fun i _ => xs.length - (intOf i).toNat)
  case atStart => exact ⟨0, by omega, rfl, by simpa using hb, Step.refl _ _ _ _⟩
  case round =>
    obtain ⟨k, hk, rfl, hB, hS⟩ := hrel
    have HB := hide hB
    have HS := hide hS
    clear hB hS
    by_cases hlt : k < xs.length
    · have h64 : (k : Int) < (xs.length : Int) := by omega
      have hc : wr.cell? ⟨c, k, none⟩ = some (.int .i64 xs[k]) := by rw [cell_of (HS.out.block HX.out hcg (by decide)) k]; simp [hlt]
      have hlen : (l ++ (xs.take k).flatMap enc).length ≤ 1000000 := by rw [List.length_append, encs_len, List.length_take]; omega
      go_wp2_with (go_at_call 30; ((with_reducible refine (put' HB.out hlen).mono ?_); rintro e w1 ⟨rfl, hb1, hs1⟩
                                   have HB1 := hide hb1
                                   have HS1 := hide hs1
                                   clear hb1 hs1))
      refine ⟨⟨k + 1, by omega, by go_num, ?_, HS.out.trans HS1.out⟩, by simp [intOf]; omega⟩
      rw [flatMap_take enc xs k hlt, ← List.append_assoc]
      simpa using HB1.out
    · obtain rfl : k = xs.length := by omega
      go_wp2
      go_end0
      exact ⟨rfl, by simpa using HB.out, HS.out⟩

theorem counts1 {B g c : Nat} {l : List Int} {x : Int} {w : World} (hb : Buf 60 5 B g w l) (hl : l.length ≤ 900000) (hc : w.heap.size = c) :
    Calls Tryz.prog 15 #[.pointer (some ⟨g, 0, none⟩), .slice (some ⟨c, 0, none⟩) 1 1] (w.alloc (.cells #[.int .i64 x] 3)) (Wrote B g w l [x]) := by
  have hlt := hb.lt
  subst hc
  exact (counts (xs := [x]) (c := w.heap.size) (hb.alloc _) (new_block w _) (by omega) (by simp; omega)).mono fun _ _ h => ⟨h.1, h.2.1, ((Step.refl 5 B g w).alloc (by omega) _).trans h.2.2⟩
theorem counts2 {B g c : Nat} {l : List Int} {x y : Int} {w : World} (hb : Buf 60 5 B g w l) (hl : l.length ≤ 900000) (hc : w.heap.size = c) :
    Calls Tryz.prog 15 #[.pointer (some ⟨g, 0, none⟩), .slice (some ⟨c, 0, none⟩) 2 2] (w.alloc (.cells #[.int .i64 x, .int .i64 y] 3)) (Wrote B g w l [x, y]) := by
  have hlt := hb.lt
  subst hc
  exact (counts (xs := [x, y]) (c := w.heap.size) (hb.alloc _) (new_block w _) (by omega) (by simp; omega)).mono fun _ _ h => ⟨h.1, h.2.1, ((Step.refl 5 B g w).alloc (by omega) _).trans h.2.2⟩
theorem counts3 {B g c : Nat} {l : List Int} {x y z : Int} {w : World} (hb : Buf 60 5 B g w l) (hl : l.length ≤ 900000) (hc : w.heap.size = c) :
    Calls Tryz.prog 15 #[.pointer (some ⟨g, 0, none⟩), .slice (some ⟨c, 0, none⟩) 3 3] (w.alloc (.cells #[.int .i64 x, .int .i64 y, .int .i64 z] 3)) (Wrote B g w l [x, y, z]) := by
  have hlt := hb.lt
  subst hc
  exact (counts (xs := [x, y, z]) (c := w.heap.size) (hb.alloc _) (new_block w _) (by omega) (by simp; omega)).mono fun _ _ h => ⟨h.1, h.2.1, ((Step.refl 5 B g w).alloc (by omega) _).trans h.2.2⟩
end Go.Proofs.YtgfiociglimoaaaGreatDoor.Ms

set_option maxRecDepth 100000
namespace Go.Proofs.YtgfiociglimoaaaGreatDoor.Ms
open Go Go.Ms Go.Pg Go.ChangeShapes Go.WideShapes Go.ChangeAt Go.RowKit Go.Deep

theorem encs_len' (l x : List Int) : (l ++ x.flatMap enc).length = l.length + 8 * x.length := by rw [List.length_append, encs_len]
theorem pair_now {w0 w : World} (h0 : Below w0.heap.size w0 w) {k m : IntKind} {b p : Nat} {x : Int × Int} (h : PairAt k m w0 b p x) : w.cell? ⟨b, p, none⟩ = some (.int k x.1) ∧ w.cell? ⟨b, p + 1, none⟩ = some (.int m x.2) :=
  ⟨cell_below h0 h.1.1, cell_below h0 h.2.1⟩
theorem enc_app (l a b : List Int) : l ++ (a ++ b).flatMap enc = l ++ a.flatMap enc ++ b.flatMap enc := by simp
theorem serPs_take (xs : List (Int × Int)) (k : Nat) (h : k < xs.length) : serPs (xs.take (k + 1)) = serPs (xs.take k) ++ [xs[k].1, xs[k].2] := flatMap_take serP xs k h
theorem Wrote.more {B g : Nat} {w w1 w2 : World} {l x y : List Int} (h : Step 5 B g w w1) {e : Ending} (k : Wrote B g w1 (l ++ x.flatMap enc) y e w2) : Wrote B g w l (x ++ y) e w2 :=
  ⟨k.1, by rw [List.flatMap_append, ← List.append_assoc]; exact k.2.1, h.trans k.2.2⟩

set_option maxHeartbeats 4000000 in
theorem values {w0 : World} {g : Nat} {l : List Int} {v : Value} {xs : List (Int × Int)} {w : World} (h0 : Below w0.heap.size w0 w) (hr : RowAt 2 (PairAt .u8 .i64) w0 v xs) (hb : Buf 60 5 w0.heap.size g w l) (hl : l.length + 8 * (1 + 2 * xs.length) ≤ 900000) :
    Calls Tryz.prog 18 #[.pointer (some ⟨g, 0, none⟩), v] w (Wrote w0.heap.size g w l ([(xs.length : Int)] ++ serPs xs)) := by
  obtain ⟨oa, cap, rfl, hlm, hr⟩ := hr
  have HB0 := hide hb
  have H0 := hide h0
  have HR := hide hr
  have hgl := hb.lt
  clear hb h0 hr
  go_enter Tryz.func18, Tryz.ntmps18
  go_wp2_with (first
    | (go_at_call 15
       (
         (with_reducible refine (counts1 HB0.out (by omega) rfl).mono ?_)
         rintro e w1 ⟨rfl, hb1, hs1⟩
         have HB1 := hide hb1
         have HS1 := hide hs1
         clear hb1 hs1 HB0))
    | fail)
  have hgl1 := HB1.out.lt
  go_loopw [13] (fun i wr => ∃ k : Nat, k ≤ xs.length ∧ i = .int .i64 (k : Int) ∧ Buf 60 5 w0.heap.size g wr (l ++ ([(xs.length : Int)] ++ serPs (xs.take k)).flatMap enc) ∧ Step 5 w0.heap.size g w wr) (fun i _ => xs.length - (intOf i).toNat)
  case atStart => exact ⟨0, by omega, rfl, by simpa [serPs] using HB1.out, HS1.out⟩
  case round =>
    obtain ⟨k, hk, rfl, hB, hS⟩ := hrel
    have HB := hide hB
    have HS := hide hS
    have hgr := hB.lt
    clear hB hS HB1 HS1
    by_cases hlt : k < xs.length
    · have h64 : (k : Int) < (xs.length : Int) := by omega
      obtain ⟨b, o, rfl, hP⟩ := HR.out k hlt
      have hw1 : Hid (WfI .u8 xs[k].1) := hP.1.2
      obtain ⟨hc1, hc2⟩ := pair_now (H0.out.trans (HS.out.below)) hP
      clear hP
      have hlen : (l ++ ([(xs.length : Int)] ++ serPs (xs.take k)).flatMap enc).length ≤ 999990 := by
        rw [encs_len', List.length_append, serPs_len, List.length_take, List.length_cons, List.length_nil]; omega
      go_wp2_with (first
        | (go_at_call 17
           (
             (with_reducible refine (value (HB.out.alloc _) hlen hw1.out).mono ?_)
             rintro e w2 ⟨rfl, hb2, hs2⟩
             have HB2 := hide hb2
             have HS2 := hide (((Step.refl 5 w0.heap.size g wr).alloc (by omega) _).trans hs2)
             clear hb2 hs2))
        | fail)
      refine ⟨⟨k + 1, by omega, by go_num, ?_, HS.out.trans HS2.out⟩, by simp [intOf]; omega⟩
      rw [serPs_take xs k hlt, ← List.append_assoc [(xs.length : Int)], enc_app]
      exact HB2.out
    · obtain rfl : k = xs.length := by omega
      go_wp2
      go_end0
      exact ⟨rfl, by simpa using HB.out, HS.out⟩
end Go.Proofs.YtgfiociglimoaaaGreatDoor.Ms

set_option maxRecDepth 100000
namespace Go.Proofs.YtgfiociglimoaaaGreatDoor.Ms
open Go Go.Ms Go.Pg Go.ChangeShapes Go.WideShapes Go.ChangeAt Go.RowKit Go.Deep

set_option maxHeartbeats 4000000 in
theorem frame {w0 : World} {g : Nat} {l : List Int} {x : Fr} {vr vt : Value} {w : World} (h0 : Below w0.heap.size w0 w) (hr : RowAt 2 (PairAt .u8 .i64) w0 vr x.regs) (ht : RowAt 2 (PairAt .i64 .i64) w0 vt x.tries) (hb : Buf 60 5 w0.heap.size g w l)
    (hl : l.length + 8 * (serFr x).length ≤ 800000) :
    Calls Tryz.prog 16 #[.pointer (some ⟨g, 0, none⟩), .agg #[.int .i64 x.id, .int .i64 x.chunk, .int .i64 x.pc, vr, vt]] w (Wrote w0.heap.size g w l (serFr x)) := by
  have HR := hide hr
  obtain ⟨ra, rc, rfl⟩ := hr.slice
  obtain ⟨oa, cap, rfl, hlm, ht⟩ := ht
  have HB0 := hide hb
  have H0 := hide h0
  have HT := hide ht
  have hgl := hb.lt
  rw [serFr_len] at hl
  unfold partsFr at hl
  clear hb h0 hr ht
  go_enter Tryz.func16, Tryz.ntmps16
  go_wp2_with (first
    | (go_at_call 15
       (
         (with_reducible refine (counts3 (HB0.out.alloc _) (by omega) (by simp)).mono ?_)
         rintro e w1 ⟨rfl, hb1, hs1⟩
         have hk1 := hs1.block (new_block w _) (by omega) (by decide)
         have c3 := cell_of hk1 3
         have c4 := cell_of hk1 4
         have HB1 := hide hb1
         have HK1 := hide hk1
         have HS1 := hide (((Step.refl 5 w0.heap.size g w).alloc (by omega) _).trans hs1)
         clear hb1 hs1 hk1 HB0))
    | (go_at_call 18
       (
         (with_reducible refine (values (H0.out.trans HS1.out.below) HR.out HB1.out (by rw [encs_len']; simp; omega)).mono ?_)
         rintro e w2 ⟨rfl, hb2, hs2⟩
         have hk2 := hs2.block HK1.out (by omega) (by decide)
         have d4 := cell_of hk2 4
         have HB2 := hide hb2
         have HS2 := hide (HS1.out.trans hs2)
         have HK2 := hide hk2
         clear hb2 hs2 hk2 HB1 HS1 HK1 c3 c4))
    | (go_at_call 15
       (
         (with_reducible refine (counts1 HB2.out (by simp only [encs_len, List.length_append, serPs_len, List.length_cons, List.length_nil]; omega) rfl).mono ?_)
         rintro e w3 ⟨rfl, hb3, hs3⟩
         have hk3 := hs3.block HK2.out (by omega) (by decide)
         have e4 := cell_of hk3 4
         have HB3 := hide hb3
         have HS3 := hide (HS2.out.trans hs3)
         clear hb3 hs3 hk3 HB2 HS2 HK2 d4))
    | fail)
  have hl3 := HB3.out.lt
  go_loopw [28] (fun i wr => ∃ k : Nat, k ≤ x.tries.length ∧ i = .int .i64 (k : Int) ∧ Buf 60 5 w0.heap.size g wr (l ++ ([x.id, x.chunk, x.pc, (x.regs.length : Int)] ++ (serPs x.regs ++ ([(x.tries.length : Int)] ++ serPs (x.tries.take k)))).flatMap enc) ∧ Step 5 w0.heap.size g w wr) (fun i _ => x.tries.length - (intOf i).toNat)
  case atStart => exact ⟨0, by omega, rfl, by simpa [serPs] using HB3.out, HS3.out⟩
  case round =>
    obtain ⟨k, hk, rfl, hB, hS⟩ := hrel
    have HB := hide hB
    have HS := hide hS
    have hgr := hB.lt
    clear hB hS HB3 HS3
    by_cases hlt : k < x.tries.length
    · have h64 : (k : Int) < (x.tries.length : Int) := by omega
      obtain ⟨b, o, rfl, hP⟩ := HT.out k hlt
      obtain ⟨hc1, hc2⟩ := pair_now (H0.out.trans (HS.out.below)) hP
      clear hP
      have hlen : (l ++ ([x.id, x.chunk, x.pc, (x.regs.length : Int)] ++ (serPs x.regs ++ ([(x.tries.length : Int)] ++ serPs (x.tries.take k)))).flatMap enc).length ≤ 900000 := by
        simp only [encs_len, List.length_append, serPs_len, List.length_take, List.length_cons, List.length_nil]; omega
      go_wp2_with (first
        | (go_at_call 15
           (
             (with_reducible refine (counts2 (HB.out.alloc _) hlen (by simp)).mono ?_)
             rintro e w2 ⟨rfl, hb2, hs2⟩
             have HB2 := hide hb2
             have HS2 := hide (((Step.refl 5 w0.heap.size g wr).alloc (by omega) _).trans hs2)
             clear hb2 hs2))
        | fail)
      refine ⟨⟨k + 1, by omega, by go_num, ?_, HS.out.trans HS2.out⟩, by simp [intOf]; omega⟩
      have e : [x.id, x.chunk, x.pc, (x.regs.length : Int)] ++ (serPs x.regs ++ ([(x.tries.length : Int)] ++ serPs (x.tries.take (k + 1)))) = ([x.id, x.chunk, x.pc, (x.regs.length : Int)] ++ (serPs x.regs ++ ([(x.tries.length : Int)] ++ serPs (x.tries.take k)))) ++ [x.tries[k].1, x.tries[k].2] := by
        rw [serPs_take x.tries k hlt]; simp
      rw [e, enc_app]
      exact HB2.out
    · obtain rfl : k = x.tries.length := by omega
      go_wp2
      go_end0
      exact ⟨rfl, by simpa [serFr] using HB.out, HS.out⟩
end Go.Proofs.YtgfiociglimoaaaGreatDoor.Ms

set_option maxRecDepth 100000
namespace Go.Proofs.YtgfiociglimoaaaGreatDoor.Ms
open Go Go.Ms Go.Pg Go.ChangeShapes Go.WideShapes Go.ChangeAt Go.RowKit Go.Deep

set_option maxHeartbeats 4000000 in
theorem outcome {w0 : World} {g : Nat} {l : List Int} {x : Oc} {vo : Value} {w : World} (h0 : Below w0.heap.size w0 w) (ho : RowAt 1 (NumAt .i64) w0 vo x.out) (hw1 : WfI .u8 x.fin) (hw2 : WfI .u8 x.fault) (hw3 : WfI .u8 x.vk) (hb : Buf 60 5 w0.heap.size g w l)
    (hl : l.length + 8 * (serOc x).length ≤ 800000) :
    Calls Tryz.prog 19 #[.pointer (some ⟨g, 0, none⟩), .agg #[.int .u8 x.fin, .int .u8 x.fault, .int .i64 x.line, .int .u8 x.vk, .int .i64 x.vn, vo, .int .i64 x.steps]] w (Wrote w0.heap.size g w l (serOc x)) := by
  obtain ⟨oa, cap, rfl, hlm, ho⟩ := ho
  have HB0 := hide hb
  have H0 := hide h0
  have HO := hide ho
  have W3 := hide hw3
  obtain ⟨b1, b2⟩ := wf_u8 hw1
  obtain ⟨b3, b4⟩ := wf_u8 hw2
  have hgl := hb.lt
  rw [serOc_len] at hl
  clear hb h0 ho hw1 hw2 hw3
  go_enter Tryz.func19, Tryz.ntmps19
  go_wp2_with (first
    | (go_at_call 15
       have tok := HB0
       (
         (with_reducible refine (counts3 (HB0.out.alloc _) (by omega) (by simp)).mono ?_)
         rintro e w1 ⟨rfl, hb1, hs1⟩
         have hk1 := hs1.block (new_block w _) (by omega) (by decide)
         have c3 := cell_of hk1 3
         have c4 := cell_of hk1 4
         have HB1 := hide hb1
         have HK1 := hide hk1
         have HS1 := hide (((Step.refl 5 w0.heap.size g w).alloc (by omega) _).trans hs1)
         clear hb1 hs1 hk1 HB0 tok))
    | (go_at_call 17
       (
         (with_reducible refine (value HB1.out (by simp only [encs_len, List.length_append, List.length_cons, List.length_nil]; omega) W3.out).mono ?_)
         rintro e w2 ⟨rfl, hb2, hs2⟩
         have hk2 := hs2.block HK1.out (by omega) (by decide)
         have d5 := cell_of hk2 5
         have HB2 := hide hb2
         have HS2 := hide (HS1.out.trans hs2)
         have HK2 := hide hk2
         clear hb2 hs2 hk2 HB1 HS1 HK1 c3 c4))
    | (go_at_call 15
       have tok := HB2
       (
         (with_reducible refine (counts1 HB2.out (by simp only [encs_len, List.length_append, List.length_cons, List.length_nil]; omega) rfl).mono ?_)
         rintro e w3 ⟨rfl, hb3, hs3⟩
         have hk3 := hs3.block HK2.out (by omega) (by decide)
         have e5 := cell_of hk3 5
         have HB3 := hide hb3
         have HS3 := hide (HS2.out.trans hs3)
         have HK3 := hide hk3
         clear hb3 hs3 hk3 HB2 HS2 HK2 d5 tok))
    | fail)
  have hl3 := HB3.out.lt
  clear W3 e5
  go_loopw [30] (fun i wr => ∃ k : Nat, k ≤ x.out.length ∧ i = .int .i64 (k : Int) ∧ Buf 60 5 w0.heap.size g wr (l ++ ([x.fin, x.fault, x.line, x.vk, x.vn, (x.out.length : Int)] ++ x.out.take k).flatMap enc) ∧ Step 5 w0.heap.size g w3 wr) (fun i _ => x.out.length - (intOf i).toNat)
  case atStart => exact ⟨0, by omega, rfl, by simpa using HB3.out, Step.refl _ _ _ _⟩
  case round =>
    obtain ⟨k, hk, rfl, hB, hS⟩ := hrel
    have HB := hide hB
    have HS := hide hS
    have hgr := hB.lt
    clear hB hS HB3
    by_cases hlt : k < x.out.length
    · have h64 : (k : Int) < (x.out.length : Int) := by omega
      obtain ⟨b, o, rfl, hP⟩ := HO.out k hlt
      have hc1 := cell_below (H0.out.trans (HS3.out.trans HS.out).below) hP.1
      rw [Nat.mul_one] at hc1
      clear hP
      have hlen : (l ++ ([x.fin, x.fault, x.line, x.vk, x.vn, (x.out.length : Int)] ++ x.out.take k).flatMap enc).length ≤ 900000 := by
        simp only [encs_len, List.length_append, List.length_take, List.length_cons, List.length_nil]; omega
      go_wp2_with (first
        | (go_at_call 30
           (
             (with_reducible refine (put' HB.out (by omega)).mono ?_)
             rintro e w2 ⟨rfl, hb2, hs2⟩
             have HB2 := hide hb2
             have HS2 := hide hs2
             clear hb2 hs2))
        | fail)
      refine ⟨⟨k + 1, by omega, by go_num, ?_, HS.out.trans HS2.out⟩, by simp [intOf]; omega⟩
      rw [List.take_succ_eq_append_getElem hlt, ← List.append_assoc [x.fin, x.fault, x.line, x.vk, x.vn, (x.out.length : Int)], enc_app]
      exact HB2.out
    · obtain rfl : k = x.out.length := by omega
      have e6 := cell_of (HS.out.block HK3.out (by omega) (by decide)) 6
      go_wp2_with (first
        | (go_at_call 15
           (
             (with_reducible refine (counts1 HB.out (by simp only [encs_len, List.length_append, List.length_take, List.length_cons, List.length_nil]; omega) rfl).mono ?_)
             rintro e w2 ⟨rfl, hb2, hs2⟩
             have HB2 := hide hb2
             have HS2 := hide hs2
             clear hb2 hs2))
        | fail)
      go_end0
      exact ⟨rfl, by simpa [serOc] using HB2.out, (HS3.out.trans HS.out).trans HS2.out⟩
end Go.Proofs.YtgfiociglimoaaaGreatDoor.Ms

