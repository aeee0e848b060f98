import Derived.Test.YtmgegkgelecopaaGreatDoorRkU0
import Derived.Test.YtmgegkgelecopaaGreatDoorRkQ
set_option maxRecDepth 100000
namespace Go.Proofs.YtmgegkgelecopaaGreatDoor.Rk
open Go Go.Ms Go.Pg Go.Rk Go.ChangeShapes Go.WideShapes Go.ChangeAt Go.RowKit Go.Deep

set_option maxHeartbeats 4000000 in
theorem ref1 (h q m r : Int) (hh : 0 ≤ h ∧ h ≤ 64) (hq : 0 ≤ q ∧ q ≤ 64) (hm : 0 ≤ m ∧ m ≤ 64) (hr : 0 ≤ r ∧ r ≤ 64) (w : World) :
    Calls Tryz.prog 43 #[.int .u8 1, tally h q m r] w fun e w' => e = .returned (fr (refOf 1 (countsOf h q m r))) ∧ Below w.heap.size w w' := by
  obtain ⟨h1, h2⟩ := hh
  obtain ⟨q1, q2⟩ := hq
  obtain ⟨m1, m2⟩ := hm
  obtain ⟨r1, r2⟩ := hr
  have K0 := Lib.hid (fun w' => by88 h (h + m) ⟨by omega, by omega⟩ ⟨by omega, by omega⟩ w')
  have K1 := Lib.hid (fun w' => by88 q (q + r) ⟨by omega, by omega⟩ ⟨by omega, by omega⟩ w')
  have K2 := Lib.hid (fun w' => plus89 (Q h (h + m)) (Q q (q + r)) (Q_bd (by decide) (by decide) ⟨by omega, by omega⟩ ⟨by omega, by omega⟩) (Q_bd (by decide) (by decide) ⟨by omega, by omega⟩ ⟨by omega, by omega⟩) w')
  have K3 := Lib.hid (fun w' => over87 (Q h (h + m)) (fplus (Q h (h + m)) (Q q (q + r))) (Q_bd (by decide) (by decide) ⟨by omega, by omega⟩ ⟨by omega, by omega⟩) (ok_plus (bd_Q ⟨by omega, by omega⟩ ⟨by omega, by omega⟩) (bd_Q ⟨by omega, by omega⟩ ⟨by omega, by omega⟩)) w')
  have hB := two w (.cells #[.int .i64 h, .int .i64 q, .int .i64 m, .int .i64 r] 33) (.cells #[.int .i64 0, .int .i64 0] 23)
  go_enter Tryz.func43, Tryz.ntmps43
  go_wp2_with fail
  go_quiet (fail)
  have HK := Lib.hid (keptR w (.cells #[.int .i64 h, .int .i64 q, .int .i64 m, .int .i64 r] 33) 23 nq)
  clear hB
  generalize (((w.alloc (.cells #[.int .i64 h, .int .i64 q, .int .i64 m, .int .i64 r] 33)).alloc (.cells #[.int .i64 0, .int .i64 0] 23)).drewN nq) = w0 at *
  go_wp2_with (first
    | (go_at_call 88; (with_reducible refine (K0.out _).mono ?_); rintro e w1 ⟨rfl, hB⟩; have HK := Lib.hid (HK.out.step hB); clear hB; obtain ⟨c0, c1, f0, f1, hz, _⟩ := id HK.out)
    | (go_at_call 88; (with_reducible refine (K1.out _).mono ?_); rintro e w1 ⟨rfl, hB⟩; have HK := Lib.hid (HK.out.step hB); clear hB; obtain ⟨c0, c1, f0, f1, hz, _⟩ := id HK.out)
    | (go_at_call 89; (with_reducible refine (K2.out _).mono ?_); rintro e w1 ⟨rfl, hB⟩; have HK := Lib.hid (HK.out.step hB); clear hB; obtain ⟨c0, c1, f0, f1, hz, _⟩ := id HK.out)
    | (go_at_call 87; (with_reducible refine (K3.out _).mono ?_); rintro e w1 ⟨rfl, hB⟩; have HK := Lib.hid (HK.out.step hB); clear hB; obtain ⟨c0, c1, f0, f1, hz, _⟩ := id HK.out)
    | fail)
  refine bodyPost_ret (v := fr (fover (Q h (h + m)) (fplus (Q h (h + m)) (Q q (q + r))))) (by simp [results, Tryz.results43, go_sem, c0, c1]) rfl ⟨rfl, ((HK.out.2.2.2.2.2.out.setCell (show w.heap.size ≤ w.heap.size + 1 by omega) _).setCell (show w.heap.size ≤ w.heap.size + 1 by omega) _)⟩
end Go.Proofs.YtmgegkgelecopaaGreatDoor.Rk

set_option maxRecDepth 100000
namespace Go.Proofs.YtmgegkgelecopaaGreatDoor.Rk
open Go Go.Ms Go.Pg Go.Rk Go.ChangeShapes Go.WideShapes Go.ChangeAt Go.RowKit Go.Deep

set_option maxHeartbeats 4000000 in
theorem ref2 (h q m r : Int) (hh : 0 ≤ h ∧ h ≤ 64) (hq : 0 ≤ q ∧ q ≤ 64) (hm : 0 ≤ m ∧ m ≤ 64) (hr : 0 ≤ r ∧ r ≤ 64) (w : World) :
    Calls Tryz.prog 43 #[.int .u8 2, tally h q m r] w fun e w' => e = .returned (fr (refOf 2 (countsOf h q m r))) ∧ Below w.heap.size w w' := by
  obtain ⟨h1, h2⟩ := hh
  obtain ⟨q1, q2⟩ := hq
  obtain ⟨m1, m2⟩ := hm
  obtain ⟨r1, r2⟩ := hr
  have b1 := mul_bd (a := h) (b := h) (A := 64) (B := 64) ⟨by omega, by omega⟩ ⟨by omega, by omega⟩
  have b2 := mul_bd (a := (h + m)) (b := (h + q)) (A := 128) (B := 128) ⟨by omega, by omega⟩ ⟨by omega, by omega⟩
  have K0 := Lib.hid (fun w' => by88 (h * h) ((h + m) * (h + q)) ⟨by omega, by omega⟩ ⟨by omega, by omega⟩ w')
  have hB := two w (.cells #[.int .i64 h, .int .i64 q, .int .i64 m, .int .i64 r] 33) (.cells #[.int .i64 0, .int .i64 0] 23)
  go_enter Tryz.func43, Tryz.ntmps43
  go_wp2_with fail
  go_quiet (fail)
  have HK := Lib.hid (keptR w (.cells #[.int .i64 h, .int .i64 q, .int .i64 m, .int .i64 r] 33) 23 nq)
  clear hB
  generalize (((w.alloc (.cells #[.int .i64 h, .int .i64 q, .int .i64 m, .int .i64 r] 33)).alloc (.cells #[.int .i64 0, .int .i64 0] 23)).drewN nq) = w0 at *
  go_wp2_with (first
    | (go_at_call 88; (with_reducible refine (K0.out _).mono ?_); rintro e w1 ⟨rfl, hB⟩; have HK := Lib.hid (HK.out.step hB); clear hB; obtain ⟨c0, c1, f0, f1, hz, _⟩ := id HK.out)
    | fail)
  refine bodyPost_ret (v := fr (Q (h * h) ((h + m) * (h + q)))) (by simp [results, Tryz.results43, go_sem, c0, c1]) rfl ⟨rfl, ((HK.out.2.2.2.2.2.out.setCell (show w.heap.size ≤ w.heap.size + 1 by omega) _).setCell (show w.heap.size ≤ w.heap.size + 1 by omega) _)⟩
end Go.Proofs.YtmgegkgelecopaaGreatDoor.Rk

set_option maxRecDepth 100000
namespace Go.Proofs.YtmgegkgelecopaaGreatDoor.Rk
open Go Go.Ms Go.Pg Go.Rk Go.ChangeShapes Go.WideShapes Go.ChangeAt Go.RowKit Go.Deep

set_option maxHeartbeats 4000000 in
theorem ref3 (h q m r : Int) (hh : 0 ≤ h ∧ h ≤ 64) (hq : 0 ≤ q ∧ q ≤ 64) (hm : 0 ≤ m ∧ m ≤ 64) (hr : 0 ≤ r ∧ r ≤ 64) (w : World) :
    Calls Tryz.prog 43 #[.int .u8 3, tally h q m r] w fun e w' => e = .returned (fr (refOf 3 (countsOf h q m r))) ∧ Below w.heap.size w w' := by
  obtain ⟨h1, h2⟩ := hh
  obtain ⟨q1, q2⟩ := hq
  obtain ⟨m1, m2⟩ := hm
  obtain ⟨r1, r2⟩ := hr
  have K0 := Lib.hid (fun w' => by88 h (h + m + q) ⟨by omega, by omega⟩ ⟨by omega, by omega⟩ w')
  have hB := two w (.cells #[.int .i64 h, .int .i64 q, .int .i64 m, .int .i64 r] 33) (.cells #[.int .i64 0, .int .i64 0] 23)
  go_enter Tryz.func43, Tryz.ntmps43
  go_wp2_with fail
  go_quiet (fail)
  have HK := Lib.hid (keptR w (.cells #[.int .i64 h, .int .i64 q, .int .i64 m, .int .i64 r] 33) 23 nq)
  clear hB
  generalize (((w.alloc (.cells #[.int .i64 h, .int .i64 q, .int .i64 m, .int .i64 r] 33)).alloc (.cells #[.int .i64 0, .int .i64 0] 23)).drewN nq) = w0 at *
  go_wp2_with (first
    | (go_at_call 88; (with_reducible refine (K0.out _).mono ?_); rintro e w1 ⟨rfl, hB⟩; have HK := Lib.hid (HK.out.step hB); clear hB; obtain ⟨c0, c1, f0, f1, hz, _⟩ := id HK.out)
    | fail)
  refine bodyPost_ret (v := fr (Q h ((h + m) + q))) (by simp [results, Tryz.results43, go_sem, c0, c1]) rfl ⟨rfl, ((HK.out.2.2.2.2.2.out.setCell (show w.heap.size ≤ w.heap.size + 1 by omega) _).setCell (show w.heap.size ≤ w.heap.size + 1 by omega) _)⟩
end Go.Proofs.YtmgegkgelecopaaGreatDoor.Rk

set_option maxRecDepth 100000
namespace Go.Proofs.YtmgegkgelecopaaGreatDoor.Rk
open Go Go.Ms Go.Pg Go.Rk Go.ChangeShapes Go.WideShapes Go.ChangeAt Go.RowKit Go.Deep

set_option maxHeartbeats 4000000 in
theorem ref4 (h q m r : Int) (hh : 0 ≤ h ∧ h ≤ 64) (hq : 0 ≤ q ∧ q ≤ 64) (hm : 0 ≤ m ∧ m ≤ 64) (hr : 0 ≤ r ∧ r ≤ 64) (w : World) :
    Calls Tryz.prog 43 #[.int .u8 4, tally h q m r] w fun e w' => e = .returned (fr (refOf 4 (countsOf h q m r))) ∧ Below w.heap.size w w' := by
  obtain ⟨h1, h2⟩ := hh
  obtain ⟨q1, q2⟩ := hq
  obtain ⟨m1, m2⟩ := hm
  obtain ⟨r1, r2⟩ := hr
  have K0 := Lib.hid (fun w' => by88 (2 * h) (h + m + h + q) ⟨by omega, by omega⟩ ⟨by omega, by omega⟩ w')
  have hB := two w (.cells #[.int .i64 h, .int .i64 q, .int .i64 m, .int .i64 r] 33) (.cells #[.int .i64 0, .int .i64 0] 23)
  go_enter Tryz.func43, Tryz.ntmps43
  go_wp2_with fail
  go_quiet (fail)
  have HK := Lib.hid (keptR w (.cells #[.int .i64 h, .int .i64 q, .int .i64 m, .int .i64 r] 33) 23 nq)
  clear hB
  generalize (((w.alloc (.cells #[.int .i64 h, .int .i64 q, .int .i64 m, .int .i64 r] 33)).alloc (.cells #[.int .i64 0, .int .i64 0] 23)).drewN nq) = w0 at *
  go_wp2_with (first
    | (go_at_call 88; (with_reducible refine (K0.out _).mono ?_); rintro e w1 ⟨rfl, hB⟩; have HK := Lib.hid (HK.out.step hB); clear hB; obtain ⟨c0, c1, f0, f1, hz, _⟩ := id HK.out)
    | fail)
  refine bodyPost_ret (v := fr (Q (2 * h) ((h + m) + h + q))) (by simp [results, Tryz.results43, go_sem, c0, c1]) rfl ⟨rfl, ((HK.out.2.2.2.2.2.out.setCell (show w.heap.size ≤ w.heap.size + 1 by omega) _).setCell (show w.heap.size ≤ w.heap.size + 1 by omega) _)⟩
end Go.Proofs.YtmgegkgelecopaaGreatDoor.Rk

set_option maxRecDepth 100000
namespace Go.Proofs.YtmgegkgelecopaaGreatDoor.Rk
open Go Go.Ms Go.Pg Go.Rk Go.ChangeShapes Go.WideShapes Go.ChangeAt Go.RowKit Go.Deep

set_option maxHeartbeats 4000000 in
theorem ref5 (h q m r : Int) (hh : 0 ≤ h ∧ h ≤ 64) (hq : 0 ≤ q ∧ q ≤ 64) (hm : 0 ≤ m ∧ m ≤ 64) (hr : 0 ≤ r ∧ r ≤ 64) (w : World) :
    Calls Tryz.prog 43 #[.int .u8 5, tally h q m r] w fun e w' => e = .returned (fr (refOf 5 (countsOf h q m r))) ∧ Below w.heap.size w w' := by
  obtain ⟨h1, h2⟩ := hh
  obtain ⟨q1, q2⟩ := hq
  obtain ⟨m1, m2⟩ := hm
  obtain ⟨r1, r2⟩ := hr
  have K0 := Lib.hid (fun w' => by88 h (h + m) ⟨by omega, by omega⟩ ⟨by omega, by omega⟩ w')
  have K1 := Lib.hid (fun w' => by88 h (h + q) ⟨by omega, by omega⟩ ⟨by omega, by omega⟩ w')
  have K2 := Lib.hid (fun w' => by88 2 1 ⟨by omega, by omega⟩ ⟨by omega, by omega⟩ w')
  have K3 := Lib.hid (fun w' => plus89 (Q h (h + m)) (Q h (h + q)) (Q_bd (by decide) (by decide) ⟨by omega, by omega⟩ ⟨by omega, by omega⟩) (Q_bd (by decide) (by decide) ⟨by omega, by omega⟩ ⟨by omega, by omega⟩) w')
  have K4 := Lib.hid (fun w' => over87 (fplus (Q h (h + m)) (Q h (h + q))) (Q 2 1) (ok_plus (bd_Q ⟨by omega, by omega⟩ ⟨by omega, by omega⟩) (bd_Q ⟨by omega, by omega⟩ ⟨by omega, by omega⟩)) (Q_bd (by decide) (by decide) ⟨by omega, by omega⟩ ⟨by omega, by omega⟩) w')
  have hB := two w (.cells #[.int .i64 h, .int .i64 q, .int .i64 m, .int .i64 r] 33) (.cells #[.int .i64 0, .int .i64 0] 23)
  go_enter Tryz.func43, Tryz.ntmps43
  go_wp2_with fail
  go_quiet (fail)
  have HK := Lib.hid (keptR w (.cells #[.int .i64 h, .int .i64 q, .int .i64 m, .int .i64 r] 33) 23 nq)
  clear hB
  generalize (((w.alloc (.cells #[.int .i64 h, .int .i64 q, .int .i64 m, .int .i64 r] 33)).alloc (.cells #[.int .i64 0, .int .i64 0] 23)).drewN nq) = w0 at *
  go_wp2_with (first
    | (go_at_call 88; (with_reducible refine (K0.out _).mono ?_); rintro e w1 ⟨rfl, hB⟩; have HK := Lib.hid (HK.out.step hB); clear hB; obtain ⟨c0, c1, f0, f1, hz, _⟩ := id HK.out)
    | (go_at_call 88; (with_reducible refine (K1.out _).mono ?_); rintro e w1 ⟨rfl, hB⟩; have HK := Lib.hid (HK.out.step hB); clear hB; obtain ⟨c0, c1, f0, f1, hz, _⟩ := id HK.out)
    | (go_at_call 88; (with_reducible refine (K2.out _).mono ?_); rintro e w1 ⟨rfl, hB⟩; have HK := Lib.hid (HK.out.step hB); clear hB; obtain ⟨c0, c1, f0, f1, hz, _⟩ := id HK.out)
    | (go_at_call 89; (with_reducible refine (K3.out _).mono ?_); rintro e w1 ⟨rfl, hB⟩; have HK := Lib.hid (HK.out.step hB); clear hB; obtain ⟨c0, c1, f0, f1, hz, _⟩ := id HK.out)
    | (go_at_call 87; (with_reducible refine (K4.out _).mono ?_); rintro e w1 ⟨rfl, hB⟩; have HK := Lib.hid (HK.out.step hB); clear hB; obtain ⟨c0, c1, f0, f1, hz, _⟩ := id HK.out)
    | fail)
  refine bodyPost_ret (v := fr (fover (fplus (Q h (h + m)) (Q h (h + q))) (Q 2 1))) (by simp [results, Tryz.results43, go_sem, c0, c1]) rfl ⟨rfl, ((HK.out.2.2.2.2.2.out.setCell (show w.heap.size ≤ w.heap.size + 1 by omega) _).setCell (show w.heap.size ≤ w.heap.size + 1 by omega) _)⟩
end Go.Proofs.YtmgegkgelecopaaGreatDoor.Rk

set_option maxRecDepth 100000
namespace Go.Proofs.YtmgegkgelecopaaGreatDoor.Rk
open Go Go.Ms Go.Pg Go.Rk Go.ChangeShapes Go.WideShapes Go.ChangeAt Go.RowKit Go.Deep

set_option maxHeartbeats 4000000 in
theorem ref6 (h q m r : Int) (hh : 0 ≤ h ∧ h ≤ 64) (hq : 0 ≤ q ∧ q ≤ 64) (hm : 0 ≤ m ∧ m ≤ 64) (hr : 0 ≤ r ∧ r ≤ 64) (w : World) :
    Calls Tryz.prog 43 #[.int .u8 6, tally h q m r] w fun e w' => e = .returned (fr (refOf 6 (countsOf h q m r))) ∧ Below w.heap.size w w' := by
  obtain ⟨h1, h2⟩ := hh
  obtain ⟨q1, q2⟩ := hq
  obtain ⟨m1, m2⟩ := hm
  obtain ⟨r1, r2⟩ := hr
  have b1 := mul_bd (a := h) (b := h) (A := 64) (B := 64) ⟨by omega, by omega⟩ ⟨by omega, by omega⟩
  have b2 := mul_bd (a := (2 * h)) (b := h) (A := 128) (B := 64) ⟨by omega, by omega⟩ ⟨by omega, by omega⟩
  have K0 := Lib.hid (fun w' => by88 (2 * h * h) 1 ⟨by omega, by omega⟩ ⟨by omega, by omega⟩ w')
  have K1 := Lib.hid (fun w' => by88 (h * h) (q + m) ⟨by omega, by omega⟩ ⟨by omega, by omega⟩ w')
  by_cases hs : q + m = 0
  · have HR : Hid (refOf 6 (countsOf h q m r) = Q (2 * h * h) 1) := if_pos hs
    have e0 : ((q + m) == 0) = true := by simpa using hs
    clear hs
    go_enter Tryz.func43, Tryz.ntmps43
    go_wp2_with fail
    go_quiet (fail)
    have HK := Lib.hid (keptR w (.cells #[.int .i64 h, .int .i64 q, .int .i64 m, .int .i64 r] 33) 23 nq)
    generalize (((w.alloc (.cells #[.int .i64 h, .int .i64 q, .int .i64 m, .int .i64 r] 33)).alloc (.cells #[.int .i64 0, .int .i64 0] 23)).drewN nq) = w0 at *
    go_wp2_with (first
      | (go_at_call 88; (with_reducible refine (K0.out _).mono ?_); rintro e w1 ⟨rfl, hB⟩; have HK := Lib.hid (HK.out.step hB); clear hB; obtain ⟨c0, c1, f0, f1, hz, _⟩ := id HK.out)
      | fail)
    refine bodyPost_ret (v := fr (Q (2 * h * h) 1)) (by simp [results, Tryz.results43, go_sem, c0, c1]) rfl ⟨by rw [HR.out], ((HK.out.2.2.2.2.2.out.setCell (show w.heap.size ≤ w.heap.size + 1 by omega) _).setCell (show w.heap.size ≤ w.heap.size + 1 by omega) _)⟩
  · have HR : Hid (refOf 6 (countsOf h q m r) = Q (h * h) (q + m)) := if_neg hs
    have e0 : ((q + m) == 0) = false := by simpa using hs
    clear hs
    go_enter Tryz.func43, Tryz.ntmps43
    go_wp2_with fail
    go_quiet (fail)
    have HK := Lib.hid (keptR w (.cells #[.int .i64 h, .int .i64 q, .int .i64 m, .int .i64 r] 33) 23 nq)
    generalize (((w.alloc (.cells #[.int .i64 h, .int .i64 q, .int .i64 m, .int .i64 r] 33)).alloc (.cells #[.int .i64 0, .int .i64 0] 23)).drewN nq) = w0 at *
    go_wp2_with (first
      | (go_at_call 88; (with_reducible refine (K1.out _).mono ?_); rintro e w1 ⟨rfl, hB⟩; have HK := Lib.hid (HK.out.step hB); clear hB; obtain ⟨c0, c1, f0, f1, hz, _⟩ := id HK.out)
      | fail)
    refine bodyPost_ret (v := fr (Q (h * h) (q + m))) (by simp [results, Tryz.results43, go_sem, c0, c1]) rfl ⟨by rw [HR.out], ((HK.out.2.2.2.2.2.out.setCell (show w.heap.size ≤ w.heap.size + 1 by omega) _).setCell (show w.heap.size ≤ w.heap.size + 1 by omega) _)⟩
end Go.Proofs.YtmgegkgelecopaaGreatDoor.Rk

set_option maxRecDepth 100000
namespace Go.Proofs.YtmgegkgelecopaaGreatDoor.Rk
open Go Go.Ms Go.Pg Go.Rk Go.ChangeShapes Go.WideShapes Go.ChangeAt Go.RowKit Go.Deep

set_option maxHeartbeats 4000000 in
theorem ref7 (h q m r : Int) (hh : 0 ≤ h ∧ h ≤ 64) (hq : 0 ≤ q ∧ q ≤ 64) (hm : 0 ≤ m ∧ m ≤ 64) (hr : 0 ≤ r ∧ r ≤ 64) (w : World) :
    Calls Tryz.prog 43 #[.int .u8 7, tally h q m r] w fun e w' => e = .returned (fr (refOf 7 (countsOf h q m r))) ∧ Below w.heap.size w w' := by
  obtain ⟨h1, h2⟩ := hh
  obtain ⟨q1, q2⟩ := hq
  obtain ⟨m1, m2⟩ := hm
  obtain ⟨r1, r2⟩ := hr
  have K0 := Lib.hid (fun w' => by88 h 1 ⟨by omega, by omega⟩ ⟨by omega, by omega⟩ w')
  have K1 := Lib.hid (fun w' => by88 q (q + r + 1) ⟨by omega, by omega⟩ ⟨by omega, by omega⟩ w')
  have K2 := Lib.hid (fun w' => less90 (Q h 1) (Q q (q + r + 1)) (Q_bd (by decide) (by decide) ⟨by omega, by omega⟩ ⟨by omega, by omega⟩) (Q_bd (by decide) (by decide) ⟨by omega, by omega⟩ ⟨by omega, by omega⟩) w')
  have hB := two w (.cells #[.int .i64 h, .int .i64 q, .int .i64 m, .int .i64 r] 33) (.cells #[.int .i64 0, .int .i64 0] 23)
  go_enter Tryz.func43, Tryz.ntmps43
  go_wp2_with fail
  go_quiet (fail)
  have HK := Lib.hid (keptR w (.cells #[.int .i64 h, .int .i64 q, .int .i64 m, .int .i64 r] 33) 23 nq)
  clear hB
  generalize (((w.alloc (.cells #[.int .i64 h, .int .i64 q, .int .i64 m, .int .i64 r] 33)).alloc (.cells #[.int .i64 0, .int .i64 0] 23)).drewN nq) = w0 at *
  go_wp2_with (first
    | (go_at_call 88; (with_reducible refine (K0.out _).mono ?_); rintro e w1 ⟨rfl, hB⟩; have HK := Lib.hid (HK.out.step hB); clear hB; obtain ⟨c0, c1, f0, f1, hz, _⟩ := id HK.out)
    | (go_at_call 88; (with_reducible refine (K1.out _).mono ?_); rintro e w1 ⟨rfl, hB⟩; have HK := Lib.hid (HK.out.step hB); clear hB; obtain ⟨c0, c1, f0, f1, hz, _⟩ := id HK.out)
    | (go_at_call 90; (with_reducible refine (K2.out _).mono ?_); rintro e w1 ⟨rfl, hB⟩; have HK := Lib.hid (HK.out.step hB); clear hB; obtain ⟨c0, c1, f0, f1, hz, _⟩ := id HK.out)
    | fail)
  refine bodyPost_ret (v := fr (fminus (Q h 1) (Q q ((q + r) + 1)))) (by simp [results, Tryz.results43, go_sem, c0, c1]) rfl ⟨rfl, ((HK.out.2.2.2.2.2.out.setCell (show w.heap.size ≤ w.heap.size + 1 by omega) _).setCell (show w.heap.size ≤ w.heap.size + 1 by omega) _)⟩
end Go.Proofs.YtmgegkgelecopaaGreatDoor.Rk

set_option maxRecDepth 100000
namespace Go.Proofs.YtmgegkgelecopaaGreatDoor.Rk
open Go Go.Ms Go.Pg Go.Rk Go.ChangeShapes Go.WideShapes Go.ChangeAt Go.RowKit Go.Deep

set_option maxHeartbeats 4000000 in
theorem ref8 (h q m r : Int) (hh : 0 ≤ h ∧ h ≤ 64) (hq : 0 ≤ q ∧ q ≤ 64) (hm : 0 ≤ m ∧ m ≤ 64) (hr : 0 ≤ r ∧ r ≤ 64) (w : World) :
    Calls Tryz.prog 43 #[.int .u8 8, tally h q m r] w fun e w' => e = .returned (fr (refOf 8 (countsOf h q m r))) ∧ Below w.heap.size w w' := by
  obtain ⟨h1, h2⟩ := hh
  obtain ⟨q1, q2⟩ := hq
  obtain ⟨m1, m2⟩ := hm
  obtain ⟨r1, r2⟩ := hr
  have K0 := Lib.hid (fun w' => by88 h (h + q) ⟨by omega, by omega⟩ ⟨by omega, by omega⟩ w')
  have hB := two w (.cells #[.int .i64 h, .int .i64 q, .int .i64 m, .int .i64 r] 33) (.cells #[.int .i64 0, .int .i64 0] 23)
  go_enter Tryz.func43, Tryz.ntmps43
  go_wp2_with fail
  go_quiet (fail)
  have HK := Lib.hid (keptR w (.cells #[.int .i64 h, .int .i64 q, .int .i64 m, .int .i64 r] 33) 23 nq)
  clear hB
  generalize (((w.alloc (.cells #[.int .i64 h, .int .i64 q, .int .i64 m, .int .i64 r] 33)).alloc (.cells #[.int .i64 0, .int .i64 0] 23)).drewN nq) = w0 at *
  go_wp2_with (first
    | (go_at_call 88; (with_reducible refine (K0.out _).mono ?_); rintro e w1 ⟨rfl, hB⟩; have HK := Lib.hid (HK.out.step hB); clear hB; obtain ⟨c0, c1, f0, f1, hz, _⟩ := id HK.out)
    | fail)
  refine bodyPost_ret (v := fr (Q h (h + q))) (by simp [results, Tryz.results43, go_sem, c0, c1]) rfl ⟨rfl, ((HK.out.2.2.2.2.2.out.setCell (show w.heap.size ≤ w.heap.size + 1 by omega) _).setCell (show w.heap.size ≤ w.heap.size + 1 by omega) _)⟩
end Go.Proofs.YtmgegkgelecopaaGreatDoor.Rk

set_option maxRecDepth 100000
namespace Go.Proofs.YtmgegkgelecopaaGreatDoor.Rk
open Go Go.Ms Go.Pg Go.Rk Go.ChangeShapes Go.WideShapes Go.ChangeAt Go.RowKit Go.Deep

set_option maxHeartbeats 4000000 in
theorem ref9 (h q m r : Int) (hh : 0 ≤ h ∧ h ≤ 64) (hq : 0 ≤ q ∧ q ≤ 64) (hm : 0 ≤ m ∧ m ≤ 64) (hr : 0 ≤ r ∧ r ≤ 64) (w : World) :
    Calls Tryz.prog 43 #[.int .u8 9, tally h q m r] w fun e w' => e = .returned (fr (refOf 9 (countsOf h q m r))) ∧ Below w.heap.size w w' := by
  obtain ⟨h1, h2⟩ := hh
  obtain ⟨q1, q2⟩ := hq
  obtain ⟨m1, m2⟩ := hm
  obtain ⟨r1, r2⟩ := hr
  have K0 := Lib.hid (fun w' => by88 h (h + m) ⟨by omega, by omega⟩ ⟨by omega, by omega⟩ w')
  have K1 := Lib.hid (fun w' => by88 q (q + r) ⟨by omega, by omega⟩ ⟨by omega, by omega⟩ w')
  have K2 := Lib.hid (fun w' => less90 (Q h (h + m)) (Q q (q + r)) (Q_bd (by decide) (by decide) ⟨by omega, by omega⟩ ⟨by omega, by omega⟩) (Q_bd (by decide) (by decide) ⟨by omega, by omega⟩ ⟨by omega, by omega⟩) w')
  have hbd := fplus_bd (k := 1000000000) (l := 1000000000) (a := Q h (h + m)) (b := (-(Q q (q + r)).1, (Q q (q + r)).2)) (Q_bd (by decide) (by decide) ⟨by omega, by omega⟩ ⟨by omega, by omega⟩) (neg_ok (Q_bd (by decide) (by decide) ⟨by omega, by omega⟩ ⟨by omega, by omega⟩)) (by decide)
  have hbd2 : Bd (2 * (1000000000 * 1000000000)) (fminus (Q h (h + m)) (Q q (q + r))) := hbd
  have HR : Hid (refOf 9 (countsOf h q m r) = ((if (fminus (Q h (h + m)) (Q q (q + r))).1 < 0 then -(fminus (Q h (h + m)) (Q q (q + r))).1 else (fminus (Q h (h + m)) (Q q (q + r))).1), (fminus (Q h (h + m)) (Q q (q + r))).2)) := rfl
  clear hbd
  generalize fminus (Q h (h + m)) (Q q (q + r)) = d at *
  obtain ⟨d1, d2⟩ := d
  obtain ⟨z1, z2, z3, z4⟩ := hbd2
  simp only at z1 z2
  clear z3 z4
  by_cases hs : d1 < 0
  · have HV : Hid (refOf 9 (countsOf h q m r) = (-d1, d2)) := by
      rw [HR.out]
      show (_, _) = (_, _)
      rw [if_pos hs]
    go_enter Tryz.func43, Tryz.ntmps43
    go_wp2_with fail
    go_quiet (fail)
    have HK := Lib.hid (keptR w (.cells #[.int .i64 h, .int .i64 q, .int .i64 m, .int .i64 r] 33) 23 nq)
    generalize (((w.alloc (.cells #[.int .i64 h, .int .i64 q, .int .i64 m, .int .i64 r] 33)).alloc (.cells #[.int .i64 0, .int .i64 0] 23)).drewN nq) = w0 at *
    go_wp2_with (first
      | (go_at_call 88; (with_reducible refine (K0.out _).mono ?_); rintro e w1 ⟨rfl, hB⟩; have HK := Lib.hid (HK.out.step hB); clear hB; obtain ⟨c0, c1, f0, f1, hz, _⟩ := id HK.out)
      | (go_at_call 88; (with_reducible refine (K1.out _).mono ?_); rintro e w1 ⟨rfl, hB⟩; have HK := Lib.hid (HK.out.step hB); clear hB; obtain ⟨c0, c1, f0, f1, hz, _⟩ := id HK.out)
      | (go_at_call 90; (with_reducible refine (K2.out _).mono ?_); rintro e w1 ⟨rfl, hB⟩; have HK := Lib.hid (HK.out.step hB); clear hB; obtain ⟨c0, c1, f0, f1, hz, _⟩ := id HK.out)
      | fail)
    have hle := Nat.le_of_lt hz
    refine bodyPost_ret (v := fr (-d1, d2)) (by simp [results, Tryz.results43, go_sem, c0, c1, hz]) rfl ⟨by rw [HV.out], (((HK.out.2.2.2.2.2.out.setCell (show w.heap.size ≤ w.heap.size + 1 by omega) _).setCell (show w.heap.size ≤ w.heap.size + 1 by omega) _).alloc (by simp; omega) _)⟩
  · have HV : Hid (refOf 9 (countsOf h q m r) = (d1, d2)) := by
      rw [HR.out]
      show (_, _) = (_, _)
      rw [if_neg hs]
    go_enter Tryz.func43, Tryz.ntmps43
    go_wp2_with fail
    go_quiet (fail)
    have HK := Lib.hid (keptR w (.cells #[.int .i64 h, .int .i64 q, .int .i64 m, .int .i64 r] 33) 23 nq)
    generalize (((w.alloc (.cells #[.int .i64 h, .int .i64 q, .int .i64 m, .int .i64 r] 33)).alloc (.cells #[.int .i64 0, .int .i64 0] 23)).drewN nq) = w0 at *
    go_wp2_with (first
      | (go_at_call 88; (with_reducible refine (K0.out _).mono ?_); rintro e w1 ⟨rfl, hB⟩; have HK := Lib.hid (HK.out.step hB); clear hB; obtain ⟨c0, c1, f0, f1, hz, _⟩ := id HK.out)
      | (go_at_call 88; (with_reducible refine (K1.out _).mono ?_); rintro e w1 ⟨rfl, hB⟩; have HK := Lib.hid (HK.out.step hB); clear hB; obtain ⟨c0, c1, f0, f1, hz, _⟩ := id HK.out)
      | (go_at_call 90; (with_reducible refine (K2.out _).mono ?_); rintro e w1 ⟨rfl, hB⟩; have HK := Lib.hid (HK.out.step hB); clear hB; obtain ⟨c0, c1, f0, f1, hz, _⟩ := id HK.out)
      | fail)
    have hle := Nat.le_of_lt hz
    refine bodyPost_ret (v := fr (d1, d2)) (by simp [results, Tryz.results43, go_sem, c0, c1, hz]) rfl ⟨by rw [HV.out], (((HK.out.2.2.2.2.2.out.setCell (show w.heap.size ≤ w.heap.size + 1 by omega) _).setCell (show w.heap.size ≤ w.heap.size + 1 by omega) _).alloc (by simp; omega) _)⟩
end Go.Proofs.YtmgegkgelecopaaGreatDoor.Rk

