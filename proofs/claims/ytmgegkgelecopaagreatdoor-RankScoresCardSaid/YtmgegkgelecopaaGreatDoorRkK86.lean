import Derived.Test.YtmgegkgelecopaaGreatDoorRkJ2
set_option maxRecDepth 100000
namespace Go.Proofs.YtmgegkgelecopaaGreatDoor.Rk
open Go Go.Ms Go.Pg Go.Rk Go.ChangeShapes Go.WideShapes Go.ChangeAt Go.RowKit Go.Deep

theorem s77 {w w' : World} {a b c : Nat} {x : Cn} (h : Cl w w' a b c x) : w'.cell? ⟨a, 0, none⟩ = some (.int .i64 x.h) ∧ w'.cell? ⟨a, 1, none⟩ = some (.int .i64 x.q) ∧ w'.cell? ⟨b, 0, none⟩ = some (val w' ⟨b, 0, none⟩) ∧ w'.cell? ⟨b, 1, none⟩ = some (val w' ⟨b, 1, none⟩) ∧ w'.cell? ⟨c, 0, none⟩ = some (val w' ⟨c, 0, none⟩) ∧ w'.cell? ⟨c, 1, none⟩ = some (val w' ⟨c, 1, none⟩) ∧ w'.frozen? ⟨b, 0, none⟩ = false ∧ w'.frozen? ⟨b, 1, none⟩ = false ∧ w'.frozen? ⟨c, 0, none⟩ = false ∧ w'.frozen? ⟨c, 1, none⟩ = false ∧ Hid (Cl w w' a b c x) := by
  have k := h
  obtain ⟨h1, h2, h3, h4, h5, h6, r1, r2, r3, r4, f1, f2, f3, f4, _⟩ := k
  exact ⟨h1, h2, r1, r2, r3, r4, f1, f2, f3, f4, h⟩
set_option maxHeartbeats 20000000 in
theorem f77 (x : Cn) (hx : Small x) (w : World) : Calls Tryz.prog 77 #[cn x] w fun e w' => e = .returned (.tuple #[fr (x.h, 1), fr (x.h + x.q, 1)]) ∧ Below w.heap.size w w' := by
  have hB := (Cl.new w x).drew
  have HX := Lib.hid hx
  obtain ⟨⟨h1, h2⟩, ⟨q1, q2⟩, ⟨m1, m2⟩, ⟨r1, r2⟩, ⟨f1, f2⟩, ⟨p1, p2⟩⟩ := hx
  have e0 := wr (n := x.h + x.q) ⟨by omega, by omega⟩
  clear h1 h2 q1 q2 m1 m2 r1 r2 f1 f2 p1 p2
  go_enter Tryz.func77, Tryz.ntmps77
  go_upto_region 1 with (fail)
  have HB := Lib.hid hB
  clear hB
  generalize (((w.alloc (.cells #[.int .i64 x.h, .int .i64 x.q, .int .i64 x.m, .int .i64 x.r, .int .i64 x.f, .int .i64 x.p] 87)).alloc (.cells #[.int .i64 0, .int .i64 0] 84)).alloc (.cells #[.int .i64 0, .int .i64 0] 84)) = w0 at *
  generalize w.heap.size + 1 + 1 = c at *
  generalize w.heap.size + 1 = b at *
  go_region_held (fun w' => w'.cell? ⟨w.heap.size, 0, none⟩ = some (.int .i64 x.h) ∧ w'.cell? ⟨w.heap.size, 1, none⟩ = some (.int .i64 x.q) ∧ w'.cell? ⟨b, 0, none⟩ = some (val w' ⟨b, 0, none⟩) ∧ w'.cell? ⟨b, 1, none⟩ = some (val w' ⟨b, 1, none⟩) ∧ w'.cell? ⟨c, 0, none⟩ = some (val w' ⟨c, 0, none⟩) ∧ w'.cell? ⟨c, 1, none⟩ = some (val w' ⟨c, 1, none⟩) ∧ w'.frozen? ⟨b, 0, none⟩ = false ∧ w'.frozen? ⟨b, 1, none⟩ = false ∧ w'.frozen? ⟨c, 0, none⟩ = false ∧ w'.frozen? ⟨c, 1, none⟩ = false ∧ Hid (Cl w w' w.heap.size b c x))
    (first | (with_reducible exact s77 HB.out) | (with_reducible exact s77 HS.out) | (with_reducible exact s77 (Cl.put1 HS.out _ _)) | (with_reducible exact s77 (Cl.put2 HS.out _ _)) | (with_reducible exact s77 (Cl.put2 (Cl.put1 HS.out _ _) _ _)) | (with_reducible exact s77 (Cl.put1 (Cl.put2 HS.out _ _) _ _)))
    (first
      | (go_at_call 69; with_reducible refine (clK HS.out (whole69 _ _)).mono ?_; rintro e w4 ⟨rfl, hS⟩; have HS := Lib.hid hS; clear hS)
      | (go_at_call 69; with_reducible refine (clK HB.out (whole69 _ _)).mono ?_; rintro e w4 ⟨rfl, hS⟩; have HS := Lib.hid hS; clear hS))
  all_goals
    go_wp2_with fail
    obtain ⟨_, _, _, _, _, _, r1, r2, r3, r4, _, _, _, _, la, lb, lc, o1, o2, o3, o4, o5, hB⟩ := HS.out
    have o6 := o5.symm
    refine bodyPost_ret (v := .tuple #[fr (x.h, 1), fr (x.h + x.q, 1)]) (by simp [results, Tryz.results77, go_sem, r1, r2, r3, r4]) rfl ⟨rfl, ?_⟩
    first
      | exact (((hB.setCell o1 _).setCell o1 _).setCell o2 _).setCell o2 _
      | exact (((hB.setCell o2 _).setCell o2 _).setCell o1 _).setCell o1 _
end Go.Proofs.YtmgegkgelecopaaGreatDoor.Rk

set_option maxRecDepth 100000
namespace Go.Proofs.YtmgegkgelecopaaGreatDoor.Rk
open Go Go.Ms Go.Pg Go.Rk Go.ChangeShapes Go.WideShapes Go.ChangeAt Go.RowKit Go.Deep

theorem s79 {w w' : World} {a b c : Nat} {x : Cn} (h : Cl w w' a b c x) : w'.cell? ⟨a, 0, none⟩ = some (.int .i64 x.h) ∧ w'.cell? ⟨a, 1, none⟩ = some (.int .i64 x.q) ∧ w'.cell? ⟨a, 4, none⟩ = some (.int .i64 x.f) ∧ w'.cell? ⟨a, 5, none⟩ = some (.int .i64 x.p) ∧ w'.cell? ⟨b, 0, none⟩ = some (val w' ⟨b, 0, none⟩) ∧ w'.cell? ⟨b, 1, none⟩ = some (val w' ⟨b, 1, none⟩) ∧ w'.cell? ⟨c, 0, none⟩ = some (val w' ⟨c, 0, none⟩) ∧ w'.cell? ⟨c, 1, none⟩ = some (val w' ⟨c, 1, none⟩) ∧ w'.frozen? ⟨b, 0, none⟩ = false ∧ w'.frozen? ⟨b, 1, none⟩ = false ∧ w'.frozen? ⟨c, 0, none⟩ = false ∧ w'.frozen? ⟨c, 1, none⟩ = false ∧ Hid (Cl w w' a b c x) := by
  have k := h
  obtain ⟨h1, h2, h3, h4, h5, h6, r1, r2, r3, r4, f1, f2, f3, f4, _⟩ := k
  exact ⟨h1, h2, h5, h6, r1, r2, r3, r4, f1, f2, f3, f4, h⟩
set_option maxHeartbeats 20000000 in
theorem f79 (x : Cn) (hx : Small x) (w : World) : Calls Tryz.prog 79 #[cn x] w fun e w' => e = .returned (.tuple #[fr (Q x.h x.f), fr (Q x.q x.p)]) ∧ Below w.heap.size w w' := by
  have hB := (Cl.new w x).drew
  have HX := Lib.hid hx
  obtain ⟨⟨h1, h2⟩, ⟨q1, q2⟩, ⟨m1, m2⟩, ⟨r1, r2⟩, ⟨f1, f2⟩, ⟨p1, p2⟩⟩ := hx
  have K1 := Lib.hid (fun w' => quotient66 x.h x.f ⟨by omega, by omega⟩ ⟨by omega, by omega⟩ w')
  have K2 := Lib.hid (fun w' => quotient66 x.q x.p ⟨by omega, by omega⟩ ⟨by omega, by omega⟩ w')
  clear h1 h2 q1 q2 m1 m2 r1 r2 f1 f2 p1 p2
  go_enter Tryz.func79, Tryz.ntmps79
  go_upto_region 1 with (fail)
  have HB := Lib.hid hB
  clear hB
  generalize (((w.alloc (.cells #[.int .i64 x.h, .int .i64 x.q, .int .i64 x.m, .int .i64 x.r, .int .i64 x.f, .int .i64 x.p] 87)).alloc (.cells #[.int .i64 0, .int .i64 0] 84)).alloc (.cells #[.int .i64 0, .int .i64 0] 84)) = w0 at *
  generalize w.heap.size + 1 + 1 = c at *
  generalize w.heap.size + 1 = b at *
  go_region_held (fun w' => w'.cell? ⟨w.heap.size, 0, none⟩ = some (.int .i64 x.h) ∧ w'.cell? ⟨w.heap.size, 1, none⟩ = some (.int .i64 x.q) ∧ w'.cell? ⟨w.heap.size, 4, none⟩ = some (.int .i64 x.f) ∧ w'.cell? ⟨w.heap.size, 5, none⟩ = some (.int .i64 x.p) ∧ w'.cell? ⟨b, 0, none⟩ = some (val w' ⟨b, 0, none⟩) ∧ w'.cell? ⟨b, 1, none⟩ = some (val w' ⟨b, 1, none⟩) ∧ w'.cell? ⟨c, 0, none⟩ = some (val w' ⟨c, 0, none⟩) ∧ w'.cell? ⟨c, 1, none⟩ = some (val w' ⟨c, 1, none⟩) ∧ w'.frozen? ⟨b, 0, none⟩ = false ∧ w'.frozen? ⟨b, 1, none⟩ = false ∧ w'.frozen? ⟨c, 0, none⟩ = false ∧ w'.frozen? ⟨c, 1, none⟩ = false ∧ Hid (Cl w w' w.heap.size b c x))
    (first | (with_reducible exact s79 HB.out) | (with_reducible exact s79 HS.out) | (with_reducible exact s79 (Cl.put1 HS.out _ _)) | (with_reducible exact s79 (Cl.put2 HS.out _ _)) | (with_reducible exact s79 (Cl.put2 (Cl.put1 HS.out _ _) _ _)) | (with_reducible exact s79 (Cl.put1 (Cl.put2 HS.out _ _) _ _)))
    (first
      | (go_at_call 66; with_reducible refine (clK HS.out (K1.out _)).mono ?_; rintro e w4 ⟨rfl, hS⟩; have HS := Lib.hid hS; clear hS)
      | (go_at_call 66; with_reducible refine (clK HB.out (K1.out _)).mono ?_; rintro e w4 ⟨rfl, hS⟩; have HS := Lib.hid hS; clear hS)
      | (go_at_call 66; with_reducible refine (clK HS.out (K2.out _)).mono ?_; rintro e w4 ⟨rfl, hS⟩; have HS := Lib.hid hS; clear hS)
      | (go_at_call 66; with_reducible refine (clK HB.out (K2.out _)).mono ?_; rintro e w4 ⟨rfl, hS⟩; have HS := Lib.hid hS; clear hS))
  all_goals
    go_wp2_with fail
    obtain ⟨_, _, _, _, _, _, r1, r2, r3, r4, _, _, _, _, la, lb, lc, o1, o2, o3, o4, o5, hB⟩ := HS.out
    have o6 := o5.symm
    refine bodyPost_ret (v := .tuple #[fr (Q x.h x.f), fr (Q x.q x.p)]) (by simp [results, Tryz.results79, go_sem, r1, r2, r3, r4]) rfl ⟨rfl, ?_⟩
    first
      | exact (((hB.setCell o1 _).setCell o1 _).setCell o2 _).setCell o2 _
      | exact (((hB.setCell o2 _).setCell o2 _).setCell o1 _).setCell o1 _
end Go.Proofs.YtmgegkgelecopaaGreatDoor.Rk

set_option maxRecDepth 100000
namespace Go.Proofs.YtmgegkgelecopaaGreatDoor.Rk
open Go Go.Ms Go.Pg Go.Rk Go.ChangeShapes Go.WideShapes Go.ChangeAt Go.RowKit Go.Deep

theorem s80 {w w' : World} {a b c : Nat} {x : Cn} (h : Cl w w' a b c x) : w'.cell? ⟨a, 0, none⟩ = some (.int .i64 x.h) ∧ w'.cell? ⟨a, 1, none⟩ = some (.int .i64 x.q) ∧ w'.cell? ⟨a, 2, none⟩ = some (.int .i64 x.m) ∧ w'.cell? ⟨a, 3, none⟩ = some (.int .i64 x.r) ∧ w'.cell? ⟨a, 4, none⟩ = some (.int .i64 x.f) ∧ w'.cell? ⟨a, 5, none⟩ = some (.int .i64 x.p) ∧ w'.cell? ⟨b, 0, none⟩ = some (val w' ⟨b, 0, none⟩) ∧ w'.cell? ⟨b, 1, none⟩ = some (val w' ⟨b, 1, none⟩) ∧ w'.cell? ⟨c, 0, none⟩ = some (val w' ⟨c, 0, none⟩) ∧ w'.cell? ⟨c, 1, none⟩ = some (val w' ⟨c, 1, none⟩) ∧ w'.frozen? ⟨b, 0, none⟩ = false ∧ w'.frozen? ⟨b, 1, none⟩ = false ∧ w'.frozen? ⟨c, 0, none⟩ = false ∧ w'.frozen? ⟨c, 1, none⟩ = false ∧ Hid (Cl w w' a b c x) := by
  have k := h
  obtain ⟨h1, h2, h3, h4, h5, h6, r1, r2, r3, r4, f1, f2, f3, f4, _⟩ := k
  exact ⟨h1, h2, h3, h4, h5, h6, r1, r2, r3, r4, f1, f2, f3, f4, h⟩
set_option maxHeartbeats 20000000 in
theorem f80 (x : Cn) (hx : Small x) (w : World) : Calls Tryz.prog 80 #[cn x] w fun e w' => e = .returned (.tuple #[fr (x.h, 1), fr (damp x)]) ∧ Below w.heap.size w w' := by
  have hB := (Cl.new w x).drew
  have HX := Lib.hid hx
  obtain ⟨⟨h1, h2⟩, ⟨q1, q2⟩, ⟨m1, m2⟩, ⟨r1, r2⟩, ⟨f1, f2⟩, ⟨p1, p2⟩⟩ := hx
  clear h1 h2 q1 q2 m1 m2 r1 r2 f1 f2 p1 p2
  go_enter Tryz.func80, Tryz.ntmps80
  go_upto_region 1 with (fail)
  have HB := Lib.hid hB
  clear hB
  generalize (((w.alloc (.cells #[.int .i64 x.h, .int .i64 x.q, .int .i64 x.m, .int .i64 x.r, .int .i64 x.f, .int .i64 x.p] 87)).alloc (.cells #[.int .i64 0, .int .i64 0] 84)).alloc (.cells #[.int .i64 0, .int .i64 0] 84)) = w0 at *
  generalize w.heap.size + 1 + 1 = c at *
  generalize w.heap.size + 1 = b at *
  go_region_held (fun w' => w'.cell? ⟨w.heap.size, 0, none⟩ = some (.int .i64 x.h) ∧ w'.cell? ⟨w.heap.size, 1, none⟩ = some (.int .i64 x.q) ∧ w'.cell? ⟨w.heap.size, 2, none⟩ = some (.int .i64 x.m) ∧ w'.cell? ⟨w.heap.size, 3, none⟩ = some (.int .i64 x.r) ∧ w'.cell? ⟨w.heap.size, 4, none⟩ = some (.int .i64 x.f) ∧ w'.cell? ⟨w.heap.size, 5, none⟩ = some (.int .i64 x.p) ∧ w'.cell? ⟨b, 0, none⟩ = some (val w' ⟨b, 0, none⟩) ∧ w'.cell? ⟨b, 1, none⟩ = some (val w' ⟨b, 1, none⟩) ∧ w'.cell? ⟨c, 0, none⟩ = some (val w' ⟨c, 0, none⟩) ∧ w'.cell? ⟨c, 1, none⟩ = some (val w' ⟨c, 1, none⟩) ∧ w'.frozen? ⟨b, 0, none⟩ = false ∧ w'.frozen? ⟨b, 1, none⟩ = false ∧ w'.frozen? ⟨c, 0, none⟩ = false ∧ w'.frozen? ⟨c, 1, none⟩ = false ∧ Hid (Cl w w' w.heap.size b c x))
    (first | (with_reducible exact s80 HB.out) | (with_reducible exact s80 HS.out) | (with_reducible exact s80 (Cl.put1 HS.out _ _)) | (with_reducible exact s80 (Cl.put2 HS.out _ _)) | (with_reducible exact s80 (Cl.put2 (Cl.put1 HS.out _ _) _ _)) | (with_reducible exact s80 (Cl.put1 (Cl.put2 HS.out _ _) _ _)))
    (first
      | (go_at_call 69; with_reducible refine (clK HS.out (whole69 _ _)).mono ?_; rintro e w4 ⟨rfl, hS⟩; have HS := Lib.hid hS; clear hS)
      | (go_at_call 69; with_reducible refine (clK HB.out (whole69 _ _)).mono ?_; rintro e w4 ⟨rfl, hS⟩; have HS := Lib.hid hS; clear hS)
      | (go_at_call 81; with_reducible refine (clK HS.out (damped81 x HX.out _)).mono ?_; rintro e w4 ⟨rfl, hS⟩; have HS := Lib.hid hS; clear hS)
      | (go_at_call 81; with_reducible refine (clK HB.out (damped81 x HX.out _)).mono ?_; rintro e w4 ⟨rfl, hS⟩; have HS := Lib.hid hS; clear hS))
  all_goals
    go_wp2_with fail
    obtain ⟨_, _, _, _, _, _, r1, r2, r3, r4, _, _, _, _, la, lb, lc, o1, o2, o3, o4, o5, hB⟩ := HS.out
    have o6 := o5.symm
    refine bodyPost_ret (v := .tuple #[fr (x.h, 1), fr (damp x)]) (by simp [results, Tryz.results80, go_sem, r1, r2, r3, r4]) rfl ⟨rfl, ?_⟩
    first
      | exact (((hB.setCell o1 _).setCell o1 _).setCell o2 _).setCell o2 _
      | exact (((hB.setCell o2 _).setCell o2 _).setCell o1 _).setCell o1 _
end Go.Proofs.YtmgegkgelecopaaGreatDoor.Rk

set_option maxRecDepth 100000
namespace Go.Proofs.YtmgegkgelecopaaGreatDoor.Rk
open Go Go.Ms Go.Pg Go.Rk Go.ChangeShapes Go.WideShapes Go.ChangeAt Go.RowKit Go.Deep

theorem s82 {w w' : World} {a b c : Nat} {x : Cn} (h : Cl w w' a b c x) : w'.cell? ⟨a, 0, none⟩ = some (.int .i64 x.h) ∧ w'.cell? ⟨a, 4, none⟩ = some (.int .i64 x.f) ∧ w'.cell? ⟨a, 5, none⟩ = some (.int .i64 x.p) ∧ w'.cell? ⟨b, 0, none⟩ = some (val w' ⟨b, 0, none⟩) ∧ w'.cell? ⟨b, 1, none⟩ = some (val w' ⟨b, 1, none⟩) ∧ w'.cell? ⟨c, 0, none⟩ = some (val w' ⟨c, 0, none⟩) ∧ w'.cell? ⟨c, 1, none⟩ = some (val w' ⟨c, 1, none⟩) ∧ w'.frozen? ⟨b, 0, none⟩ = false ∧ w'.frozen? ⟨b, 1, none⟩ = false ∧ w'.frozen? ⟨c, 0, none⟩ = false ∧ w'.frozen? ⟨c, 1, none⟩ = false ∧ Hid (Cl w w' a b c x) := by
  have k := h
  obtain ⟨h1, h2, h3, h4, h5, h6, r1, r2, r3, r4, f1, f2, f3, f4, _⟩ := k
  exact ⟨h1, h5, h6, r1, r2, r3, r4, f1, f2, f3, f4, h⟩
set_option maxHeartbeats 20000000 in
theorem f82 (x : Cn) (hx : Small x) (w : World) : Calls Tryz.prog 82 #[cn x] w fun e w' => e = .returned (.tuple #[fr (x.h, 1), fr (x.f + x.p, 1)]) ∧ Below w.heap.size w w' := by
  have hB := (Cl.new w x).drew
  have HX := Lib.hid hx
  obtain ⟨⟨h1, h2⟩, ⟨q1, q2⟩, ⟨m1, m2⟩, ⟨r1, r2⟩, ⟨f1, f2⟩, ⟨p1, p2⟩⟩ := hx
  have e0 := wr (n := x.f + x.p) ⟨by omega, by omega⟩
  clear h1 h2 q1 q2 m1 m2 r1 r2 f1 f2 p1 p2
  go_enter Tryz.func82, Tryz.ntmps82
  go_upto_region 1 with (fail)
  have HB := Lib.hid hB
  clear hB
  generalize (((w.alloc (.cells #[.int .i64 x.h, .int .i64 x.q, .int .i64 x.m, .int .i64 x.r, .int .i64 x.f, .int .i64 x.p] 87)).alloc (.cells #[.int .i64 0, .int .i64 0] 84)).alloc (.cells #[.int .i64 0, .int .i64 0] 84)) = w0 at *
  generalize w.heap.size + 1 + 1 = c at *
  generalize w.heap.size + 1 = b at *
  go_region_held (fun w' => w'.cell? ⟨w.heap.size, 0, none⟩ = some (.int .i64 x.h) ∧ w'.cell? ⟨w.heap.size, 4, none⟩ = some (.int .i64 x.f) ∧ w'.cell? ⟨w.heap.size, 5, none⟩ = some (.int .i64 x.p) ∧ w'.cell? ⟨b, 0, none⟩ = some (val w' ⟨b, 0, none⟩) ∧ w'.cell? ⟨b, 1, none⟩ = some (val w' ⟨b, 1, none⟩) ∧ w'.cell? ⟨c, 0, none⟩ = some (val w' ⟨c, 0, none⟩) ∧ w'.cell? ⟨c, 1, none⟩ = some (val w' ⟨c, 1, none⟩) ∧ w'.frozen? ⟨b, 0, none⟩ = false ∧ w'.frozen? ⟨b, 1, none⟩ = false ∧ w'.frozen? ⟨c, 0, none⟩ = false ∧ w'.frozen? ⟨c, 1, none⟩ = false ∧ Hid (Cl w w' w.heap.size b c x))
    (first | (with_reducible exact s82 HB.out) | (with_reducible exact s82 HS.out) | (with_reducible exact s82 (Cl.put1 HS.out _ _)) | (with_reducible exact s82 (Cl.put2 HS.out _ _)) | (with_reducible exact s82 (Cl.put2 (Cl.put1 HS.out _ _) _ _)) | (with_reducible exact s82 (Cl.put1 (Cl.put2 HS.out _ _) _ _)))
    (first
      | (go_at_call 69; with_reducible refine (clK HS.out (whole69 _ _)).mono ?_; rintro e w4 ⟨rfl, hS⟩; have HS := Lib.hid hS; clear hS)
      | (go_at_call 69; with_reducible refine (clK HB.out (whole69 _ _)).mono ?_; rintro e w4 ⟨rfl, hS⟩; have HS := Lib.hid hS; clear hS))
  all_goals
    go_wp2_with fail
    obtain ⟨_, _, _, _, _, _, r1, r2, r3, r4, _, _, _, _, la, lb, lc, o1, o2, o3, o4, o5, hB⟩ := HS.out
    have o6 := o5.symm
    refine bodyPost_ret (v := .tuple #[fr (x.h, 1), fr (x.f + x.p, 1)]) (by simp [results, Tryz.results82, go_sem, r1, r2, r3, r4]) rfl ⟨rfl, ?_⟩
    first
      | exact (((hB.setCell o1 _).setCell o1 _).setCell o2 _).setCell o2 _
      | exact (((hB.setCell o2 _).setCell o2 _).setCell o1 _).setCell o1 _
end Go.Proofs.YtmgegkgelecopaaGreatDoor.Rk

set_option maxRecDepth 100000
namespace Go.Proofs.YtmgegkgelecopaaGreatDoor.Rk
open Go Go.Ms Go.Pg Go.Rk Go.ChangeShapes Go.WideShapes Go.ChangeAt Go.RowKit Go.Deep

theorem s83 {w w' : World} {a b c : Nat} {x : Cn} (h : Cl w w' a b c x) : w'.cell? ⟨a, 0, none⟩ = some (.int .i64 x.h) ∧ w'.cell? ⟨a, 3, none⟩ = some (.int .i64 x.r) ∧ w'.cell? ⟨a, 4, none⟩ = some (.int .i64 x.f) ∧ w'.cell? ⟨a, 5, none⟩ = some (.int .i64 x.p) ∧ w'.cell? ⟨b, 0, none⟩ = some (val w' ⟨b, 0, none⟩) ∧ w'.cell? ⟨b, 1, none⟩ = some (val w' ⟨b, 1, none⟩) ∧ w'.cell? ⟨c, 0, none⟩ = some (val w' ⟨c, 0, none⟩) ∧ w'.cell? ⟨c, 1, none⟩ = some (val w' ⟨c, 1, none⟩) ∧ w'.frozen? ⟨b, 0, none⟩ = false ∧ w'.frozen? ⟨b, 1, none⟩ = false ∧ w'.frozen? ⟨c, 0, none⟩ = false ∧ w'.frozen? ⟨c, 1, none⟩ = false ∧ Hid (Cl w w' a b c x) := by
  have k := h
  obtain ⟨h1, h2, h3, h4, h5, h6, r1, r2, r3, r4, f1, f2, f3, f4, _⟩ := k
  exact ⟨h1, h4, h5, h6, r1, r2, r3, r4, f1, f2, f3, f4, h⟩
set_option maxHeartbeats 20000000 in
theorem f83 (x : Cn) (hx : Small x) (w : World) : Calls Tryz.prog 83 #[cn x] w fun e w' => e = .returned (.tuple #[fr (x.h + x.r, 1), fr (x.f + x.p, 1)]) ∧ Below w.heap.size w w' := by
  have hB := (Cl.new w x).drew
  have HX := Lib.hid hx
  obtain ⟨⟨h1, h2⟩, ⟨q1, q2⟩, ⟨m1, m2⟩, ⟨r1, r2⟩, ⟨f1, f2⟩, ⟨p1, p2⟩⟩ := hx
  have e0 := wr (n := x.h + x.r) ⟨by omega, by omega⟩
  have e1 := wr (n := x.f + x.p) ⟨by omega, by omega⟩
  clear h1 h2 q1 q2 m1 m2 r1 r2 f1 f2 p1 p2
  go_enter Tryz.func83, Tryz.ntmps83
  go_upto_region 1 with (fail)
  have HB := Lib.hid hB
  clear hB
  generalize (((w.alloc (.cells #[.int .i64 x.h, .int .i64 x.q, .int .i64 x.m, .int .i64 x.r, .int .i64 x.f, .int .i64 x.p] 87)).alloc (.cells #[.int .i64 0, .int .i64 0] 84)).alloc (.cells #[.int .i64 0, .int .i64 0] 84)) = w0 at *
  generalize w.heap.size + 1 + 1 = c at *
  generalize w.heap.size + 1 = b at *
  go_region_held (fun w' => w'.cell? ⟨w.heap.size, 0, none⟩ = some (.int .i64 x.h) ∧ w'.cell? ⟨w.heap.size, 3, none⟩ = some (.int .i64 x.r) ∧ w'.cell? ⟨w.heap.size, 4, none⟩ = some (.int .i64 x.f) ∧ w'.cell? ⟨w.heap.size, 5, none⟩ = some (.int .i64 x.p) ∧ w'.cell? ⟨b, 0, none⟩ = some (val w' ⟨b, 0, none⟩) ∧ w'.cell? ⟨b, 1, none⟩ = some (val w' ⟨b, 1, none⟩) ∧ w'.cell? ⟨c, 0, none⟩ = some (val w' ⟨c, 0, none⟩) ∧ w'.cell? ⟨c, 1, none⟩ = some (val w' ⟨c, 1, none⟩) ∧ w'.frozen? ⟨b, 0, none⟩ = false ∧ w'.frozen? ⟨b, 1, none⟩ = false ∧ w'.frozen? ⟨c, 0, none⟩ = false ∧ w'.frozen? ⟨c, 1, none⟩ = false ∧ Hid (Cl w w' w.heap.size b c x))
    (first | (with_reducible exact s83 HB.out) | (with_reducible exact s83 HS.out) | (with_reducible exact s83 (Cl.put1 HS.out _ _)) | (with_reducible exact s83 (Cl.put2 HS.out _ _)) | (with_reducible exact s83 (Cl.put2 (Cl.put1 HS.out _ _) _ _)) | (with_reducible exact s83 (Cl.put1 (Cl.put2 HS.out _ _) _ _)))
    (first
      | (go_at_call 69; with_reducible refine (clK HS.out (whole69 _ _)).mono ?_; rintro e w4 ⟨rfl, hS⟩; have HS := Lib.hid hS; clear hS)
      | (go_at_call 69; with_reducible refine (clK HB.out (whole69 _ _)).mono ?_; rintro e w4 ⟨rfl, hS⟩; have HS := Lib.hid hS; clear hS))
  all_goals
    go_wp2_with fail
    obtain ⟨_, _, _, _, _, _, r1, r2, r3, r4, _, _, _, _, la, lb, lc, o1, o2, o3, o4, o5, hB⟩ := HS.out
    have o6 := o5.symm
    refine bodyPost_ret (v := .tuple #[fr (x.h + x.r, 1), fr (x.f + x.p, 1)]) (by simp [results, Tryz.results83, go_sem, r1, r2, r3, r4]) rfl ⟨rfl, ?_⟩
    first
      | exact (((hB.setCell o1 _).setCell o1 _).setCell o2 _).setCell o2 _
      | exact (((hB.setCell o2 _).setCell o2 _).setCell o1 _).setCell o1 _
end Go.Proofs.YtmgegkgelecopaaGreatDoor.Rk

set_option maxRecDepth 100000
namespace Go.Proofs.YtmgegkgelecopaaGreatDoor.Rk
open Go Go.Ms Go.Pg Go.Rk Go.ChangeShapes Go.WideShapes Go.ChangeAt Go.RowKit Go.Deep

theorem s85 {w w' : World} {a b c : Nat} {x : Cn} (h : Cl w w' a b c x) : w'.cell? ⟨a, 0, none⟩ = some (.int .i64 x.h) ∧ w'.cell? ⟨a, 1, none⟩ = some (.int .i64 x.q) ∧ w'.cell? ⟨b, 0, none⟩ = some (val w' ⟨b, 0, none⟩) ∧ w'.cell? ⟨b, 1, none⟩ = some (val w' ⟨b, 1, none⟩) ∧ w'.cell? ⟨c, 0, none⟩ = some (val w' ⟨c, 0, none⟩) ∧ w'.cell? ⟨c, 1, none⟩ = some (val w' ⟨c, 1, none⟩) ∧ w'.frozen? ⟨b, 0, none⟩ = false ∧ w'.frozen? ⟨b, 1, none⟩ = false ∧ w'.frozen? ⟨c, 0, none⟩ = false ∧ w'.frozen? ⟨c, 1, none⟩ = false ∧ Hid (Cl w w' a b c x) := by
  have k := h
  obtain ⟨h1, h2, h3, h4, h5, h6, r1, r2, r3, r4, f1, f2, f3, f4, _⟩ := k
  exact ⟨h1, h2, r1, r2, r3, r4, f1, f2, f3, f4, h⟩
set_option maxHeartbeats 20000000 in
theorem f85 (x : Cn) (hx : Small x) (w : World) : Calls Tryz.prog 85 #[cn x] w fun e w' => e = .returned (.tuple #[fr (x.h, 1), fr (fplus (1, 1) (Q 1 (2 * x.q + x.h)))]) ∧ Below w.heap.size w w' := by
  have hB := (Cl.new w x).drew
  have HX := Lib.hid hx
  obtain ⟨⟨h1, h2⟩, ⟨q1, q2⟩, ⟨m1, m2⟩, ⟨r1, r2⟩, ⟨f1, f2⟩, ⟨p1, p2⟩⟩ := hx
  have K1 := Lib.hid (fun w' => quotient66 1 (2 * x.q + x.h) ⟨by omega, by omega⟩ ⟨by omega, by omega⟩ w')
  have K2 := Lib.hid (fun w' => plus67 (1, 1) (Q 1 (2 * x.q + x.h)) ⟨by decide, by decide, by decide, by decide⟩ (Q_bd (by decide) (by decide) ⟨by omega, by omega⟩ ⟨by omega, by omega⟩) w')
  have e0 := wr (n := 2 * x.q) ⟨by omega, by omega⟩
  have e1 := wr (n := 2 * x.q + x.h) ⟨by omega, by omega⟩
  clear h1 h2 q1 q2 m1 m2 r1 r2 f1 f2 p1 p2
  go_enter Tryz.func85, Tryz.ntmps85
  go_upto_region 1 with (fail)
  have HB := Lib.hid hB
  clear hB
  generalize (((w.alloc (.cells #[.int .i64 x.h, .int .i64 x.q, .int .i64 x.m, .int .i64 x.r, .int .i64 x.f, .int .i64 x.p] 87)).alloc (.cells #[.int .i64 0, .int .i64 0] 84)).alloc (.cells #[.int .i64 0, .int .i64 0] 84)) = w0 at *
  generalize w.heap.size + 1 + 1 = c at *
  generalize w.heap.size + 1 = b at *
  go_region_held (fun w' => w'.cell? ⟨w.heap.size, 0, none⟩ = some (.int .i64 x.h) ∧ w'.cell? ⟨w.heap.size, 1, none⟩ = some (.int .i64 x.q) ∧ w'.cell? ⟨b, 0, none⟩ = some (val w' ⟨b, 0, none⟩) ∧ w'.cell? ⟨b, 1, none⟩ = some (val w' ⟨b, 1, none⟩) ∧ w'.cell? ⟨c, 0, none⟩ = some (val w' ⟨c, 0, none⟩) ∧ w'.cell? ⟨c, 1, none⟩ = some (val w' ⟨c, 1, none⟩) ∧ w'.frozen? ⟨b, 0, none⟩ = false ∧ w'.frozen? ⟨b, 1, none⟩ = false ∧ w'.frozen? ⟨c, 0, none⟩ = false ∧ w'.frozen? ⟨c, 1, none⟩ = false ∧ Hid (Cl w w' w.heap.size b c x))
    (first | (with_reducible exact s85 HB.out) | (with_reducible exact s85 HS.out) | (with_reducible exact s85 (Cl.put1 HS.out _ _)) | (with_reducible exact s85 (Cl.put2 HS.out _ _)) | (with_reducible exact s85 (Cl.put2 (Cl.put1 HS.out _ _) _ _)) | (with_reducible exact s85 (Cl.put1 (Cl.put2 HS.out _ _) _ _)))
    (first
      | (go_at_call 66; with_reducible refine (clK HS.out (K1.out _)).mono ?_; rintro e w4 ⟨rfl, hS⟩; have HS := Lib.hid hS; clear hS)
      | (go_at_call 66; with_reducible refine (clK HB.out (K1.out _)).mono ?_; rintro e w4 ⟨rfl, hS⟩; have HS := Lib.hid hS; clear hS)
      | (go_at_call 67; with_reducible refine (clK HS.out (K2.out _)).mono ?_; rintro e w4 ⟨rfl, hS⟩; have HS := Lib.hid hS; clear hS)
      | (go_at_call 67; with_reducible refine (clK HB.out (K2.out _)).mono ?_; rintro e w4 ⟨rfl, hS⟩; have HS := Lib.hid hS; clear hS)
      | (go_at_call 69; with_reducible refine (clK HS.out (whole69 _ _)).mono ?_; rintro e w4 ⟨rfl, hS⟩; have HS := Lib.hid hS; clear hS)
      | (go_at_call 69; with_reducible refine (clK HB.out (whole69 _ _)).mono ?_; rintro e w4 ⟨rfl, hS⟩; have HS := Lib.hid hS; clear hS))
  all_goals
    go_wp2_with fail
    obtain ⟨_, _, _, _, _, _, r1, r2, r3, r4, _, _, _, _, la, lb, lc, o1, o2, o3, o4, o5, hB⟩ := HS.out
    have o6 := o5.symm
    refine bodyPost_ret (v := .tuple #[fr (x.h, 1), fr (fplus (1, 1) (Q 1 (2 * x.q + x.h)))]) (by simp [results, Tryz.results85, go_sem, r1, r2, r3, r4]) rfl ⟨rfl, ?_⟩
    first
      | exact (((hB.setCell o1 _).setCell o1 _).setCell o2 _).setCell o2 _
      | exact (((hB.setCell o2 _).setCell o2 _).setCell o1 _).setCell o1 _
end Go.Proofs.YtmgegkgelecopaaGreatDoor.Rk

set_option maxRecDepth 100000
namespace Go.Proofs.YtmgegkgelecopaaGreatDoor.Rk
open Go Go.Ms Go.Pg Go.Rk Go.ChangeShapes Go.WideShapes Go.ChangeAt Go.RowKit Go.Deep

theorem s86 {w w' : World} {a b c : Nat} {x : Cn} (h : Cl w w' a b c x) : w'.cell? ⟨a, 0, none⟩ = some (.int .i64 x.h) ∧ w'.cell? ⟨a, 1, none⟩ = some (.int .i64 x.q) ∧ w'.cell? ⟨a, 2, none⟩ = some (.int .i64 x.m) ∧ w'.cell? ⟨a, 4, none⟩ = some (.int .i64 x.f) ∧ w'.cell? ⟨b, 0, none⟩ = some (val w' ⟨b, 0, none⟩) ∧ w'.cell? ⟨b, 1, none⟩ = some (val w' ⟨b, 1, none⟩) ∧ w'.cell? ⟨c, 0, none⟩ = some (val w' ⟨c, 0, none⟩) ∧ w'.cell? ⟨c, 1, none⟩ = some (val w' ⟨c, 1, none⟩) ∧ w'.frozen? ⟨b, 0, none⟩ = false ∧ w'.frozen? ⟨b, 1, none⟩ = false ∧ w'.frozen? ⟨c, 0, none⟩ = false ∧ w'.frozen? ⟨c, 1, none⟩ = false ∧ Hid (Cl w w' a b c x) := by
  have k := h
  obtain ⟨h1, h2, h3, h4, h5, h6, r1, r2, r3, r4, f1, f2, f3, f4, _⟩ := k
  exact ⟨h1, h2, h3, h5, r1, r2, r3, r4, f1, f2, f3, f4, h⟩
set_option maxHeartbeats 20000000 in
theorem f86 (x : Cn) (hx : Small x) (w : World) : Calls Tryz.prog 86 #[cn x] w fun e w' => e = .returned (.tuple #[fr (x.h * x.h, 1), fr (x.h * (x.f + x.q) + 10000 * x.m * x.q, 1)]) ∧ Below w.heap.size w w' := by
  have hB := (Cl.new w x).drew
  have HX := Lib.hid hx
  obtain ⟨⟨h1, h2⟩, ⟨q1, q2⟩, ⟨m1, m2⟩, ⟨r1, r2⟩, ⟨f1, f2⟩, ⟨p1, p2⟩⟩ := hx
  have b1 := mul_bd (a := x.h) (b := x.h) (A := 64) (B := 64) ⟨by omega, by omega⟩ ⟨by omega, by omega⟩
  have b2 := mul_bd (a := x.h) (b := (x.f + x.q)) (A := 64) (B := 192) ⟨by omega, by omega⟩ ⟨by omega, by omega⟩
  have b3 := mul_bd (a := (10000 * x.m)) (b := x.q) (A := 640000) (B := 64) ⟨by omega, by omega⟩ ⟨by omega, by omega⟩
  have e0 := wr (n := x.h * x.h) ⟨by omega, by omega⟩
  have e1 := wr (n := x.f + x.q) ⟨by omega, by omega⟩
  have e2 := wr (n := x.h * (x.f + x.q)) ⟨by omega, by omega⟩
  have e3 := wr (n := 10000 * x.m) ⟨by omega, by omega⟩
  have e4 := wr (n := 10000 * x.m * x.q) ⟨by omega, by omega⟩
  have e5 := wr (n := x.h * (x.f + x.q) + 10000 * x.m * x.q) ⟨by omega, by omega⟩
  clear h1 h2 q1 q2 m1 m2 r1 r2 f1 f2 p1 p2
  go_enter Tryz.func86, Tryz.ntmps86
  go_upto_region 1 with (fail)
  have HB := Lib.hid hB
  clear hB
  generalize (((w.alloc (.cells #[.int .i64 x.h, .int .i64 x.q, .int .i64 x.m, .int .i64 x.r, .int .i64 x.f, .int .i64 x.p] 87)).alloc (.cells #[.int .i64 0, .int .i64 0] 84)).alloc (.cells #[.int .i64 0, .int .i64 0] 84)) = w0 at *
  generalize w.heap.size + 1 + 1 = c at *
  generalize w.heap.size + 1 = b at *
  go_region_held (fun w' => w'.cell? ⟨w.heap.size, 0, none⟩ = some (.int .i64 x.h) ∧ w'.cell? ⟨w.heap.size, 1, none⟩ = some (.int .i64 x.q) ∧ w'.cell? ⟨w.heap.size, 2, none⟩ = some (.int .i64 x.m) ∧ w'.cell? ⟨w.heap.size, 4, none⟩ = some (.int .i64 x.f) ∧ w'.cell? ⟨b, 0, none⟩ = some (val w' ⟨b, 0, none⟩) ∧ w'.cell? ⟨b, 1, none⟩ = some (val w' ⟨b, 1, none⟩) ∧ w'.cell? ⟨c, 0, none⟩ = some (val w' ⟨c, 0, none⟩) ∧ w'.cell? ⟨c, 1, none⟩ = some (val w' ⟨c, 1, none⟩) ∧ w'.frozen? ⟨b, 0, none⟩ = false ∧ w'.frozen? ⟨b, 1, none⟩ = false ∧ w'.frozen? ⟨c, 0, none⟩ = false ∧ w'.frozen? ⟨c, 1, none⟩ = false ∧ Hid (Cl w w' w.heap.size b c x))
    (first | (with_reducible exact s86 HB.out) | (with_reducible exact s86 HS.out) | (with_reducible exact s86 (Cl.put1 HS.out _ _)) | (with_reducible exact s86 (Cl.put2 HS.out _ _)) | (with_reducible exact s86 (Cl.put2 (Cl.put1 HS.out _ _) _ _)) | (with_reducible exact s86 (Cl.put1 (Cl.put2 HS.out _ _) _ _)))
    (first
      | (go_at_call 69; with_reducible refine (clK HS.out (whole69 _ _)).mono ?_; rintro e w4 ⟨rfl, hS⟩; have HS := Lib.hid hS; clear hS)
      | (go_at_call 69; with_reducible refine (clK HB.out (whole69 _ _)).mono ?_; rintro e w4 ⟨rfl, hS⟩; have HS := Lib.hid hS; clear hS))
  all_goals
    go_wp2_with fail
    obtain ⟨_, _, _, _, _, _, r1, r2, r3, r4, _, _, _, _, la, lb, lc, o1, o2, o3, o4, o5, hB⟩ := HS.out
    have o6 := o5.symm
    refine bodyPost_ret (v := .tuple #[fr (x.h * x.h, 1), fr (x.h * (x.f + x.q) + 10000 * x.m * x.q, 1)]) (by simp [results, Tryz.results86, go_sem, r1, r2, r3, r4]) rfl ⟨rfl, ?_⟩
    first
      | exact (((hB.setCell o1 _).setCell o1 _).setCell o2 _).setCell o2 _
      | exact (((hB.setCell o2 _).setCell o2 _).setCell o1 _).setCell o1 _
end Go.Proofs.YtmgegkgelecopaaGreatDoor.Rk

