import Derived.Test.YtmgegkgelecopaaGreatDoorRkJ2
set_option maxRecDepth 100000
namespace Go.Proofs.YtmgegkgelecopaaGreatDoor.Rk
open Go Go.Ms Go.Pg Go.Rk Go.ChangeShapes Go.WideShapes Go.ChangeAt Go.RowKit Go.Deep

def Ct (w w' : World) (a b c : Nat) (x : Cn) (y : Fr) : Prop := Cl w w' a b c x ∧ w'.cell? ⟨b, 0, none⟩ = some (.int .i64 y.1) ∧ w'.cell? ⟨b, 1, none⟩ = some (.int .i64 y.2)
theorem Ct.step {w w' w'' : World} {a b c : Nat} {x : Cn} {y : Fr} (h : Ct w w' a b c x y) (k : Below w'.heap.size w' w'') : Ct w w'' a b c x y := by
  obtain ⟨h1, h2, h3⟩ := h
  have lb : b < w'.heap.size := h1.2.2.2.2.2.2.2.2.2.2.2.2.2.2.2.1
  exact ⟨h1.step k, (k.cell (p := ⟨b, 0, none⟩) lb).trans h2, (k.cell (p := ⟨b, 1, none⟩) lb).trans h3⟩
theorem Ct.drew {w w' : World} {a b c : Nat} {x : Cn} {y : Fr} (h : Ct w w' a b c x y) : Ct w w'.drew a b c x y := h.step ⟨rfl, rfl, rfl, Nat.le_refl _, fun _ _ => rfl⟩
theorem Ct.put1 {w w' : World} {a b c : Nat} {x : Cn} {y : Fr} (h : Ct w w' a b c x y) : Ct w ((w'.setCell ⟨b, 0, none⟩ (.int .i64 y.1)).setCell ⟨b, 1, none⟩ (.int .i64 y.2)) a b c x y := by
  obtain ⟨h1, h2, h3⟩ := h
  exact ⟨h1.put1 _ _, by go_simp, by go_simp⟩
theorem Ct.of {w w' : World} {a b c : Nat} {x : Cn} (h : Cl w w' a b c x) (y : Fr) : Ct w ((w'.setCell ⟨b, 0, none⟩ (.int .i64 y.1)).setCell ⟨b, 1, none⟩ (.int .i64 y.2)) a b c x y := by
  have r1 := h.2.2.2.2.2.2.1
  have r2 := h.2.2.2.2.2.2.2.1
  exact ⟨h.put1 _ _, by go_simp, by go_simp⟩
theorem Ct.put2 {w w' : World} {a b c : Nat} {x : Cn} {y : Fr} (h : Ct w w' a b c x y) (u v : Value) : Ct w ((w'.setCell ⟨c, 0, none⟩ u).setCell ⟨c, 1, none⟩ v) a b c x y := by
  obtain ⟨h1, h2, h3⟩ := h
  have o : b ≠ c := h1.2.2.2.2.2.2.2.2.2.2.2.2.2.2.2.2.2.2.2.2.2.1
  exact ⟨h1.put2 _ _, by go_simp, by go_simp⟩
theorem ctK {f : FuncId} {args : Array Value} {V : Value} {w w' : World} {a b c : Nat} {x : Cn} {y : Fr} (h : Ct w w' a b c x y) (k : Calls Tryz.prog f args w' fun e w'' => e = .returned V ∧ Below w'.heap.size w' w'') : Calls Tryz.prog f args w' fun e w'' => e = .returned V ∧ Ct w w'' a b c x y :=
  k.mono fun _ _ ⟨e, q⟩ => ⟨e, h.step q⟩
theorem Ct.s {w w' : World} {a b c : Nat} {x : Cn} {y : Fr} (h : Ct w w' a b c x y) : w'.cell? ⟨a, 1, none⟩ = some (.int .i64 x.q) ∧ w'.cell? ⟨a, 5, none⟩ = some (.int .i64 x.p) ∧ w'.cell? ⟨b, 0, none⟩ = some (.int .i64 y.1) ∧ w'.cell? ⟨b, 1, none⟩ = some (.int .i64 y.2) ∧ w'.cell? ⟨c, 0, none⟩ = some (val w' ⟨c, 0, none⟩) ∧ w'.cell? ⟨c, 1, none⟩ = some (val w' ⟨c, 1, none⟩) ∧ w'.frozen? ⟨b, 0, none⟩ = false ∧ w'.frozen? ⟨b, 1, none⟩ = false ∧ w'.frozen? ⟨c, 0, none⟩ = false ∧ w'.frozen? ⟨c, 1, none⟩ = false ∧ Hid (Ct w w' a b c x y) := by
  have k := h
  obtain ⟨⟨h1, h2, h3, h4, h5, h6, r1, r2, r3, r4, f1, f2, f3, f4, _⟩, k1, k2⟩ := k
  exact ⟨h2, h6, k1, k2, r3, r4, f1, f2, f3, f4, h⟩

set_option maxHeartbeats 4000000 in
theorem f65 (x : Cn) (hx : Small x) (w : World) : Calls Tryz.prog 65 #[cn x] w fun e w' => e = .returned (.tuple #[fr (Q x.h x.f), fr (fplus (Q x.h x.f) (Q x.q x.p))]) ∧ Below w.heap.size w w' := by
  have hB := Cl.new w x
  have HX := Lib.hid hx
  obtain ⟨⟨h1, h2⟩, ⟨q1, q2⟩, ⟨m1, m2⟩, ⟨r1, r2⟩, ⟨f1, f2⟩, ⟨p1, p2⟩⟩ := hx
  have K1 := Lib.hid (fun w' => quotient66 x.h x.f ⟨by omega, by omega⟩ ⟨by omega, by omega⟩ w')
  have K2 := Lib.hid (fun w' => quotient66 x.q x.p ⟨by omega, by omega⟩ ⟨by omega, by omega⟩ w')
  have K3 := Lib.hid (fun w' => plus67 (Q x.h x.f) (Q x.q x.p) (Q_bd (by decide) (by decide) ⟨by omega, by omega⟩ ⟨by omega, by omega⟩) (Q_bd (by decide) (by decide) ⟨by omega, by omega⟩ ⟨by omega, by omega⟩) w')
  clear h1 h2 q1 q2 m1 m2 r1 r2 f1 f2 p1 p2
  go_enter Tryz.func65, Tryz.ntmps65
  go_upto_region 1 with (fail)
  have HB0 := Lib.hid hB
  obtain ⟨l1, _, _, _, l5, _, _, _, _, _, _, _, _, _, _⟩ := hB
  generalize (((w.alloc (.cells #[.int .i64 x.h, .int .i64 x.q, .int .i64 x.m, .int .i64 x.r, .int .i64 x.f, .int .i64 x.p] 87)).alloc (.cells #[.int .i64 0, .int .i64 0] 84)).alloc (.cells #[.int .i64 0, .int .i64 0] 84)) = w0 at *
  generalize w.heap.size + 1 + 1 = c at *
  generalize w.heap.size + 1 = b at *
  generalize hQ : Q x.h x.f = A at *
  have HQ := Lib.hid hQ
  clear hQ
  go_upto_region 2 with (first
    | (go_at_call 66; (with_reducible refine (clK HB0.out (K1.out _)).mono ?_); rintro e w1 ⟨rfl, hS⟩; have HS1 := Lib.hid hS; obtain ⟨_, _, _, _, _, _, _, _, _, _, _, _, _, _, _⟩ := hS)
    | fail)
  have HB := Lib.hid (Ct.drew (Ct.of HS1.out A))
  generalize (w1.setCell ⟨b, 0, none⟩ (.int .i64 A.1)).setCell ⟨b, 1, none⟩ (.int .i64 A.2) = w2 at *
  go_region_held (fun w' => w'.cell? ⟨w.heap.size, 1, none⟩ = some (.int .i64 x.q) ∧ w'.cell? ⟨w.heap.size, 5, none⟩ = some (.int .i64 x.p) ∧ w'.cell? ⟨b, 0, none⟩ = some (.int .i64 A.1) ∧ w'.cell? ⟨b, 1, none⟩ = some (.int .i64 A.2) ∧ w'.cell? ⟨c, 0, none⟩ = some (val w' ⟨c, 0, none⟩) ∧ w'.cell? ⟨c, 1, none⟩ = some (val w' ⟨c, 1, none⟩) ∧ w'.frozen? ⟨b, 0, none⟩ = false ∧ w'.frozen? ⟨b, 1, none⟩ = false ∧ w'.frozen? ⟨c, 0, none⟩ = false ∧ w'.frozen? ⟨c, 1, none⟩ = false ∧ Hid (Ct w w' w.heap.size b c x A))
    (first | (with_reducible exact Ct.s HB.out) | (with_reducible exact Ct.s HS.out) | (with_reducible exact Ct.s (Ct.put1 HS.out)) | (with_reducible exact Ct.s (Ct.put2 (Ct.put1 HS.out) _ _)) | (with_reducible exact Ct.s (Ct.put2 HS.out _ _)) | (with_reducible exact Ct.s (Ct.put1 (Ct.put2 HS.out _ _))))
    (first
      | (go_at_call 66; with_reducible refine (ctK HB.out (K2.out _)).mono ?_; rintro e w4 ⟨rfl, hS⟩; have HS := Lib.hid hS; clear hS)
      | (go_at_call 67; with_reducible refine (ctK HS.out (K3.out _)).mono ?_; rintro e w4 ⟨rfl, hS⟩; have HS := Lib.hid hS; clear hS))
  all_goals
    go_wp2_with fail
    obtain ⟨⟨_, _, _, _, _, _, _, _, r3, r4, _, _, _, _, la, lb, lc, o1, o2, o3, o4, o5, hB⟩, r1, r2⟩ := HS.out
    have o6 := o5.symm
    refine bodyPost_ret (v := .tuple #[fr A, fr (fplus A (Q x.q x.p))]) (by simp [results, Tryz.results65, go_sem, r1, r2, r3, r4]) rfl ⟨by rw [HQ.out], ?_⟩
    first
      | exact (((hB.setCell o1 _).setCell o1 _).setCell o2 _).setCell o2 _
      | exact (((hB.setCell o2 _).setCell o2 _).setCell o1 _).setCell o1 _
end Go.Proofs.YtmgegkgelecopaaGreatDoor.Rk

set_option maxRecDepth 100000
namespace Go.Proofs.YtmgegkgelecopaaGreatDoor.Rk
open Go Go.Ms Go.Pg Go.Rk Go.ChangeShapes Go.WideShapes Go.ChangeAt Go.RowKit Go.Deep

theorem s68 {w w' : World} {a b c : Nat} {x : Cn} (h : Cl w w' a b c x) : w'.cell? ⟨a, 0, none⟩ = some (.int .i64 x.h) ∧ w'.cell? ⟨a, 1, none⟩ = some (.int .i64 x.q) ∧ w'.cell? ⟨a, 4, none⟩ = some (.int .i64 x.f) ∧ w'.cell? ⟨b, 0, none⟩ = some (val w' ⟨b, 0, none⟩) ∧ w'.cell? ⟨b, 1, none⟩ = some (val w' ⟨b, 1, none⟩) ∧ w'.cell? ⟨c, 0, none⟩ = some (val w' ⟨c, 0, none⟩) ∧ w'.cell? ⟨c, 1, none⟩ = some (val w' ⟨c, 1, none⟩) ∧ w'.frozen? ⟨b, 0, none⟩ = false ∧ w'.frozen? ⟨b, 1, none⟩ = false ∧ w'.frozen? ⟨c, 0, none⟩ = false ∧ w'.frozen? ⟨c, 1, none⟩ = false ∧ Hid (Cl w w' a b c x) := by
  have k := h
  obtain ⟨h1, h2, h3, h4, h5, h6, r1, r2, r3, r4, f1, f2, f3, f4, _⟩ := k
  exact ⟨h1, h2, h5, r1, r2, r3, r4, f1, f2, f3, f4, h⟩
set_option maxHeartbeats 20000000 in
theorem f68 (x : Cn) (hx : Small x) (w : World) : Calls Tryz.prog 68 #[cn x] w fun e w' => e = .returned (.tuple #[fr (x.h * x.h, 1), fr (x.f * (x.h + x.q), 1)]) ∧ Below w.heap.size w w' := by
  have hB := (Cl.new w x).drew
  have HX := Lib.hid hx
  obtain ⟨⟨h1, h2⟩, ⟨q1, q2⟩, ⟨m1, m2⟩, ⟨r1, r2⟩, ⟨f1, f2⟩, ⟨p1, p2⟩⟩ := hx
  have b1 := mul_bd (a := x.h) (b := x.h) (A := 64) (B := 64) ⟨by omega, by omega⟩ ⟨by omega, by omega⟩
  have b2 := mul_bd (a := x.f) (b := (x.h + x.q)) (A := 128) (B := 128) ⟨by omega, by omega⟩ ⟨by omega, by omega⟩
  have e0 := wr (n := x.h * x.h) ⟨by omega, by omega⟩
  have e1 := wr (n := x.h + x.q) ⟨by omega, by omega⟩
  have e2 := wr (n := x.f * (x.h + x.q)) ⟨by omega, by omega⟩
  clear h1 h2 q1 q2 m1 m2 r1 r2 f1 f2 p1 p2
  go_enter Tryz.func68, Tryz.ntmps68
  go_upto_region 1 with (fail)
  have HB := Lib.hid hB
  clear hB
  generalize (((w.alloc (.cells #[.int .i64 x.h, .int .i64 x.q, .int .i64 x.m, .int .i64 x.r, .int .i64 x.f, .int .i64 x.p] 87)).alloc (.cells #[.int .i64 0, .int .i64 0] 84)).alloc (.cells #[.int .i64 0, .int .i64 0] 84)) = w0 at *
  generalize w.heap.size + 1 + 1 = c at *
  generalize w.heap.size + 1 = b at *
  go_region_held (fun w' => w'.cell? ⟨w.heap.size, 0, none⟩ = some (.int .i64 x.h) ∧ w'.cell? ⟨w.heap.size, 1, none⟩ = some (.int .i64 x.q) ∧ w'.cell? ⟨w.heap.size, 4, none⟩ = some (.int .i64 x.f) ∧ w'.cell? ⟨b, 0, none⟩ = some (val w' ⟨b, 0, none⟩) ∧ w'.cell? ⟨b, 1, none⟩ = some (val w' ⟨b, 1, none⟩) ∧ w'.cell? ⟨c, 0, none⟩ = some (val w' ⟨c, 0, none⟩) ∧ w'.cell? ⟨c, 1, none⟩ = some (val w' ⟨c, 1, none⟩) ∧ w'.frozen? ⟨b, 0, none⟩ = false ∧ w'.frozen? ⟨b, 1, none⟩ = false ∧ w'.frozen? ⟨c, 0, none⟩ = false ∧ w'.frozen? ⟨c, 1, none⟩ = false ∧ Hid (Cl w w' w.heap.size b c x))
    (first | (with_reducible exact s68 HB.out) | (with_reducible exact s68 HS.out) | (with_reducible exact s68 (Cl.put1 HS.out _ _)) | (with_reducible exact s68 (Cl.put2 HS.out _ _)) | (with_reducible exact s68 (Cl.put2 (Cl.put1 HS.out _ _) _ _)) | (with_reducible exact s68 (Cl.put1 (Cl.put2 HS.out _ _) _ _)))
    (first
      | (go_at_call 69; with_reducible refine (clK HS.out (whole69 _ _)).mono ?_; rintro e w4 ⟨rfl, hS⟩; have HS := Lib.hid hS; clear hS)
      | (go_at_call 69; with_reducible refine (clK HB.out (whole69 _ _)).mono ?_; rintro e w4 ⟨rfl, hS⟩; have HS := Lib.hid hS; clear hS))
  all_goals
    go_wp2_with fail
    obtain ⟨_, _, _, _, _, _, r1, r2, r3, r4, _, _, _, _, la, lb, lc, o1, o2, o3, o4, o5, hB⟩ := HS.out
    have o6 := o5.symm
    refine bodyPost_ret (v := .tuple #[fr (x.h * x.h, 1), fr (x.f * (x.h + x.q), 1)]) (by simp [results, Tryz.results68, go_sem, r1, r2, r3, r4]) rfl ⟨rfl, ?_⟩
    first
      | exact (((hB.setCell o1 _).setCell o1 _).setCell o2 _).setCell o2 _
      | exact (((hB.setCell o2 _).setCell o2 _).setCell o1 _).setCell o1 _
end Go.Proofs.YtmgegkgelecopaaGreatDoor.Rk

set_option maxRecDepth 100000
namespace Go.Proofs.YtmgegkgelecopaaGreatDoor.Rk
open Go Go.Ms Go.Pg Go.Rk Go.ChangeShapes Go.WideShapes Go.ChangeAt Go.RowKit Go.Deep

theorem s70 {w w' : World} {a b c : Nat} {x : Cn} (h : Cl w w' a b c x) : w'.cell? ⟨a, 0, none⟩ = some (.int .i64 x.h) ∧ w'.cell? ⟨a, 1, none⟩ = some (.int .i64 x.q) ∧ w'.cell? ⟨a, 4, none⟩ = some (.int .i64 x.f) ∧ w'.cell? ⟨b, 0, none⟩ = some (val w' ⟨b, 0, none⟩) ∧ w'.cell? ⟨b, 1, none⟩ = some (val w' ⟨b, 1, none⟩) ∧ w'.cell? ⟨c, 0, none⟩ = some (val w' ⟨c, 0, none⟩) ∧ w'.cell? ⟨c, 1, none⟩ = some (val w' ⟨c, 1, none⟩) ∧ w'.frozen? ⟨b, 0, none⟩ = false ∧ w'.frozen? ⟨b, 1, none⟩ = false ∧ w'.frozen? ⟨c, 0, none⟩ = false ∧ w'.frozen? ⟨c, 1, none⟩ = false ∧ Hid (Cl w w' a b c x) := by
  have k := h
  obtain ⟨h1, h2, h3, h4, h5, h6, r1, r2, r3, r4, f1, f2, f3, f4, _⟩ := k
  exact ⟨h1, h2, h5, r1, r2, r3, r4, f1, f2, f3, f4, h⟩
set_option maxHeartbeats 20000000 in
theorem f70 (x : Cn) (hx : Small x) (w : World) : Calls Tryz.prog 70 #[cn x] w fun e w' => e = .returned (.tuple #[fr (x.h, 1), fr (x.f + x.q, 1)]) ∧ Below w.heap.size w w' := by
  have hB := (Cl.new w x).drew
  have HX := Lib.hid hx
  obtain ⟨⟨h1, h2⟩, ⟨q1, q2⟩, ⟨m1, m2⟩, ⟨r1, r2⟩, ⟨f1, f2⟩, ⟨p1, p2⟩⟩ := hx
  have e0 := wr (n := x.f + x.q) ⟨by omega, by omega⟩
  clear h1 h2 q1 q2 m1 m2 r1 r2 f1 f2 p1 p2
  go_enter Tryz.func70, Tryz.ntmps70
  go_upto_region 1 with (fail)
  have HB := Lib.hid hB
  clear hB
  generalize (((w.alloc (.cells #[.int .i64 x.h, .int .i64 x.q, .int .i64 x.m, .int .i64 x.r, .int .i64 x.f, .int .i64 x.p] 87)).alloc (.cells #[.int .i64 0, .int .i64 0] 84)).alloc (.cells #[.int .i64 0, .int .i64 0] 84)) = w0 at *
  generalize w.heap.size + 1 + 1 = c at *
  generalize w.heap.size + 1 = b at *
  go_region_held (fun w' => w'.cell? ⟨w.heap.size, 0, none⟩ = some (.int .i64 x.h) ∧ w'.cell? ⟨w.heap.size, 1, none⟩ = some (.int .i64 x.q) ∧ w'.cell? ⟨w.heap.size, 4, none⟩ = some (.int .i64 x.f) ∧ w'.cell? ⟨b, 0, none⟩ = some (val w' ⟨b, 0, none⟩) ∧ w'.cell? ⟨b, 1, none⟩ = some (val w' ⟨b, 1, none⟩) ∧ w'.cell? ⟨c, 0, none⟩ = some (val w' ⟨c, 0, none⟩) ∧ w'.cell? ⟨c, 1, none⟩ = some (val w' ⟨c, 1, none⟩) ∧ w'.frozen? ⟨b, 0, none⟩ = false ∧ w'.frozen? ⟨b, 1, none⟩ = false ∧ w'.frozen? ⟨c, 0, none⟩ = false ∧ w'.frozen? ⟨c, 1, none⟩ = false ∧ Hid (Cl w w' w.heap.size b c x))
    (first | (with_reducible exact s70 HB.out) | (with_reducible exact s70 HS.out) | (with_reducible exact s70 (Cl.put1 HS.out _ _)) | (with_reducible exact s70 (Cl.put2 HS.out _ _)) | (with_reducible exact s70 (Cl.put2 (Cl.put1 HS.out _ _) _ _)) | (with_reducible exact s70 (Cl.put1 (Cl.put2 HS.out _ _) _ _)))
    (first
      | (go_at_call 69; with_reducible refine (clK HS.out (whole69 _ _)).mono ?_; rintro e w4 ⟨rfl, hS⟩; have HS := Lib.hid hS; clear hS)
      | (go_at_call 69; with_reducible refine (clK HB.out (whole69 _ _)).mono ?_; rintro e w4 ⟨rfl, hS⟩; have HS := Lib.hid hS; clear hS))
  all_goals
    go_wp2_with fail
    obtain ⟨_, _, _, _, _, _, r1, r2, r3, r4, _, _, _, _, la, lb, lc, o1, o2, o3, o4, o5, hB⟩ := HS.out
    have o6 := o5.symm
    refine bodyPost_ret (v := .tuple #[fr (x.h, 1), fr (x.f + x.q, 1)]) (by simp [results, Tryz.results70, go_sem, r1, r2, r3, r4]) rfl ⟨rfl, ?_⟩
    first
      | exact (((hB.setCell o1 _).setCell o1 _).setCell o2 _).setCell o2 _
      | exact (((hB.setCell o2 _).setCell o2 _).setCell o1 _).setCell o1 _
end Go.Proofs.YtmgegkgelecopaaGreatDoor.Rk

set_option maxRecDepth 100000
namespace Go.Proofs.YtmgegkgelecopaaGreatDoor.Rk
open Go Go.Ms Go.Pg Go.Rk Go.ChangeShapes Go.WideShapes Go.ChangeAt Go.RowKit Go.Deep

theorem s71 {w w' : World} {a b c : Nat} {x : Cn} (h : Cl w w' a b c x) : w'.cell? ⟨a, 0, none⟩ = some (.int .i64 x.h) ∧ w'.cell? ⟨a, 1, none⟩ = some (.int .i64 x.q) ∧ w'.cell? ⟨a, 4, none⟩ = some (.int .i64 x.f) ∧ w'.cell? ⟨b, 0, none⟩ = some (val w' ⟨b, 0, none⟩) ∧ w'.cell? ⟨b, 1, none⟩ = some (val w' ⟨b, 1, none⟩) ∧ w'.cell? ⟨c, 0, none⟩ = some (val w' ⟨c, 0, none⟩) ∧ w'.cell? ⟨c, 1, none⟩ = some (val w' ⟨c, 1, none⟩) ∧ w'.frozen? ⟨b, 0, none⟩ = false ∧ w'.frozen? ⟨b, 1, none⟩ = false ∧ w'.frozen? ⟨c, 0, none⟩ = false ∧ w'.frozen? ⟨c, 1, none⟩ = false ∧ Hid (Cl w w' a b c x) := by
  have k := h
  obtain ⟨h1, h2, h3, h4, h5, h6, r1, r2, r3, r4, f1, f2, f3, f4, _⟩ := k
  exact ⟨h1, h2, h5, r1, r2, r3, r4, f1, f2, f3, f4, h⟩
set_option maxHeartbeats 20000000 in
theorem f71 (x : Cn) (hx : Small x) (w : World) : Calls Tryz.prog 71 #[cn x] w fun e w' => e = .returned (.tuple #[fr (2 * x.h, 1), fr (x.f + x.h + x.q, 1)]) ∧ Below w.heap.size w w' := by
  have hB := (Cl.new w x).drew
  have HX := Lib.hid hx
  obtain ⟨⟨h1, h2⟩, ⟨q1, q2⟩, ⟨m1, m2⟩, ⟨r1, r2⟩, ⟨f1, f2⟩, ⟨p1, p2⟩⟩ := hx
  have e0 := wr (n := 2 * x.h) ⟨by omega, by omega⟩
  have e1 := wr (n := x.f + x.h) ⟨by omega, by omega⟩
  have e2 := wr (n := x.f + x.h + x.q) ⟨by omega, by omega⟩
  clear h1 h2 q1 q2 m1 m2 r1 r2 f1 f2 p1 p2
  go_enter Tryz.func71, Tryz.ntmps71
  go_upto_region 1 with (fail)
  have HB := Lib.hid hB
  clear hB
  generalize (((w.alloc (.cells #[.int .i64 x.h, .int .i64 x.q, .int .i64 x.m, .int .i64 x.r, .int .i64 x.f, .int .i64 x.p] 87)).alloc (.cells #[.int .i64 0, .int .i64 0] 84)).alloc (.cells #[.int .i64 0, .int .i64 0] 84)) = w0 at *
  generalize w.heap.size + 1 + 1 = c at *
  generalize w.heap.size + 1 = b at *
  go_region_held (fun w' => w'.cell? ⟨w.heap.size, 0, none⟩ = some (.int .i64 x.h) ∧ w'.cell? ⟨w.heap.size, 1, none⟩ = some (.int .i64 x.q) ∧ w'.cell? ⟨w.heap.size, 4, none⟩ = some (.int .i64 x.f) ∧ w'.cell? ⟨b, 0, none⟩ = some (val w' ⟨b, 0, none⟩) ∧ w'.cell? ⟨b, 1, none⟩ = some (val w' ⟨b, 1, none⟩) ∧ w'.cell? ⟨c, 0, none⟩ = some (val w' ⟨c, 0, none⟩) ∧ w'.cell? ⟨c, 1, none⟩ = some (val w' ⟨c, 1, none⟩) ∧ w'.frozen? ⟨b, 0, none⟩ = false ∧ w'.frozen? ⟨b, 1, none⟩ = false ∧ w'.frozen? ⟨c, 0, none⟩ = false ∧ w'.frozen? ⟨c, 1, none⟩ = false ∧ Hid (Cl w w' w.heap.size b c x))
    (first | (with_reducible exact s71 HB.out) | (with_reducible exact s71 HS.out) | (with_reducible exact s71 (Cl.put1 HS.out _ _)) | (with_reducible exact s71 (Cl.put2 HS.out _ _)) | (with_reducible exact s71 (Cl.put2 (Cl.put1 HS.out _ _) _ _)) | (with_reducible exact s71 (Cl.put1 (Cl.put2 HS.out _ _) _ _)))
    (first
      | (go_at_call 69; with_reducible refine (clK HS.out (whole69 _ _)).mono ?_; rintro e w4 ⟨rfl, hS⟩; have HS := Lib.hid hS; clear hS)
      | (go_at_call 69; with_reducible refine (clK HB.out (whole69 _ _)).mono ?_; rintro e w4 ⟨rfl, hS⟩; have HS := Lib.hid hS; clear hS))
  all_goals
    go_wp2_with fail
    obtain ⟨_, _, _, _, _, _, r1, r2, r3, r4, _, _, _, _, la, lb, lc, o1, o2, o3, o4, o5, hB⟩ := HS.out
    have o6 := o5.symm
    refine bodyPost_ret (v := .tuple #[fr (2 * x.h, 1), fr (x.f + x.h + x.q, 1)]) (by simp [results, Tryz.results71, go_sem, r1, r2, r3, r4]) rfl ⟨rfl, ?_⟩
    first
      | exact (((hB.setCell o1 _).setCell o1 _).setCell o2 _).setCell o2 _
      | exact (((hB.setCell o2 _).setCell o2 _).setCell o1 _).setCell o1 _
end Go.Proofs.YtmgegkgelecopaaGreatDoor.Rk

set_option maxRecDepth 100000
namespace Go.Proofs.YtmgegkgelecopaaGreatDoor.Rk
open Go Go.Ms Go.Pg Go.Rk Go.ChangeShapes Go.WideShapes Go.ChangeAt Go.RowKit Go.Deep

theorem s72 {w w' : World} {a b c : Nat} {x : Cn} (h : Cl w w' a b c x) : w'.cell? ⟨a, 0, none⟩ = some (.int .i64 x.h) ∧ w'.cell? ⟨a, 1, none⟩ = some (.int .i64 x.q) ∧ w'.cell? ⟨a, 4, none⟩ = some (.int .i64 x.f) ∧ w'.cell? ⟨b, 0, none⟩ = some (val w' ⟨b, 0, none⟩) ∧ w'.cell? ⟨b, 1, none⟩ = some (val w' ⟨b, 1, none⟩) ∧ w'.cell? ⟨c, 0, none⟩ = some (val w' ⟨c, 0, none⟩) ∧ w'.cell? ⟨c, 1, none⟩ = some (val w' ⟨c, 1, none⟩) ∧ w'.frozen? ⟨b, 0, none⟩ = false ∧ w'.frozen? ⟨b, 1, none⟩ = false ∧ w'.frozen? ⟨c, 0, none⟩ = false ∧ w'.frozen? ⟨c, 1, none⟩ = false ∧ Hid (Cl w w' a b c x) := by
  have k := h
  obtain ⟨h1, h2, h3, h4, h5, h6, r1, r2, r3, r4, f1, f2, f3, f4, _⟩ := k
  exact ⟨h1, h2, h5, r1, r2, r3, r4, f1, f2, f3, f4, h⟩
set_option maxHeartbeats 20000000 in
theorem f72 (x : Cn) (hx : Small x) (w : World) : Calls Tryz.prog 72 #[cn x] w fun e w' => e = .returned (.tuple #[fr (fplus (Q x.h x.f) (Q x.h (x.h + x.q))), fr (2, 1)]) ∧ Below w.heap.size w w' := by
  have hB := (Cl.new w x).drew
  have HX := Lib.hid hx
  obtain ⟨⟨h1, h2⟩, ⟨q1, q2⟩, ⟨m1, m2⟩, ⟨r1, r2⟩, ⟨f1, f2⟩, ⟨p1, p2⟩⟩ := hx
  have K1 := Lib.hid (fun w' => quotient66 x.h x.f ⟨by omega, by omega⟩ ⟨by omega, by omega⟩ w')
  have K2 := Lib.hid (fun w' => quotient66 x.h (x.h + x.q) ⟨by omega, by omega⟩ ⟨by omega, by omega⟩ w')
  have K3 := Lib.hid (fun w' => plus67 (Q x.h x.f) (Q x.h (x.h + x.q)) (Q_bd (by decide) (by decide) ⟨by omega, by omega⟩ ⟨by omega, by omega⟩) (Q_bd (by decide) (by decide) ⟨by omega, by omega⟩ ⟨by omega, by omega⟩) w')
  have e0 := wr (n := x.h + x.q) ⟨by omega, by omega⟩
  clear h1 h2 q1 q2 m1 m2 r1 r2 f1 f2 p1 p2
  go_enter Tryz.func72, Tryz.ntmps72
  go_upto_region 1 with (fail)
  have HB := Lib.hid hB
  clear hB
  generalize (((w.alloc (.cells #[.int .i64 x.h, .int .i64 x.q, .int .i64 x.m, .int .i64 x.r, .int .i64 x.f, .int .i64 x.p] 87)).alloc (.cells #[.int .i64 0, .int .i64 0] 84)).alloc (.cells #[.int .i64 0, .int .i64 0] 84)) = w0 at *
  generalize w.heap.size + 1 + 1 = c at *
  generalize w.heap.size + 1 = b at *
  go_region_held (fun w' => w'.cell? ⟨w.heap.size, 0, none⟩ = some (.int .i64 x.h) ∧ w'.cell? ⟨w.heap.size, 1, none⟩ = some (.int .i64 x.q) ∧ w'.cell? ⟨w.heap.size, 4, none⟩ = some (.int .i64 x.f) ∧ w'.cell? ⟨b, 0, none⟩ = some (val w' ⟨b, 0, none⟩) ∧ w'.cell? ⟨b, 1, none⟩ = some (val w' ⟨b, 1, none⟩) ∧ w'.cell? ⟨c, 0, none⟩ = some (val w' ⟨c, 0, none⟩) ∧ w'.cell? ⟨c, 1, none⟩ = some (val w' ⟨c, 1, none⟩) ∧ w'.frozen? ⟨b, 0, none⟩ = false ∧ w'.frozen? ⟨b, 1, none⟩ = false ∧ w'.frozen? ⟨c, 0, none⟩ = false ∧ w'.frozen? ⟨c, 1, none⟩ = false ∧ Hid (Cl w w' w.heap.size b c x))
    (first | (with_reducible exact s72 HB.out) | (with_reducible exact s72 HS.out) | (with_reducible exact s72 (Cl.put1 HS.out _ _)) | (with_reducible exact s72 (Cl.put2 HS.out _ _)) | (with_reducible exact s72 (Cl.put2 (Cl.put1 HS.out _ _) _ _)) | (with_reducible exact s72 (Cl.put1 (Cl.put2 HS.out _ _) _ _)))
    (first
      | (go_at_call 66; with_reducible refine (clK HS.out (K1.out _)).mono ?_; rintro e w4 ⟨rfl, hS⟩; have HS := Lib.hid hS; clear hS)
      | (go_at_call 66; with_reducible refine (clK HB.out (K1.out _)).mono ?_; rintro e w4 ⟨rfl, hS⟩; have HS := Lib.hid hS; clear hS)
      | (go_at_call 66; with_reducible refine (clK HS.out (K2.out _)).mono ?_; rintro e w4 ⟨rfl, hS⟩; have HS := Lib.hid hS; clear hS)
      | (go_at_call 66; with_reducible refine (clK HB.out (K2.out _)).mono ?_; rintro e w4 ⟨rfl, hS⟩; have HS := Lib.hid hS; clear hS)
      | (go_at_call 67; with_reducible refine (clK HS.out (K3.out _)).mono ?_; rintro e w4 ⟨rfl, hS⟩; have HS := Lib.hid hS; clear hS)
      | (go_at_call 67; with_reducible refine (clK HB.out (K3.out _)).mono ?_; rintro e w4 ⟨rfl, hS⟩; have HS := Lib.hid hS; clear hS)
      | (go_at_call 69; with_reducible refine (clK HS.out (whole69 _ _)).mono ?_; rintro e w4 ⟨rfl, hS⟩; have HS := Lib.hid hS; clear hS)
      | (go_at_call 69; with_reducible refine (clK HB.out (whole69 _ _)).mono ?_; rintro e w4 ⟨rfl, hS⟩; have HS := Lib.hid hS; clear hS))
  all_goals
    go_wp2_with fail
    obtain ⟨_, _, _, _, _, _, r1, r2, r3, r4, _, _, _, _, la, lb, lc, o1, o2, o3, o4, o5, hB⟩ := HS.out
    have o6 := o5.symm
    refine bodyPost_ret (v := .tuple #[fr (fplus (Q x.h x.f) (Q x.h (x.h + x.q))), fr (2, 1)]) (by simp [results, Tryz.results72, go_sem, r1, r2, r3, r4]) rfl ⟨rfl, ?_⟩
    first
      | exact (((hB.setCell o1 _).setCell o1 _).setCell o2 _).setCell o2 _
      | exact (((hB.setCell o2 _).setCell o2 _).setCell o1 _).setCell o1 _
end Go.Proofs.YtmgegkgelecopaaGreatDoor.Rk

set_option maxRecDepth 100000
namespace Go.Proofs.YtmgegkgelecopaaGreatDoor.Rk
open Go Go.Ms Go.Pg Go.Rk Go.ChangeShapes Go.WideShapes Go.ChangeAt Go.RowKit Go.Deep

theorem s73 {w w' : World} {a b c : Nat} {x : Cn} (h : Cl w w' a b c x) : w'.cell? ⟨a, 0, none⟩ = some (.int .i64 x.h) ∧ w'.cell? ⟨a, 1, none⟩ = some (.int .i64 x.q) ∧ w'.cell? ⟨a, 2, none⟩ = some (.int .i64 x.m) ∧ w'.cell? ⟨a, 3, none⟩ = some (.int .i64 x.r) ∧ w'.cell? ⟨a, 4, none⟩ = some (.int .i64 x.f) ∧ w'.cell? ⟨a, 5, none⟩ = some (.int .i64 x.p) ∧ w'.cell? ⟨b, 0, none⟩ = some (val w' ⟨b, 0, none⟩) ∧ w'.cell? ⟨b, 1, none⟩ = some (val w' ⟨b, 1, none⟩) ∧ w'.cell? ⟨c, 0, none⟩ = some (val w' ⟨c, 0, none⟩) ∧ w'.cell? ⟨c, 1, none⟩ = some (val w' ⟨c, 1, none⟩) ∧ w'.frozen? ⟨b, 0, none⟩ = false ∧ w'.frozen? ⟨b, 1, none⟩ = false ∧ w'.frozen? ⟨c, 0, none⟩ = false ∧ w'.frozen? ⟨c, 1, none⟩ = false ∧ Hid (Cl w w' a b c x) := by
  have k := h
  obtain ⟨h1, h2, h3, h4, h5, h6, r1, r2, r3, r4, f1, f2, f3, f4, _⟩ := k
  exact ⟨h1, h2, h3, h4, h5, h6, r1, r2, r3, r4, f1, f2, f3, f4, h⟩
set_option maxHeartbeats 20000000 in
theorem f73 (x : Cn) (hx : Small x) (w : World) : Calls Tryz.prog 73 #[cn x] w fun e w' => e = .returned (.tuple #[fr (x.h * x.h, 1), fr (stray x)]) ∧ Below w.heap.size w w' := by
  have hB := (Cl.new w x).drew
  have HX := Lib.hid hx
  obtain ⟨⟨h1, h2⟩, ⟨q1, q2⟩, ⟨m1, m2⟩, ⟨r1, r2⟩, ⟨f1, f2⟩, ⟨p1, p2⟩⟩ := hx
  have b1 := mul_bd (a := x.h) (b := x.h) (A := 64) (B := 64) ⟨by omega, by omega⟩ ⟨by omega, by omega⟩
  have e0 := wr (n := x.h * x.h) ⟨by omega, by omega⟩
  clear h1 h2 q1 q2 m1 m2 r1 r2 f1 f2 p1 p2
  go_enter Tryz.func73, Tryz.ntmps73
  go_upto_region 1 with (fail)
  have HB := Lib.hid hB
  clear hB
  generalize (((w.alloc (.cells #[.int .i64 x.h, .int .i64 x.q, .int .i64 x.m, .int .i64 x.r, .int .i64 x.f, .int .i64 x.p] 87)).alloc (.cells #[.int .i64 0, .int .i64 0] 84)).alloc (.cells #[.int .i64 0, .int .i64 0] 84)) = w0 at *
  generalize w.heap.size + 1 + 1 = c at *
  generalize w.heap.size + 1 = b at *
  go_region_held (fun w' => w'.cell? ⟨w.heap.size, 0, none⟩ = some (.int .i64 x.h) ∧ w'.cell? ⟨w.heap.size, 1, none⟩ = some (.int .i64 x.q) ∧ w'.cell? ⟨w.heap.size, 2, none⟩ = some (.int .i64 x.m) ∧ w'.cell? ⟨w.heap.size, 3, none⟩ = some (.int .i64 x.r) ∧ w'.cell? ⟨w.heap.size, 4, none⟩ = some (.int .i64 x.f) ∧ w'.cell? ⟨w.heap.size, 5, none⟩ = some (.int .i64 x.p) ∧ w'.cell? ⟨b, 0, none⟩ = some (val w' ⟨b, 0, none⟩) ∧ w'.cell? ⟨b, 1, none⟩ = some (val w' ⟨b, 1, none⟩) ∧ w'.cell? ⟨c, 0, none⟩ = some (val w' ⟨c, 0, none⟩) ∧ w'.cell? ⟨c, 1, none⟩ = some (val w' ⟨c, 1, none⟩) ∧ w'.frozen? ⟨b, 0, none⟩ = false ∧ w'.frozen? ⟨b, 1, none⟩ = false ∧ w'.frozen? ⟨c, 0, none⟩ = false ∧ w'.frozen? ⟨c, 1, none⟩ = false ∧ Hid (Cl w w' w.heap.size b c x))
    (first | (with_reducible exact s73 HB.out) | (with_reducible exact s73 HS.out) | (with_reducible exact s73 (Cl.put1 HS.out _ _)) | (with_reducible exact s73 (Cl.put2 HS.out _ _)) | (with_reducible exact s73 (Cl.put2 (Cl.put1 HS.out _ _) _ _)) | (with_reducible exact s73 (Cl.put1 (Cl.put2 HS.out _ _) _ _)))
    (first
      | (go_at_call 69; with_reducible refine (clK HS.out (whole69 _ _)).mono ?_; rintro e w4 ⟨rfl, hS⟩; have HS := Lib.hid hS; clear hS)
      | (go_at_call 69; with_reducible refine (clK HB.out (whole69 _ _)).mono ?_; rintro e w4 ⟨rfl, hS⟩; have HS := Lib.hid hS; clear hS)
      | (go_at_call 74; with_reducible refine (clK HS.out (strays74 x HX.out _)).mono ?_; rintro e w4 ⟨rfl, hS⟩; have HS := Lib.hid hS; clear hS)
      | (go_at_call 74; with_reducible refine (clK HB.out (strays74 x HX.out _)).mono ?_; rintro e w4 ⟨rfl, hS⟩; have HS := Lib.hid hS; clear hS))
  all_goals
    go_wp2_with fail
    obtain ⟨_, _, _, _, _, _, r1, r2, r3, r4, _, _, _, _, la, lb, lc, o1, o2, o3, o4, o5, hB⟩ := HS.out
    have o6 := o5.symm
    refine bodyPost_ret (v := .tuple #[fr (x.h * x.h, 1), fr (stray x)]) (by simp [results, Tryz.results73, go_sem, r1, r2, r3, r4]) rfl ⟨rfl, ?_⟩
    first
      | exact (((hB.setCell o1 _).setCell o1 _).setCell o2 _).setCell o2 _
      | exact (((hB.setCell o2 _).setCell o2 _).setCell o1 _).setCell o1 _
end Go.Proofs.YtmgegkgelecopaaGreatDoor.Rk

set_option maxRecDepth 100000
namespace Go.Proofs.YtmgegkgelecopaaGreatDoor.Rk
open Go Go.Ms Go.Pg Go.Rk Go.ChangeShapes Go.WideShapes Go.ChangeAt Go.RowKit Go.Deep

theorem s76 {w w' : World} {a b c : Nat} {x : Cn} (h : Cl w w' a b c x) : w'.cell? ⟨a, 0, none⟩ = some (.int .i64 x.h) ∧ w'.cell? ⟨a, 1, none⟩ = some (.int .i64 x.q) ∧ w'.cell? ⟨a, 5, none⟩ = some (.int .i64 x.p) ∧ w'.cell? ⟨b, 0, none⟩ = some (val w' ⟨b, 0, none⟩) ∧ w'.cell? ⟨b, 1, none⟩ = some (val w' ⟨b, 1, none⟩) ∧ w'.cell? ⟨c, 0, none⟩ = some (val w' ⟨c, 0, none⟩) ∧ w'.cell? ⟨c, 1, none⟩ = some (val w' ⟨c, 1, none⟩) ∧ w'.frozen? ⟨b, 0, none⟩ = false ∧ w'.frozen? ⟨b, 1, none⟩ = false ∧ w'.frozen? ⟨c, 0, none⟩ = false ∧ w'.frozen? ⟨c, 1, none⟩ = false ∧ Hid (Cl w w' a b c x) := by
  have k := h
  obtain ⟨h1, h2, h3, h4, h5, h6, r1, r2, r3, r4, f1, f2, f3, f4, _⟩ := k
  exact ⟨h1, h2, h6, r1, r2, r3, r4, f1, f2, f3, f4, h⟩
set_option maxHeartbeats 20000000 in
theorem f76 (x : Cn) (hx : Small x) (w : World) : Calls Tryz.prog 76 #[cn x] w fun e w' => e = .returned (.tuple #[fr (x.h, 1), fr (Q x.q (x.p + 1))]) ∧ Below w.heap.size w w' := by
  have hB := (Cl.new w x).drew
  have HX := Lib.hid hx
  obtain ⟨⟨h1, h2⟩, ⟨q1, q2⟩, ⟨m1, m2⟩, ⟨r1, r2⟩, ⟨f1, f2⟩, ⟨p1, p2⟩⟩ := hx
  have K1 := Lib.hid (fun w' => quotient66 x.q (x.p + 1) ⟨by omega, by omega⟩ ⟨by omega, by omega⟩ w')
  have e0 := wr (n := x.p + 1) ⟨by omega, by omega⟩
  clear h1 h2 q1 q2 m1 m2 r1 r2 f1 f2 p1 p2
  go_enter Tryz.func76, Tryz.ntmps76
  go_upto_region 1 with (fail)
  have HB := Lib.hid hB
  clear hB
  generalize (((w.alloc (.cells #[.int .i64 x.h, .int .i64 x.q, .int .i64 x.m, .int .i64 x.r, .int .i64 x.f, .int .i64 x.p] 87)).alloc (.cells #[.int .i64 0, .int .i64 0] 84)).alloc (.cells #[.int .i64 0, .int .i64 0] 84)) = w0 at *
  generalize w.heap.size + 1 + 1 = c at *
  generalize w.heap.size + 1 = b at *
  go_region_held (fun w' => w'.cell? ⟨w.heap.size, 0, none⟩ = some (.int .i64 x.h) ∧ w'.cell? ⟨w.heap.size, 1, none⟩ = some (.int .i64 x.q) ∧ w'.cell? ⟨w.heap.size, 5, none⟩ = some (.int .i64 x.p) ∧ w'.cell? ⟨b, 0, none⟩ = some (val w' ⟨b, 0, none⟩) ∧ w'.cell? ⟨b, 1, none⟩ = some (val w' ⟨b, 1, none⟩) ∧ w'.cell? ⟨c, 0, none⟩ = some (val w' ⟨c, 0, none⟩) ∧ w'.cell? ⟨c, 1, none⟩ = some (val w' ⟨c, 1, none⟩) ∧ w'.frozen? ⟨b, 0, none⟩ = false ∧ w'.frozen? ⟨b, 1, none⟩ = false ∧ w'.frozen? ⟨c, 0, none⟩ = false ∧ w'.frozen? ⟨c, 1, none⟩ = false ∧ Hid (Cl w w' w.heap.size b c x))
    (first | (with_reducible exact s76 HB.out) | (with_reducible exact s76 HS.out) | (with_reducible exact s76 (Cl.put1 HS.out _ _)) | (with_reducible exact s76 (Cl.put2 HS.out _ _)) | (with_reducible exact s76 (Cl.put2 (Cl.put1 HS.out _ _) _ _)) | (with_reducible exact s76 (Cl.put1 (Cl.put2 HS.out _ _) _ _)))
    (first
      | (go_at_call 69; with_reducible refine (clK HS.out (whole69 _ _)).mono ?_; rintro e w4 ⟨rfl, hS⟩; have HS := Lib.hid hS; clear hS)
      | (go_at_call 69; with_reducible refine (clK HB.out (whole69 _ _)).mono ?_; rintro e w4 ⟨rfl, hS⟩; have HS := Lib.hid hS; clear hS)
      | (go_at_call 66; with_reducible refine (clK HS.out (K1.out _)).mono ?_; rintro e w4 ⟨rfl, hS⟩; have HS := Lib.hid hS; clear hS)
      | (go_at_call 66; with_reducible refine (clK HB.out (K1.out _)).mono ?_; rintro e w4 ⟨rfl, hS⟩; have HS := Lib.hid hS; clear hS))
  all_goals
    go_wp2_with fail
    obtain ⟨_, _, _, _, _, _, r1, r2, r3, r4, _, _, _, _, la, lb, lc, o1, o2, o3, o4, o5, hB⟩ := HS.out
    have o6 := o5.symm
    refine bodyPost_ret (v := .tuple #[fr (x.h, 1), fr (Q x.q (x.p + 1))]) (by simp [results, Tryz.results76, go_sem, r1, r2, r3, r4]) rfl ⟨rfl, ?_⟩
    first
      | exact (((hB.setCell o1 _).setCell o1 _).setCell o2 _).setCell o2 _
      | exact (((hB.setCell o2 _).setCell o2 _).setCell o1 _).setCell o1 _
end Go.Proofs.YtmgegkgelecopaaGreatDoor.Rk

