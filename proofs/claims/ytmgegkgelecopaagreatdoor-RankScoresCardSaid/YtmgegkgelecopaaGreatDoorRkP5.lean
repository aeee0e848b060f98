import Derived.Test.YtmgegkgelecopaaGreatDoorRkQ
import Derived.Test.YtmgegkgelecopaaGreatDoorRkK76
set_option maxRecDepth 100000
namespace Go.Proofs.YtmgegkgelecopaaGreatDoor.Rk
open Go Go.Ms Go.Pg Go.Rk Go.ChangeShapes Go.WideShapes Go.ChangeAt Go.RowKit Go.Deep

theorem s81_1 : (Tryz.prog.info? 81).map (·.size) = some (#[.func (.func 64) #[] #[], .func (.func 65) #[] #[]] : Array Value).size := by kernel_rfl
theorem o81_1 : (#[.func (.func 64) #[] #[], .func (.func 65) #[] #[]] : Array Value).all (·.oneCell') = true := by kernel_rfl
set_option maxHeartbeats 4000000 in
theorem score1 (h q m r : Int) (hh : 0 ≤ h ∧ h ≤ 64) (hq : 0 ≤ q ∧ q ≤ 64) (hm : 0 ≤ m ∧ m ≤ 64) (hr : 0 ≤ r ∧ r ≤ 64) (w : World) :
    Calls Tryz.prog 14 #[.int .u8 1, tally h q m r] w fun e w' => e = .returned (.tuple #[fr (scoreOf 1 (countsOf h q m r)), .int .i64 0]) ∧ Below w.heap.size w w' := by
  have hsm := small_of hh hq hm hr
  have KC := Lib.hid (fun w' => countsOf42 h q m r hh hq hm hr w')
  have KT := Lib.hid (fun w' => f65 (countsOf h q m r) hsm w')
  have KJ := Lib.hid (fun w' => over64 (Q (countsOf h q m r).h (countsOf h q m r).f) (fplus (Q (countsOf h q m r).h (countsOf h q m r).f) (Q (countsOf h q m r).q (countsOf h q m r).p)) (okA1 hsm) (okB1 hsm) w')
  obtain ⟨h1, h2⟩ := hh
  obtain ⟨q1, q2⟩ := hq
  obtain ⟨m1, m2⟩ := hm
  obtain ⟨r1, r2⟩ := hr
  clear hsm
  have i0 : ∀ w, Sem.run Tryz.prog (Instr.index 77 (.agg #[.int .i64 h, .int .i64 q, .int .i64 m, .int .i64 r]) (.int .i64 0)) w = .ok (.int .i64 h) w := fun w => by kernel_rfl
  have i1 : ∀ w, Sem.run Tryz.prog (Instr.index 77 (.agg #[.int .i64 h, .int .i64 q, .int .i64 m, .int .i64 r]) (.int .i64 1)) w = .ok (.int .i64 q) w := fun w => by kernel_rfl
  have i2 : ∀ w, Sem.run Tryz.prog (Instr.index 77 (.agg #[.int .i64 h, .int .i64 q, .int .i64 m, .int .i64 r]) (.int .i64 2)) w = .ok (.int .i64 m) w := fun w => by kernel_rfl
  have i3 : ∀ w, Sem.run Tryz.prog (Instr.index 77 (.agg #[.int .i64 h, .int .i64 q, .int .i64 m, .int .i64 r]) (.int .i64 3)) w = .ok (.int .i64 r) w := fun w => by kernel_rfl
  have hidx : ∀ w, Sem.run Tryz.prog (Instr.index 82 (.agg fvals) (.int .u8 1)) w = .ok (.agg #[.func (.func 64) #[] #[], .func (.func 65) #[] #[]]) w := fun w => by kernel_rfl
  go_enter Tryz.func14, Tryz.ntmps14
  go_wp2_with (first
    | (go_at_call 40; refine (isFormula_yes _ ⟨by decide, by decide⟩ _).mono ?_; rintro e w' ⟨rfl, rfl⟩)
    | fail)
  go_loop [22] (fun i => i = .int .i64 0 ∨ i = .int .i64 1 ∨ i = .int .i64 2 ∨ i = .int .i64 3 ∨ i = .int .i64 4) (fun i => 4 - (intOf i).toNat)
  case atStart => exact Or.inl rfl
  case round =>
    rcases hrel with rfl | rfl | rfl | rfl | rfl
    iterate 4
      · go_wp2_with fail
        go_round
        case rel => simp
        case measure => simp [intOf]
    · clear h1 h2 q1 q2 m1 m2 r1 r2
      go_wp2_with (first
        | (refine wpList_store_mid rfl 81 (.tmp 8) (.tmp 36) rfl w1.heap.size 0 #[.func (.func 64) #[] #[], .func (.func 65) #[] #[]] rfl rfl (there_new w1 _ 81) s81_1 o81_1 ?_)
        | (go_at_call 41; refine (formulas41 _).mono ?_; rintro e w1 ⟨rfl, hB⟩; have HB0 := Lib.hid hB; clear hB)
        | fail)
      have HB := Lib.hid (Sc.drew (Sc.start (z1 := .nilFunc) (z2 := .nilFunc) (F := .func (.func 64) #[] #[]) (G := .func (.func 65) #[] #[]) HB0.out))
      clear HB0 i0 i1 i2 i3 hidx
      generalize (w1.alloc (.cells #[.nilFunc, .nilFunc] 81)).setCells w1.heap.size 0 [.func (.func 64) #[] #[], .func (.func 65) #[] #[]] = w2 at *
      go_region_held (fun w' => w'.cell? ⟨w.heap.size, 0, none⟩ = some (.int .i64 h) ∧ w'.cell? ⟨w.heap.size, 1, none⟩ = some (.int .i64 q) ∧ w'.cell? ⟨w.heap.size, 2, none⟩ = some (.int .i64 m) ∧ w'.cell? ⟨w.heap.size, 3, none⟩ = some (.int .i64 r) ∧ w'.cell? ⟨w1.heap.size, 0, none⟩ = some (.func (.func 64) #[] #[]) ∧ w'.cell? ⟨w1.heap.size, 1, none⟩ = some (.func (.func 65) #[] #[]) ∧ w'.cell? ⟨w.heap.size + 1, 0, none⟩ = some (val w' ⟨w.heap.size + 1, 0, none⟩) ∧ w'.cell? ⟨w.heap.size + 1, 1, none⟩ = some (val w' ⟨w.heap.size + 1, 1, none⟩) ∧ w'.frozen? ⟨w.heap.size + 1, 0, none⟩ = false ∧ w'.frozen? ⟨w.heap.size + 1, 1, none⟩ = false ∧ Hid (Sc w w' w.heap.size (w.heap.size + 1) w1.heap.size h q m r (.func (.func 64) #[] #[]) (.func (.func 65) #[] #[])))
        (first | (with_reducible exact Sc.s HB.out) | (with_reducible exact Sc.s HS.out) | (with_reducible exact Sc.s (Sc.put HS.out _ _)))
        (first
          | (go_at_call 42; with_reducible refine (scK HB.out (KC.out _)).mono ?_; rintro e w4 ⟨rfl, hS⟩; have HS := Lib.hid hS; clear hS)
          | (go_at_call 65; with_reducible refine (scK HS.out (KT.out _)).mono ?_; rintro e w4 ⟨rfl, hS⟩; have HS := Lib.hid hS; clear hS)
          | (go_at_call 64; with_reducible refine (scK HS.out (KJ.out _)).mono ?_; rintro e w4 ⟨rfl, hS⟩; have HS := Lib.hid hS; clear hS))
      all_goals
        go_wp2_with fail
        obtain ⟨_, _, _, _, _, _, r1, r2, _, _, la, lb, lc, o1, o2, o3, hB⟩ := HS.out
        refine bodyPost_ret (v := .tuple #[fr (fover (Q (countsOf h q m r).h (countsOf h q m r).f) (fplus (Q (countsOf h q m r).h (countsOf h q m r).f) (Q (countsOf h q m r).q (countsOf h q m r).p))), .int .i64 0]) (by simp [results, Tryz.results14, go_sem, r1, r2]) rfl ⟨rfl, (hB.setCell o1 _).setCell o1 _⟩
end Go.Proofs.YtmgegkgelecopaaGreatDoor.Rk

set_option maxRecDepth 100000
namespace Go.Proofs.YtmgegkgelecopaaGreatDoor.Rk
open Go Go.Ms Go.Pg Go.Rk Go.ChangeShapes Go.WideShapes Go.ChangeAt Go.RowKit Go.Deep

theorem s81_2 : (Tryz.prog.info? 81).map (·.size) = some (#[.func (.func 64) #[] #[], .func (.func 68) #[] #[]] : Array Value).size := by kernel_rfl
theorem o81_2 : (#[.func (.func 64) #[] #[], .func (.func 68) #[] #[]] : Array Value).all (·.oneCell') = true := by kernel_rfl
set_option maxHeartbeats 4000000 in
theorem score2 (h q m r : Int) (hh : 0 ≤ h ∧ h ≤ 64) (hq : 0 ≤ q ∧ q ≤ 64) (hm : 0 ≤ m ∧ m ≤ 64) (hr : 0 ≤ r ∧ r ≤ 64) (w : World) :
    Calls Tryz.prog 14 #[.int .u8 2, tally h q m r] w fun e w' => e = .returned (.tuple #[fr (scoreOf 2 (countsOf h q m r)), .int .i64 0]) ∧ Below w.heap.size w w' := by
  have hsm := small_of hh hq hm hr
  have KC := Lib.hid (fun w' => countsOf42 h q m r hh hq hm hr w')
  have KT := Lib.hid (fun w' => f68 (countsOf h q m r) hsm w')
  have KJ := Lib.hid (fun w' => over64 ((countsOf h q m r).h * (countsOf h q m r).h, 1) ((countsOf h q m r).f * ((countsOf h q m r).h + (countsOf h q m r).q), 1) (okA2 hsm) (okB2 hsm) w')
  obtain ⟨h1, h2⟩ := hh
  obtain ⟨q1, q2⟩ := hq
  obtain ⟨m1, m2⟩ := hm
  obtain ⟨r1, r2⟩ := hr
  clear hsm
  have i0 : ∀ w, Sem.run Tryz.prog (Instr.index 77 (.agg #[.int .i64 h, .int .i64 q, .int .i64 m, .int .i64 r]) (.int .i64 0)) w = .ok (.int .i64 h) w := fun w => by kernel_rfl
  have i1 : ∀ w, Sem.run Tryz.prog (Instr.index 77 (.agg #[.int .i64 h, .int .i64 q, .int .i64 m, .int .i64 r]) (.int .i64 1)) w = .ok (.int .i64 q) w := fun w => by kernel_rfl
  have i2 : ∀ w, Sem.run Tryz.prog (Instr.index 77 (.agg #[.int .i64 h, .int .i64 q, .int .i64 m, .int .i64 r]) (.int .i64 2)) w = .ok (.int .i64 m) w := fun w => by kernel_rfl
  have i3 : ∀ w, Sem.run Tryz.prog (Instr.index 77 (.agg #[.int .i64 h, .int .i64 q, .int .i64 m, .int .i64 r]) (.int .i64 3)) w = .ok (.int .i64 r) w := fun w => by kernel_rfl
  have hidx : ∀ w, Sem.run Tryz.prog (Instr.index 82 (.agg fvals) (.int .u8 2)) w = .ok (.agg #[.func (.func 64) #[] #[], .func (.func 68) #[] #[]]) w := fun w => by kernel_rfl
  go_enter Tryz.func14, Tryz.ntmps14
  go_wp2_with (first
    | (go_at_call 40; refine (isFormula_yes _ ⟨by decide, by decide⟩ _).mono ?_; rintro e w' ⟨rfl, rfl⟩)
    | fail)
  go_loop [22] (fun i => i = .int .i64 0 ∨ i = .int .i64 1 ∨ i = .int .i64 2 ∨ i = .int .i64 3 ∨ i = .int .i64 4) (fun i => 4 - (intOf i).toNat)
  case atStart => exact Or.inl rfl
  case round =>
    rcases hrel with rfl | rfl | rfl | rfl | rfl
    iterate 4
      · go_wp2_with fail
        go_round
        case rel => simp
        case measure => simp [intOf]
    · clear h1 h2 q1 q2 m1 m2 r1 r2
      go_wp2_with (first
        | (refine wpList_store_mid rfl 81 (.tmp 8) (.tmp 36) rfl w1.heap.size 0 #[.func (.func 64) #[] #[], .func (.func 68) #[] #[]] rfl rfl (there_new w1 _ 81) s81_2 o81_2 ?_)
        | (go_at_call 41; refine (formulas41 _).mono ?_; rintro e w1 ⟨rfl, hB⟩; have HB0 := Lib.hid hB; clear hB)
        | fail)
      have HB := Lib.hid (Sc.drew (Sc.start (z1 := .nilFunc) (z2 := .nilFunc) (F := .func (.func 64) #[] #[]) (G := .func (.func 68) #[] #[]) HB0.out))
      clear HB0 i0 i1 i2 i3 hidx
      generalize (w1.alloc (.cells #[.nilFunc, .nilFunc] 81)).setCells w1.heap.size 0 [.func (.func 64) #[] #[], .func (.func 68) #[] #[]] = w2 at *
      go_region_held (fun w' => w'.cell? ⟨w.heap.size, 0, none⟩ = some (.int .i64 h) ∧ w'.cell? ⟨w.heap.size, 1, none⟩ = some (.int .i64 q) ∧ w'.cell? ⟨w.heap.size, 2, none⟩ = some (.int .i64 m) ∧ w'.cell? ⟨w.heap.size, 3, none⟩ = some (.int .i64 r) ∧ w'.cell? ⟨w1.heap.size, 0, none⟩ = some (.func (.func 64) #[] #[]) ∧ w'.cell? ⟨w1.heap.size, 1, none⟩ = some (.func (.func 68) #[] #[]) ∧ w'.cell? ⟨w.heap.size + 1, 0, none⟩ = some (val w' ⟨w.heap.size + 1, 0, none⟩) ∧ w'.cell? ⟨w.heap.size + 1, 1, none⟩ = some (val w' ⟨w.heap.size + 1, 1, none⟩) ∧ w'.frozen? ⟨w.heap.size + 1, 0, none⟩ = false ∧ w'.frozen? ⟨w.heap.size + 1, 1, none⟩ = false ∧ Hid (Sc w w' w.heap.size (w.heap.size + 1) w1.heap.size h q m r (.func (.func 64) #[] #[]) (.func (.func 68) #[] #[])))
        (first | (with_reducible exact Sc.s HB.out) | (with_reducible exact Sc.s HS.out) | (with_reducible exact Sc.s (Sc.put HS.out _ _)))
        (first
          | (go_at_call 42; with_reducible refine (scK HB.out (KC.out _)).mono ?_; rintro e w4 ⟨rfl, hS⟩; have HS := Lib.hid hS; clear hS)
          | (go_at_call 68; with_reducible refine (scK HS.out (KT.out _)).mono ?_; rintro e w4 ⟨rfl, hS⟩; have HS := Lib.hid hS; clear hS)
          | (go_at_call 64; with_reducible refine (scK HS.out (KJ.out _)).mono ?_; rintro e w4 ⟨rfl, hS⟩; have HS := Lib.hid hS; clear hS))
      all_goals
        go_wp2_with fail
        obtain ⟨_, _, _, _, _, _, r1, r2, _, _, la, lb, lc, o1, o2, o3, hB⟩ := HS.out
        refine bodyPost_ret (v := .tuple #[fr (fover ((countsOf h q m r).h * (countsOf h q m r).h, 1) ((countsOf h q m r).f * ((countsOf h q m r).h + (countsOf h q m r).q), 1)), .int .i64 0]) (by simp [results, Tryz.results14, go_sem, r1, r2]) rfl ⟨rfl, (hB.setCell o1 _).setCell o1 _⟩
end Go.Proofs.YtmgegkgelecopaaGreatDoor.Rk

set_option maxRecDepth 100000
namespace Go.Proofs.YtmgegkgelecopaaGreatDoor.Rk
open Go Go.Ms Go.Pg Go.Rk Go.ChangeShapes Go.WideShapes Go.ChangeAt Go.RowKit Go.Deep

theorem s81_3 : (Tryz.prog.info? 81).map (·.size) = some (#[.func (.func 64) #[] #[], .func (.func 70) #[] #[]] : Array Value).size := by kernel_rfl
theorem o81_3 : (#[.func (.func 64) #[] #[], .func (.func 70) #[] #[]] : Array Value).all (·.oneCell') = true := by kernel_rfl
set_option maxHeartbeats 4000000 in
theorem score3 (h q m r : Int) (hh : 0 ≤ h ∧ h ≤ 64) (hq : 0 ≤ q ∧ q ≤ 64) (hm : 0 ≤ m ∧ m ≤ 64) (hr : 0 ≤ r ∧ r ≤ 64) (w : World) :
    Calls Tryz.prog 14 #[.int .u8 3, tally h q m r] w fun e w' => e = .returned (.tuple #[fr (scoreOf 3 (countsOf h q m r)), .int .i64 0]) ∧ Below w.heap.size w w' := by
  have hsm := small_of hh hq hm hr
  have KC := Lib.hid (fun w' => countsOf42 h q m r hh hq hm hr w')
  have KT := Lib.hid (fun w' => f70 (countsOf h q m r) hsm w')
  have KJ := Lib.hid (fun w' => over64 ((countsOf h q m r).h, 1) ((countsOf h q m r).f + (countsOf h q m r).q, 1) (okA3 hsm) (okB3 hsm) w')
  obtain ⟨h1, h2⟩ := hh
  obtain ⟨q1, q2⟩ := hq
  obtain ⟨m1, m2⟩ := hm
  obtain ⟨r1, r2⟩ := hr
  clear hsm
  have i0 : ∀ w, Sem.run Tryz.prog (Instr.index 77 (.agg #[.int .i64 h, .int .i64 q, .int .i64 m, .int .i64 r]) (.int .i64 0)) w = .ok (.int .i64 h) w := fun w => by kernel_rfl
  have i1 : ∀ w, Sem.run Tryz.prog (Instr.index 77 (.agg #[.int .i64 h, .int .i64 q, .int .i64 m, .int .i64 r]) (.int .i64 1)) w = .ok (.int .i64 q) w := fun w => by kernel_rfl
  have i2 : ∀ w, Sem.run Tryz.prog (Instr.index 77 (.agg #[.int .i64 h, .int .i64 q, .int .i64 m, .int .i64 r]) (.int .i64 2)) w = .ok (.int .i64 m) w := fun w => by kernel_rfl
  have i3 : ∀ w, Sem.run Tryz.prog (Instr.index 77 (.agg #[.int .i64 h, .int .i64 q, .int .i64 m, .int .i64 r]) (.int .i64 3)) w = .ok (.int .i64 r) w := fun w => by kernel_rfl
  have hidx : ∀ w, Sem.run Tryz.prog (Instr.index 82 (.agg fvals) (.int .u8 3)) w = .ok (.agg #[.func (.func 64) #[] #[], .func (.func 70) #[] #[]]) w := fun w => by kernel_rfl
  go_enter Tryz.func14, Tryz.ntmps14
  go_wp2_with (first
    | (go_at_call 40; refine (isFormula_yes _ ⟨by decide, by decide⟩ _).mono ?_; rintro e w' ⟨rfl, rfl⟩)
    | fail)
  go_loop [22] (fun i => i = .int .i64 0 ∨ i = .int .i64 1 ∨ i = .int .i64 2 ∨ i = .int .i64 3 ∨ i = .int .i64 4) (fun i => 4 - (intOf i).toNat)
  case atStart => exact Or.inl rfl
  case round =>
    rcases hrel with rfl | rfl | rfl | rfl | rfl
    iterate 4
      · go_wp2_with fail
        go_round
        case rel => simp
        case measure => simp [intOf]
    · clear h1 h2 q1 q2 m1 m2 r1 r2
      go_wp2_with (first
        | (refine wpList_store_mid rfl 81 (.tmp 8) (.tmp 36) rfl w1.heap.size 0 #[.func (.func 64) #[] #[], .func (.func 70) #[] #[]] rfl rfl (there_new w1 _ 81) s81_3 o81_3 ?_)
        | (go_at_call 41; refine (formulas41 _).mono ?_; rintro e w1 ⟨rfl, hB⟩; have HB0 := Lib.hid hB; clear hB)
        | fail)
      have HB := Lib.hid (Sc.drew (Sc.start (z1 := .nilFunc) (z2 := .nilFunc) (F := .func (.func 64) #[] #[]) (G := .func (.func 70) #[] #[]) HB0.out))
      clear HB0 i0 i1 i2 i3 hidx
      generalize (w1.alloc (.cells #[.nilFunc, .nilFunc] 81)).setCells w1.heap.size 0 [.func (.func 64) #[] #[], .func (.func 70) #[] #[]] = w2 at *
      go_region_held (fun w' => w'.cell? ⟨w.heap.size, 0, none⟩ = some (.int .i64 h) ∧ w'.cell? ⟨w.heap.size, 1, none⟩ = some (.int .i64 q) ∧ w'.cell? ⟨w.heap.size, 2, none⟩ = some (.int .i64 m) ∧ w'.cell? ⟨w.heap.size, 3, none⟩ = some (.int .i64 r) ∧ w'.cell? ⟨w1.heap.size, 0, none⟩ = some (.func (.func 64) #[] #[]) ∧ w'.cell? ⟨w1.heap.size, 1, none⟩ = some (.func (.func 70) #[] #[]) ∧ w'.cell? ⟨w.heap.size + 1, 0, none⟩ = some (val w' ⟨w.heap.size + 1, 0, none⟩) ∧ w'.cell? ⟨w.heap.size + 1, 1, none⟩ = some (val w' ⟨w.heap.size + 1, 1, none⟩) ∧ w'.frozen? ⟨w.heap.size + 1, 0, none⟩ = false ∧ w'.frozen? ⟨w.heap.size + 1, 1, none⟩ = false ∧ Hid (Sc w w' w.heap.size (w.heap.size + 1) w1.heap.size h q m r (.func (.func 64) #[] #[]) (.func (.func 70) #[] #[])))
        (first | (with_reducible exact Sc.s HB.out) | (with_reducible exact Sc.s HS.out) | (with_reducible exact Sc.s (Sc.put HS.out _ _)))
        (first
          | (go_at_call 42; with_reducible refine (scK HB.out (KC.out _)).mono ?_; rintro e w4 ⟨rfl, hS⟩; have HS := Lib.hid hS; clear hS)
          | (go_at_call 70; with_reducible refine (scK HS.out (KT.out _)).mono ?_; rintro e w4 ⟨rfl, hS⟩; have HS := Lib.hid hS; clear hS)
          | (go_at_call 64; with_reducible refine (scK HS.out (KJ.out _)).mono ?_; rintro e w4 ⟨rfl, hS⟩; have HS := Lib.hid hS; clear hS))
      all_goals
        go_wp2_with fail
        obtain ⟨_, _, _, _, _, _, r1, r2, _, _, la, lb, lc, o1, o2, o3, hB⟩ := HS.out
        refine bodyPost_ret (v := .tuple #[fr (fover ((countsOf h q m r).h, 1) ((countsOf h q m r).f + (countsOf h q m r).q, 1)), .int .i64 0]) (by simp [results, Tryz.results14, go_sem, r1, r2]) rfl ⟨rfl, (hB.setCell o1 _).setCell o1 _⟩
end Go.Proofs.YtmgegkgelecopaaGreatDoor.Rk

set_option maxRecDepth 100000
namespace Go.Proofs.YtmgegkgelecopaaGreatDoor.Rk
open Go Go.Ms Go.Pg Go.Rk Go.ChangeShapes Go.WideShapes Go.ChangeAt Go.RowKit Go.Deep

theorem s81_4 : (Tryz.prog.info? 81).map (·.size) = some (#[.func (.func 64) #[] #[], .func (.func 71) #[] #[]] : Array Value).size := by kernel_rfl
theorem o81_4 : (#[.func (.func 64) #[] #[], .func (.func 71) #[] #[]] : Array Value).all (·.oneCell') = true := by kernel_rfl
set_option maxHeartbeats 4000000 in
theorem score4 (h q m r : Int) (hh : 0 ≤ h ∧ h ≤ 64) (hq : 0 ≤ q ∧ q ≤ 64) (hm : 0 ≤ m ∧ m ≤ 64) (hr : 0 ≤ r ∧ r ≤ 64) (w : World) :
    Calls Tryz.prog 14 #[.int .u8 4, tally h q m r] w fun e w' => e = .returned (.tuple #[fr (scoreOf 4 (countsOf h q m r)), .int .i64 0]) ∧ Below w.heap.size w w' := by
  have hsm := small_of hh hq hm hr
  have KC := Lib.hid (fun w' => countsOf42 h q m r hh hq hm hr w')
  have KT := Lib.hid (fun w' => f71 (countsOf h q m r) hsm w')
  have KJ := Lib.hid (fun w' => over64 (2 * (countsOf h q m r).h, 1) ((countsOf h q m r).f + (countsOf h q m r).h + (countsOf h q m r).q, 1) (okA4 hsm) (okB4 hsm) w')
  obtain ⟨h1, h2⟩ := hh
  obtain ⟨q1, q2⟩ := hq
  obtain ⟨m1, m2⟩ := hm
  obtain ⟨r1, r2⟩ := hr
  clear hsm
  have i0 : ∀ w, Sem.run Tryz.prog (Instr.index 77 (.agg #[.int .i64 h, .int .i64 q, .int .i64 m, .int .i64 r]) (.int .i64 0)) w = .ok (.int .i64 h) w := fun w => by kernel_rfl
  have i1 : ∀ w, Sem.run Tryz.prog (Instr.index 77 (.agg #[.int .i64 h, .int .i64 q, .int .i64 m, .int .i64 r]) (.int .i64 1)) w = .ok (.int .i64 q) w := fun w => by kernel_rfl
  have i2 : ∀ w, Sem.run Tryz.prog (Instr.index 77 (.agg #[.int .i64 h, .int .i64 q, .int .i64 m, .int .i64 r]) (.int .i64 2)) w = .ok (.int .i64 m) w := fun w => by kernel_rfl
  have i3 : ∀ w, Sem.run Tryz.prog (Instr.index 77 (.agg #[.int .i64 h, .int .i64 q, .int .i64 m, .int .i64 r]) (.int .i64 3)) w = .ok (.int .i64 r) w := fun w => by kernel_rfl
  have hidx : ∀ w, Sem.run Tryz.prog (Instr.index 82 (.agg fvals) (.int .u8 4)) w = .ok (.agg #[.func (.func 64) #[] #[], .func (.func 71) #[] #[]]) w := fun w => by kernel_rfl
  go_enter Tryz.func14, Tryz.ntmps14
  go_wp2_with (first
    | (go_at_call 40; refine (isFormula_yes _ ⟨by decide, by decide⟩ _).mono ?_; rintro e w' ⟨rfl, rfl⟩)
    | fail)
  go_loop [22] (fun i => i = .int .i64 0 ∨ i = .int .i64 1 ∨ i = .int .i64 2 ∨ i = .int .i64 3 ∨ i = .int .i64 4) (fun i => 4 - (intOf i).toNat)
  case atStart => exact Or.inl rfl
  case round =>
    rcases hrel with rfl | rfl | rfl | rfl | rfl
    iterate 4
      · go_wp2_with fail
        go_round
        case rel => simp
        case measure => simp [intOf]
    · clear h1 h2 q1 q2 m1 m2 r1 r2
      go_wp2_with (first
        | (refine wpList_store_mid rfl 81 (.tmp 8) (.tmp 36) rfl w1.heap.size 0 #[.func (.func 64) #[] #[], .func (.func 71) #[] #[]] rfl rfl (there_new w1 _ 81) s81_4 o81_4 ?_)
        | (go_at_call 41; refine (formulas41 _).mono ?_; rintro e w1 ⟨rfl, hB⟩; have HB0 := Lib.hid hB; clear hB)
        | fail)
      have HB := Lib.hid (Sc.drew (Sc.start (z1 := .nilFunc) (z2 := .nilFunc) (F := .func (.func 64) #[] #[]) (G := .func (.func 71) #[] #[]) HB0.out))
      clear HB0 i0 i1 i2 i3 hidx
      generalize (w1.alloc (.cells #[.nilFunc, .nilFunc] 81)).setCells w1.heap.size 0 [.func (.func 64) #[] #[], .func (.func 71) #[] #[]] = w2 at *
      go_region_held (fun w' => w'.cell? ⟨w.heap.size, 0, none⟩ = some (.int .i64 h) ∧ w'.cell? ⟨w.heap.size, 1, none⟩ = some (.int .i64 q) ∧ w'.cell? ⟨w.heap.size, 2, none⟩ = some (.int .i64 m) ∧ w'.cell? ⟨w.heap.size, 3, none⟩ = some (.int .i64 r) ∧ w'.cell? ⟨w1.heap.size, 0, none⟩ = some (.func (.func 64) #[] #[]) ∧ w'.cell? ⟨w1.heap.size, 1, none⟩ = some (.func (.func 71) #[] #[]) ∧ w'.cell? ⟨w.heap.size + 1, 0, none⟩ = some (val w' ⟨w.heap.size + 1, 0, none⟩) ∧ w'.cell? ⟨w.heap.size + 1, 1, none⟩ = some (val w' ⟨w.heap.size + 1, 1, none⟩) ∧ w'.frozen? ⟨w.heap.size + 1, 0, none⟩ = false ∧ w'.frozen? ⟨w.heap.size + 1, 1, none⟩ = false ∧ Hid (Sc w w' w.heap.size (w.heap.size + 1) w1.heap.size h q m r (.func (.func 64) #[] #[]) (.func (.func 71) #[] #[])))
        (first | (with_reducible exact Sc.s HB.out) | (with_reducible exact Sc.s HS.out) | (with_reducible exact Sc.s (Sc.put HS.out _ _)))
        (first
          | (go_at_call 42; with_reducible refine (scK HB.out (KC.out _)).mono ?_; rintro e w4 ⟨rfl, hS⟩; have HS := Lib.hid hS; clear hS)
          | (go_at_call 71; with_reducible refine (scK HS.out (KT.out _)).mono ?_; rintro e w4 ⟨rfl, hS⟩; have HS := Lib.hid hS; clear hS)
          | (go_at_call 64; with_reducible refine (scK HS.out (KJ.out _)).mono ?_; rintro e w4 ⟨rfl, hS⟩; have HS := Lib.hid hS; clear hS))
      all_goals
        go_wp2_with fail
        obtain ⟨_, _, _, _, _, _, r1, r2, _, _, la, lb, lc, o1, o2, o3, hB⟩ := HS.out
        refine bodyPost_ret (v := .tuple #[fr (fover (2 * (countsOf h q m r).h, 1) ((countsOf h q m r).f + (countsOf h q m r).h + (countsOf h q m r).q, 1)), .int .i64 0]) (by simp [results, Tryz.results14, go_sem, r1, r2]) rfl ⟨rfl, (hB.setCell o1 _).setCell o1 _⟩
end Go.Proofs.YtmgegkgelecopaaGreatDoor.Rk

set_option maxRecDepth 100000
namespace Go.Proofs.YtmgegkgelecopaaGreatDoor.Rk
open Go Go.Ms Go.Pg Go.Rk Go.ChangeShapes Go.WideShapes Go.ChangeAt Go.RowKit Go.Deep

theorem s81_5 : (Tryz.prog.info? 81).map (·.size) = some (#[.func (.func 64) #[] #[], .func (.func 72) #[] #[]] : Array Value).size := by kernel_rfl
theorem o81_5 : (#[.func (.func 64) #[] #[], .func (.func 72) #[] #[]] : Array Value).all (·.oneCell') = true := by kernel_rfl
set_option maxHeartbeats 4000000 in
theorem score5 (h q m r : Int) (hh : 0 ≤ h ∧ h ≤ 64) (hq : 0 ≤ q ∧ q ≤ 64) (hm : 0 ≤ m ∧ m ≤ 64) (hr : 0 ≤ r ∧ r ≤ 64) (w : World) :
    Calls Tryz.prog 14 #[.int .u8 5, tally h q m r] w fun e w' => e = .returned (.tuple #[fr (scoreOf 5 (countsOf h q m r)), .int .i64 0]) ∧ Below w.heap.size w w' := by
  have hsm := small_of hh hq hm hr
  have KC := Lib.hid (fun w' => countsOf42 h q m r hh hq hm hr w')
  have KT := Lib.hid (fun w' => f72 (countsOf h q m r) hsm w')
  have KJ := Lib.hid (fun w' => over64 (fplus (Q (countsOf h q m r).h (countsOf h q m r).f) (Q (countsOf h q m r).h ((countsOf h q m r).h + (countsOf h q m r).q))) (2, 1) (okA5 hsm) (okB5 hsm) w')
  obtain ⟨h1, h2⟩ := hh
  obtain ⟨q1, q2⟩ := hq
  obtain ⟨m1, m2⟩ := hm
  obtain ⟨r1, r2⟩ := hr
  clear hsm
  have i0 : ∀ w, Sem.run Tryz.prog (Instr.index 77 (.agg #[.int .i64 h, .int .i64 q, .int .i64 m, .int .i64 r]) (.int .i64 0)) w = .ok (.int .i64 h) w := fun w => by kernel_rfl
  have i1 : ∀ w, Sem.run Tryz.prog (Instr.index 77 (.agg #[.int .i64 h, .int .i64 q, .int .i64 m, .int .i64 r]) (.int .i64 1)) w = .ok (.int .i64 q) w := fun w => by kernel_rfl
  have i2 : ∀ w, Sem.run Tryz.prog (Instr.index 77 (.agg #[.int .i64 h, .int .i64 q, .int .i64 m, .int .i64 r]) (.int .i64 2)) w = .ok (.int .i64 m) w := fun w => by kernel_rfl
  have i3 : ∀ w, Sem.run Tryz.prog (Instr.index 77 (.agg #[.int .i64 h, .int .i64 q, .int .i64 m, .int .i64 r]) (.int .i64 3)) w = .ok (.int .i64 r) w := fun w => by kernel_rfl
  have hidx : ∀ w, Sem.run Tryz.prog (Instr.index 82 (.agg fvals) (.int .u8 5)) w = .ok (.agg #[.func (.func 64) #[] #[], .func (.func 72) #[] #[]]) w := fun w => by kernel_rfl
  go_enter Tryz.func14, Tryz.ntmps14
  go_wp2_with (first
    | (go_at_call 40; refine (isFormula_yes _ ⟨by decide, by decide⟩ _).mono ?_; rintro e w' ⟨rfl, rfl⟩)
    | fail)
  go_loop [22] (fun i => i = .int .i64 0 ∨ i = .int .i64 1 ∨ i = .int .i64 2 ∨ i = .int .i64 3 ∨ i = .int .i64 4) (fun i => 4 - (intOf i).toNat)
  case atStart => exact Or.inl rfl
  case round =>
    rcases hrel with rfl | rfl | rfl | rfl | rfl
    iterate 4
      · go_wp2_with fail
        go_round
        case rel => simp
        case measure => simp [intOf]
    · clear h1 h2 q1 q2 m1 m2 r1 r2
      go_wp2_with (first
        | (refine wpList_store_mid rfl 81 (.tmp 8) (.tmp 36) rfl w1.heap.size 0 #[.func (.func 64) #[] #[], .func (.func 72) #[] #[]] rfl rfl (there_new w1 _ 81) s81_5 o81_5 ?_)
        | (go_at_call 41; refine (formulas41 _).mono ?_; rintro e w1 ⟨rfl, hB⟩; have HB0 := Lib.hid hB; clear hB)
        | fail)
      have HB := Lib.hid (Sc.drew (Sc.start (z1 := .nilFunc) (z2 := .nilFunc) (F := .func (.func 64) #[] #[]) (G := .func (.func 72) #[] #[]) HB0.out))
      clear HB0 i0 i1 i2 i3 hidx
      generalize (w1.alloc (.cells #[.nilFunc, .nilFunc] 81)).setCells w1.heap.size 0 [.func (.func 64) #[] #[], .func (.func 72) #[] #[]] = w2 at *
      go_region_held (fun w' => w'.cell? ⟨w.heap.size, 0, none⟩ = some (.int .i64 h) ∧ w'.cell? ⟨w.heap.size, 1, none⟩ = some (.int .i64 q) ∧ w'.cell? ⟨w.heap.size, 2, none⟩ = some (.int .i64 m) ∧ w'.cell? ⟨w.heap.size, 3, none⟩ = some (.int .i64 r) ∧ w'.cell? ⟨w1.heap.size, 0, none⟩ = some (.func (.func 64) #[] #[]) ∧ w'.cell? ⟨w1.heap.size, 1, none⟩ = some (.func (.func 72) #[] #[]) ∧ w'.cell? ⟨w.heap.size + 1, 0, none⟩ = some (val w' ⟨w.heap.size + 1, 0, none⟩) ∧ w'.cell? ⟨w.heap.size + 1, 1, none⟩ = some (val w' ⟨w.heap.size + 1, 1, none⟩) ∧ w'.frozen? ⟨w.heap.size + 1, 0, none⟩ = false ∧ w'.frozen? ⟨w.heap.size + 1, 1, none⟩ = false ∧ Hid (Sc w w' w.heap.size (w.heap.size + 1) w1.heap.size h q m r (.func (.func 64) #[] #[]) (.func (.func 72) #[] #[])))
        (first | (with_reducible exact Sc.s HB.out) | (with_reducible exact Sc.s HS.out) | (with_reducible exact Sc.s (Sc.put HS.out _ _)))
        (first
          | (go_at_call 42; with_reducible refine (scK HB.out (KC.out _)).mono ?_; rintro e w4 ⟨rfl, hS⟩; have HS := Lib.hid hS; clear hS)
          | (go_at_call 72; with_reducible refine (scK HS.out (KT.out _)).mono ?_; rintro e w4 ⟨rfl, hS⟩; have HS := Lib.hid hS; clear hS)
          | (go_at_call 64; with_reducible refine (scK HS.out (KJ.out _)).mono ?_; rintro e w4 ⟨rfl, hS⟩; have HS := Lib.hid hS; clear hS))
      all_goals
        go_wp2_with fail
        obtain ⟨_, _, _, _, _, _, r1, r2, _, _, la, lb, lc, o1, o2, o3, hB⟩ := HS.out
        refine bodyPost_ret (v := .tuple #[fr (fover (fplus (Q (countsOf h q m r).h (countsOf h q m r).f) (Q (countsOf h q m r).h ((countsOf h q m r).h + (countsOf h q m r).q))) (2, 1)), .int .i64 0]) (by simp [results, Tryz.results14, go_sem, r1, r2]) rfl ⟨rfl, (hB.setCell o1 _).setCell o1 _⟩
end Go.Proofs.YtmgegkgelecopaaGreatDoor.Rk

