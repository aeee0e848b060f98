import Derived.Test.YtmgegkgelecopaaGreatDoorRkQ
import Derived.Test.YtmgegkgelecopaaGreatDoorRkK76
import Derived.Test.YtmgegkgelecopaaGreatDoorRkK86
set_option maxRecDepth 100000
namespace Go.Proofs.YtmgegkgelecopaaGreatDoor.Rk
open Go Go.Ms Go.Pg Go.Rk Go.ChangeShapes Go.WideShapes Go.ChangeAt Go.RowKit Go.Deep

theorem s81_6 : (Tryz.prog.info? 81).map (·.size) = some (#[.func (.func 64) #[] #[], .func (.func 73) #[] #[]] : Array Value).size := by kernel_rfl
theorem o81_6 : (#[.func (.func 64) #[] #[], .func (.func 73) #[] #[]] : Array Value).all (·.oneCell') = true := by kernel_rfl
set_option maxHeartbeats 4000000 in
theorem score6 (h q m r : Int) (hh : 0 ≤ h ∧ h ≤ 64) (hq : 0 ≤ q ∧ q ≤ 64) (hm : 0 ≤ m ∧ m ≤ 64) (hr : 0 ≤ r ∧ r ≤ 64) (w : World) :
    Calls Tryz.prog 14 #[.int .u8 6, tally h q m r] w fun e w' => e = .returned (.tuple #[fr (scoreOf 6 (countsOf h q m r)), .int .i64 0]) ∧ Below w.heap.size w w' := by
  have hsm := small_of hh hq hm hr
  have KC := Lib.hid (fun w' => countsOf42 h q m r hh hq hm hr w')
  have KT := Lib.hid (fun w' => f73 (countsOf h q m r) hsm w')
  have KJ := Lib.hid (fun w' => over64 ((countsOf h q m r).h * (countsOf h q m r).h, 1) (stray (countsOf h q m r)) (okA6 hsm) (okB6 hsm) w')
  obtain ⟨h1, h2⟩ := hh
  obtain ⟨q1, q2⟩ := hq
  obtain ⟨m1, m2⟩ := hm
  obtain ⟨r1, r2⟩ := hr
  clear hsm
  have i0 : ∀ w, Sem.run Tryz.prog (Instr.index 77 (.agg #[.int .i64 h, .int .i64 q, .int .i64 m, .int .i64 r]) (.int .i64 0)) w = .ok (.int .i64 h) w := fun w => by kernel_rfl
  have i1 : ∀ w, Sem.run Tryz.prog (Instr.index 77 (.agg #[.int .i64 h, .int .i64 q, .int .i64 m, .int .i64 r]) (.int .i64 1)) w = .ok (.int .i64 q) w := fun w => by kernel_rfl
  have i2 : ∀ w, Sem.run Tryz.prog (Instr.index 77 (.agg #[.int .i64 h, .int .i64 q, .int .i64 m, .int .i64 r]) (.int .i64 2)) w = .ok (.int .i64 m) w := fun w => by kernel_rfl
  have i3 : ∀ w, Sem.run Tryz.prog (Instr.index 77 (.agg #[.int .i64 h, .int .i64 q, .int .i64 m, .int .i64 r]) (.int .i64 3)) w = .ok (.int .i64 r) w := fun w => by kernel_rfl
  have hidx : ∀ w, Sem.run Tryz.prog (Instr.index 82 (.agg fvals) (.int .u8 6)) w = .ok (.agg #[.func (.func 64) #[] #[], .func (.func 73) #[] #[]]) w := fun w => by kernel_rfl
  go_enter Tryz.func14, Tryz.ntmps14
  go_wp2_with (first
    | (go_at_call 40; refine (isFormula_yes _ ⟨by decide, by decide⟩ _).mono ?_; rintro e w' ⟨rfl, rfl⟩)
    | fail)
  go_loop [22] (fun i => i = .int .i64 0 ∨ i = .int .i64 1 ∨ i = .int .i64 2 ∨ i = .int .i64 3 ∨ i = .int .i64 4) (fun i => 4 - (intOf i).toNat)
  case atStart => exact Or.inl rfl
  case round =>
    rcases hrel with rfl | rfl | rfl | rfl | rfl
    iterate 4
      · go_wp2_with fail
        go_round
        case rel => simp
        case measure => simp [intOf]
    · clear h1 h2 q1 q2 m1 m2 r1 r2
      go_wp2_with (first
        | (refine wpList_store_mid rfl 81 (.tmp 8) (.tmp 36) rfl w1.heap.size 0 #[.func (.func 64) #[] #[], .func (.func 73) #[] #[]] rfl rfl (there_new w1 _ 81) s81_6 o81_6 ?_)
        | (go_at_call 41; refine (formulas41 _).mono ?_; rintro e w1 ⟨rfl, hB⟩; have HB0 := Lib.hid hB; clear hB)
        | fail)
      have HB := Lib.hid (Sc.drew (Sc.start (z1 := .nilFunc) (z2 := .nilFunc) (F := .func (.func 64) #[] #[]) (G := .func (.func 73) #[] #[]) HB0.out))
      clear HB0 i0 i1 i2 i3 hidx
      generalize (w1.alloc (.cells #[.nilFunc, .nilFunc] 81)).setCells w1.heap.size 0 [.func (.func 64) #[] #[], .func (.func 73) #[] #[]] = w2 at *
      go_region_held (fun w' => w'.cell? ⟨w.heap.size, 0, none⟩ = some (.int .i64 h) ∧ w'.cell? ⟨w.heap.size, 1, none⟩ = some (.int .i64 q) ∧ w'.cell? ⟨w.heap.size, 2, none⟩ = some (.int .i64 m) ∧ w'.cell? ⟨w.heap.size, 3, none⟩ = some (.int .i64 r) ∧ w'.cell? ⟨w1.heap.size, 0, none⟩ = some (.func (.func 64) #[] #[]) ∧ w'.cell? ⟨w1.heap.size, 1, none⟩ = some (.func (.func 73) #[] #[]) ∧ w'.cell? ⟨w.heap.size + 1, 0, none⟩ = some (val w' ⟨w.heap.size + 1, 0, none⟩) ∧ w'.cell? ⟨w.heap.size + 1, 1, none⟩ = some (val w' ⟨w.heap.size + 1, 1, none⟩) ∧ w'.frozen? ⟨w.heap.size + 1, 0, none⟩ = false ∧ w'.frozen? ⟨w.heap.size + 1, 1, none⟩ = false ∧ Hid (Sc w w' w.heap.size (w.heap.size + 1) w1.heap.size h q m r (.func (.func 64) #[] #[]) (.func (.func 73) #[] #[])))
        (first | (with_reducible exact Sc.s HB.out) | (with_reducible exact Sc.s HS.out) | (with_reducible exact Sc.s (Sc.put HS.out _ _)))
        (first
          | (go_at_call 42; with_reducible refine (scK HB.out (KC.out _)).mono ?_; rintro e w4 ⟨rfl, hS⟩; have HS := Lib.hid hS; clear hS)
          | (go_at_call 73; with_reducible refine (scK HS.out (KT.out _)).mono ?_; rintro e w4 ⟨rfl, hS⟩; have HS := Lib.hid hS; clear hS)
          | (go_at_call 64; with_reducible refine (scK HS.out (KJ.out _)).mono ?_; rintro e w4 ⟨rfl, hS⟩; have HS := Lib.hid hS; clear hS))
      all_goals
        go_wp2_with fail
        obtain ⟨_, _, _, _, _, _, r1, r2, _, _, la, lb, lc, o1, o2, o3, hB⟩ := HS.out
        refine bodyPost_ret (v := .tuple #[fr (fover ((countsOf h q m r).h * (countsOf h q m r).h, 1) (stray (countsOf h q m r))), .int .i64 0]) (by simp [results, Tryz.results14, go_sem, r1, r2]) rfl ⟨rfl, (hB.setCell o1 _).setCell o1 _⟩
end Go.Proofs.YtmgegkgelecopaaGreatDoor.Rk

set_option maxRecDepth 100000
namespace Go.Proofs.YtmgegkgelecopaaGreatDoor.Rk
open Go Go.Ms Go.Pg Go.Rk Go.ChangeShapes Go.WideShapes Go.ChangeAt Go.RowKit Go.Deep

theorem s81_7 : (Tryz.prog.info? 81).map (·.size) = some (#[.func (.func 75) #[] #[], .func (.func 76) #[] #[]] : Array Value).size := by kernel_rfl
theorem o81_7 : (#[.func (.func 75) #[] #[], .func (.func 76) #[] #[]] : Array Value).all (·.oneCell') = true := by kernel_rfl
set_option maxHeartbeats 4000000 in
theorem score7 (h q m r : Int) (hh : 0 ≤ h ∧ h ≤ 64) (hq : 0 ≤ q ∧ q ≤ 64) (hm : 0 ≤ m ∧ m ≤ 64) (hr : 0 ≤ r ∧ r ≤ 64) (w : World) :
    Calls Tryz.prog 14 #[.int .u8 7, tally h q m r] w fun e w' => e = .returned (.tuple #[fr (scoreOf 7 (countsOf h q m r)), .int .i64 0]) ∧ Below w.heap.size w w' := by
  have hsm := small_of hh hq hm hr
  have KC := Lib.hid (fun w' => countsOf42 h q m r hh hq hm hr w')
  have KT := Lib.hid (fun w' => f76 (countsOf h q m r) hsm w')
  have KJ := Lib.hid (fun w' => minus75 ((countsOf h q m r).h, 1) (Q (countsOf h q m r).q ((countsOf h q m r).p + 1)) (okA7 hsm) (okB7 hsm) w')
  obtain ⟨h1, h2⟩ := hh
  obtain ⟨q1, q2⟩ := hq
  obtain ⟨m1, m2⟩ := hm
  obtain ⟨r1, r2⟩ := hr
  clear hsm
  have i0 : ∀ w, Sem.run Tryz.prog (Instr.index 77 (.agg #[.int .i64 h, .int .i64 q, .int .i64 m, .int .i64 r]) (.int .i64 0)) w = .ok (.int .i64 h) w := fun w => by kernel_rfl
  have i1 : ∀ w, Sem.run Tryz.prog (Instr.index 77 (.agg #[.int .i64 h, .int .i64 q, .int .i64 m, .int .i64 r]) (.int .i64 1)) w = .ok (.int .i64 q) w := fun w => by kernel_rfl
  have i2 : ∀ w, Sem.run Tryz.prog (Instr.index 77 (.agg #[.int .i64 h, .int .i64 q, .int .i64 m, .int .i64 r]) (.int .i64 2)) w = .ok (.int .i64 m) w := fun w => by kernel_rfl
  have i3 : ∀ w, Sem.run Tryz.prog (Instr.index 77 (.agg #[.int .i64 h, .int .i64 q, .int .i64 m, .int .i64 r]) (.int .i64 3)) w = .ok (.int .i64 r) w := fun w => by kernel_rfl
  have hidx : ∀ w, Sem.run Tryz.prog (Instr.index 82 (.agg fvals) (.int .u8 7)) w = .ok (.agg #[.func (.func 75) #[] #[], .func (.func 76) #[] #[]]) w := fun w => by kernel_rfl
  go_enter Tryz.func14, Tryz.ntmps14
  go_wp2_with (first
    | (go_at_call 40; refine (isFormula_yes _ ⟨by decide, by decide⟩ _).mono ?_; rintro e w' ⟨rfl, rfl⟩)
    | fail)
  go_loop [22] (fun i => i = .int .i64 0 ∨ i = .int .i64 1 ∨ i = .int .i64 2 ∨ i = .int .i64 3 ∨ i = .int .i64 4) (fun i => 4 - (intOf i).toNat)
  case atStart => exact Or.inl rfl
  case round =>
    rcases hrel with rfl | rfl | rfl | rfl | rfl
    iterate 4
      · go_wp2_with fail
        go_round
        case rel => simp
        case measure => simp [intOf]
    · clear h1 h2 q1 q2 m1 m2 r1 r2
      go_wp2_with (first
        | (refine wpList_store_mid rfl 81 (.tmp 8) (.tmp 36) rfl w1.heap.size 0 #[.func (.func 75) #[] #[], .func (.func 76) #[] #[]] rfl rfl (there_new w1 _ 81) s81_7 o81_7 ?_)
        | (go_at_call 41; refine (formulas41 _).mono ?_; rintro e w1 ⟨rfl, hB⟩; have HB0 := Lib.hid hB; clear hB)
        | fail)
      have HB := Lib.hid (Sc.drew (Sc.start (z1 := .nilFunc) (z2 := .nilFunc) (F := .func (.func 75) #[] #[]) (G := .func (.func 76) #[] #[]) HB0.out))
      clear HB0 i0 i1 i2 i3 hidx
      generalize (w1.alloc (.cells #[.nilFunc, .nilFunc] 81)).setCells w1.heap.size 0 [.func (.func 75) #[] #[], .func (.func 76) #[] #[]] = w2 at *
      go_region_held (fun w' => w'.cell? ⟨w.heap.size, 0, none⟩ = some (.int .i64 h) ∧ w'.cell? ⟨w.heap.size, 1, none⟩ = some (.int .i64 q) ∧ w'.cell? ⟨w.heap.size, 2, none⟩ = some (.int .i64 m) ∧ w'.cell? ⟨w.heap.size, 3, none⟩ = some (.int .i64 r) ∧ w'.cell? ⟨w1.heap.size, 0, none⟩ = some (.func (.func 75) #[] #[]) ∧ w'.cell? ⟨w1.heap.size, 1, none⟩ = some (.func (.func 76) #[] #[]) ∧ w'.cell? ⟨w.heap.size + 1, 0, none⟩ = some (val w' ⟨w.heap.size + 1, 0, none⟩) ∧ w'.cell? ⟨w.heap.size + 1, 1, none⟩ = some (val w' ⟨w.heap.size + 1, 1, none⟩) ∧ w'.frozen? ⟨w.heap.size + 1, 0, none⟩ = false ∧ w'.frozen? ⟨w.heap.size + 1, 1, none⟩ = false ∧ Hid (Sc w w' w.heap.size (w.heap.size + 1) w1.heap.size h q m r (.func (.func 75) #[] #[]) (.func (.func 76) #[] #[])))
        (first | (with_reducible exact Sc.s HB.out) | (with_reducible exact Sc.s HS.out) | (with_reducible exact Sc.s (Sc.put HS.out _ _)))
        (first
          | (go_at_call 42; with_reducible refine (scK HB.out (KC.out _)).mono ?_; rintro e w4 ⟨rfl, hS⟩; have HS := Lib.hid hS; clear hS)
          | (go_at_call 76; with_reducible refine (scK HS.out (KT.out _)).mono ?_; rintro e w4 ⟨rfl, hS⟩; have HS := Lib.hid hS; clear hS)
          | (go_at_call 75; with_reducible refine (scK HS.out (KJ.out _)).mono ?_; rintro e w4 ⟨rfl, hS⟩; have HS := Lib.hid hS; clear hS))
      all_goals
        go_wp2_with fail
        obtain ⟨_, _, _, _, _, _, r1, r2, _, _, la, lb, lc, o1, o2, o3, hB⟩ := HS.out
        refine bodyPost_ret (v := .tuple #[fr (fminus ((countsOf h q m r).h, 1) (Q (countsOf h q m r).q ((countsOf h q m r).p + 1))), .int .i64 0]) (by simp [results, Tryz.results14, go_sem, r1, r2]) rfl ⟨rfl, (hB.setCell o1 _).setCell o1 _⟩
end Go.Proofs.YtmgegkgelecopaaGreatDoor.Rk

set_option maxRecDepth 100000
namespace Go.Proofs.YtmgegkgelecopaaGreatDoor.Rk
open Go Go.Ms Go.Pg Go.Rk Go.ChangeShapes Go.WideShapes Go.ChangeAt Go.RowKit Go.Deep

theorem s81_8 : (Tryz.prog.info? 81).map (·.size) = some (#[.func (.func 64) #[] #[], .func (.func 77) #[] #[]] : Array Value).size := by kernel_rfl
theorem o81_8 : (#[.func (.func 64) #[] #[], .func (.func 77) #[] #[]] : Array Value).all (·.oneCell') = true := by kernel_rfl
set_option maxHeartbeats 4000000 in
theorem score8 (h q m r : Int) (hh : 0 ≤ h ∧ h ≤ 64) (hq : 0 ≤ q ∧ q ≤ 64) (hm : 0 ≤ m ∧ m ≤ 64) (hr : 0 ≤ r ∧ r ≤ 64) (w : World) :
    Calls Tryz.prog 14 #[.int .u8 8, tally h q m r] w fun e w' => e = .returned (.tuple #[fr (scoreOf 8 (countsOf h q m r)), .int .i64 0]) ∧ Below w.heap.size w w' := by
  have hsm := small_of hh hq hm hr
  have KC := Lib.hid (fun w' => countsOf42 h q m r hh hq hm hr w')
  have KT := Lib.hid (fun w' => f77 (countsOf h q m r) hsm w')
  have KJ := Lib.hid (fun w' => over64 ((countsOf h q m r).h, 1) ((countsOf h q m r).h + (countsOf h q m r).q, 1) (okA8 hsm) (okB8 hsm) w')
  obtain ⟨h1, h2⟩ := hh
  obtain ⟨q1, q2⟩ := hq
  obtain ⟨m1, m2⟩ := hm
  obtain ⟨r1, r2⟩ := hr
  clear hsm
  have i0 : ∀ w, Sem.run Tryz.prog (Instr.index 77 (.agg #[.int .i64 h, .int .i64 q, .int .i64 m, .int .i64 r]) (.int .i64 0)) w = .ok (.int .i64 h) w := fun w => by kernel_rfl
  have i1 : ∀ w, Sem.run Tryz.prog (Instr.index 77 (.agg #[.int .i64 h, .int .i64 q, .int .i64 m, .int .i64 r]) (.int .i64 1)) w = .ok (.int .i64 q) w := fun w => by kernel_rfl
  have i2 : ∀ w, Sem.run Tryz.prog (Instr.index 77 (.agg #[.int .i64 h, .int .i64 q, .int .i64 m, .int .i64 r]) (.int .i64 2)) w = .ok (.int .i64 m) w := fun w => by kernel_rfl
  have i3 : ∀ w, Sem.run Tryz.prog (Instr.index 77 (.agg #[.int .i64 h, .int .i64 q, .int .i64 m, .int .i64 r]) (.int .i64 3)) w = .ok (.int .i64 r) w := fun w => by kernel_rfl
  have hidx : ∀ w, Sem.run Tryz.prog (Instr.index 82 (.agg fvals) (.int .u8 8)) w = .ok (.agg #[.func (.func 64) #[] #[], .func (.func 77) #[] #[]]) w := fun w => by kernel_rfl
  go_enter Tryz.func14, Tryz.ntmps14
  go_wp2_with (first
    | (go_at_call 40; refine (isFormula_yes _ ⟨by decide, by decide⟩ _).mono ?_; rintro e w' ⟨rfl, rfl⟩)
    | fail)
  go_loop [22] (fun i => i = .int .i64 0 ∨ i = .int .i64 1 ∨ i = .int .i64 2 ∨ i = .int .i64 3 ∨ i = .int .i64 4) (fun i => 4 - (intOf i).toNat)
  case atStart => exact Or.inl rfl
  case round =>
    rcases hrel with rfl | rfl | rfl | rfl | rfl
    iterate 4
      · go_wp2_with fail
        go_round
        case rel => simp
        case measure => simp [intOf]
    · clear h1 h2 q1 q2 m1 m2 r1 r2
      go_wp2_with (first
        | (refine wpList_store_mid rfl 81 (.tmp 8) (.tmp 36) rfl w1.heap.size 0 #[.func (.func 64) #[] #[], .func (.func 77) #[] #[]] rfl rfl (there_new w1 _ 81) s81_8 o81_8 ?_)
        | (go_at_call 41; refine (formulas41 _).mono ?_; rintro e w1 ⟨rfl, hB⟩; have HB0 := Lib.hid hB; clear hB)
        | fail)
      have HB := Lib.hid (Sc.drew (Sc.start (z1 := .nilFunc) (z2 := .nilFunc) (F := .func (.func 64) #[] #[]) (G := .func (.func 77) #[] #[]) HB0.out))
      clear HB0 i0 i1 i2 i3 hidx
      generalize (w1.alloc (.cells #[.nilFunc, .nilFunc] 81)).setCells w1.heap.size 0 [.func (.func 64) #[] #[], .func (.func 77) #[] #[]] = w2 at *
      go_region_held (fun w' => w'.cell? ⟨w.heap.size, 0, none⟩ = some (.int .i64 h) ∧ w'.cell? ⟨w.heap.size, 1, none⟩ = some (.int .i64 q) ∧ w'.cell? ⟨w.heap.size, 2, none⟩ = some (.int .i64 m) ∧ w'.cell? ⟨w.heap.size, 3, none⟩ = some (.int .i64 r) ∧ w'.cell? ⟨w1.heap.size, 0, none⟩ = some (.func (.func 64) #[] #[]) ∧ w'.cell? ⟨w1.heap.size, 1, none⟩ = some (.func (.func 77) #[] #[]) ∧ w'.cell? ⟨w.heap.size + 1, 0, none⟩ = some (val w' ⟨w.heap.size + 1, 0, none⟩) ∧ w'.cell? ⟨w.heap.size + 1, 1, none⟩ = some (val w' ⟨w.heap.size + 1, 1, none⟩) ∧ w'.frozen? ⟨w.heap.size + 1, 0, none⟩ = false ∧ w'.frozen? ⟨w.heap.size + 1, 1, none⟩ = false ∧ Hid (Sc w w' w.heap.size (w.heap.size + 1) w1.heap.size h q m r (.func (.func 64) #[] #[]) (.func (.func 77) #[] #[])))
        (first | (with_reducible exact Sc.s HB.out) | (with_reducible exact Sc.s HS.out) | (with_reducible exact Sc.s (Sc.put HS.out _ _)))
        (first
          | (go_at_call 42; with_reducible refine (scK HB.out (KC.out _)).mono ?_; rintro e w4 ⟨rfl, hS⟩; have HS := Lib.hid hS; clear hS)
          | (go_at_call 77; with_reducible refine (scK HS.out (KT.out _)).mono ?_; rintro e w4 ⟨rfl, hS⟩; have HS := Lib.hid hS; clear hS)
          | (go_at_call 64; with_reducible refine (scK HS.out (KJ.out _)).mono ?_; rintro e w4 ⟨rfl, hS⟩; have HS := Lib.hid hS; clear hS))
      all_goals
        go_wp2_with fail
        obtain ⟨_, _, _, _, _, _, r1, r2, _, _, la, lb, lc, o1, o2, o3, hB⟩ := HS.out
        refine bodyPost_ret (v := .tuple #[fr (fover ((countsOf h q m r).h, 1) ((countsOf h q m r).h + (countsOf h q m r).q, 1)), .int .i64 0]) (by simp [results, Tryz.results14, go_sem, r1, r2]) rfl ⟨rfl, (hB.setCell o1 _).setCell o1 _⟩
end Go.Proofs.YtmgegkgelecopaaGreatDoor.Rk

set_option maxRecDepth 100000
namespace Go.Proofs.YtmgegkgelecopaaGreatDoor.Rk
open Go Go.Ms Go.Pg Go.Rk Go.ChangeShapes Go.WideShapes Go.ChangeAt Go.RowKit Go.Deep

theorem s81_9 : (Tryz.prog.info? 81).map (·.size) = some (#[.func (.func 78) #[] #[], .func (.func 79) #[] #[]] : Array Value).size := by kernel_rfl
theorem o81_9 : (#[.func (.func 78) #[] #[], .func (.func 79) #[] #[]] : Array Value).all (·.oneCell') = true := by kernel_rfl
set_option maxHeartbeats 4000000 in
theorem score9 (h q m r : Int) (hh : 0 ≤ h ∧ h ≤ 64) (hq : 0 ≤ q ∧ q ≤ 64) (hm : 0 ≤ m ∧ m ≤ 64) (hr : 0 ≤ r ∧ r ≤ 64) (w : World) :
    Calls Tryz.prog 14 #[.int .u8 9, tally h q m r] w fun e w' => e = .returned (.tuple #[fr (scoreOf 9 (countsOf h q m r)), .int .i64 0]) ∧ Below w.heap.size w w' := by
  have hsm := small_of hh hq hm hr
  have KC := Lib.hid (fun w' => countsOf42 h q m r hh hq hm hr w')
  have KT := Lib.hid (fun w' => f79 (countsOf h q m r) hsm w')
  have KJ := Lib.hid (fun w' => gap78 (Q (countsOf h q m r).h (countsOf h q m r).f) (Q (countsOf h q m r).q (countsOf h q m r).p) (okA9 hsm) (okB9 hsm) w')
  obtain ⟨h1, h2⟩ := hh
  obtain ⟨q1, q2⟩ := hq
  obtain ⟨m1, m2⟩ := hm
  obtain ⟨r1, r2⟩ := hr
  clear hsm
  have i0 : ∀ w, Sem.run Tryz.prog (Instr.index 77 (.agg #[.int .i64 h, .int .i64 q, .int .i64 m, .int .i64 r]) (.int .i64 0)) w = .ok (.int .i64 h) w := fun w => by kernel_rfl
  have i1 : ∀ w, Sem.run Tryz.prog (Instr.index 77 (.agg #[.int .i64 h, .int .i64 q, .int .i64 m, .int .i64 r]) (.int .i64 1)) w = .ok (.int .i64 q) w := fun w => by kernel_rfl
  have i2 : ∀ w, Sem.run Tryz.prog (Instr.index 77 (.agg #[.int .i64 h, .int .i64 q, .int .i64 m, .int .i64 r]) (.int .i64 2)) w = .ok (.int .i64 m) w := fun w => by kernel_rfl
  have i3 : ∀ w, Sem.run Tryz.prog (Instr.index 77 (.agg #[.int .i64 h, .int .i64 q, .int .i64 m, .int .i64 r]) (.int .i64 3)) w = .ok (.int .i64 r) w := fun w => by kernel_rfl
  have hidx : ∀ w, Sem.run Tryz.prog (Instr.index 82 (.agg fvals) (.int .u8 9)) w = .ok (.agg #[.func (.func 78) #[] #[], .func (.func 79) #[] #[]]) w := fun w => by kernel_rfl
  go_enter Tryz.func14, Tryz.ntmps14
  go_wp2_with (first
    | (go_at_call 40; refine (isFormula_yes _ ⟨by decide, by decide⟩ _).mono ?_; rintro e w' ⟨rfl, rfl⟩)
    | fail)
  go_loop [22] (fun i => i = .int .i64 0 ∨ i = .int .i64 1 ∨ i = .int .i64 2 ∨ i = .int .i64 3 ∨ i = .int .i64 4) (fun i => 4 - (intOf i).toNat)
  case atStart => exact Or.inl rfl
  case round =>
    rcases hrel with rfl | rfl | rfl | rfl | rfl
    iterate 4
      · go_wp2_with fail
        go_round
        case rel => simp
        case measure => simp [intOf]
    · clear h1 h2 q1 q2 m1 m2 r1 r2
      go_wp2_with (first
        | (refine wpList_store_mid rfl 81 (.tmp 8) (.tmp 36) rfl w1.heap.size 0 #[.func (.func 78) #[] #[], .func (.func 79) #[] #[]] rfl rfl (there_new w1 _ 81) s81_9 o81_9 ?_)
        | (go_at_call 41; refine (formulas41 _).mono ?_; rintro e w1 ⟨rfl, hB⟩; have HB0 := Lib.hid hB; clear hB)
        | fail)
      have HB := Lib.hid (Sc.drew (Sc.start (z1 := .nilFunc) (z2 := .nilFunc) (F := .func (.func 78) #[] #[]) (G := .func (.func 79) #[] #[]) HB0.out))
      clear HB0 i0 i1 i2 i3 hidx
      generalize (w1.alloc (.cells #[.nilFunc, .nilFunc] 81)).setCells w1.heap.size 0 [.func (.func 78) #[] #[], .func (.func 79) #[] #[]] = w2 at *
      go_region_held (fun w' => w'.cell? ⟨w.heap.size, 0, none⟩ = some (.int .i64 h) ∧ w'.cell? ⟨w.heap.size, 1, none⟩ = some (.int .i64 q) ∧ w'.cell? ⟨w.heap.size, 2, none⟩ = some (.int .i64 m) ∧ w'.cell? ⟨w.heap.size, 3, none⟩ = some (.int .i64 r) ∧ w'.cell? ⟨w1.heap.size, 0, none⟩ = some (.func (.func 78) #[] #[]) ∧ w'.cell? ⟨w1.heap.size, 1, none⟩ = some (.func (.func 79) #[] #[]) ∧ w'.cell? ⟨w.heap.size + 1, 0, none⟩ = some (val w' ⟨w.heap.size + 1, 0, none⟩) ∧ w'.cell? ⟨w.heap.size + 1, 1, none⟩ = some (val w' ⟨w.heap.size + 1, 1, none⟩) ∧ w'.frozen? ⟨w.heap.size + 1, 0, none⟩ = false ∧ w'.frozen? ⟨w.heap.size + 1, 1, none⟩ = false ∧ Hid (Sc w w' w.heap.size (w.heap.size + 1) w1.heap.size h q m r (.func (.func 78) #[] #[]) (.func (.func 79) #[] #[])))
        (first | (with_reducible exact Sc.s HB.out) | (with_reducible exact Sc.s HS.out) | (with_reducible exact Sc.s (Sc.put HS.out _ _)))
        (first
          | (go_at_call 42; with_reducible refine (scK HB.out (KC.out _)).mono ?_; rintro e w4 ⟨rfl, hS⟩; have HS := Lib.hid hS; clear hS)
          | (go_at_call 79; with_reducible refine (scK HS.out (KT.out _)).mono ?_; rintro e w4 ⟨rfl, hS⟩; have HS := Lib.hid hS; clear hS)
          | (go_at_call 78; with_reducible refine (scK HS.out (KJ.out _)).mono ?_; rintro e w4 ⟨rfl, hS⟩; have HS := Lib.hid hS; clear hS))
      all_goals
        go_wp2_with fail
        obtain ⟨_, _, _, _, _, _, r1, r2, _, _, la, lb, lc, o1, o2, o3, hB⟩ := HS.out
        refine bodyPost_ret (v := .tuple #[fr (fgap (Q (countsOf h q m r).h (countsOf h q m r).f) (Q (countsOf h q m r).q (countsOf h q m r).p)), .int .i64 0]) (by simp [results, Tryz.results14, go_sem, r1, r2]) rfl ⟨rfl, (hB.setCell o1 _).setCell o1 _⟩
end Go.Proofs.YtmgegkgelecopaaGreatDoor.Rk

set_option maxRecDepth 100000
namespace Go.Proofs.YtmgegkgelecopaaGreatDoor.Rk
open Go Go.Ms Go.Pg Go.Rk Go.ChangeShapes Go.WideShapes Go.ChangeAt Go.RowKit Go.Deep

theorem s81_10 : (Tryz.prog.info? 81).map (·.size) = some (#[.func (.func 75) #[] #[], .func (.func 80) #[] #[]] : Array Value).size := by kernel_rfl
theorem o81_10 : (#[.func (.func 75) #[] #[], .func (.func 80) #[] #[]] : Array Value).all (·.oneCell') = true := by kernel_rfl
set_option maxHeartbeats 4000000 in
theorem score10 (h q m r : Int) (hh : 0 ≤ h ∧ h ≤ 64) (hq : 0 ≤ q ∧ q ≤ 64) (hm : 0 ≤ m ∧ m ≤ 64) (hr : 0 ≤ r ∧ r ≤ 64) (w : World) :
    Calls Tryz.prog 14 #[.int .u8 10, tally h q m r] w fun e w' => e = .returned (.tuple #[fr (scoreOf 10 (countsOf h q m r)), .int .i64 0]) ∧ Below w.heap.size w w' := by
  have hsm := small_of hh hq hm hr
  have KC := Lib.hid (fun w' => countsOf42 h q m r hh hq hm hr w')
  have KT := Lib.hid (fun w' => f80 (countsOf h q m r) hsm w')
  have KJ := Lib.hid (fun w' => minus75 ((countsOf h q m r).h, 1) (damp (countsOf h q m r)) (okA10 hsm) (okB10 hsm) w')
  obtain ⟨h1, h2⟩ := hh
  obtain ⟨q1, q2⟩ := hq
  obtain ⟨m1, m2⟩ := hm
  obtain ⟨r1, r2⟩ := hr
  clear hsm
  have i0 : ∀ w, Sem.run Tryz.prog (Instr.index 77 (.agg #[.int .i64 h, .int .i64 q, .int .i64 m, .int .i64 r]) (.int .i64 0)) w = .ok (.int .i64 h) w := fun w => by kernel_rfl
  have i1 : ∀ w, Sem.run Tryz.prog (Instr.index 77 (.agg #[.int .i64 h, .int .i64 q, .int .i64 m, .int .i64 r]) (.int .i64 1)) w = .ok (.int .i64 q) w := fun w => by kernel_rfl
  have i2 : ∀ w, Sem.run Tryz.prog (Instr.index 77 (.agg #[.int .i64 h, .int .i64 q, .int .i64 m, .int .i64 r]) (.int .i64 2)) w = .ok (.int .i64 m) w := fun w => by kernel_rfl
  have i3 : ∀ w, Sem.run Tryz.prog (Instr.index 77 (.agg #[.int .i64 h, .int .i64 q, .int .i64 m, .int .i64 r]) (.int .i64 3)) w = .ok (.int .i64 r) w := fun w => by kernel_rfl
  have hidx : ∀ w, Sem.run Tryz.prog (Instr.index 82 (.agg fvals) (.int .u8 10)) w = .ok (.agg #[.func (.func 75) #[] #[], .func (.func 80) #[] #[]]) w := fun w => by kernel_rfl
  go_enter Tryz.func14, Tryz.ntmps14
  go_wp2_with (first
    | (go_at_call 40; refine (isFormula_yes _ ⟨by decide, by decide⟩ _).mono ?_; rintro e w' ⟨rfl, rfl⟩)
    | fail)
  go_loop [22] (fun i => i = .int .i64 0 ∨ i = .int .i64 1 ∨ i = .int .i64 2 ∨ i = .int .i64 3 ∨ i = .int .i64 4) (fun i => 4 - (intOf i).toNat)
  case atStart => exact Or.inl rfl
  case round =>
    rcases hrel with rfl | rfl | rfl | rfl | rfl
    iterate 4
      · go_wp2_with fail
        go_round
        case rel => simp
        case measure => simp [intOf]
    · clear h1 h2 q1 q2 m1 m2 r1 r2
      go_wp2_with (first
        | (refine wpList_store_mid rfl 81 (.tmp 8) (.tmp 36) rfl w1.heap.size 0 #[.func (.func 75) #[] #[], .func (.func 80) #[] #[]] rfl rfl (there_new w1 _ 81) s81_10 o81_10 ?_)
        | (go_at_call 41; refine (formulas41 _).mono ?_; rintro e w1 ⟨rfl, hB⟩; have HB0 := Lib.hid hB; clear hB)
        | fail)
      have HB := Lib.hid (Sc.drew (Sc.start (z1 := .nilFunc) (z2 := .nilFunc) (F := .func (.func 75) #[] #[]) (G := .func (.func 80) #[] #[]) HB0.out))
      clear HB0 i0 i1 i2 i3 hidx
      generalize (w1.alloc (.cells #[.nilFunc, .nilFunc] 81)).setCells w1.heap.size 0 [.func (.func 75) #[] #[], .func (.func 80) #[] #[]] = w2 at *
      go_region_held (fun w' => w'.cell? ⟨w.heap.size, 0, none⟩ = some (.int .i64 h) ∧ w'.cell? ⟨w.heap.size, 1, none⟩ = some (.int .i64 q) ∧ w'.cell? ⟨w.heap.size, 2, none⟩ = some (.int .i64 m) ∧ w'.cell? ⟨w.heap.size, 3, none⟩ = some (.int .i64 r) ∧ w'.cell? ⟨w1.heap.size, 0, none⟩ = some (.func (.func 75) #[] #[]) ∧ w'.cell? ⟨w1.heap.size, 1, none⟩ = some (.func (.func 80) #[] #[]) ∧ w'.cell? ⟨w.heap.size + 1, 0, none⟩ = some (val w' ⟨w.heap.size + 1, 0, none⟩) ∧ w'.cell? ⟨w.heap.size + 1, 1, none⟩ = some (val w' ⟨w.heap.size + 1, 1, none⟩) ∧ w'.frozen? ⟨w.heap.size + 1, 0, none⟩ = false ∧ w'.frozen? ⟨w.heap.size + 1, 1, none⟩ = false ∧ Hid (Sc w w' w.heap.size (w.heap.size + 1) w1.heap.size h q m r (.func (.func 75) #[] #[]) (.func (.func 80) #[] #[])))
        (first | (with_reducible exact Sc.s HB.out) | (with_reducible exact Sc.s HS.out) | (with_reducible exact Sc.s (Sc.put HS.out _ _)))
        (first
          | (go_at_call 42; with_reducible refine (scK HB.out (KC.out _)).mono ?_; rintro e w4 ⟨rfl, hS⟩; have HS := Lib.hid hS; clear hS)
          | (go_at_call 80; with_reducible refine (scK HS.out (KT.out _)).mono ?_; rintro e w4 ⟨rfl, hS⟩; have HS := Lib.hid hS; clear hS)
          | (go_at_call 75; with_reducible refine (scK HS.out (KJ.out _)).mono ?_; rintro e w4 ⟨rfl, hS⟩; have HS := Lib.hid hS; clear hS))
      all_goals
        go_wp2_with fail
        obtain ⟨_, _, _, _, _, _, r1, r2, _, _, la, lb, lc, o1, o2, o3, hB⟩ := HS.out
        refine bodyPost_ret (v := .tuple #[fr (fminus ((countsOf h q m r).h, 1) (damp (countsOf h q m r))), .int .i64 0]) (by simp [results, Tryz.results14, go_sem, r1, r2]) rfl ⟨rfl, (hB.setCell o1 _).setCell o1 _⟩
end Go.Proofs.YtmgegkgelecopaaGreatDoor.Rk

