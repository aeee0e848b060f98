import Derived.Test.YtmgegkgelecopaaGreatDoorRkQ
import Derived.Test.YtmgegkgelecopaaGreatDoorRkK86
set_option maxRecDepth 100000
namespace Go.Proofs.YtmgegkgelecopaaGreatDoor.Rk
open Go Go.Ms Go.Pg Go.Rk Go.ChangeShapes Go.WideShapes Go.ChangeAt Go.RowKit Go.Deep

theorem s81_11 : (Tryz.prog.info? 81).map (·.size) = some (#[.func (.func 64) #[] #[], .func (.func 82) #[] #[]] : Array Value).size := by kernel_rfl
theorem o81_11 : (#[.func (.func 64) #[] #[], .func (.func 82) #[] #[]] : Array Value).all (·.oneCell') = true := by kernel_rfl
set_option maxHeartbeats 4000000 in
theorem score11 (h q m r : Int) (hh : 0 ≤ h ∧ h ≤ 64) (hq : 0 ≤ q ∧ q ≤ 64) (hm : 0 ≤ m ∧ m ≤ 64) (hr : 0 ≤ r ∧ r ≤ 64) (w : World) :
    Calls Tryz.prog 14 #[.int .u8 11, tally h q m r] w fun e w' => e = .returned (.tuple #[fr (scoreOf 11 (countsOf h q m r)), .int .i64 0]) ∧ Below w.heap.size w w' := by
  have hsm := small_of hh hq hm hr
  have KC := Lib.hid (fun w' => countsOf42 h q m r hh hq hm hr w')
  have KT := Lib.hid (fun w' => f82 (countsOf h q m r) hsm w')
  have KJ := Lib.hid (fun w' => over64 ((countsOf h q m r).h, 1) ((countsOf h q m r).f + (countsOf h q m r).p, 1) (okA11 hsm) (okB11 hsm) w')
  obtain ⟨h1, h2⟩ := hh
  obtain ⟨q1, q2⟩ := hq
  obtain ⟨m1, m2⟩ := hm
  obtain ⟨r1, r2⟩ := hr
  clear hsm
  have i0 : ∀ w, Sem.run Tryz.prog (Instr.index 77 (.agg #[.int .i64 h, .int .i64 q, .int .i64 m, .int .i64 r]) (.int .i64 0)) w = .ok (.int .i64 h) w := fun w => by kernel_rfl
  have i1 : ∀ w, Sem.run Tryz.prog (Instr.index 77 (.agg #[.int .i64 h, .int .i64 q, .int .i64 m, .int .i64 r]) (.int .i64 1)) w = .ok (.int .i64 q) w := fun w => by kernel_rfl
  have i2 : ∀ w, Sem.run Tryz.prog (Instr.index 77 (.agg #[.int .i64 h, .int .i64 q, .int .i64 m, .int .i64 r]) (.int .i64 2)) w = .ok (.int .i64 m) w := fun w => by kernel_rfl
  have i3 : ∀ w, Sem.run Tryz.prog (Instr.index 77 (.agg #[.int .i64 h, .int .i64 q, .int .i64 m, .int .i64 r]) (.int .i64 3)) w = .ok (.int .i64 r) w := fun w => by kernel_rfl
  have hidx : ∀ w, Sem.run Tryz.prog (Instr.index 82 (.agg fvals) (.int .u8 11)) w = .ok (.agg #[.func (.func 64) #[] #[], .func (.func 82) #[] #[]]) w := fun w => by kernel_rfl
  go_enter Tryz.func14, Tryz.ntmps14
  go_wp2_with (first
    | (go_at_call 40; refine (isFormula_yes _ ⟨by decide, by decide⟩ _).mono ?_; rintro e w' ⟨rfl, rfl⟩)
    | fail)
  go_loop [22] (fun i => i = .int .i64 0 ∨ i = .int .i64 1 ∨ i = .int .i64 2 ∨ i = .int .i64 3 ∨ i = .int .i64 4) (fun i => 4 - (intOf i).toNat)
  case atStart => exact Or.inl rfl
  case round =>
    rcases hrel with rfl | rfl | rfl | rfl | rfl
    iterate 4
      · go_wp2_with fail
        go_round
        case rel => simp
        case measure => simp [intOf]
    · clear h1 h2 q1 q2 m1 m2 r1 r2
      go_wp2_with (first
        | (refine wpList_store_mid rfl 81 (.tmp 8) (.tmp 36) rfl w1.heap.size 0 #[.func (.func 64) #[] #[], .func (.func 82) #[] #[]] rfl rfl (there_new w1 _ 81) s81_11 o81_11 ?_)
        | (go_at_call 41; refine (formulas41 _).mono ?_; rintro e w1 ⟨rfl, hB⟩; have HB0 := Lib.hid hB; clear hB)
        | fail)
      have HB := Lib.hid (Sc.drew (Sc.start (z1 := .nilFunc) (z2 := .nilFunc) (F := .func (.func 64) #[] #[]) (G := .func (.func 82) #[] #[]) HB0.out))
      clear HB0 i0 i1 i2 i3 hidx
      generalize (w1.alloc (.cells #[.nilFunc, .nilFunc] 81)).setCells w1.heap.size 0 [.func (.func 64) #[] #[], .func (.func 82) #[] #[]] = w2 at *
      go_region_held (fun w' => w'.cell? ⟨w.heap.size, 0, none⟩ = some (.int .i64 h) ∧ w'.cell? ⟨w.heap.size, 1, none⟩ = some (.int .i64 q) ∧ w'.cell? ⟨w.heap.size, 2, none⟩ = some (.int .i64 m) ∧ w'.cell? ⟨w.heap.size, 3, none⟩ = some (.int .i64 r) ∧ w'.cell? ⟨w1.heap.size, 0, none⟩ = some (.func (.func 64) #[] #[]) ∧ w'.cell? ⟨w1.heap.size, 1, none⟩ = some (.func (.func 82) #[] #[]) ∧ w'.cell? ⟨w.heap.size + 1, 0, none⟩ = some (val w' ⟨w.heap.size + 1, 0, none⟩) ∧ w'.cell? ⟨w.heap.size + 1, 1, none⟩ = some (val w' ⟨w.heap.size + 1, 1, none⟩) ∧ w'.frozen? ⟨w.heap.size + 1, 0, none⟩ = false ∧ w'.frozen? ⟨w.heap.size + 1, 1, none⟩ = false ∧ Hid (Sc w w' w.heap.size (w.heap.size + 1) w1.heap.size h q m r (.func (.func 64) #[] #[]) (.func (.func 82) #[] #[])))
        (first | (with_reducible exact Sc.s HB.out) | (with_reducible exact Sc.s HS.out) | (with_reducible exact Sc.s (Sc.put HS.out _ _)))
        (first
          | (go_at_call 42; with_reducible refine (scK HB.out (KC.out _)).mono ?_; rintro e w4 ⟨rfl, hS⟩; have HS := Lib.hid hS; clear hS)
          | (go_at_call 82; with_reducible refine (scK HS.out (KT.out _)).mono ?_; rintro e w4 ⟨rfl, hS⟩; have HS := Lib.hid hS; clear hS)
          | (go_at_call 64; with_reducible refine (scK HS.out (KJ.out _)).mono ?_; rintro e w4 ⟨rfl, hS⟩; have HS := Lib.hid hS; clear hS))
      all_goals
        go_wp2_with fail
        obtain ⟨_, _, _, _, _, _, r1, r2, _, _, la, lb, lc, o1, o2, o3, hB⟩ := HS.out
        refine bodyPost_ret (v := .tuple #[fr (fover ((countsOf h q m r).h, 1) ((countsOf h q m r).f + (countsOf h q m r).p, 1)), .int .i64 0]) (by simp [results, Tryz.results14, go_sem, r1, r2]) rfl ⟨rfl, (hB.setCell o1 _).setCell o1 _⟩
end Go.Proofs.YtmgegkgelecopaaGreatDoor.Rk

set_option maxRecDepth 100000
namespace Go.Proofs.YtmgegkgelecopaaGreatDoor.Rk
open Go Go.Ms Go.Pg Go.Rk Go.ChangeShapes Go.WideShapes Go.ChangeAt Go.RowKit Go.Deep

theorem s81_12 : (Tryz.prog.info? 81).map (·.size) = some (#[.func (.func 64) #[] #[], .func (.func 83) #[] #[]] : Array Value).size := by kernel_rfl
theorem o81_12 : (#[.func (.func 64) #[] #[], .func (.func 83) #[] #[]] : Array Value).all (·.oneCell') = true := by kernel_rfl
set_option maxHeartbeats 4000000 in
theorem score12 (h q m r : Int) (hh : 0 ≤ h ∧ h ≤ 64) (hq : 0 ≤ q ∧ q ≤ 64) (hm : 0 ≤ m ∧ m ≤ 64) (hr : 0 ≤ r ∧ r ≤ 64) (w : World) :
    Calls Tryz.prog 14 #[.int .u8 12, tally h q m r] w fun e w' => e = .returned (.tuple #[fr (scoreOf 12 (countsOf h q m r)), .int .i64 0]) ∧ Below w.heap.size w w' := by
  have hsm := small_of hh hq hm hr
  have KC := Lib.hid (fun w' => countsOf42 h q m r hh hq hm hr w')
  have KT := Lib.hid (fun w' => f83 (countsOf h q m r) hsm w')
  have KJ := Lib.hid (fun w' => over64 ((countsOf h q m r).h + (countsOf h q m r).r, 1) ((countsOf h q m r).f + (countsOf h q m r).p, 1) (okA12 hsm) (okB12 hsm) w')
  obtain ⟨h1, h2⟩ := hh
  obtain ⟨q1, q2⟩ := hq
  obtain ⟨m1, m2⟩ := hm
  obtain ⟨r1, r2⟩ := hr
  clear hsm
  have i0 : ∀ w, Sem.run Tryz.prog (Instr.index 77 (.agg #[.int .i64 h, .int .i64 q, .int .i64 m, .int .i64 r]) (.int .i64 0)) w = .ok (.int .i64 h) w := fun w => by kernel_rfl
  have i1 : ∀ w, Sem.run Tryz.prog (Instr.index 77 (.agg #[.int .i64 h, .int .i64 q, .int .i64 m, .int .i64 r]) (.int .i64 1)) w = .ok (.int .i64 q) w := fun w => by kernel_rfl
  have i2 : ∀ w, Sem.run Tryz.prog (Instr.index 77 (.agg #[.int .i64 h, .int .i64 q, .int .i64 m, .int .i64 r]) (.int .i64 2)) w = .ok (.int .i64 m) w := fun w => by kernel_rfl
  have i3 : ∀ w, Sem.run Tryz.prog (Instr.index 77 (.agg #[.int .i64 h, .int .i64 q, .int .i64 m, .int .i64 r]) (.int .i64 3)) w = .ok (.int .i64 r) w := fun w => by kernel_rfl
  have hidx : ∀ w, Sem.run Tryz.prog (Instr.index 82 (.agg fvals) (.int .u8 12)) w = .ok (.agg #[.func (.func 64) #[] #[], .func (.func 83) #[] #[]]) w := fun w => by kernel_rfl
  go_enter Tryz.func14, Tryz.ntmps14
  go_wp2_with (first
    | (go_at_call 40; refine (isFormula_yes _ ⟨by decide, by decide⟩ _).mono ?_; rintro e w' ⟨rfl, rfl⟩)
    | fail)
  go_loop [22] (fun i => i = .int .i64 0 ∨ i = .int .i64 1 ∨ i = .int .i64 2 ∨ i = .int .i64 3 ∨ i = .int .i64 4) (fun i => 4 - (intOf i).toNat)
  case atStart => exact Or.inl rfl
  case round =>
    rcases hrel with rfl | rfl | rfl | rfl | rfl
    iterate 4
      · go_wp2_with fail
        go_round
        case rel => simp
        case measure => simp [intOf]
    · clear h1 h2 q1 q2 m1 m2 r1 r2
      go_wp2_with (first
        | (refine wpList_store_mid rfl 81 (.tmp 8) (.tmp 36) rfl w1.heap.size 0 #[.func (.func 64) #[] #[], .func (.func 83) #[] #[]] rfl rfl (there_new w1 _ 81) s81_12 o81_12 ?_)
        | (go_at_call 41; refine (formulas41 _).mono ?_; rintro e w1 ⟨rfl, hB⟩; have HB0 := Lib.hid hB; clear hB)
        | fail)
      have HB := Lib.hid (Sc.drew (Sc.start (z1 := .nilFunc) (z2 := .nilFunc) (F := .func (.func 64) #[] #[]) (G := .func (.func 83) #[] #[]) HB0.out))
      clear HB0 i0 i1 i2 i3 hidx
      generalize (w1.alloc (.cells #[.nilFunc, .nilFunc] 81)).setCells w1.heap.size 0 [.func (.func 64) #[] #[], .func (.func 83) #[] #[]] = w2 at *
      go_region_held (fun w' => w'.cell? ⟨w.heap.size, 0, none⟩ = some (.int .i64 h) ∧ w'.cell? ⟨w.heap.size, 1, none⟩ = some (.int .i64 q) ∧ w'.cell? ⟨w.heap.size, 2, none⟩ = some (.int .i64 m) ∧ w'.cell? ⟨w.heap.size, 3, none⟩ = some (.int .i64 r) ∧ w'.cell? ⟨w1.heap.size, 0, none⟩ = some (.func (.func 64) #[] #[]) ∧ w'.cell? ⟨w1.heap.size, 1, none⟩ = some (.func (.func 83) #[] #[]) ∧ w'.cell? ⟨w.heap.size + 1, 0, none⟩ = some (val w' ⟨w.heap.size + 1, 0, none⟩) ∧ w'.cell? ⟨w.heap.size + 1, 1, none⟩ = some (val w' ⟨w.heap.size + 1, 1, none⟩) ∧ w'.frozen? ⟨w.heap.size + 1, 0, none⟩ = false ∧ w'.frozen? ⟨w.heap.size + 1, 1, none⟩ = false ∧ Hid (Sc w w' w.heap.size (w.heap.size + 1) w1.heap.size h q m r (.func (.func 64) #[] #[]) (.func (.func 83) #[] #[])))
        (first | (with_reducible exact Sc.s HB.out) | (with_reducible exact Sc.s HS.out) | (with_reducible exact Sc.s (Sc.put HS.out _ _)))
        (first
          | (go_at_call 42; with_reducible refine (scK HB.out (KC.out _)).mono ?_; rintro e w4 ⟨rfl, hS⟩; have HS := Lib.hid hS; clear hS)
          | (go_at_call 83; with_reducible refine (scK HS.out (KT.out _)).mono ?_; rintro e w4 ⟨rfl, hS⟩; have HS := Lib.hid hS; clear hS)
          | (go_at_call 64; with_reducible refine (scK HS.out (KJ.out _)).mono ?_; rintro e w4 ⟨rfl, hS⟩; have HS := Lib.hid hS; clear hS))
      all_goals
        go_wp2_with fail
        obtain ⟨_, _, _, _, _, _, r1, r2, _, _, la, lb, lc, o1, o2, o3, hB⟩ := HS.out
        refine bodyPost_ret (v := .tuple #[fr (fover ((countsOf h q m r).h + (countsOf h q m r).r, 1) ((countsOf h q m r).f + (countsOf h q m r).p, 1)), .int .i64 0]) (by simp [results, Tryz.results14, go_sem, r1, r2]) rfl ⟨rfl, (hB.setCell o1 _).setCell o1 _⟩
end Go.Proofs.YtmgegkgelecopaaGreatDoor.Rk

set_option maxRecDepth 100000
namespace Go.Proofs.YtmgegkgelecopaaGreatDoor.Rk
open Go Go.Ms Go.Pg Go.Rk Go.ChangeShapes Go.WideShapes Go.ChangeAt Go.RowKit Go.Deep

theorem s81_13 : (Tryz.prog.info? 81).map (·.size) = some (#[.func (.func 84) #[] #[], .func (.func 85) #[] #[]] : Array Value).size := by kernel_rfl
theorem o81_13 : (#[.func (.func 84) #[] #[], .func (.func 85) #[] #[]] : Array Value).all (·.oneCell') = true := by kernel_rfl
set_option maxHeartbeats 4000000 in
theorem score13 (h q m r : Int) (hh : 0 ≤ h ∧ h ≤ 64) (hq : 0 ≤ q ∧ q ≤ 64) (hm : 0 ≤ m ∧ m ≤ 64) (hr : 0 ≤ r ∧ r ≤ 64) (w : World) :
    Calls Tryz.prog 14 #[.int .u8 13, tally h q m r] w fun e w' => e = .returned (.tuple #[fr (scoreOf 13 (countsOf h q m r)), .int .i64 0]) ∧ Below w.heap.size w w' := by
  have hsm := small_of hh hq hm hr
  have KC := Lib.hid (fun w' => countsOf42 h q m r hh hq hm hr w')
  have KT := Lib.hid (fun w' => f85 (countsOf h q m r) hsm w')
  have KJ := Lib.hid (fun w' => times84 ((countsOf h q m r).h, 1) (fplus (1, 1) (Q 1 (2 * (countsOf h q m r).q + (countsOf h q m r).h))) (okA13 hsm) (okB13 hsm) w')
  obtain ⟨h1, h2⟩ := hh
  obtain ⟨q1, q2⟩ := hq
  obtain ⟨m1, m2⟩ := hm
  obtain ⟨r1, r2⟩ := hr
  clear hsm
  have i0 : ∀ w, Sem.run Tryz.prog (Instr.index 77 (.agg #[.int .i64 h, .int .i64 q, .int .i64 m, .int .i64 r]) (.int .i64 0)) w = .ok (.int .i64 h) w := fun w => by kernel_rfl
  have i1 : ∀ w, Sem.run Tryz.prog (Instr.index 77 (.agg #[.int .i64 h, .int .i64 q, .int .i64 m, .int .i64 r]) (.int .i64 1)) w = .ok (.int .i64 q) w := fun w => by kernel_rfl
  have i2 : ∀ w, Sem.run Tryz.prog (Instr.index 77 (.agg #[.int .i64 h, .int .i64 q, .int .i64 m, .int .i64 r]) (.int .i64 2)) w = .ok (.int .i64 m) w := fun w => by kernel_rfl
  have i3 : ∀ w, Sem.run Tryz.prog (Instr.index 77 (.agg #[.int .i64 h, .int .i64 q, .int .i64 m, .int .i64 r]) (.int .i64 3)) w = .ok (.int .i64 r) w := fun w => by kernel_rfl
  have hidx : ∀ w, Sem.run Tryz.prog (Instr.index 82 (.agg fvals) (.int .u8 13)) w = .ok (.agg #[.func (.func 84) #[] #[], .func (.func 85) #[] #[]]) w := fun w => by kernel_rfl
  go_enter Tryz.func14, Tryz.ntmps14
  go_wp2_with (first
    | (go_at_call 40; refine (isFormula_yes _ ⟨by decide, by decide⟩ _).mono ?_; rintro e w' ⟨rfl, rfl⟩)
    | fail)
  go_loop [22] (fun i => i = .int .i64 0 ∨ i = .int .i64 1 ∨ i = .int .i64 2 ∨ i = .int .i64 3 ∨ i = .int .i64 4) (fun i => 4 - (intOf i).toNat)
  case atStart => exact Or.inl rfl
  case round =>
    rcases hrel with rfl | rfl | rfl | rfl | rfl
    iterate 4
      · go_wp2_with fail
        go_round
        case rel => simp
        case measure => simp [intOf]
    · clear h1 h2 q1 q2 m1 m2 r1 r2
      go_wp2_with (first
        | (refine wpList_store_mid rfl 81 (.tmp 8) (.tmp 36) rfl w1.heap.size 0 #[.func (.func 84) #[] #[], .func (.func 85) #[] #[]] rfl rfl (there_new w1 _ 81) s81_13 o81_13 ?_)
        | (go_at_call 41; refine (formulas41 _).mono ?_; rintro e w1 ⟨rfl, hB⟩; have HB0 := Lib.hid hB; clear hB)
        | fail)
      have HB := Lib.hid (Sc.drew (Sc.start (z1 := .nilFunc) (z2 := .nilFunc) (F := .func (.func 84) #[] #[]) (G := .func (.func 85) #[] #[]) HB0.out))
      clear HB0 i0 i1 i2 i3 hidx
      generalize (w1.alloc (.cells #[.nilFunc, .nilFunc] 81)).setCells w1.heap.size 0 [.func (.func 84) #[] #[], .func (.func 85) #[] #[]] = w2 at *
      go_region_held (fun w' => w'.cell? ⟨w.heap.size, 0, none⟩ = some (.int .i64 h) ∧ w'.cell? ⟨w.heap.size, 1, none⟩ = some (.int .i64 q) ∧ w'.cell? ⟨w.heap.size, 2, none⟩ = some (.int .i64 m) ∧ w'.cell? ⟨w.heap.size, 3, none⟩ = some (.int .i64 r) ∧ w'.cell? ⟨w1.heap.size, 0, none⟩ = some (.func (.func 84) #[] #[]) ∧ w'.cell? ⟨w1.heap.size, 1, none⟩ = some (.func (.func 85) #[] #[]) ∧ w'.cell? ⟨w.heap.size + 1, 0, none⟩ = some (val w' ⟨w.heap.size + 1, 0, none⟩) ∧ w'.cell? ⟨w.heap.size + 1, 1, none⟩ = some (val w' ⟨w.heap.size + 1, 1, none⟩) ∧ w'.frozen? ⟨w.heap.size + 1, 0, none⟩ = false ∧ w'.frozen? ⟨w.heap.size + 1, 1, none⟩ = false ∧ Hid (Sc w w' w.heap.size (w.heap.size + 1) w1.heap.size h q m r (.func (.func 84) #[] #[]) (.func (.func 85) #[] #[])))
        (first | (with_reducible exact Sc.s HB.out) | (with_reducible exact Sc.s HS.out) | (with_reducible exact Sc.s (Sc.put HS.out _ _)))
        (first
          | (go_at_call 42; with_reducible refine (scK HB.out (KC.out _)).mono ?_; rintro e w4 ⟨rfl, hS⟩; have HS := Lib.hid hS; clear hS)
          | (go_at_call 85; with_reducible refine (scK HS.out (KT.out _)).mono ?_; rintro e w4 ⟨rfl, hS⟩; have HS := Lib.hid hS; clear hS)
          | (go_at_call 84; with_reducible refine (scK HS.out (KJ.out _)).mono ?_; rintro e w4 ⟨rfl, hS⟩; have HS := Lib.hid hS; clear hS))
      all_goals
        go_wp2_with fail
        obtain ⟨_, _, _, _, _, _, r1, r2, _, _, la, lb, lc, o1, o2, o3, hB⟩ := HS.out
        refine bodyPost_ret (v := .tuple #[fr (ftimes ((countsOf h q m r).h, 1) (fplus (1, 1) (Q 1 (2 * (countsOf h q m r).q + (countsOf h q m r).h)))), .int .i64 0]) (by simp [results, Tryz.results14, go_sem, r1, r2]) rfl ⟨rfl, (hB.setCell o1 _).setCell o1 _⟩
end Go.Proofs.YtmgegkgelecopaaGreatDoor.Rk

set_option maxRecDepth 100000
namespace Go.Proofs.YtmgegkgelecopaaGreatDoor.Rk
open Go Go.Ms Go.Pg Go.Rk Go.ChangeShapes Go.WideShapes Go.ChangeAt Go.RowKit Go.Deep

theorem s81_14 : (Tryz.prog.info? 81).map (·.size) = some (#[.func (.func 64) #[] #[], .func (.func 86) #[] #[]] : Array Value).size := by kernel_rfl
theorem o81_14 : (#[.func (.func 64) #[] #[], .func (.func 86) #[] #[]] : Array Value).all (·.oneCell') = true := by kernel_rfl
set_option maxHeartbeats 4000000 in
theorem score14 (h q m r : Int) (hh : 0 ≤ h ∧ h ≤ 64) (hq : 0 ≤ q ∧ q ≤ 64) (hm : 0 ≤ m ∧ m ≤ 64) (hr : 0 ≤ r ∧ r ≤ 64) (w : World) :
    Calls Tryz.prog 14 #[.int .u8 14, tally h q m r] w fun e w' => e = .returned (.tuple #[fr (scoreOf 14 (countsOf h q m r)), .int .i64 0]) ∧ Below w.heap.size w w' := by
  have hsm := small_of hh hq hm hr
  have KC := Lib.hid (fun w' => countsOf42 h q m r hh hq hm hr w')
  have KT := Lib.hid (fun w' => f86 (countsOf h q m r) hsm w')
  have KJ := Lib.hid (fun w' => over64 ((countsOf h q m r).h * (countsOf h q m r).h, 1) ((countsOf h q m r).h * ((countsOf h q m r).f + (countsOf h q m r).q) + 10000 * (countsOf h q m r).m * (countsOf h q m r).q, 1) (okA14 hsm) (okB14 hsm) w')
  obtain ⟨h1, h2⟩ := hh
  obtain ⟨q1, q2⟩ := hq
  obtain ⟨m1, m2⟩ := hm
  obtain ⟨r1, r2⟩ := hr
  clear hsm
  have i0 : ∀ w, Sem.run Tryz.prog (Instr.index 77 (.agg #[.int .i64 h, .int .i64 q, .int .i64 m, .int .i64 r]) (.int .i64 0)) w = .ok (.int .i64 h) w := fun w => by kernel_rfl
  have i1 : ∀ w, Sem.run Tryz.prog (Instr.index 77 (.agg #[.int .i64 h, .int .i64 q, .int .i64 m, .int .i64 r]) (.int .i64 1)) w = .ok (.int .i64 q) w := fun w => by kernel_rfl
  have i2 : ∀ w, Sem.run Tryz.prog (Instr.index 77 (.agg #[.int .i64 h, .int .i64 q, .int .i64 m, .int .i64 r]) (.int .i64 2)) w = .ok (.int .i64 m) w := fun w => by kernel_rfl
  have i3 : ∀ w, Sem.run Tryz.prog (Instr.index 77 (.agg #[.int .i64 h, .int .i64 q, .int .i64 m, .int .i64 r]) (.int .i64 3)) w = .ok (.int .i64 r) w := fun w => by kernel_rfl
  have hidx : ∀ w, Sem.run Tryz.prog (Instr.index 82 (.agg fvals) (.int .u8 14)) w = .ok (.agg #[.func (.func 64) #[] #[], .func (.func 86) #[] #[]]) w := fun w => by kernel_rfl
  go_enter Tryz.func14, Tryz.ntmps14
  go_wp2_with (first
    | (go_at_call 40; refine (isFormula_yes _ ⟨by decide, by decide⟩ _).mono ?_; rintro e w' ⟨rfl, rfl⟩)
    | fail)
  go_loop [22] (fun i => i = .int .i64 0 ∨ i = .int .i64 1 ∨ i = .int .i64 2 ∨ i = .int .i64 3 ∨ i = .int .i64 4) (fun i => 4 - (intOf i).toNat)
  case atStart => exact Or.inl rfl
  case round =>
    rcases hrel with rfl | rfl | rfl | rfl | rfl
    iterate 4
      · go_wp2_with fail
        go_round
        case rel => simp
        case measure => simp [intOf]
    · clear h1 h2 q1 q2 m1 m2 r1 r2
      go_wp2_with (first
        | (refine wpList_store_mid rfl 81 (.tmp 8) (.tmp 36) rfl w1.heap.size 0 #[.func (.func 64) #[] #[], .func (.func 86) #[] #[]] rfl rfl (there_new w1 _ 81) s81_14 o81_14 ?_)
        | (go_at_call 41; refine (formulas41 _).mono ?_; rintro e w1 ⟨rfl, hB⟩; have HB0 := Lib.hid hB; clear hB)
        | fail)
      have HB := Lib.hid (Sc.drew (Sc.start (z1 := .nilFunc) (z2 := .nilFunc) (F := .func (.func 64) #[] #[]) (G := .func (.func 86) #[] #[]) HB0.out))
      clear HB0 i0 i1 i2 i3 hidx
      generalize (w1.alloc (.cells #[.nilFunc, .nilFunc] 81)).setCells w1.heap.size 0 [.func (.func 64) #[] #[], .func (.func 86) #[] #[]] = w2 at *
      go_region_held (fun w' => w'.cell? ⟨w.heap.size, 0, none⟩ = some (.int .i64 h) ∧ w'.cell? ⟨w.heap.size, 1, none⟩ = some (.int .i64 q) ∧ w'.cell? ⟨w.heap.size, 2, none⟩ = some (.int .i64 m) ∧ w'.cell? ⟨w.heap.size, 3, none⟩ = some (.int .i64 r) ∧ w'.cell? ⟨w1.heap.size, 0, none⟩ = some (.func (.func 64) #[] #[]) ∧ w'.cell? ⟨w1.heap.size, 1, none⟩ = some (.func (.func 86) #[] #[]) ∧ w'.cell? ⟨w.heap.size + 1, 0, none⟩ = some (val w' ⟨w.heap.size + 1, 0, none⟩) ∧ w'.cell? ⟨w.heap.size + 1, 1, none⟩ = some (val w' ⟨w.heap.size + 1, 1, none⟩) ∧ w'.frozen? ⟨w.heap.size + 1, 0, none⟩ = false ∧ w'.frozen? ⟨w.heap.size + 1, 1, none⟩ = false ∧ Hid (Sc w w' w.heap.size (w.heap.size + 1) w1.heap.size h q m r (.func (.func 64) #[] #[]) (.func (.func 86) #[] #[])))
        (first | (with_reducible exact Sc.s HB.out) | (with_reducible exact Sc.s HS.out) | (with_reducible exact Sc.s (Sc.put HS.out _ _)))
        (first
          | (go_at_call 42; with_reducible refine (scK HB.out (KC.out _)).mono ?_; rintro e w4 ⟨rfl, hS⟩; have HS := Lib.hid hS; clear hS)
          | (go_at_call 86; with_reducible refine (scK HS.out (KT.out _)).mono ?_; rintro e w4 ⟨rfl, hS⟩; have HS := Lib.hid hS; clear hS)
          | (go_at_call 64; with_reducible refine (scK HS.out (KJ.out _)).mono ?_; rintro e w4 ⟨rfl, hS⟩; have HS := Lib.hid hS; clear hS))
      all_goals
        go_wp2_with fail
        obtain ⟨_, _, _, _, _, _, r1, r2, _, _, la, lb, lc, o1, o2, o3, hB⟩ := HS.out
        refine bodyPost_ret (v := .tuple #[fr (fover ((countsOf h q m r).h * (countsOf h q m r).h, 1) ((countsOf h q m r).h * ((countsOf h q m r).f + (countsOf h q m r).q) + 10000 * (countsOf h q m r).m * (countsOf h q m r).q, 1)), .int .i64 0]) (by simp [results, Tryz.results14, go_sem, r1, r2]) rfl ⟨rfl, (hB.setCell o1 _).setCell o1 _⟩
end Go.Proofs.YtmgegkgelecopaaGreatDoor.Rk

