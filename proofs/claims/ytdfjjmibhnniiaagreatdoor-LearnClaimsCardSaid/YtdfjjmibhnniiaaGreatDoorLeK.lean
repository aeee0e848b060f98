import Derived.Test.YtdfjjmibhnniiaaGreatDoorLeE
set_option maxRecDepth 100000
set_option linter.unusedSimpArgs false
namespace Go.Proofs.YtdfjjmibhnniiaaGreatDoor.Le
open Go Go.Ms Go.Pg Go.Le Go.ChangeShapes Go.WideShapes Go.ChangeAt Go.RowKit Go.Deep

def claimV (x : Inv) (s : Value) : Value :=
  if x.k = 1 then .iface 142 (.agg #[.int .i64 x.a, .int .i64 x.K])
  else if x.k = 2 then .iface 148 (.agg #[.int .i64 x.a, s])
  else if x.k = 3 then .iface 143 (.agg #[.int .i64 x.a, .int .i64 x.K])
  else if x.k = 4 then .iface 144 (.agg #[.int .i64 x.a, .int .i64 x.K])
  else if x.k = 5 then .iface 150 (.agg #[.int .i64 x.a])
  else if x.k = 6 then .iface 152 (.agg #[.int .i64 x.a, .int .i64 x.K, .int .i64 x.M])
  else if x.k = 7 then .iface 160 (.agg #[.int .i64 x.a, .int .i64 x.b])
  else if x.k = 8 then .iface 164 (.agg #[.int .i64 x.a, .int .i64 x.b])
  else if x.k = 9 then .iface 162 (.agg #[.int .i64 x.a, .int .i64 x.b])
  else if x.k = 10 then .iface 163 (.agg #[.int .i64 x.a, .int .i64 x.b])
  else if x.k = 11 then .iface 166 (.agg #[.int .i64 x.a, .int .i64 x.b, .int .i64 x.K, .int .i64 x.M])
  else .nilIface

set_option maxHeartbeats 40000000 in
theorem claimedProg {w : World} {x : Inv} {s : Value} (hs : IntsW w s x.set) : Calls Tryz.prog 63 #[vInv x s] w fun e w' => e = .returned (claimV x s) ∧ Below w.heap.size w w' := by
  have hs0 := hs
  obtain ⟨os, cs, rfl, hls, _⟩ := hs
  obtain ⟨b1, b3⟩ := one_box w x (.slice os x.set.length cs) 31
  have hlt : w.heap.size < (w.alloc (.cells (cInv x (.slice os x.set.length cs)) 31)).heap.size := by rw [size_up]; omega
  obtain ⟨k, a, b, K, M, l⟩ := x
  have HC : Hid (k = 1 ∨ k = 2 ∨ k = 3 ∨ k = 4 ∨ k = 5 ∨ k = 6 ∨ k = 7 ∨ k = 8 ∨ k = 9 ∨ k = 10 ∨ k = 11 ∨ (k ≠ 1 ∧ k ≠ 2 ∧ k ≠ 3 ∧ k ≠ 4 ∧ k ≠ 5 ∧ k ≠ 6 ∧ k ≠ 7 ∧ k ≠ 8 ∧ k ≠ 9 ∧ k ≠ 10 ∧ k ≠ 11)) := hide (by omega)
  unfold vInv
  unfold cInv at *
  go_enter Tryz.func63, Tryz.ntmps63
  go_upto_region 1 with (fail)
  dsimp only at b1 b3 hlt
  generalize w.alloc (.cells #[.int .u8 k, .int .i64 a, .int .i64 b, .int .i64 K, .int .i64 M, .slice os l.length cs] 31) = w0 at *
  have HB := hide b3
  clear b3 hs0
  obtain ⟨p0, p1, p2, p3, p4, p5⟩ := b1
  dsimp only at p0 p1 p2 p3 p4 p5 hls
  go_region
  all_goals
    rcases HC.out with rfl | rfl | rfl | rfl | rfl | rfl | rfl | rfl | rfl | rfl | rfl | hno
    rotate_left 11
    · obtain ⟨n1, n2, n3, n4, n5, n6, n7, n8, n9, n10, n11⟩ := hno
      have HV : Hid (claimV ⟨k, a, b, K, M, l⟩ (.slice os l.length cs) = .nilIface) := hide (by simp [claimV, n1, n2, n3, n4, n5, n6, n7, n8, n9, n10, n11])
      have e1 : (k == 1) = false := by simp [n1]
      have e2 : (k == 2) = false := by simp [n2]
      have e3 : (k == 3) = false := by simp [n3]
      have e4 : (k == 4) = false := by simp [n4]
      have e5 : (k == 5) = false := by simp [n5]
      have e6 : (k == 6) = false := by simp [n6]
      have e7 : (k == 7) = false := by simp [n7]
      have e8 : (k == 8) = false := by simp [n8]
      have e9 : (k == 9) = false := by simp [n9]
      have e10 : (k == 10) = false := by simp [n10]
      have e11 : (k == 11) = false := by simp [n11]
      clear HC n1 n2 n3 n4 n5 n6 n7 n8 n9 n10 n11
      go_wp2_with fail
      go_ret
      refine ⟨?_, HB.out.trans ?_⟩
      · rw [HV.out]; rfl
      · repeat (first | with_reducible refine Below.setCell ?_ (by first | omega | (simp; try omega)) _ | with_reducible refine Below.drew ?_ | with_reducible refine Below.alloc ?_ (by first | omega | (simp only [size_up]; omega)) _)
        exact Below.refl _ _
    all_goals
      clear HC
      go_wp2_with fail
      go_ret
      refine ⟨rfl, HB.out.trans ?_⟩
      repeat (first | with_reducible refine Below.setCell ?_ (by first | omega | (simp; try omega)) _ | with_reducible refine Below.drew ?_ | with_reducible refine Below.alloc ?_ (by first | omega | (simp only [size_up]; omega)) _)
      exact Below.refl _ _
end Go.Proofs.YtdfjjmibhnniiaaGreatDoor.Le

set_option maxRecDepth 100000
set_option linter.unusedSimpArgs false
namespace Go.Proofs.YtdfjjmibhnniiaaGreatDoor.Le
open Go Go.Ms Go.Pg Go.Le Go.ChangeShapes Go.WideShapes Go.ChangeAt Go.RowKit Go.Deep

/-! Type assertions: what a claim is. -/
theorem is148 (v : Value) (w : World) : (Instr.typeAssert (.iface 148 v) 60 148 true).run Tryz.prog w = .ok (.tuple #[v, .bool true]) w := by
  simp [Instr.typeAssert, run_underlying Tryz.underlying148, go_sem, Result.andThen]
theorem no148 {t : TypeId} (h : ¬ t = 148) (v : Value) (w : World) : (Instr.typeAssert (.iface t v) 60 148 true).run Tryz.prog w = .ok (.tuple #[.agg #[.int .i64 0, .slice none 0 0], .bool false]) w := by
  simp [Instr.typeAssert, run_underlying Tryz.underlying148, go_sem, Result.andThen, h]
theorem is152 (v : Value) (w : World) : (Instr.typeAssert (.iface 152 v) 60 152 true).run Tryz.prog w = .ok (.tuple #[v, .bool true]) w := by
  simp [Instr.typeAssert, run_underlying Tryz.underlying152, go_sem, Result.andThen]
theorem no152 {t : TypeId} (h : ¬ t = 152) (v : Value) (w : World) : (Instr.typeAssert (.iface t v) 60 152 true).run Tryz.prog w = .ok (.tuple #[.agg #[.int .i64 0, .int .i64 0, .int .i64 0], .bool false]) w := by
  simp [Instr.typeAssert, run_underlying Tryz.underlying152, go_sem, Result.andThen, h]
theorem is160 (v : Value) (w : World) : (Instr.typeAssert (.iface 160 v) 60 160 true).run Tryz.prog w = .ok (.tuple #[v, .bool true]) w := by
  simp [Instr.typeAssert, run_underlying Tryz.underlying160, go_sem, Result.andThen]
theorem no160 {t : TypeId} (h : ¬ t = 160) (v : Value) (w : World) : (Instr.typeAssert (.iface t v) 60 160 true).run Tryz.prog w = .ok (.tuple #[.agg #[.int .i64 0, .int .i64 0], .bool false]) w := by
  simp [Instr.typeAssert, run_underlying Tryz.underlying160, go_sem, Result.andThen, h]
theorem is164 (v : Value) (w : World) : (Instr.typeAssert (.iface 164 v) 60 164 true).run Tryz.prog w = .ok (.tuple #[v, .bool true]) w := by
  simp [Instr.typeAssert, run_underlying Tryz.underlying164, go_sem, Result.andThen]
theorem no164 {t : TypeId} (h : ¬ t = 164) (v : Value) (w : World) : (Instr.typeAssert (.iface t v) 60 164 true).run Tryz.prog w = .ok (.tuple #[.agg #[.int .i64 0, .int .i64 0], .bool false]) w := by
  simp [Instr.typeAssert, run_underlying Tryz.underlying164, go_sem, Result.andThen, h]
theorem is162 (v : Value) (w : World) : (Instr.typeAssert (.iface 162 v) 60 162 true).run Tryz.prog w = .ok (.tuple #[v, .bool true]) w := by
  simp [Instr.typeAssert, run_underlying Tryz.underlying162, go_sem, Result.andThen]
theorem no162 {t : TypeId} (h : ¬ t = 162) (v : Value) (w : World) : (Instr.typeAssert (.iface t v) 60 162 true).run Tryz.prog w = .ok (.tuple #[.agg #[.int .i64 0, .int .i64 0], .bool false]) w := by
  simp [Instr.typeAssert, run_underlying Tryz.underlying162, go_sem, Result.andThen, h]
theorem is163 (v : Value) (w : World) : (Instr.typeAssert (.iface 163 v) 60 163 true).run Tryz.prog w = .ok (.tuple #[v, .bool true]) w := by
  simp [Instr.typeAssert, run_underlying Tryz.underlying163, go_sem, Result.andThen]
theorem no163 {t : TypeId} (h : ¬ t = 163) (v : Value) (w : World) : (Instr.typeAssert (.iface t v) 60 163 true).run Tryz.prog w = .ok (.tuple #[.agg #[.int .i64 0, .int .i64 0], .bool false]) w := by
  simp [Instr.typeAssert, run_underlying Tryz.underlying163, go_sem, Result.andThen, h]
theorem is166 (v : Value) (w : World) : (Instr.typeAssert (.iface 166 v) 60 166 true).run Tryz.prog w = .ok (.tuple #[v, .bool true]) w := by
  simp [Instr.typeAssert, run_underlying Tryz.underlying166, go_sem, Result.andThen]
theorem no166 {t : TypeId} (h : ¬ t = 166) (v : Value) (w : World) : (Instr.typeAssert (.iface t v) 60 166 true).run Tryz.prog w = .ok (.tuple #[.agg #[.int .i64 0, .int .i64 0, .int .i64 0, .int .i64 0], .bool false]) w := by
  simp [Instr.typeAssert, run_underlying Tryz.underlying166, go_sem, Result.andThen, h]

set_option maxHeartbeats 4000000 in
theorem increasing {w : World} {s : Value} {l : List Int} (hs : IntsW w s l) : Calls Tryz.prog 107 #[s] w (Tells (Rising l) w) := by
  obtain ⟨os, cs, rfl, hls, hs⟩ := hs
  go_enter Tryz.func107, Tryz.ntmps107
  go_wp2_with fail
  go_loopw [6] (fun v wr => ∃ (k : Nat) (n : Nat), k ≤ l.length ∧ v = .int .i64 k ∧ RisingTo l k ∧ wr = w.drewN n) (fun v _ => l.length - (intOf v).toNat)
  case atStart => exact ⟨0, 0, Nat.zero_le _, rfl, fun i hi h => by omega, rfl⟩
  case round =>
    obtain ⟨k, nd, hk, rfl, hr, rfl⟩ := hrel
    have HR := hide hr
    clear hr
    by_cases hlt : k < l.length
    · have hi1 : (k : Int) < (l.length : Int) := by omega
      by_cases k0 : k = 0
      · subst k0
        have hg : ¬ ((0 : Int) < ((0 : Nat) : Int)) := by simp
        go_wp2_with fail
        go_quiet (fail)
        go_wp2_with fail
        go_roundw
        case rel => exact ⟨1, _, by omega, rfl, fun i hi h j hj e => by omega, rfl⟩
        case measure => simp [intOf]; omega
      · obtain ⟨j, rfl⟩ : ∃ j, k = j + 1 := ⟨k - 1, by omega⟩
        have hj : j < l.length := by omega
        obtain ⟨r1, o1, rfl, f1⟩ := int_cell hs hlt
        obtain ⟨r2, o2, he, f2⟩ := int_cell hs hj
        simp only [Option.some.injEq, Addr.mk.injEq] at he
        obtain ⟨rfl, rfl, _⟩ := he
        have hi2 : (j : Int) < (l.length : Int) := by omega
        have hd : IntKind.i64.wrap (((j + 1 : Nat) : Int) - 1) = (j : Int) := wrap_downW rfl hlt hls
        have hg : (0 : Int) < ((j + 1 : Nat) : Int) := by omega
        clear hs
        by_cases he : l[j + 1] ≤ l[j]
        · go_wp2_with fail
          go_quiet (fail)
          go_wp2_with fail
          go_ret
          refine ⟨false, rfl, ?_, _, drews _ _ _⟩
          simp only [Bool.false_eq_true, false_iff]
          intro q
          have := q (j + 1) hlt j hj rfl
          omega
        · go_wp2_with fail
          go_quiet (fail)
          go_wp2_with fail
          go_roundw
          case rel =>
            refine ⟨j + 1 + 1, _, by omega, by go_num, rising_next HR.out hlt (fun i hi e => ?_), rfl⟩
            obtain rfl : i = j := by omega
            omega
          case measure => simp [intOf]; omega
    · go_wp2_with fail
      go_ret
      have hk2 : k = l.length := by omega
      exact ⟨true, rfl, ⟨fun _ => rising_all (hk2 ▸ HR.out), fun _ => rfl⟩, _, rfl⟩
set_option maxHeartbeats 4000000 in
theorem numbersProg {w : World} {x : Inv} {s : Value} (hk : 1 ≤ x.k ∧ x.k ≤ 11) (hs : IntsW w s x.set) : Calls Tryz.prog 66 #[claimV x s] w (TellsB (NumsOK x) w) := by
  have hs0 := hs
  obtain ⟨os, cs, rfl, hls, hs⟩ := hs
  obtain ⟨k, a, b, K, M, l⟩ := x
  obtain ⟨h1, h11⟩ := hk
  dsimp only at h1 h11 hls hs hs0
  have hc : k = 1 ∨ k = 2 ∨ k = 3 ∨ k = 4 ∨ k = 5 ∨ k = 6 ∨ k = 7 ∨ k = 8 ∨ k = 9 ∨ k = 10 ∨ k = 11 := by omega
  have HS := hide hs0
  clear h1 h11 hs hs0
  rcases hc with rfl | rfl | rfl | rfl | rfl | rfl | rfl | rfl | rfl | rfl | rfl
  · show Calls Tryz.prog 66 #[.iface 142 (.agg #[.int .i64 a, .int .i64 K])] w _
    have z1 := fun w => no148 (t := 142) (by decide) (.agg #[.int .i64 a, .int .i64 K]) w
    have z2 := fun w => no152 (t := 142) (by decide) (.agg #[.int .i64 a, .int .i64 K]) w
    go_enter Tryz.func66, Tryz.ntmps66
    go_wp2_with fail
    go_ret
    exact ⟨true, rfl, ⟨fun _ => ⟨fun q => by simp at q, fun q => by simp at q⟩, fun _ => rfl⟩, by first | exact Below.refl _ _ | exact ((Below.refl _ _).alloc (Nat.le_refl _) _) | exact (((Below.refl _ _).alloc (Nat.le_refl _) _).alloc (by rw [size_up]; omega) _)⟩
  · show Calls Tryz.prog 66 #[.iface 148 (.agg #[.int .i64 a, .slice os l.length cs])] w _
    have z1 := fun w => is148 (.agg #[.int .i64 a, .slice os l.length cs]) w
    go_enter Tryz.func66, Tryz.ntmps66
    by_cases c1 : (2 : Int) ≤ (l.length : Int)
    · by_cases c2 : (l.length : Int) < 4
      · go_wp2_with (first
          | (go_at_call 107
             with_reducible refine (increasing (intsW_below HS.out ((Below.refl _ _).alloc (Nat.le_refl _) _))).mono ?_
             rintro e w2 ⟨r, rfl, hr, n, rfl⟩
             have HR := hide hr
             clear hr)
          | fail)
        go_ret
        refine ⟨_, rfl, ?_, ((Below.refl _ _).alloc (Nat.le_refl _) _).trans (belowN _ _ _)⟩
        rw [HR.out]
        constructor
        · exact fun q => ⟨fun _ => ⟨by show 2 ≤ l.length; omega, by show l.length ≤ 3; omega, q⟩, fun q => by simp at q⟩
        · exact fun q => (q.1 rfl).2.2
      · go_wp2_with fail
        go_ret
        refine ⟨_, rfl, ?_, (Below.refl _ _).alloc (Nat.le_refl _) _⟩
        constructor
        · intro q; simp at q
        · intro q
          have h1 : l.length ≤ 3 := (q.1 rfl).2.1
          omega
    · go_wp2_with fail
      go_ret
      refine ⟨_, rfl, ?_, (Below.refl _ _).alloc (Nat.le_refl _) _⟩
      constructor
      · intro q; simp at q
      · intro q
        have h1 : 2 ≤ l.length := (q.1 rfl).1
        omega
  · show Calls Tryz.prog 66 #[.iface 143 (.agg #[.int .i64 a, .int .i64 K])] w _
    have z1 := fun w => no148 (t := 143) (by decide) (.agg #[.int .i64 a, .int .i64 K]) w
    have z2 := fun w => no152 (t := 143) (by decide) (.agg #[.int .i64 a, .int .i64 K]) w
    go_enter Tryz.func66, Tryz.ntmps66
    go_wp2_with fail
    go_ret
    exact ⟨true, rfl, ⟨fun _ => ⟨fun q => by simp at q, fun q => by simp at q⟩, fun _ => rfl⟩, by first | exact Below.refl _ _ | exact ((Below.refl _ _).alloc (Nat.le_refl _) _) | exact (((Below.refl _ _).alloc (Nat.le_refl _) _).alloc (by rw [size_up]; omega) _)⟩
  · show Calls Tryz.prog 66 #[.iface 144 (.agg #[.int .i64 a, .int .i64 K])] w _
    have z1 := fun w => no148 (t := 144) (by decide) (.agg #[.int .i64 a, .int .i64 K]) w
    have z2 := fun w => no152 (t := 144) (by decide) (.agg #[.int .i64 a, .int .i64 K]) w
    go_enter Tryz.func66, Tryz.ntmps66
    go_wp2_with fail
    go_ret
    exact ⟨true, rfl, ⟨fun _ => ⟨fun q => by simp at q, fun q => by simp at q⟩, fun _ => rfl⟩, by first | exact Below.refl _ _ | exact ((Below.refl _ _).alloc (Nat.le_refl _) _) | exact (((Below.refl _ _).alloc (Nat.le_refl _) _).alloc (by rw [size_up]; omega) _)⟩
  · show Calls Tryz.prog 66 #[.iface 150 (.agg #[.int .i64 a])] w _
    have z1 := fun w => no148 (t := 150) (by decide) (.agg #[.int .i64 a]) w
    have z2 := fun w => no152 (t := 150) (by decide) (.agg #[.int .i64 a]) w
    go_enter Tryz.func66, Tryz.ntmps66
    go_wp2_with fail
    go_ret
    exact ⟨true, rfl, ⟨fun _ => ⟨fun q => by simp at q, fun q => by simp at q⟩, fun _ => rfl⟩, by first | exact Below.refl _ _ | exact ((Below.refl _ _).alloc (Nat.le_refl _) _) | exact (((Below.refl _ _).alloc (Nat.le_refl _) _).alloc (by rw [size_up]; omega) _)⟩
  · show Calls Tryz.prog 66 #[.iface 152 (.agg #[.int .i64 a, .int .i64 K, .int .i64 M])] w _
    have z1 := fun w => no148 (t := 152) (by decide) (.agg #[.int .i64 a, .int .i64 K, .int .i64 M]) w
    have z2 := fun w => is152 (.agg #[.int .i64 a, .int .i64 K, .int .i64 M]) w
    go_enter Tryz.func66, Tryz.ntmps66
    by_cases m2 : 2 ≤ M
    · by_cases m3 : 0 ≤ K
      · go_wp2_with fail
        go_ret
        refine ⟨_, rfl, ?_, (Below.refl _ _).alloc (Nat.le_refl _) _⟩
        simp [NumsOK, m2, m3]
      · go_wp2_with fail
        go_ret
        refine ⟨_, rfl, ?_, (Below.refl _ _).alloc (Nat.le_refl _) _⟩
        simp [NumsOK]
        try omega
    · go_wp2_with fail
      go_ret
      refine ⟨_, rfl, ?_, (Below.refl _ _).alloc (Nat.le_refl _) _⟩
      simp [NumsOK]
      try omega
  · show Calls Tryz.prog 66 #[.iface 160 (.agg #[.int .i64 a, .int .i64 b])] w _
    have z1 := fun w => no148 (t := 160) (by decide) (.agg #[.int .i64 a, .int .i64 b]) w
    have z2 := fun w => no152 (t := 160) (by decide) (.agg #[.int .i64 a, .int .i64 b]) w
    go_enter Tryz.func66, Tryz.ntmps66
    go_wp2_with fail
    go_ret
    exact ⟨true, rfl, ⟨fun _ => ⟨fun q => by simp at q, fun q => by simp at q⟩, fun _ => rfl⟩, by first | exact Below.refl _ _ | exact ((Below.refl _ _).alloc (Nat.le_refl _) _) | exact (((Below.refl _ _).alloc (Nat.le_refl _) _).alloc (by rw [size_up]; omega) _)⟩
  · show Calls Tryz.prog 66 #[.iface 164 (.agg #[.int .i64 a, .int .i64 b])] w _
    have z1 := fun w => no148 (t := 164) (by decide) (.agg #[.int .i64 a, .int .i64 b]) w
    have z2 := fun w => no152 (t := 164) (by decide) (.agg #[.int .i64 a, .int .i64 b]) w
    go_enter Tryz.func66, Tryz.ntmps66
    go_wp2_with fail
    go_ret
    exact ⟨true, rfl, ⟨fun _ => ⟨fun q => by simp at q, fun q => by simp at q⟩, fun _ => rfl⟩, by first | exact Below.refl _ _ | exact ((Below.refl _ _).alloc (Nat.le_refl _) _) | exact (((Below.refl _ _).alloc (Nat.le_refl _) _).alloc (by rw [size_up]; omega) _)⟩
  · show Calls Tryz.prog 66 #[.iface 162 (.agg #[.int .i64 a, .int .i64 b])] w _
    have z1 := fun w => no148 (t := 162) (by decide) (.agg #[.int .i64 a, .int .i64 b]) w
    have z2 := fun w => no152 (t := 162) (by decide) (.agg #[.int .i64 a, .int .i64 b]) w
    go_enter Tryz.func66, Tryz.ntmps66
    go_wp2_with fail
    go_ret
    exact ⟨true, rfl, ⟨fun _ => ⟨fun q => by simp at q, fun q => by simp at q⟩, fun _ => rfl⟩, by first | exact Below.refl _ _ | exact ((Below.refl _ _).alloc (Nat.le_refl _) _) | exact (((Below.refl _ _).alloc (Nat.le_refl _) _).alloc (by rw [size_up]; omega) _)⟩
  · show Calls Tryz.prog 66 #[.iface 163 (.agg #[.int .i64 a, .int .i64 b])] w _
    have z1 := fun w => no148 (t := 163) (by decide) (.agg #[.int .i64 a, .int .i64 b]) w
    have z2 := fun w => no152 (t := 163) (by decide) (.agg #[.int .i64 a, .int .i64 b]) w
    go_enter Tryz.func66, Tryz.ntmps66
    go_wp2_with fail
    go_ret
    exact ⟨true, rfl, ⟨fun _ => ⟨fun q => by simp at q, fun q => by simp at q⟩, fun _ => rfl⟩, by first | exact Below.refl _ _ | exact ((Below.refl _ _).alloc (Nat.le_refl _) _) | exact (((Below.refl _ _).alloc (Nat.le_refl _) _).alloc (by rw [size_up]; omega) _)⟩
  · show Calls Tryz.prog 66 #[.iface 166 (.agg #[.int .i64 a, .int .i64 b, .int .i64 K, .int .i64 M])] w _
    have z1 := fun w => no148 (t := 166) (by decide) (.agg #[.int .i64 a, .int .i64 b, .int .i64 K, .int .i64 M]) w
    have z2 := fun w => no152 (t := 166) (by decide) (.agg #[.int .i64 a, .int .i64 b, .int .i64 K, .int .i64 M]) w
    go_enter Tryz.func66, Tryz.ntmps66
    go_wp2_with fail
    go_ret
    exact ⟨true, rfl, ⟨fun _ => ⟨fun q => by simp at q, fun q => by simp at q⟩, fun _ => rfl⟩, by first | exact Below.refl _ _ | exact ((Below.refl _ _).alloc (Nat.le_refl _) _) | exact (((Below.refl _ _).alloc (Nat.le_refl _) _).alloc (by rw [size_up]; omega) _)⟩
end Go.Proofs.YtdfjjmibhnniiaaGreatDoor.Le

set_option maxRecDepth 100000
set_option linter.unusedSimpArgs false
namespace Go.Proofs.YtdfjjmibhnniiaaGreatDoor.Le
open Go Go.Ms Go.Pg Go.Le Go.ChangeShapes Go.WideShapes Go.ChangeAt Go.RowKit Go.Deep

theorem single219 (a : Int) (w : World) : Calls Tryz.prog 219 #[.agg #[.int .i64 a]] w fun e w' => e = .returned (.tuple #[.int .i64 a, .int .i64 a]) ∧ Below w.heap.size w w' := by
  have hb := (Below.refl w.heap.size w).alloc (Nat.le_refl _) (.cells #[.int .i64 a] 111)
  have HB := hide hb
  clear hb
  go_enter Tryz.func219, Tryz.ntmps219
  go_wp2_with fail
  go_region
  all_goals
    go_wp2_with fail
    refine bodyPost_ret (v := .tuple #[.int .i64 a, .int .i64 a]) (by simp [results, Tryz.results219, go_sem]) rfl ?_
    exact ⟨rfl, by first | exact HB.out | exact HB.out.drew | exact HB.out.trans (belowN _ _ _)⟩
theorem double218 (a b : Int) (w : World) : Calls Tryz.prog 218 #[.agg #[.int .i64 a, .int .i64 b]] w fun e w' => e = .returned (.tuple #[.int .i64 a, .int .i64 b]) ∧ Below w.heap.size w w' := by
  have hb := (Below.refl w.heap.size w).alloc (Nat.le_refl _) (.cells #[.int .i64 a, .int .i64 b] 97)
  have HB := hide hb
  clear hb
  go_enter Tryz.func218, Tryz.ntmps218
  go_wp2_with fail
  go_region
  all_goals
    go_wp2_with fail
    refine bodyPost_ret (v := .tuple #[.int .i64 a, .int .i64 b]) (by simp [results, Tryz.results218, go_sem]) rfl ?_
    exact ⟨rfl, by first | exact HB.out | exact HB.out.drew | exact HB.out.trans (belowN _ _ _)⟩
theorem size111 : Tryz.prog.types[111].size = 1 := by kernel_rfl
theorem size97 : Tryz.prog.types[97].size = 2 := by kernel_rfl
set_option maxHeartbeats 8000000 in
theorem variablesProg {w : World} {x : Inv} {s : Value} {n : Int} (hk : 1 ≤ x.k ∧ x.k ≤ 11) (hs : IntsW w s x.set) : Calls Tryz.prog 64 #[claimV x s, .int .i64 n] w (TellsB (VarsOK x n) w) := by
  obtain ⟨os, cs, rfl, _, _⟩ := hs
  obtain ⟨k, a, b, K, M, l⟩ := x
  obtain ⟨h1, h11⟩ := hk
  dsimp only at h1 h11
  have hc : k = 1 ∨ k = 2 ∨ k = 3 ∨ k = 4 ∨ k = 5 ∨ k = 6 ∨ k = 7 ∨ k = 8 ∨ k = 9 ∨ k = 10 ∨ k = 11 := by omega
  clear h1 h11
  rcases hc with rfl | rfl | rfl | rfl | rfl | rfl | rfl | rfl | rfl | rfl | rfl
  · show Calls Tryz.prog 64 #[.iface 142 (.agg #[.int .i64 a, .int .i64 K]), .int .i64 n] w _
    have z0 := fun w => no160 (t := 142) (by decide) (.agg #[.int .i64 a, .int .i64 K]) w
    have z1 := fun w => no164 (t := 142) (by decide) (.agg #[.int .i64 a, .int .i64 K]) w
    have z2 := fun w => no162 (t := 142) (by decide) (.agg #[.int .i64 a, .int .i64 K]) w
    have z3 := fun w => no163 (t := 142) (by decide) (.agg #[.int .i64 a, .int .i64 K]) w
    have z4 := fun w => no166 (t := 142) (by decide) (.agg #[.int .i64 a, .int .i64 K]) w
    have hT : (List.take Tryz.prog.types[111].size ([.int .i64 a, .int .i64 K] : List Value)).toArray = #[.int .i64 a] := by rw [size111]; rfl
    go_enter Tryz.func64, Tryz.ntmps64
    by_cases a0 : a < 0
    · go_wp2_with (first
        | (go_at_call 219
           try rw [hT]
           refine (single219 a _).mono ?_
           rintro e w2 ⟨rfl, hB⟩
           have HB := hide hB
           clear hB)
        | fail)
      go_ret
      refine ⟨_, rfl, ?_, by first | exact HB.out | exact HB.out.trans (belowN _ _ _)⟩
      constructor
      · intro q; simp at q
      · intro q; exfalso; have h1 := q.1; have h2 := q.2.1; have h3 := q.2.2.1; have h4 := q.2.2.2.1; have h5 := q.2.2.2.2; dsimp only at h1 h2 h3 h4 h5; omega
    by_cases an : n ≤ a
    · go_wp2_with (first
        | (go_at_call 219
           try rw [hT]
           refine (single219 a _).mono ?_
           rintro e w2 ⟨rfl, hB⟩
           have HB := hide hB
           clear hB)
        | fail)
      go_ret
      refine ⟨_, rfl, ?_, by first | exact HB.out | exact HB.out.trans (belowN _ _ _)⟩
      constructor
      · intro q; simp at q
      · intro q; exfalso; have h1 := q.1; have h2 := q.2.1; have h3 := q.2.2.1; have h4 := q.2.2.2.1; have h5 := q.2.2.2.2; dsimp only at h1 h2 h3 h4 h5; omega
    go_wp2_with (first
      | (go_at_call 219
         try rw [hT]
         refine (single219 a _).mono ?_
         rintro e w2 ⟨rfl, hB⟩
         have HB := hide hB
         clear hB)
      | fail)
    go_ret
    refine ⟨_, rfl, ?_, by first | exact HB.out | exact HB.out.trans (belowN _ _ _)⟩
    exact ⟨fun _ => ⟨by show 0 ≤ a; omega, by show a < n; omega, fun q => by simp at q, fun q => by simp at q, fun q => by simp at q⟩, fun _ => by simp⟩
  · show Calls Tryz.prog 64 #[.iface 148 (.agg #[.int .i64 a, .slice os l.length cs]), .int .i64 n] w _
    have z0 := fun w => no160 (t := 148) (by decide) (.agg #[.int .i64 a, .slice os l.length cs]) w
    have z1 := fun w => no164 (t := 148) (by decide) (.agg #[.int .i64 a, .slice os l.length cs]) w
    have z2 := fun w => no162 (t := 148) (by decide) (.agg #[.int .i64 a, .slice os l.length cs]) w
    have z3 := fun w => no163 (t := 148) (by decide) (.agg #[.int .i64 a, .slice os l.length cs]) w
    have z4 := fun w => no166 (t := 148) (by decide) (.agg #[.int .i64 a, .slice os l.length cs]) w
    have hT : (List.take Tryz.prog.types[111].size ([.int .i64 a, .slice os l.length cs] : List Value)).toArray = #[.int .i64 a] := by rw [size111]; rfl
    go_enter Tryz.func64, Tryz.ntmps64
    by_cases a0 : a < 0
    · go_wp2_with (first
        | (go_at_call 219
           try rw [hT]
           refine (single219 a _).mono ?_
           rintro e w2 ⟨rfl, hB⟩
           have HB := hide hB
           clear hB)
        | fail)
      go_ret
      refine ⟨_, rfl, ?_, by first | exact HB.out | exact HB.out.trans (belowN _ _ _)⟩
      constructor
      · intro q; simp at q
      · intro q; exfalso; have h1 := q.1; have h2 := q.2.1; have h3 := q.2.2.1; have h4 := q.2.2.2.1; have h5 := q.2.2.2.2; dsimp only at h1 h2 h3 h4 h5; omega
    by_cases an : n ≤ a
    · go_wp2_with (first
        | (go_at_call 219
           try rw [hT]
           refine (single219 a _).mono ?_
           rintro e w2 ⟨rfl, hB⟩
           have HB := hide hB
           clear hB)
        | fail)
      go_ret
      refine ⟨_, rfl, ?_, by first | exact HB.out | exact HB.out.trans (belowN _ _ _)⟩
      constructor
      · intro q; simp at q
      · intro q; exfalso; have h1 := q.1; have h2 := q.2.1; have h3 := q.2.2.1; have h4 := q.2.2.2.1; have h5 := q.2.2.2.2; dsimp only at h1 h2 h3 h4 h5; omega
    go_wp2_with (first
      | (go_at_call 219
         try rw [hT]
         refine (single219 a _).mono ?_
         rintro e w2 ⟨rfl, hB⟩
         have HB := hide hB
         clear hB)
      | fail)
    go_ret
    refine ⟨_, rfl, ?_, by first | exact HB.out | exact HB.out.trans (belowN _ _ _)⟩
    exact ⟨fun _ => ⟨by show 0 ≤ a; omega, by show a < n; omega, fun q => by simp at q, fun q => by simp at q, fun q => by simp at q⟩, fun _ => by simp⟩
  · show Calls Tryz.prog 64 #[.iface 143 (.agg #[.int .i64 a, .int .i64 K]), .int .i64 n] w _
    have z0 := fun w => no160 (t := 143) (by decide) (.agg #[.int .i64 a, .int .i64 K]) w
    have z1 := fun w => no164 (t := 143) (by decide) (.agg #[.int .i64 a, .int .i64 K]) w
    have z2 := fun w => no162 (t := 143) (by decide) (.agg #[.int .i64 a, .int .i64 K]) w
    have z3 := fun w => no163 (t := 143) (by decide) (.agg #[.int .i64 a, .int .i64 K]) w
    have z4 := fun w => no166 (t := 143) (by decide) (.agg #[.int .i64 a, .int .i64 K]) w
    have hT : (List.take Tryz.prog.types[111].size ([.int .i64 a, .int .i64 K] : List Value)).toArray = #[.int .i64 a] := by rw [size111]; rfl
    go_enter Tryz.func64, Tryz.ntmps64
    by_cases a0 : a < 0
    · go_wp2_with (first
        | (go_at_call 219
           try rw [hT]
           refine (single219 a _).mono ?_
           rintro e w2 ⟨rfl, hB⟩
           have HB := hide hB
           clear hB)
        | fail)
      go_ret
      refine ⟨_, rfl, ?_, by first | exact HB.out | exact HB.out.trans (belowN _ _ _)⟩
      constructor
      · intro q; simp at q
      · intro q; exfalso; have h1 := q.1; have h2 := q.2.1; have h3 := q.2.2.1; have h4 := q.2.2.2.1; have h5 := q.2.2.2.2; dsimp only at h1 h2 h3 h4 h5; omega
    by_cases an : n ≤ a
    · go_wp2_with (first
        | (go_at_call 219
           try rw [hT]
           refine (single219 a _).mono ?_
           rintro e w2 ⟨rfl, hB⟩
           have HB := hide hB
           clear hB)
        | fail)
      go_ret
      refine ⟨_, rfl, ?_, by first | exact HB.out | exact HB.out.trans (belowN _ _ _)⟩
      constructor
      · intro q; simp at q
      · intro q; exfalso; have h1 := q.1; have h2 := q.2.1; have h3 := q.2.2.1; have h4 := q.2.2.2.1; have h5 := q.2.2.2.2; dsimp only at h1 h2 h3 h4 h5; omega
    go_wp2_with (first
      | (go_at_call 219
         try rw [hT]
         refine (single219 a _).mono ?_
         rintro e w2 ⟨rfl, hB⟩
         have HB := hide hB
         clear hB)
      | fail)
    go_ret
    refine ⟨_, rfl, ?_, by first | exact HB.out | exact HB.out.trans (belowN _ _ _)⟩
    exact ⟨fun _ => ⟨by show 0 ≤ a; omega, by show a < n; omega, fun q => by simp at q, fun q => by simp at q, fun q => by simp at q⟩, fun _ => by simp⟩
  · show Calls Tryz.prog 64 #[.iface 144 (.agg #[.int .i64 a, .int .i64 K]), .int .i64 n] w _
    have z0 := fun w => no160 (t := 144) (by decide) (.agg #[.int .i64 a, .int .i64 K]) w
    have z1 := fun w => no164 (t := 144) (by decide) (.agg #[.int .i64 a, .int .i64 K]) w
    have z2 := fun w => no162 (t := 144) (by decide) (.agg #[.int .i64 a, .int .i64 K]) w
    have z3 := fun w => no163 (t := 144) (by decide) (.agg #[.int .i64 a, .int .i64 K]) w
    have z4 := fun w => no166 (t := 144) (by decide) (.agg #[.int .i64 a, .int .i64 K]) w
    have hT : (List.take Tryz.prog.types[111].size ([.int .i64 a, .int .i64 K] : List Value)).toArray = #[.int .i64 a] := by rw [size111]; rfl
    go_enter Tryz.func64, Tryz.ntmps64
    by_cases a0 : a < 0
    · go_wp2_with (first
        | (go_at_call 219
           try rw [hT]
           refine (single219 a _).mono ?_
           rintro e w2 ⟨rfl, hB⟩
           have HB := hide hB
           clear hB)
        | fail)
      go_ret
      refine ⟨_, rfl, ?_, by first | exact HB.out | exact HB.out.trans (belowN _ _ _)⟩
      constructor
      · intro q; simp at q
      · intro q; exfalso; have h1 := q.1; have h2 := q.2.1; have h3 := q.2.2.1; have h4 := q.2.2.2.1; have h5 := q.2.2.2.2; dsimp only at h1 h2 h3 h4 h5; omega
    by_cases an : n ≤ a
    · go_wp2_with (first
        | (go_at_call 219
           try rw [hT]
           refine (single219 a _).mono ?_
           rintro e w2 ⟨rfl, hB⟩
           have HB := hide hB
           clear hB)
        | fail)
      go_ret
      refine ⟨_, rfl, ?_, by first | exact HB.out | exact HB.out.trans (belowN _ _ _)⟩
      constructor
      · intro q; simp at q
      · intro q; exfalso; have h1 := q.1; have h2 := q.2.1; have h3 := q.2.2.1; have h4 := q.2.2.2.1; have h5 := q.2.2.2.2; dsimp only at h1 h2 h3 h4 h5; omega
    go_wp2_with (first
      | (go_at_call 219
         try rw [hT]
         refine (single219 a _).mono ?_
         rintro e w2 ⟨rfl, hB⟩
         have HB := hide hB
         clear hB)
      | fail)
    go_ret
    refine ⟨_, rfl, ?_, by first | exact HB.out | exact HB.out.trans (belowN _ _ _)⟩
    exact ⟨fun _ => ⟨by show 0 ≤ a; omega, by show a < n; omega, fun q => by simp at q, fun q => by simp at q, fun q => by simp at q⟩, fun _ => by simp⟩
  · show Calls Tryz.prog 64 #[.iface 150 (.agg #[.int .i64 a]), .int .i64 n] w _
    have z0 := fun w => no160 (t := 150) (by decide) (.agg #[.int .i64 a]) w
    have z1 := fun w => no164 (t := 150) (by decide) (.agg #[.int .i64 a]) w
    have z2 := fun w => no162 (t := 150) (by decide) (.agg #[.int .i64 a]) w
    have z3 := fun w => no163 (t := 150) (by decide) (.agg #[.int .i64 a]) w
    have z4 := fun w => no166 (t := 150) (by decide) (.agg #[.int .i64 a]) w
    have hT : (List.take Tryz.prog.types[111].size ([.int .i64 a] : List Value)).toArray = #[.int .i64 a] := by rw [size111]; rfl
    go_enter Tryz.func64, Tryz.ntmps64
    by_cases a0 : a < 0
    · go_wp2_with (first
        | (go_at_call 219
           try rw [hT]
           refine (single219 a _).mono ?_
           rintro e w2 ⟨rfl, hB⟩
           have HB := hide hB
           clear hB)
        | fail)
      go_ret
      refine ⟨_, rfl, ?_, by first | exact HB.out | exact HB.out.trans (belowN _ _ _)⟩
      constructor
      · intro q; simp at q
      · intro q; exfalso; have h1 := q.1; have h2 := q.2.1; have h3 := q.2.2.1; have h4 := q.2.2.2.1; have h5 := q.2.2.2.2; dsimp only at h1 h2 h3 h4 h5; omega
    by_cases an : n ≤ a
    · go_wp2_with (first
        | (go_at_call 219
           try rw [hT]
           refine (single219 a _).mono ?_
           rintro e w2 ⟨rfl, hB⟩
           have HB := hide hB
           clear hB)
        | fail)
      go_ret
      refine ⟨_, rfl, ?_, by first | exact HB.out | exact HB.out.trans (belowN _ _ _)⟩
      constructor
      · intro q; simp at q
      · intro q; exfalso; have h1 := q.1; have h2 := q.2.1; have h3 := q.2.2.1; have h4 := q.2.2.2.1; have h5 := q.2.2.2.2; dsimp only at h1 h2 h3 h4 h5; omega
    go_wp2_with (first
      | (go_at_call 219
         try rw [hT]
         refine (single219 a _).mono ?_
         rintro e w2 ⟨rfl, hB⟩
         have HB := hide hB
         clear hB)
      | fail)
    go_ret
    refine ⟨_, rfl, ?_, by first | exact HB.out | exact HB.out.trans (belowN _ _ _)⟩
    exact ⟨fun _ => ⟨by show 0 ≤ a; omega, by show a < n; omega, fun q => by simp at q, fun q => by simp at q, fun q => by simp at q⟩, fun _ => by simp⟩
  · show Calls Tryz.prog 64 #[.iface 152 (.agg #[.int .i64 a, .int .i64 K, .int .i64 M]), .int .i64 n] w _
    have z0 := fun w => no160 (t := 152) (by decide) (.agg #[.int .i64 a, .int .i64 K, .int .i64 M]) w
    have z1 := fun w => no164 (t := 152) (by decide) (.agg #[.int .i64 a, .int .i64 K, .int .i64 M]) w
    have z2 := fun w => no162 (t := 152) (by decide) (.agg #[.int .i64 a, .int .i64 K, .int .i64 M]) w
    have z3 := fun w => no163 (t := 152) (by decide) (.agg #[.int .i64 a, .int .i64 K, .int .i64 M]) w
    have z4 := fun w => no166 (t := 152) (by decide) (.agg #[.int .i64 a, .int .i64 K, .int .i64 M]) w
    have hT : (List.take Tryz.prog.types[111].size ([.int .i64 a, .int .i64 K, .int .i64 M] : List Value)).toArray = #[.int .i64 a] := by rw [size111]; rfl
    go_enter Tryz.func64, Tryz.ntmps64
    by_cases a0 : a < 0
    · go_wp2_with (first
        | (go_at_call 219
           try rw [hT]
           refine (single219 a _).mono ?_
           rintro e w2 ⟨rfl, hB⟩
           have HB := hide hB
           clear hB)
        | fail)
      go_ret
      refine ⟨_, rfl, ?_, by first | exact HB.out | exact HB.out.trans (belowN _ _ _)⟩
      constructor
      · intro q; simp at q
      · intro q; exfalso; have h1 := q.1; have h2 := q.2.1; have h3 := q.2.2.1; have h4 := q.2.2.2.1; have h5 := q.2.2.2.2; dsimp only at h1 h2 h3 h4 h5; omega
    by_cases an : n ≤ a
    · go_wp2_with (first
        | (go_at_call 219
           try rw [hT]
           refine (single219 a _).mono ?_
           rintro e w2 ⟨rfl, hB⟩
           have HB := hide hB
           clear hB)
        | fail)
      go_ret
      refine ⟨_, rfl, ?_, by first | exact HB.out | exact HB.out.trans (belowN _ _ _)⟩
      constructor
      · intro q; simp at q
      · intro q; exfalso; have h1 := q.1; have h2 := q.2.1; have h3 := q.2.2.1; have h4 := q.2.2.2.1; have h5 := q.2.2.2.2; dsimp only at h1 h2 h3 h4 h5; omega
    go_wp2_with (first
      | (go_at_call 219
         try rw [hT]
         refine (single219 a _).mono ?_
         rintro e w2 ⟨rfl, hB⟩
         have HB := hide hB
         clear hB)
      | fail)
    go_ret
    refine ⟨_, rfl, ?_, by first | exact HB.out | exact HB.out.trans (belowN _ _ _)⟩
    exact ⟨fun _ => ⟨by show 0 ≤ a; omega, by show a < n; omega, fun q => by simp at q, fun q => by simp at q, fun q => by simp at q⟩, fun _ => by simp⟩
  · show Calls Tryz.prog 64 #[.iface 160 (.agg #[.int .i64 a, .int .i64 b]), .int .i64 n] w _
    have z0 := fun w => is160 (.agg #[.int .i64 a, .int .i64 b]) w
    have z1 := fun w => no164 (t := 160) (by decide) (.agg #[.int .i64 a, .int .i64 b]) w
    have z2 := fun w => no162 (t := 160) (by decide) (.agg #[.int .i64 a, .int .i64 b]) w
    have z3 := fun w => no163 (t := 160) (by decide) (.agg #[.int .i64 a, .int .i64 b]) w
    have z4 := fun w => no166 (t := 160) (by decide) (.agg #[.int .i64 a, .int .i64 b]) w
    have hT : (List.take Tryz.prog.types[97].size ([.int .i64 a, .int .i64 b] : List Value)).toArray = #[.int .i64 a, .int .i64 b] := by rw [size97]; rfl
    go_enter Tryz.func64, Tryz.ntmps64
    by_cases a0 : a < 0
    · go_wp2_with (first
        | (go_at_call 218
           try rw [hT]
           refine (double218 a b _).mono ?_
           rintro e w2 ⟨rfl, hB⟩
           have HB := hide hB
           clear hB)
        | fail)
      go_ret
      refine ⟨_, rfl, ?_, by first | exact HB.out | exact HB.out.trans (belowN _ _ _)⟩
      constructor
      · intro q; simp at q
      · intro q; exfalso; have h1 := q.1; have h2 := q.2.1; have h3 := q.2.2.1; have h4 := q.2.2.2.1; have h5 := q.2.2.2.2; dsimp only at h1 h2 h3 h4 h5; omega
    by_cases an : n ≤ a
    · go_wp2_with (first
        | (go_at_call 218
           try rw [hT]
           refine (double218 a b _).mono ?_
           rintro e w2 ⟨rfl, hB⟩
           have HB := hide hB
           clear hB)
        | fail)
      go_ret
      refine ⟨_, rfl, ?_, by first | exact HB.out | exact HB.out.trans (belowN _ _ _)⟩
      constructor
      · intro q; simp at q
      · intro q; exfalso; have h1 := q.1; have h2 := q.2.1; have h3 := q.2.2.1; have h4 := q.2.2.2.1; have h5 := q.2.2.2.2; dsimp only at h1 h2 h3 h4 h5; omega
    by_cases b0 : b < 0
    · go_wp2_with (first
        | (go_at_call 218
           try rw [hT]
           refine (double218 a b _).mono ?_
           rintro e w2 ⟨rfl, hB⟩
           have HB := hide hB
           clear hB)
        | fail)
      go_ret
      refine ⟨_, rfl, ?_, by first | exact HB.out | exact HB.out.trans (belowN _ _ _)⟩
      constructor
      · intro q; simp at q
      · intro q; exfalso; have h1 := q.1; have h2 := q.2.1; have h3 := q.2.2.1; have h4 := q.2.2.2.1; have h5 := q.2.2.2.2; dsimp only at h1 h2 h3 h4 h5; omega
    by_cases bn : n ≤ b
    · go_wp2_with (first
        | (go_at_call 218
           try rw [hT]
           refine (double218 a b _).mono ?_
           rintro e w2 ⟨rfl, hB⟩
           have HB := hide hB
           clear hB)
        | fail)
      go_ret
      refine ⟨_, rfl, ?_, by first | exact HB.out | exact HB.out.trans (belowN _ _ _)⟩
      constructor
      · intro q; simp at q
      · intro q; exfalso; have h1 := q.1; have h2 := q.2.1; have h3 := q.2.2.1; have h4 := q.2.2.2.1; have h5 := q.2.2.2.2; dsimp only at h1 h2 h3 h4 h5; omega
    go_wp2_with (first
      | (go_at_call 218
         try rw [hT]
         refine (double218 a b _).mono ?_
         rintro e w2 ⟨rfl, hB⟩
         have HB := hide hB
         clear hB)
      | fail)
    go_ret
    refine ⟨_, rfl, ?_, by first | exact HB.out | exact HB.out.trans (belowN _ _ _)⟩
    simp only [VarsOK]
    simp
    omega
  · show Calls Tryz.prog 64 #[.iface 164 (.agg #[.int .i64 a, .int .i64 b]), .int .i64 n] w _
    have z0 := fun w => no160 (t := 164) (by decide) (.agg #[.int .i64 a, .int .i64 b]) w
    have z1 := fun w => is164 (.agg #[.int .i64 a, .int .i64 b]) w
    have z2 := fun w => no162 (t := 164) (by decide) (.agg #[.int .i64 a, .int .i64 b]) w
    have z3 := fun w => no163 (t := 164) (by decide) (.agg #[.int .i64 a, .int .i64 b]) w
    have z4 := fun w => no166 (t := 164) (by decide) (.agg #[.int .i64 a, .int .i64 b]) w
    have hT : (List.take Tryz.prog.types[97].size ([.int .i64 a, .int .i64 b] : List Value)).toArray = #[.int .i64 a, .int .i64 b] := by rw [size97]; rfl
    go_enter Tryz.func64, Tryz.ntmps64
    by_cases a0 : a < 0
    · go_wp2_with (first
        | (go_at_call 218
           try rw [hT]
           refine (double218 a b _).mono ?_
           rintro e w2 ⟨rfl, hB⟩
           have HB := hide hB
           clear hB)
        | fail)
      go_ret
      refine ⟨_, rfl, ?_, by first | exact HB.out | exact HB.out.trans (belowN _ _ _)⟩
      constructor
      · intro q; simp at q
      · intro q; exfalso; have h1 := q.1; have h2 := q.2.1; have h3 := q.2.2.1; have h4 := q.2.2.2.1; have h5 := q.2.2.2.2; dsimp only at h1 h2 h3 h4 h5; omega
    by_cases an : n ≤ a
    · go_wp2_with (first
        | (go_at_call 218
           try rw [hT]
           refine (double218 a b _).mono ?_
           rintro e w2 ⟨rfl, hB⟩
           have HB := hide hB
           clear hB)
        | fail)
      go_ret
      refine ⟨_, rfl, ?_, by first | exact HB.out | exact HB.out.trans (belowN _ _ _)⟩
      constructor
      · intro q; simp at q
      · intro q; exfalso; have h1 := q.1; have h2 := q.2.1; have h3 := q.2.2.1; have h4 := q.2.2.2.1; have h5 := q.2.2.2.2; dsimp only at h1 h2 h3 h4 h5; omega
    by_cases b0 : b < 0
    · go_wp2_with (first
        | (go_at_call 218
           try rw [hT]
           refine (double218 a b _).mono ?_
           rintro e w2 ⟨rfl, hB⟩
           have HB := hide hB
           clear hB)
        | fail)
      go_ret
      refine ⟨_, rfl, ?_, by first | exact HB.out | exact HB.out.trans (belowN _ _ _)⟩
      constructor
      · intro q; simp at q
      · intro q; exfalso; have h1 := q.1; have h2 := q.2.1; have h3 := q.2.2.1; have h4 := q.2.2.2.1; have h5 := q.2.2.2.2; dsimp only at h1 h2 h3 h4 h5; omega
    by_cases bn : n ≤ b
    · go_wp2_with (first
        | (go_at_call 218
           try rw [hT]
           refine (double218 a b _).mono ?_
           rintro e w2 ⟨rfl, hB⟩
           have HB := hide hB
           clear hB)
        | fail)
      go_ret
      refine ⟨_, rfl, ?_, by first | exact HB.out | exact HB.out.trans (belowN _ _ _)⟩
      constructor
      · intro q; simp at q
      · intro q; exfalso; have h1 := q.1; have h2 := q.2.1; have h3 := q.2.2.1; have h4 := q.2.2.2.1; have h5 := q.2.2.2.2; dsimp only at h1 h2 h3 h4 h5; omega
    go_wp2_with (first
      | (go_at_call 218
         try rw [hT]
         refine (double218 a b _).mono ?_
         rintro e w2 ⟨rfl, hB⟩
         have HB := hide hB
         clear hB)
      | fail)
    go_ret
    refine ⟨_, rfl, ?_, by first | exact HB.out | exact HB.out.trans (belowN _ _ _)⟩
    simp only [VarsOK]
    simp
    omega
  · show Calls Tryz.prog 64 #[.iface 162 (.agg #[.int .i64 a, .int .i64 b]), .int .i64 n] w _
    have z0 := fun w => no160 (t := 162) (by decide) (.agg #[.int .i64 a, .int .i64 b]) w
    have z1 := fun w => no164 (t := 162) (by decide) (.agg #[.int .i64 a, .int .i64 b]) w
    have z2 := fun w => is162 (.agg #[.int .i64 a, .int .i64 b]) w
    have z3 := fun w => no163 (t := 162) (by decide) (.agg #[.int .i64 a, .int .i64 b]) w
    have z4 := fun w => no166 (t := 162) (by decide) (.agg #[.int .i64 a, .int .i64 b]) w
    have hT : (List.take Tryz.prog.types[97].size ([.int .i64 a, .int .i64 b] : List Value)).toArray = #[.int .i64 a, .int .i64 b] := by rw [size97]; rfl
    go_enter Tryz.func64, Tryz.ntmps64
    by_cases a0 : a < 0
    · go_wp2_with (first
        | (go_at_call 218
           try rw [hT]
           refine (double218 a b _).mono ?_
           rintro e w2 ⟨rfl, hB⟩
           have HB := hide hB
           clear hB)
        | fail)
      go_ret
      refine ⟨_, rfl, ?_, by first | exact HB.out | exact HB.out.trans (belowN _ _ _)⟩
      constructor
      · intro q; simp at q
      · intro q; exfalso; have h1 := q.1; have h2 := q.2.1; have h3 := q.2.2.1; have h4 := q.2.2.2.1; have h5 := q.2.2.2.2; dsimp only at h1 h2 h3 h4 h5; omega
    by_cases an : n ≤ a
    · go_wp2_with (first
        | (go_at_call 218
           try rw [hT]
           refine (double218 a b _).mono ?_
           rintro e w2 ⟨rfl, hB⟩
           have HB := hide hB
           clear hB)
        | fail)
      go_ret
      refine ⟨_, rfl, ?_, by first | exact HB.out | exact HB.out.trans (belowN _ _ _)⟩
      constructor
      · intro q; simp at q
      · intro q; exfalso; have h1 := q.1; have h2 := q.2.1; have h3 := q.2.2.1; have h4 := q.2.2.2.1; have h5 := q.2.2.2.2; dsimp only at h1 h2 h3 h4 h5; omega
    by_cases b0 : b < 0
    · go_wp2_with (first
        | (go_at_call 218
           try rw [hT]
           refine (double218 a b _).mono ?_
           rintro e w2 ⟨rfl, hB⟩
           have HB := hide hB
           clear hB)
        | fail)
      go_ret
      refine ⟨_, rfl, ?_, by first | exact HB.out | exact HB.out.trans (belowN _ _ _)⟩
      constructor
      · intro q; simp at q
      · intro q; exfalso; have h1 := q.1; have h2 := q.2.1; have h3 := q.2.2.1; have h4 := q.2.2.2.1; have h5 := q.2.2.2.2; dsimp only at h1 h2 h3 h4 h5; omega
    by_cases bn : n ≤ b
    · go_wp2_with (first
        | (go_at_call 218
           try rw [hT]
           refine (double218 a b _).mono ?_
           rintro e w2 ⟨rfl, hB⟩
           have HB := hide hB
           clear hB)
        | fail)
      go_ret
      refine ⟨_, rfl, ?_, by first | exact HB.out | exact HB.out.trans (belowN _ _ _)⟩
      constructor
      · intro q; simp at q
      · intro q; exfalso; have h1 := q.1; have h2 := q.2.1; have h3 := q.2.2.1; have h4 := q.2.2.2.1; have h5 := q.2.2.2.2; dsimp only at h1 h2 h3 h4 h5; omega
    go_wp2_with (first
      | (go_at_call 218
         try rw [hT]
         refine (double218 a b _).mono ?_
         rintro e w2 ⟨rfl, hB⟩
         have HB := hide hB
         clear hB)
      | fail)
    go_ret
    refine ⟨_, rfl, ?_, by first | exact HB.out | exact HB.out.trans (belowN _ _ _)⟩
    simp only [VarsOK]
    simp
    omega
  · show Calls Tryz.prog 64 #[.iface 163 (.agg #[.int .i64 a, .int .i64 b]), .int .i64 n] w _
    have z0 := fun w => no160 (t := 163) (by decide) (.agg #[.int .i64 a, .int .i64 b]) w
    have z1 := fun w => no164 (t := 163) (by decide) (.agg #[.int .i64 a, .int .i64 b]) w
    have z2 := fun w => no162 (t := 163) (by decide) (.agg #[.int .i64 a, .int .i64 b]) w
    have z3 := fun w => is163 (.agg #[.int .i64 a, .int .i64 b]) w
    have z4 := fun w => no166 (t := 163) (by decide) (.agg #[.int .i64 a, .int .i64 b]) w
    have hT : (List.take Tryz.prog.types[97].size ([.int .i64 a, .int .i64 b] : List Value)).toArray = #[.int .i64 a, .int .i64 b] := by rw [size97]; rfl
    go_enter Tryz.func64, Tryz.ntmps64
    by_cases a0 : a < 0
    · go_wp2_with (first
        | (go_at_call 218
           try rw [hT]
           refine (double218 a b _).mono ?_
           rintro e w2 ⟨rfl, hB⟩
           have HB := hide hB
           clear hB)
        | fail)
      go_ret
      refine ⟨_, rfl, ?_, by first | exact HB.out | exact HB.out.trans (belowN _ _ _)⟩
      constructor
      · intro q; simp at q
      · intro q; exfalso; have h1 := q.1; have h2 := q.2.1; have h3 := q.2.2.1; have h4 := q.2.2.2.1; have h5 := q.2.2.2.2; dsimp only at h1 h2 h3 h4 h5; omega
    by_cases an : n ≤ a
    · go_wp2_with (first
        | (go_at_call 218
           try rw [hT]
           refine (double218 a b _).mono ?_
           rintro e w2 ⟨rfl, hB⟩
           have HB := hide hB
           clear hB)
        | fail)
      go_ret
      refine ⟨_, rfl, ?_, by first | exact HB.out | exact HB.out.trans (belowN _ _ _)⟩
      constructor
      · intro q; simp at q
      · intro q; exfalso; have h1 := q.1; have h2 := q.2.1; have h3 := q.2.2.1; have h4 := q.2.2.2.1; have h5 := q.2.2.2.2; dsimp only at h1 h2 h3 h4 h5; omega
    by_cases b0 : b < 0
    · go_wp2_with (first
        | (go_at_call 218
           try rw [hT]
           refine (double218 a b _).mono ?_
           rintro e w2 ⟨rfl, hB⟩
           have HB := hide hB
           clear hB)
        | fail)
      go_ret
      refine ⟨_, rfl, ?_, by first | exact HB.out | exact HB.out.trans (belowN _ _ _)⟩
      constructor
      · intro q; simp at q
      · intro q; exfalso; have h1 := q.1; have h2 := q.2.1; have h3 := q.2.2.1; have h4 := q.2.2.2.1; have h5 := q.2.2.2.2; dsimp only at h1 h2 h3 h4 h5; omega
    by_cases bn : n ≤ b
    · go_wp2_with (first
        | (go_at_call 218
           try rw [hT]
           refine (double218 a b _).mono ?_
           rintro e w2 ⟨rfl, hB⟩
           have HB := hide hB
           clear hB)
        | fail)
      go_ret
      refine ⟨_, rfl, ?_, by first | exact HB.out | exact HB.out.trans (belowN _ _ _)⟩
      constructor
      · intro q; simp at q
      · intro q; exfalso; have h1 := q.1; have h2 := q.2.1; have h3 := q.2.2.1; have h4 := q.2.2.2.1; have h5 := q.2.2.2.2; dsimp only at h1 h2 h3 h4 h5; omega
    go_wp2_with (first
      | (go_at_call 218
         try rw [hT]
         refine (double218 a b _).mono ?_
         rintro e w2 ⟨rfl, hB⟩
         have HB := hide hB
         clear hB)
      | fail)
    go_ret
    refine ⟨_, rfl, ?_, by first | exact HB.out | exact HB.out.trans (belowN _ _ _)⟩
    simp only [VarsOK]
    simp
    omega
  · show Calls Tryz.prog 64 #[.iface 166 (.agg #[.int .i64 a, .int .i64 b, .int .i64 K, .int .i64 M]), .int .i64 n] w _
    have z0 := fun w => no160 (t := 166) (by decide) (.agg #[.int .i64 a, .int .i64 b, .int .i64 K, .int .i64 M]) w
    have z1 := fun w => no164 (t := 166) (by decide) (.agg #[.int .i64 a, .int .i64 b, .int .i64 K, .int .i64 M]) w
    have z2 := fun w => no162 (t := 166) (by decide) (.agg #[.int .i64 a, .int .i64 b, .int .i64 K, .int .i64 M]) w
    have z3 := fun w => no163 (t := 166) (by decide) (.agg #[.int .i64 a, .int .i64 b, .int .i64 K, .int .i64 M]) w
    have z4 := fun w => is166 (.agg #[.int .i64 a, .int .i64 b, .int .i64 K, .int .i64 M]) w
    have hT : (List.take Tryz.prog.types[97].size ([.int .i64 a, .int .i64 b, .int .i64 K, .int .i64 M] : List Value)).toArray = #[.int .i64 a, .int .i64 b] := by rw [size97]; rfl
    go_enter Tryz.func64, Tryz.ntmps64
    by_cases a0 : a < 0
    · go_wp2_with (first
        | (go_at_call 218
           try rw [hT]
           refine (double218 a b _).mono ?_
           rintro e w2 ⟨rfl, hB⟩
           have HB := hide hB
           clear hB)
        | fail)
      go_ret
      refine ⟨_, rfl, ?_, by first | exact HB.out | exact HB.out.trans (belowN _ _ _)⟩
      constructor
      · intro q; simp at q
      · intro q; exfalso; have h1 := q.1; have h2 := q.2.1; have h3 := q.2.2.1; have h4 := q.2.2.2.1; have h5 := q.2.2.2.2; dsimp only at h1 h2 h3 h4 h5; omega
    by_cases an : n ≤ a
    · go_wp2_with (first
        | (go_at_call 218
           try rw [hT]
           refine (double218 a b _).mono ?_
           rintro e w2 ⟨rfl, hB⟩
           have HB := hide hB
           clear hB)
        | fail)
      go_ret
      refine ⟨_, rfl, ?_, by first | exact HB.out | exact HB.out.trans (belowN _ _ _)⟩
      constructor
      · intro q; simp at q
      · intro q; exfalso; have h1 := q.1; have h2 := q.2.1; have h3 := q.2.2.1; have h4 := q.2.2.2.1; have h5 := q.2.2.2.2; dsimp only at h1 h2 h3 h4 h5; omega
    by_cases b0 : b < 0
    · go_wp2_with (first
        | (go_at_call 218
           try rw [hT]
           refine (double218 a b _).mono ?_
           rintro e w2 ⟨rfl, hB⟩
           have HB := hide hB
           clear hB)
        | fail)
      go_ret
      refine ⟨_, rfl, ?_, by first | exact HB.out | exact HB.out.trans (belowN _ _ _)⟩
      constructor
      · intro q; simp at q
      · intro q; exfalso; have h1 := q.1; have h2 := q.2.1; have h3 := q.2.2.1; have h4 := q.2.2.2.1; have h5 := q.2.2.2.2; dsimp only at h1 h2 h3 h4 h5; omega
    by_cases bn : n ≤ b
    · go_wp2_with (first
        | (go_at_call 218
           try rw [hT]
           refine (double218 a b _).mono ?_
           rintro e w2 ⟨rfl, hB⟩
           have HB := hide hB
           clear hB)
        | fail)
      go_ret
      refine ⟨_, rfl, ?_, by first | exact HB.out | exact HB.out.trans (belowN _ _ _)⟩
      constructor
      · intro q; simp at q
      · intro q; exfalso; have h1 := q.1; have h2 := q.2.1; have h3 := q.2.2.1; have h4 := q.2.2.2.1; have h5 := q.2.2.2.2; dsimp only at h1 h2 h3 h4 h5; omega
    go_wp2_with (first
      | (go_at_call 218
         try rw [hT]
         refine (double218 a b _).mono ?_
         rintro e w2 ⟨rfl, hB⟩
         have HB := hide hB
         clear hB)
      | fail)
    go_ret
    refine ⟨_, rfl, ?_, by first | exact HB.out | exact HB.out.trans (belowN _ _ _)⟩
    simp only [VarsOK]
    simp
    omega
end Go.Proofs.YtdfjjmibhnniiaaGreatDoor.Le

