import Derived.Test.YtmgegkgelecopaaGreatDoorRkJ2
import Derived.Test.YtmgegkgelecopaaGreatDoorFaJ
import Derived.Test.YtmgegkgelecopaaGreatDoorEvZE
import Derived.Test.YtmgegkgelecopaaGreatDoorMsD
import Derived.Deep.MidRow
set_option maxRecDepth 100000
namespace Go.Proofs.YtmgegkgelecopaaGreatDoor.Rk
open Go Go.Ms Go.Pg Go.Rk Go.ChangeShapes Go.WideShapes Go.ChangeAt Go.RowKit Go.Deep

theorem isFormula_yes (f : Int) (h : 1 ≤ f ∧ f ≤ 14) (w : World) : Calls Tryz.prog 40 #[.int .u8 f] w fun e w' => e = .returned (.bool true) ∧ w' = w := by
  obtain ⟨h1, h2⟩ := h
  go_enter Tryz.func40, Tryz.ntmps40
  go_wp2
  go_ret
  exact ⟨rfl, rfl⟩
theorem isFormula_no (f : Int) (h : f < 1 ∨ 14 < f) (w : World) : Calls Tryz.prog 40 #[.int .u8 f] w fun e w' => e = .returned (.bool false) ∧ w' = w := by
  by_cases h1 : 1 ≤ f
  · have h2 : ¬ f ≤ 14 := by omega
    have h3 : decide (f ≤ 14) = false := by simpa using h2
    clear h h2
    go_enter Tryz.func40, Tryz.ntmps40
    go_wp2
    go_ret
    exact ⟨rfl, rfl⟩
  · clear h
    go_enter Tryz.func40, Tryz.ntmps40
    go_wp2
    go_ret
    exact ⟨rfl, rfl⟩

abbrev tally (h q m r : Int) : Value := .agg #[.int .i64 h, .int .i64 q, .int .i64 m, .int .i64 r]
def countsOf (h q m r : Int) : Cn := ⟨h, q, m, r, h + m, q + r⟩

theorem countsOf42 (h q m r : Int) (hh : 0 ≤ h ∧ h ≤ 64) (hq : 0 ≤ q ∧ q ≤ 64) (hm : 0 ≤ m ∧ m ≤ 64) (hr : 0 ≤ r ∧ r ≤ 64) (w : World) : Calls Tryz.prog 42 #[tally h q m r] w fun e w' => e = .returned (cn (countsOf h q m r)) ∧ Below w.heap.size w w' := by
  obtain ⟨h1, h2⟩ := hh
  obtain ⟨q1, q2⟩ := hq
  obtain ⟨m1, m2⟩ := hm
  obtain ⟨r1, r2⟩ := hr
  go_enter Tryz.func42, Tryz.ntmps42
  go_wp2
  go_quiet (fail)
  go_wp2
  go_returns
  refine ⟨rfl, ?_⟩
  have hB := two w (.cells #[.int .i64 h, .int .i64 q, .int .i64 m, .int .i64 r] 33) (.cells #[.int .i64 0, .int .i64 0, .int .i64 0, .int .i64 0, .int .i64 0, .int .i64 0] 87)
  have hD : Below w.heap.size w (((w.alloc (.cells #[.int .i64 h, .int .i64 q, .int .i64 m, .int .i64 r] 33)).alloc (.cells #[.int .i64 0, .int .i64 0, .int .i64 0, .int .i64 0, .int .i64 0, .int .i64 0] 87)).drewN nq) := hB.trans ⟨rfl, rfl, rfl, Nat.le_refl _, fun _ _ => rfl⟩
  have o : w.heap.size ≤ w.heap.size + 1 := by omega
  exact (((((hD.setCell o _).setCell o _).setCell o _).setCell o _).setCell o _).setCell o _

end Go.Proofs.YtmgegkgelecopaaGreatDoor.Rk

set_option maxRecDepth 100000
namespace Go.Proofs.YtmgegkgelecopaaGreatDoor.Rk
open Go Go.Ev Go.RowKit

/-! The table of the formulas: a call without arguments, evaluated over an empty heap. -/
def fvals : Array Value := #[.nilFunc, .nilFunc, .func (.func 64) #[] #[], .func (.func 65) #[] #[], .func (.func 64) #[] #[], .func (.func 68) #[] #[], .func (.func 64) #[] #[], .func (.func 70) #[] #[], .func (.func 64) #[] #[], .func (.func 71) #[] #[], .func (.func 64) #[] #[], .func (.func 72) #[] #[], .func (.func 64) #[] #[], .func (.func 73) #[] #[], .func (.func 75) #[] #[], .func (.func 76) #[] #[], .func (.func 64) #[] #[], .func (.func 77) #[] #[], .func (.func 78) #[] #[], .func (.func 79) #[] #[], .func (.func 75) #[] #[], .func (.func 80) #[] #[], .func (.func 64) #[] #[], .func (.func 82) #[] #[], .func (.func 64) #[] #[], .func (.func 83) #[] #[], .func (.func 84) #[] #[], .func (.func 85) #[] #[], .func (.func 64) #[] #[], .func (.func 86) #[] #[]]

namespace F41
def ext (_ : Nat) : Option Ext := none
noncomputable def E : Env := { P := Tryz.prog, G := 0, callOK := hasBody Tryz.prog, ext }
theorem okay : okayB Tryz.prog = true := by kernel_rfl
theorem names : namesOK Tryz.prog = true := by kernel_rfl
theorem mix : Tryz.prog.follows .mixedOrders = true := by kernel_rfl
theorem envOK : EnvOK E where
  ok := Okay.of_check okay
  call := call_of_check names
  same := fun g h => by cases h
  index := fun g h x w => by cases h
noncomputable def H0 : AHeap := { next := 0, blks := .leaf, grps := .leaf }
def ren : Ren := { n := 0, f := fun _ => ⟨0, 0, 0, 0⟩, on := fun _ => False, lt := fun _ h => h.elim }
theorem H0_blk {i : Nat} {b : ABlk} (h : H0.blk i = some b) : False := by
  unfold H0 AHeap.blk at h
  simp [Trie.get] at h
theorem start_HR (W : World) : HR W.heap.size (bare W) ren H0 W := by
  refine ⟨rfl, Nat.le_refl _, Below.refl _ _, ?_, ?_, ?_, ?_, ?_, ?_, ?_, ?_, ?_, ?_⟩
  · intro i h; exact h.elim
  · intro i b hb; exact (H0_blk hb).elim
  · intro i b c e2 fr h; exact h.elim
  · intro i b h; exact h.elim
  · intro i b h; exact h.elim
  · intro i b h; exact h.elim
  · intro i j bi bj h; exact h.elim
  · intro i b h; exact h.elim
  · intro i b hb; exact (H0_blk hb).elim
  · intro i hi; exact hi.elim
theorem start_GR : GR E.G ren := fun g hg => absurd hg (Nat.not_lt_zero g)
noncomputable def st (m : Nat) : KS := .k nx 41 m (TT.ofArgs []) (tdAt E 41 []) [] H0
def resOf : Option KS → Option (FuncId × Value)
  | some (.done g v _) => some (g, v)
  | _ => none
theorem resOf_spec {x : Option KS} {f : FuncId} {v : Value} (h : resOf x = some (f, v)) : ∃ H, x = some (.done f v H) := by
  unfold resOf at h
  split at h
  · cases h; exact ⟨_, rfl⟩
  · cases h
theorem start : startK E 41 [] H0 = some (st 16) := by kernel_rfl
theorem run : resOf (kgo E 40 (st 16)) = some (41, .agg fvals) := by kernel_rfl

def isF : Value → Bool
  | .nilFunc => true
  | .func (.func _) x y => x.size == 0 && y.size == 0
  | _ => false
theorem isF_eq {σ : Ren} {v v' : Value} (h : isF v = true) (k : VR σ v v') : v' = v := by
  unfold isF at h
  split at h
  · cases k; rfl
  · rename_i n x y
    rw [Bool.and_eq_true, beq_iff_eq, beq_iff_eq] at h
    cases k with
    | func hf hx _ hy _ =>
      rename_i f' x' y' u1 u2
      have ef : f' = .func n := by
        cases f' <;> simp_all [FnR]
      have ex : x = #[] := Array.eq_empty_of_size_eq_zero h.1
      have ey : y = #[] := Array.eq_empty_of_size_eq_zero h.2
      have ex' : x' = #[] := Array.eq_empty_of_size_eq_zero (by omega)
      have ey' : y' = #[] := Array.eq_empty_of_size_eq_zero (by omega)
      rw [ef, ex, ey, ex', ey']
  · cases h
theorem allF : fvals.all isF = true := by kernel_rfl
theorem vals_eq {σ : Ren} {v' : Value} (k : VR σ (.agg fvals) v') : v' = .agg fvals := by
  cases k with
  | agg hs hv =>
    rename_i x'
    have e : x' = fvals := by
      apply Array.ext hs.symm
      intro i h1 h2
      have := hv i fvals[i] x'[i] (by simp [h2]) (by simp [h1])
      exact isF_eq (Array.all_eq_true.1 allF i h2) this
    rw [e]
end F41

theorem formulas41 (w : World) : Calls Tryz.prog 41 #[] w fun e w' => e = .returned (.agg fvals) ∧ Below w.heap.size w w' := by
  obtain ⟨H, hk⟩ := F41.resOf_spec F41.run
  have := KTo.calls (w := w) (x' := #[]) F41.envOK F41.mix F41.start_GR (F41.start_HR w) (AsR.nil F41.ren) F41.start (KTo.go F41.envOK F41.mix hk)
  refine this.mono ?_
  rintro x W' ⟨σ, v', rfl, _, hv, hH⟩
  exact ⟨by rw [F41.vals_eq hv], hH.below⟩
end Go.Proofs.YtmgegkgelecopaaGreatDoor.Rk

set_option maxRecDepth 100000
namespace Go.Proofs.YtmgegkgelecopaaGreatDoor.Rk
open Go Go.Ms Go.Pg Go.Rk Go.ChangeShapes Go.WideShapes Go.ChangeAt Go.RowKit Go.Deep

/-! rank.Score: the boxes of its last statement. -/
theorem small_of {h q m r : Int} (hh : 0 ≤ h ∧ h ≤ 64) (hq : 0 ≤ q ∧ q ≤ 64) (hm : 0 ≤ m ∧ m ≤ 64) (hr : 0 ≤ r ∧ r ≤ 64) : Small (countsOf h q m r) :=
  ⟨hh, hq, hm, hr, ⟨by show 0 ≤ h + m; omega, by show h + m ≤ 128; omega⟩, ⟨by show 0 ≤ q + r; omega, by show q + r ≤ 128; omega⟩⟩
theorem there_new (w : World) (cs : Array Value) (t : TypeId) : (w.alloc (.cells cs t)).there w.heap.size 0 cs.size := fun j hj => by
  have hb := new_block w (.cells cs t)
  refine ⟨?_, frozen_of hb _⟩
  rw [cell_of hb]
  simp [hj]

def Sc (w w' : World) (a b g : Nat) (h q m r : Int) (F G : Value) : Prop :=
  w'.cell? ⟨a, 0, none⟩ = some (.int .i64 h) ∧ w'.cell? ⟨a, 1, none⟩ = some (.int .i64 q) ∧ w'.cell? ⟨a, 2, none⟩ = some (.int .i64 m) ∧ w'.cell? ⟨a, 3, none⟩ = some (.int .i64 r) ∧ w'.cell? ⟨g, 0, none⟩ = some F ∧ w'.cell? ⟨g, 1, none⟩ = some G ∧
  w'.cell? ⟨b, 0, none⟩ = some (val w' ⟨b, 0, none⟩) ∧ w'.cell? ⟨b, 1, none⟩ = some (val w' ⟨b, 1, none⟩) ∧ w'.frozen? ⟨b, 0, none⟩ = false ∧ w'.frozen? ⟨b, 1, none⟩ = false ∧
  Hid (a < w'.heap.size ∧ b < w'.heap.size ∧ g < w'.heap.size ∧ w.heap.size ≤ b ∧ a ≠ b ∧ b ≠ g ∧ Below w.heap.size w w')
theorem Sc.step {w w' w'' : World} {a b g : Nat} {h q m r : Int} {F G : Value} (k : Sc w w' a b g h q m r F G) (hk : Below w'.heap.size w' w'') : Sc w w'' a b g h q m r F G := by
  obtain ⟨h1, h2, h3, h4, g1, g2, r1, r2, f1, f2, la, lb, lg, o1, o2, o3, hB⟩ := k
  exact ⟨(hk.cell (p := ⟨a, 0, none⟩) la).trans h1, (hk.cell (p := ⟨a, 1, none⟩) la).trans h2, (hk.cell (p := ⟨a, 2, none⟩) la).trans h3, (hk.cell (p := ⟨a, 3, none⟩) la).trans h4, (hk.cell (p := ⟨g, 0, none⟩) lg).trans g1, (hk.cell (p := ⟨g, 1, none⟩) lg).trans g2,
    val_of ((hk.cell (p := ⟨b, 0, none⟩) lb).trans r1), val_of ((hk.cell (p := ⟨b, 1, none⟩) lb).trans r2), (hk.frozen (p := ⟨b, 0, none⟩) lb).trans f1, (hk.frozen (p := ⟨b, 1, none⟩) lb).trans f2,
    Nat.lt_of_lt_of_le la hk.size, Nat.lt_of_lt_of_le lb hk.size, Nat.lt_of_lt_of_le lg hk.size, o1, o2, o3, hB.trans (hk.mono hB.size)⟩
theorem Sc.drew {w w' : World} {a b g : Nat} {h q m r : Int} {F G : Value} (k : Sc w w' a b g h q m r F G) : Sc w w'.drew a b g h q m r F G := k.step ⟨rfl, rfl, rfl, Nat.le_refl _, fun _ _ => rfl⟩
theorem Sc.put {w w' : World} {a b g : Nat} {h q m r : Int} {F G : Value} (k : Sc w w' a b g h q m r F G) (u v : Value) : Sc w ((w'.setCell ⟨b, 0, none⟩ u).setCell ⟨b, 1, none⟩ v) a b g h q m r F G := by
  obtain ⟨h1, h2, h3, h4, g1, g2, r1, r2, f1, f2, la, lb, lg, o1, o2, o3, hB⟩ := k
  have o2' := o2.symm
  have o3' := o3.symm
  exact ⟨by go_simp, by go_simp, by go_simp, by go_simp, by go_simp, by go_simp, val_of (v := u) (by go_simp), val_of (v := v) (by go_simp), by go_simp, by go_simp,
    by simpa using la, by simpa using lb, by simpa using lg, o1, o2, o3, (hB.setCell o1 _).setCell o1 _⟩
theorem Sc.s {w w' : World} {a b g : Nat} {h q m r : Int} {F G : Value} (k : Sc w w' a b g h q m r F G) :
  w'.cell? ⟨a, 0, none⟩ = some (.int .i64 h) ∧ w'.cell? ⟨a, 1, none⟩ = some (.int .i64 q) ∧ w'.cell? ⟨a, 2, none⟩ = some (.int .i64 m) ∧ w'.cell? ⟨a, 3, none⟩ = some (.int .i64 r) ∧ w'.cell? ⟨g, 0, none⟩ = some F ∧ w'.cell? ⟨g, 1, none⟩ = some G ∧
  w'.cell? ⟨b, 0, none⟩ = some (val w' ⟨b, 0, none⟩) ∧ w'.cell? ⟨b, 1, none⟩ = some (val w' ⟨b, 1, none⟩) ∧ w'.frozen? ⟨b, 0, none⟩ = false ∧ w'.frozen? ⟨b, 1, none⟩ = false ∧ Hid (Sc w w' a b g h q m r F G) := by
  have k2 := k
  obtain ⟨h1, h2, h3, h4, g1, g2, r1, r2, f1, f2, _⟩ := k2
  exact ⟨h1, h2, h3, h4, g1, g2, r1, r2, f1, f2, k⟩
theorem scK {f : FuncId} {args : Array Value} {V : Value} {w w' : World} {a b g : Nat} {h q m r : Int} {F G : Value} (k : Sc w w' a b g h q m r F G) (c : Calls Tryz.prog f args w' fun e w'' => e = .returned V ∧ Below w'.heap.size w' w'') : Calls Tryz.prog f args w' fun e w'' => e = .returned V ∧ Sc w w'' a b g h q m r F G :=
  c.mono fun _ _ ⟨e, q⟩ => ⟨e, k.step q⟩
theorem Sc.start {w w1 : World} {h q m r : Int} {z1 z2 F G : Value} (hB : Below ((w.alloc (.cells #[.int .i64 h, .int .i64 q, .int .i64 m, .int .i64 r] 33)).alloc (.cells #[.int .i64 0, .int .i64 0] 23)).heap.size ((w.alloc (.cells #[.int .i64 h, .int .i64 q, .int .i64 m, .int .i64 r] 33)).alloc (.cells #[.int .i64 0, .int .i64 0] 23)) w1) :
    Sc w ((w1.alloc (.cells #[z1, z2] 81)).setCells w1.heap.size 0 [F, G]) w.heap.size (w.heap.size + 1) w1.heap.size h q m r F G := by
  have hz := hB.size
  simp at hz
  have l1 : w.heap.size < w1.heap.size := by omega
  have l2 : w.heap.size + 1 < w1.heap.size := by omega
  have n1 : w.heap.size ≠ w1.heap.size := by omega
  have n2 : w.heap.size + 1 ≠ w1.heap.size := by omega
  have n3 := n1.symm
  have n4 := n2.symm
  have a0 : w1.cell? ⟨w.heap.size, 0, none⟩ = some (.int .i64 h) := (hB.cell (p := ⟨w.heap.size, 0, none⟩) (by simp; omega)).trans (by go_simp)
  have a1 : w1.cell? ⟨w.heap.size, 1, none⟩ = some (.int .i64 q) := (hB.cell (p := ⟨w.heap.size, 1, none⟩) (by simp; omega)).trans (by go_simp)
  have a2 : w1.cell? ⟨w.heap.size, 2, none⟩ = some (.int .i64 m) := (hB.cell (p := ⟨w.heap.size, 2, none⟩) (by simp; omega)).trans (by go_simp)
  have a3 : w1.cell? ⟨w.heap.size, 3, none⟩ = some (.int .i64 r) := (hB.cell (p := ⟨w.heap.size, 3, none⟩) (by simp; omega)).trans (by go_simp)
  have b0 : w1.cell? ⟨w.heap.size + 1, 0, none⟩ = some (.int .i64 0) := (hB.cell (p := ⟨w.heap.size + 1, 0, none⟩) (by simp)).trans (by go_simp)
  have b1 : w1.cell? ⟨w.heap.size + 1, 1, none⟩ = some (.int .i64 0) := (hB.cell (p := ⟨w.heap.size + 1, 1, none⟩) (by simp)).trans (by go_simp)
  have f0 : w1.frozen? ⟨w.heap.size + 1, 0, none⟩ = false := (hB.frozen (p := ⟨w.heap.size + 1, 0, none⟩) (by simp)).trans (by go_simp)
  have f1 : w1.frozen? ⟨w.heap.size + 1, 1, none⟩ = false := (hB.frozen (p := ⟨w.heap.size + 1, 1, none⟩) (by simp)).trans (by go_simp)
  have hw : Below w.heap.size w w1 := (two w _ _).trans (hB.mono (by simp; omega))
  show Sc w (((w1.alloc (.cells #[z1, z2] 81)).setCell ⟨w1.heap.size, 0, none⟩ F).setCell ⟨w1.heap.size, 1, none⟩ G) w.heap.size (w.heap.size + 1) w1.heap.size h q m r F G
  exact ⟨by go_simp, by go_simp, by go_simp, by go_simp, by go_simp, by go_simp, val_of (v := .int .i64 0) (by go_simp), val_of (v := .int .i64 0) (by go_simp), by go_simp, by go_simp,
    by simp; omega, by simp; omega, by simp, by omega, by omega, n2, ((hw.alloc (Nat.le_of_lt l1) _).setCell (Nat.le_of_lt l1) _).setCell (Nat.le_of_lt l1) _⟩

theorem Kept.step {w0 w w1 w2 : World} {b : Nat} {x y : Value} (h : Kept w0 w w1 b x y) (k : Below w1.heap.size w1 w2) : Kept w0 w w2 b x y := by
  obtain ⟨c0, c1, f0, f1, hz, hB⟩ := h
  exact ⟨(k.cell (p := ⟨b, 0, none⟩) hz).trans c0, (k.cell (p := ⟨b, 1, none⟩) hz).trans c1, (k.frozen (p := ⟨b, 0, none⟩) hz).trans f0, (k.frozen (p := ⟨b, 1, none⟩) hz).trans f1, Nat.lt_of_lt_of_le hz k.size, hB.trans (k.mono (Below.size hB))⟩
theorem keptR (w : World) (a : Obj) (t : TypeId) (n : Nat) : Kept w (w.alloc a) (((w.alloc a).alloc (.cells #[.int .i64 0, .int .i64 0] t)).drewN n) (w.heap.size + 1) (.int .i64 0) (.int .i64 0) :=
  kept2 ⟨rfl, rfl, rfl, Nat.le_refl _, fun _ _ => rfl⟩
end Go.Proofs.YtmgegkgelecopaaGreatDoor.Rk

set_option maxRecDepth 100000
namespace Go.Proofs.YtmgegkgelecopaaGreatDoor.Rk
open Go Go.Ms Go.Pg Go.Rk Go.ChangeShapes Go.WideShapes Go.ChangeAt Go.RowKit Go.Deep

theorem ok_whole {n : Int} (h : -1000000000 ≤ n ∧ n ≤ 1000000000) : Ok (n, 1) := ⟨h.1, h.2, Int.le_refl 1, show (1 : Int) ≤ 1000000000 by decide⟩
theorem bd_whole {n : Int} (h : -20000 ≤ n ∧ n ≤ 20000) : Bd 20000 (n, 1) := ⟨h.1, h.2, Int.le_refl 1, show (1 : Int) ≤ 20000 by decide⟩
theorem ok_Q {n d : Int} (hn : -1000000000 ≤ n ∧ n ≤ 1000000000) (hd : -1000000000 ≤ d ∧ d ≤ 1000000000) : Ok (Q n d) := Q_bd (by decide) (by decide) hn hd
theorem bd_Q {n d : Int} (hn : -20000 ≤ n ∧ n ≤ 20000) (hd : -20000 ≤ d ∧ d ≤ 20000) : Bd 20000 (Q n d) := Q_bd (by decide) (by decide) hn hd
theorem ok_plus {a b : Fr} (ha : Bd 20000 a) (hb : Bd 20000 b) : Ok (fplus a b) := (fplus_bd ha hb (by decide)).mono (by decide)
theorem ok_stray {x : Cn} (hx : Small x) : Ok (stray x) := by
  obtain ⟨⟨h1, h2⟩, ⟨q1, q2⟩, ⟨m1, m2⟩, ⟨r1, r2⟩, ⟨f1, f2⟩, ⟨p1, p2⟩⟩ := hx
  unfold stray
  split
  · exact ok_Q ⟨by omega, by omega⟩ ⟨by omega, by omega⟩
  · exact ok_whole ⟨by omega, by omega⟩
theorem ok_damp {x : Cn} (hx : Small x) : Ok (damp x) := by
  obtain ⟨⟨h1, h2⟩, ⟨q1, q2⟩, ⟨m1, m2⟩, ⟨r1, r2⟩, ⟨f1, f2⟩, ⟨p1, p2⟩⟩ := hx
  unfold damp
  split
  · exact ok_whole ⟨by omega, by omega⟩
  · split
    · exact ok_plus (bd_whole ⟨by omega, by omega⟩) (bd_Q ⟨by omega, by omega⟩ ⟨by omega, by omega⟩)
    · exact ok_plus (bd_Q ⟨by omega, by omega⟩ ⟨by omega, by omega⟩) (bd_Q ⟨by omega, by omega⟩ ⟨by omega, by omega⟩)

theorem okA1 {x : Cn} (hx : Small x) : Ok (Q x.h x.f) := by
  have hx0 := hx
  obtain ⟨⟨h1, h2⟩, ⟨q1, q2⟩, ⟨m1, m2⟩, ⟨r1, r2⟩, ⟨f1, f2⟩, ⟨p1, p2⟩⟩ := hx0
  exact ok_Q ⟨by omega, by omega⟩ ⟨by omega, by omega⟩
theorem okB1 {x : Cn} (hx : Small x) : Ok (fplus (Q x.h x.f) (Q x.q x.p)) := by
  have hx0 := hx
  obtain ⟨⟨h1, h2⟩, ⟨q1, q2⟩, ⟨m1, m2⟩, ⟨r1, r2⟩, ⟨f1, f2⟩, ⟨p1, p2⟩⟩ := hx0
  exact ok_plus (bd_Q ⟨by omega, by omega⟩ ⟨by omega, by omega⟩) (bd_Q ⟨by omega, by omega⟩ ⟨by omega, by omega⟩)
theorem okA2 {x : Cn} (hx : Small x) : Ok (x.h * x.h, 1) := by
  have hx0 := hx
  obtain ⟨⟨h1, h2⟩, ⟨q1, q2⟩, ⟨m1, m2⟩, ⟨r1, r2⟩, ⟨f1, f2⟩, ⟨p1, p2⟩⟩ := hx0
  have b1 := mul_bd (a := x.h) (b := x.h) (A := 64) (B := 64) ⟨by omega, by omega⟩ ⟨by omega, by omega⟩
  have b2 := mul_bd (a := x.f) (b := (x.h + x.q)) (A := 128) (B := 128) ⟨by omega, by omega⟩ ⟨by omega, by omega⟩
  exact ok_whole ⟨by omega, by omega⟩
theorem okB2 {x : Cn} (hx : Small x) : Ok (x.f * (x.h + x.q), 1) := by
  have hx0 := hx
  obtain ⟨⟨h1, h2⟩, ⟨q1, q2⟩, ⟨m1, m2⟩, ⟨r1, r2⟩, ⟨f1, f2⟩, ⟨p1, p2⟩⟩ := hx0
  have b1 := mul_bd (a := x.h) (b := x.h) (A := 64) (B := 64) ⟨by omega, by omega⟩ ⟨by omega, by omega⟩
  have b2 := mul_bd (a := x.f) (b := (x.h + x.q)) (A := 128) (B := 128) ⟨by omega, by omega⟩ ⟨by omega, by omega⟩
  exact ok_whole ⟨by omega, by omega⟩
theorem okA3 {x : Cn} (hx : Small x) : Ok (x.h, 1) := by
  have hx0 := hx
  obtain ⟨⟨h1, h2⟩, ⟨q1, q2⟩, ⟨m1, m2⟩, ⟨r1, r2⟩, ⟨f1, f2⟩, ⟨p1, p2⟩⟩ := hx0
  exact ok_whole ⟨by omega, by omega⟩
theorem okB3 {x : Cn} (hx : Small x) : Ok (x.f + x.q, 1) := by
  have hx0 := hx
  obtain ⟨⟨h1, h2⟩, ⟨q1, q2⟩, ⟨m1, m2⟩, ⟨r1, r2⟩, ⟨f1, f2⟩, ⟨p1, p2⟩⟩ := hx0
  exact ok_whole ⟨by omega, by omega⟩
theorem okA4 {x : Cn} (hx : Small x) : Ok (2 * x.h, 1) := by
  have hx0 := hx
  obtain ⟨⟨h1, h2⟩, ⟨q1, q2⟩, ⟨m1, m2⟩, ⟨r1, r2⟩, ⟨f1, f2⟩, ⟨p1, p2⟩⟩ := hx0
  exact ok_whole ⟨by omega, by omega⟩
theorem okB4 {x : Cn} (hx : Small x) : Ok (x.f + x.h + x.q, 1) := by
  have hx0 := hx
  obtain ⟨⟨h1, h2⟩, ⟨q1, q2⟩, ⟨m1, m2⟩, ⟨r1, r2⟩, ⟨f1, f2⟩, ⟨p1, p2⟩⟩ := hx0
  exact ok_whole ⟨by omega, by omega⟩
theorem okA5 {x : Cn} (hx : Small x) : Ok (fplus (Q x.h x.f) (Q x.h (x.h + x.q))) := by
  have hx0 := hx
  obtain ⟨⟨h1, h2⟩, ⟨q1, q2⟩, ⟨m1, m2⟩, ⟨r1, r2⟩, ⟨f1, f2⟩, ⟨p1, p2⟩⟩ := hx0
  exact ok_plus (bd_Q ⟨by omega, by omega⟩ ⟨by omega, by omega⟩) (bd_Q ⟨by omega, by omega⟩ ⟨by omega, by omega⟩)
theorem okB5 {x : Cn} (hx : Small x) : Ok (2, 1) := by
  have hx0 := hx
  obtain ⟨⟨h1, h2⟩, ⟨q1, q2⟩, ⟨m1, m2⟩, ⟨r1, r2⟩, ⟨f1, f2⟩, ⟨p1, p2⟩⟩ := hx0
  exact ok_whole ⟨by omega, by omega⟩
theorem okA6 {x : Cn} (hx : Small x) : Ok (x.h * x.h, 1) := by
  have hx0 := hx
  obtain ⟨⟨h1, h2⟩, ⟨q1, q2⟩, ⟨m1, m2⟩, ⟨r1, r2⟩, ⟨f1, f2⟩, ⟨p1, p2⟩⟩ := hx0
  have b1 := mul_bd (a := x.h) (b := x.h) (A := 64) (B := 64) ⟨by omega, by omega⟩ ⟨by omega, by omega⟩
  exact ok_whole ⟨by omega, by omega⟩
theorem okB6 {x : Cn} (hx : Small x) : Ok (stray x) := by
  have hx0 := hx
  obtain ⟨⟨h1, h2⟩, ⟨q1, q2⟩, ⟨m1, m2⟩, ⟨r1, r2⟩, ⟨f1, f2⟩, ⟨p1, p2⟩⟩ := hx0
  have b1 := mul_bd (a := x.h) (b := x.h) (A := 64) (B := 64) ⟨by omega, by omega⟩ ⟨by omega, by omega⟩
  exact ok_stray hx
theorem okA7 {x : Cn} (hx : Small x) : Ok (x.h, 1) := by
  have hx0 := hx
  obtain ⟨⟨h1, h2⟩, ⟨q1, q2⟩, ⟨m1, m2⟩, ⟨r1, r2⟩, ⟨f1, f2⟩, ⟨p1, p2⟩⟩ := hx0
  exact ok_whole ⟨by omega, by omega⟩
theorem okB7 {x : Cn} (hx : Small x) : Ok (Q x.q (x.p + 1)) := by
  have hx0 := hx
  obtain ⟨⟨h1, h2⟩, ⟨q1, q2⟩, ⟨m1, m2⟩, ⟨r1, r2⟩, ⟨f1, f2⟩, ⟨p1, p2⟩⟩ := hx0
  exact ok_Q ⟨by omega, by omega⟩ ⟨by omega, by omega⟩
theorem okA8 {x : Cn} (hx : Small x) : Ok (x.h, 1) := by
  have hx0 := hx
  obtain ⟨⟨h1, h2⟩, ⟨q1, q2⟩, ⟨m1, m2⟩, ⟨r1, r2⟩, ⟨f1, f2⟩, ⟨p1, p2⟩⟩ := hx0
  exact ok_whole ⟨by omega, by omega⟩
theorem okB8 {x : Cn} (hx : Small x) : Ok (x.h + x.q, 1) := by
  have hx0 := hx
  obtain ⟨⟨h1, h2⟩, ⟨q1, q2⟩, ⟨m1, m2⟩, ⟨r1, r2⟩, ⟨f1, f2⟩, ⟨p1, p2⟩⟩ := hx0
  exact ok_whole ⟨by omega, by omega⟩
theorem okA9 {x : Cn} (hx : Small x) : Ok (Q x.h x.f) := by
  have hx0 := hx
  obtain ⟨⟨h1, h2⟩, ⟨q1, q2⟩, ⟨m1, m2⟩, ⟨r1, r2⟩, ⟨f1, f2⟩, ⟨p1, p2⟩⟩ := hx0
  exact ok_Q ⟨by omega, by omega⟩ ⟨by omega, by omega⟩
theorem okB9 {x : Cn} (hx : Small x) : Ok (Q x.q x.p) := by
  have hx0 := hx
  obtain ⟨⟨h1, h2⟩, ⟨q1, q2⟩, ⟨m1, m2⟩, ⟨r1, r2⟩, ⟨f1, f2⟩, ⟨p1, p2⟩⟩ := hx0
  exact ok_Q ⟨by omega, by omega⟩ ⟨by omega, by omega⟩
theorem okA10 {x : Cn} (hx : Small x) : Ok (x.h, 1) := by
  have hx0 := hx
  obtain ⟨⟨h1, h2⟩, ⟨q1, q2⟩, ⟨m1, m2⟩, ⟨r1, r2⟩, ⟨f1, f2⟩, ⟨p1, p2⟩⟩ := hx0
  exact ok_whole ⟨by omega, by omega⟩
theorem okB10 {x : Cn} (hx : Small x) : Ok (damp x) := by
  have hx0 := hx
  obtain ⟨⟨h1, h2⟩, ⟨q1, q2⟩, ⟨m1, m2⟩, ⟨r1, r2⟩, ⟨f1, f2⟩, ⟨p1, p2⟩⟩ := hx0
  exact ok_damp hx
theorem okA11 {x : Cn} (hx : Small x) : Ok (x.h, 1) := by
  have hx0 := hx
  obtain ⟨⟨h1, h2⟩, ⟨q1, q2⟩, ⟨m1, m2⟩, ⟨r1, r2⟩, ⟨f1, f2⟩, ⟨p1, p2⟩⟩ := hx0
  exact ok_whole ⟨by omega, by omega⟩
theorem okB11 {x : Cn} (hx : Small x) : Ok (x.f + x.p, 1) := by
  have hx0 := hx
  obtain ⟨⟨h1, h2⟩, ⟨q1, q2⟩, ⟨m1, m2⟩, ⟨r1, r2⟩, ⟨f1, f2⟩, ⟨p1, p2⟩⟩ := hx0
  exact ok_whole ⟨by omega, by omega⟩
theorem okA12 {x : Cn} (hx : Small x) : Ok (x.h + x.r, 1) := by
  have hx0 := hx
  obtain ⟨⟨h1, h2⟩, ⟨q1, q2⟩, ⟨m1, m2⟩, ⟨r1, r2⟩, ⟨f1, f2⟩, ⟨p1, p2⟩⟩ := hx0
  exact ok_whole ⟨by omega, by omega⟩
theorem okB12 {x : Cn} (hx : Small x) : Ok (x.f + x.p, 1) := by
  have hx0 := hx
  obtain ⟨⟨h1, h2⟩, ⟨q1, q2⟩, ⟨m1, m2⟩, ⟨r1, r2⟩, ⟨f1, f2⟩, ⟨p1, p2⟩⟩ := hx0
  exact ok_whole ⟨by omega, by omega⟩
theorem okA13 {x : Cn} (hx : Small x) : Ok (x.h, 1) := by
  have hx0 := hx
  obtain ⟨⟨h1, h2⟩, ⟨q1, q2⟩, ⟨m1, m2⟩, ⟨r1, r2⟩, ⟨f1, f2⟩, ⟨p1, p2⟩⟩ := hx0
  exact ok_whole ⟨by omega, by omega⟩
theorem okB13 {x : Cn} (hx : Small x) : Ok (fplus (1, 1) (Q 1 (2 * x.q + x.h))) := by
  have hx0 := hx
  obtain ⟨⟨h1, h2⟩, ⟨q1, q2⟩, ⟨m1, m2⟩, ⟨r1, r2⟩, ⟨f1, f2⟩, ⟨p1, p2⟩⟩ := hx0
  exact ok_plus (bd_whole ⟨by omega, by omega⟩) (bd_Q ⟨by omega, by omega⟩ ⟨by omega, by omega⟩)
theorem okA14 {x : Cn} (hx : Small x) : Ok (x.h * x.h, 1) := by
  have hx0 := hx
  obtain ⟨⟨h1, h2⟩, ⟨q1, q2⟩, ⟨m1, m2⟩, ⟨r1, r2⟩, ⟨f1, f2⟩, ⟨p1, p2⟩⟩ := hx0
  have b1 := mul_bd (a := x.h) (b := x.h) (A := 64) (B := 64) ⟨by omega, by omega⟩ ⟨by omega, by omega⟩
  have b2 := mul_bd (a := x.h) (b := (x.f + x.q)) (A := 64) (B := 192) ⟨by omega, by omega⟩ ⟨by omega, by omega⟩
  have b3 := mul_bd (a := (10000 * x.m)) (b := x.q) (A := 640000) (B := 64) ⟨by omega, by omega⟩ ⟨by omega, by omega⟩
  exact ok_whole ⟨by omega, by omega⟩
theorem okB14 {x : Cn} (hx : Small x) : Ok (x.h * (x.f + x.q) + 10000 * x.m * x.q, 1) := by
  have hx0 := hx
  obtain ⟨⟨h1, h2⟩, ⟨q1, q2⟩, ⟨m1, m2⟩, ⟨r1, r2⟩, ⟨f1, f2⟩, ⟨p1, p2⟩⟩ := hx0
  have b1 := mul_bd (a := x.h) (b := x.h) (A := 64) (B := 64) ⟨by omega, by omega⟩ ⟨by omega, by omega⟩
  have b2 := mul_bd (a := x.h) (b := (x.f + x.q)) (A := 64) (B := 192) ⟨by omega, by omega⟩ ⟨by omega, by omega⟩
  have b3 := mul_bd (a := (10000 * x.m)) (b := x.q) (A := 640000) (B := 64) ⟨by omega, by omega⟩ ⟨by omega, by omega⟩
  exact ok_whole ⟨by omega, by omega⟩

def scoreOf (f : Nat) (x : Cn) : Fr :=
  match f with
  | 1 => fover (Q x.h x.f) (fplus (Q x.h x.f) (Q x.q x.p))
  | 2 => fover (x.h * x.h, 1) (x.f * (x.h + x.q), 1)
  | 3 => fover (x.h, 1) (x.f + x.q, 1)
  | 4 => fover (2 * x.h, 1) (x.f + x.h + x.q, 1)
  | 5 => fover (fplus (Q x.h x.f) (Q x.h (x.h + x.q))) (2, 1)
  | 6 => fover (x.h * x.h, 1) (stray x)
  | 7 => fminus (x.h, 1) (Q x.q (x.p + 1))
  | 8 => fover (x.h, 1) (x.h + x.q, 1)
  | 9 => fgap (Q x.h x.f) (Q x.q x.p)
  | 10 => fminus (x.h, 1) (damp x)
  | 11 => fover (x.h, 1) (x.f + x.p, 1)
  | 12 => fover (x.h + x.r, 1) (x.f + x.p, 1)
  | 13 => ftimes (x.h, 1) (fplus (1, 1) (Q 1 (2 * x.q + x.h)))
  | 14 => fover (x.h * x.h, 1) (x.h * (x.f + x.q) + 10000 * x.m * x.q, 1)
  | _ => (0, 0)
end Go.Proofs.YtmgegkgelecopaaGreatDoor.Rk

set_option maxRecDepth 100000
namespace Go.Proofs.YtmgegkgelecopaaGreatDoor.Rk
open Go Go.Ms Go.Pg Go.Rk Go.ChangeShapes Go.WideShapes Go.ChangeAt Go.RowKit Go.Deep

def te (n : Int) : Int := if n < 0 then 1 else if 64 < n then 3 else 0
def terr (h q m r : Int) : Int := if te h ≠ 0 then te h else if te q ≠ 0 then te q else if te m ≠ 0 then te m else te r
theorem te_cases (n : Int) : (n < 0 ∧ te n = 1) ∨ (0 ≤ n ∧ 64 < n ∧ te n = 3) ∨ (0 ≤ n ∧ n ≤ 64 ∧ te n = 0) := by
  unfold te
  by_cases h : n < 0
  · exact Or.inl ⟨h, if_pos h⟩
  · by_cases g : 64 < n
    · exact Or.inr (Or.inl ⟨by omega, g, by rw [if_neg h, if_pos g]⟩)
    · exact Or.inr (Or.inr ⟨by omega, by omega, by rw [if_neg h, if_neg g]⟩)
theorem terr_ok {h q m r : Int} (e : terr h q m r = 0) : (0 ≤ h ∧ h ≤ 64) ∧ (0 ≤ q ∧ q ≤ 64) ∧ (0 ≤ m ∧ m ≤ 64) ∧ (0 ≤ r ∧ r ≤ 64) := by
  unfold terr at e
  rcases te_cases h with ⟨a, b⟩ | ⟨a, b, c⟩ | ⟨a, b, c⟩ <;> rcases te_cases q with ⟨a1, b1⟩ | ⟨a1, b1, c1⟩ | ⟨a1, b1, c1⟩ <;> rcases te_cases m with ⟨a2, b2⟩ | ⟨a2, b2, c2⟩ | ⟨a2, b2, c2⟩ <;> rcases te_cases r with ⟨a3, b3⟩ | ⟨a3, b3, c3⟩ | ⟨a3, b3, c3⟩ <;> simp_all

theorem scoreBad14 (f h q m r : Int) (hf : f < 1 ∨ 14 < f) (w : World) : Calls Tryz.prog 14 #[.int .u8 f, tally h q m r] w fun e w' => e = .returned (.tuple #[fr (0, 0), .int .i64 1]) ∧ Below w.heap.size w w' := by
  have K := Lib.hid (isFormula_no f hf)
  clear hf
  go_enter Tryz.func14, Tryz.ntmps14
  go_wp2_with (first
    | (go_at_call 40; refine (K.out _).mono ?_; rintro e w' ⟨rfl, rfl⟩)
    | fail)
  exact bodyPost_ret (v := .tuple #[fr (0, 0), .int .i64 1]) (by simp [results, Tryz.results14, go_sem]) rfl ⟨rfl, two _ _ _⟩

set_option maxHeartbeats 2000000 in
theorem scoreErr14 (f h q m r : Int) (hf : 1 ≤ f ∧ f ≤ 14) (he : terr h q m r ≠ 0) (w : World) : Calls Tryz.prog 14 #[.int .u8 f, tally h q m r] w fun e w' => e = .returned (.tuple #[fr (0, 0), .int .i64 (terr h q m r)]) ∧ Below w.heap.size w w' := by
  have K := Lib.hid (isFormula_yes f hf)
  have i0 : ∀ w, Sem.run Tryz.prog (Instr.index 77 (.agg #[.int .i64 h, .int .i64 q, .int .i64 m, .int .i64 r]) (.int .i64 0)) w = .ok (.int .i64 h) w := fun w => by kernel_rfl
  have i1 : ∀ w, Sem.run Tryz.prog (Instr.index 77 (.agg #[.int .i64 h, .int .i64 q, .int .i64 m, .int .i64 r]) (.int .i64 1)) w = .ok (.int .i64 q) w := fun w => by kernel_rfl
  have i2 : ∀ w, Sem.run Tryz.prog (Instr.index 77 (.agg #[.int .i64 h, .int .i64 q, .int .i64 m, .int .i64 r]) (.int .i64 2)) w = .ok (.int .i64 m) w := fun w => by kernel_rfl
  have i3 : ∀ w, Sem.run Tryz.prog (Instr.index 77 (.agg #[.int .i64 h, .int .i64 q, .int .i64 m, .int .i64 r]) (.int .i64 3)) w = .ok (.int .i64 r) w := fun w => by kernel_rfl
  have HE := Lib.hid he
  clear hf he
  go_enter Tryz.func14, Tryz.ntmps14
  go_wp2_with (first
    | (go_at_call 40; refine (K.out _).mono ?_; rintro e w' ⟨rfl, rfl⟩)
    | fail)
  go_loop [22] (fun i => i = .int .i64 0 ∨ (Hid (te h = 0) ∧ i = .int .i64 1) ∨ (Hid (te h = 0 ∧ te q = 0) ∧ i = .int .i64 2) ∨ (Hid (te h = 0 ∧ te q = 0 ∧ te m = 0) ∧ i = .int .i64 3)) (fun i => 4 - (intOf i).toNat)
  case atStart => exact Or.inl rfl
  case round =>
    rcases hrel with rfl | ⟨T, rfl⟩ | ⟨T, rfl⟩ | ⟨T, rfl⟩
    · rcases te_cases h with ⟨a, b⟩ | ⟨a, b, c⟩ | ⟨a, b, c⟩
      · have B := Lib.hid b
        clear b
        go_wp2_with fail
        refine bodyPost_ret (v := .tuple #[fr (0, 0), .int .i64 1]) (by simp [results, Tryz.results14, go_sem]) rfl ⟨?_, two _ _ _⟩
        have : terr h q m r = 1 := by unfold terr; rw [B.out]; rfl
        rw [this]
      · have B := Lib.hid c
        clear c
        go_wp2_with fail
        refine bodyPost_ret (v := .tuple #[fr (0, 0), .int .i64 3]) (by simp [results, Tryz.results14, go_sem]) rfl ⟨?_, two _ _ _⟩
        have : terr h q m r = 3 := by unfold terr; rw [B.out]; rfl
        rw [this]
      · have B := Lib.hid c
        clear c
        go_wp2_with fail
        go_round
        case rel => exact Or.inr (Or.inl ⟨B, rfl⟩)
        case measure => simp [intOf]
    · rcases te_cases q with ⟨a, b⟩ | ⟨a, b, c⟩ | ⟨a, b, c⟩
      · have B := Lib.hid b
        clear b
        go_wp2_with fail
        refine bodyPost_ret (v := .tuple #[fr (0, 0), .int .i64 1]) (by simp [results, Tryz.results14, go_sem]) rfl ⟨?_, two _ _ _⟩
        have : terr h q m r = 1 := by
          have t := T.out
          unfold terr
          simp [show te h = 0 from t, B.out]
        rw [this]
      · have B := Lib.hid c
        clear c
        go_wp2_with fail
        refine bodyPost_ret (v := .tuple #[fr (0, 0), .int .i64 3]) (by simp [results, Tryz.results14, go_sem]) rfl ⟨?_, two _ _ _⟩
        have : terr h q m r = 3 := by
          have t := T.out
          unfold terr
          simp [show te h = 0 from t, B.out]
        rw [this]
      · have B := Lib.hid c
        clear c
        go_wp2_with fail
        go_round
        case rel => exact Or.inr (Or.inr (Or.inl ⟨⟨T.out, B.out⟩, rfl⟩))
        case measure => simp [intOf]
    · rcases te_cases m with ⟨a, b⟩ | ⟨a, b, c⟩ | ⟨a, b, c⟩
      · have B := Lib.hid b
        clear b
        go_wp2_with fail
        refine bodyPost_ret (v := .tuple #[fr (0, 0), .int .i64 1]) (by simp [results, Tryz.results14, go_sem]) rfl ⟨?_, two _ _ _⟩
        have : terr h q m r = 1 := by
          have t := T.out
          unfold terr
          simp [t.1, t.2, B.out]
        rw [this]
      · have B := Lib.hid c
        clear c
        go_wp2_with fail
        refine bodyPost_ret (v := .tuple #[fr (0, 0), .int .i64 3]) (by simp [results, Tryz.results14, go_sem]) rfl ⟨?_, two _ _ _⟩
        have : terr h q m r = 3 := by
          have t := T.out
          unfold terr
          simp [t.1, t.2, B.out]
        rw [this]
      · have B := Lib.hid c
        clear c
        go_wp2_with fail
        go_round
        case rel => exact Or.inr (Or.inr (Or.inr ⟨⟨T.out.1, T.out.2, B.out⟩, rfl⟩))
        case measure => simp [intOf]
    · rcases te_cases r with ⟨a, b⟩ | ⟨a, b, c⟩ | ⟨a, b, c⟩
      · have B := Lib.hid b
        clear b
        go_wp2_with fail
        refine bodyPost_ret (v := .tuple #[fr (0, 0), .int .i64 1]) (by simp [results, Tryz.results14, go_sem]) rfl ⟨?_, two _ _ _⟩
        have : terr h q m r = 1 := by
          have t := T.out
          unfold terr
          simp [t.1, t.2.1, t.2.2, B.out]
        rw [this]
      · have B := Lib.hid c
        clear c
        go_wp2_with fail
        refine bodyPost_ret (v := .tuple #[fr (0, 0), .int .i64 3]) (by simp [results, Tryz.results14, go_sem]) rfl ⟨?_, two _ _ _⟩
        have : terr h q m r = 3 := by
          have t := T.out
          unfold terr
          simp [t.1, t.2.1, t.2.2, B.out]
        rw [this]
      · exfalso
        have t := T.out
        apply HE.out
        unfold terr
        simp [t.1, t.2.1, t.2.2, c]
end Go.Proofs.YtmgegkgelecopaaGreatDoor.Rk

