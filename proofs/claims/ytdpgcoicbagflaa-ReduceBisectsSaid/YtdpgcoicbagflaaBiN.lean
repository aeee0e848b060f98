import Derived.Test.YtdpgcoicbagflaaBiM
set_option maxRecDepth 100000
set_option linter.unusedSimpArgs false
set_option linter.unusedVariables false
namespace Go.Proofs.Ytdpgcoicbagflaa.Bi
open Go Go.Ms Go.Pg Go.Bi Go.ChangeShapes Go.WideShapes Go.ChangeAt Go.RowKit Go.Deep

def Play (w : World) (g : Nat) (l : List Int) (u : Nat) (stop : Bool) (want : Value) : Prop := ∃ an, w.heap[g]? = some (.cells #[an, .int .i64 (u : Int), nilV, nilV, .bool stop, want] 74 (0, 0)) ∧ Vs w g an l

set_option maxHeartbeats 4000000 in
theorem nextSome {w : World} {g u : Nat} {l : List Int} {c : Value} {x : Value} (h : Play w g l u false x) (hu : u < l.length) :
    Calls Try.prog 57 #[.pointer (some ⟨g, 0, none⟩), c] w fun e w' => e = .returned (.int .u8 (counts l[u])) ∧ Keeps g w w' ∧ Play w' g l (u + 1) false x := by
  obtain ⟨an, hb, hv⟩ := h
  have hg := block_lt hb
  have HV := hide hv
  obtain ⟨oa, cap, rfl, hlc, hl, q⟩ := hv
  obtain ⟨b0, o0, rfl, hlt, r0⟩ := q u hu
  have hb0 : b0 < w.heap.size := by omega
  have c0 : w.cell? ⟨g, 0, none⟩ = some (.slice (some ⟨b0, o0, none⟩) l.length cap) := cell_of hb 0
  have c1 : w.cell? ⟨g, 1, none⟩ = some (.int .i64 (u : Int)) := cell_of hb 1
  have f1 := frozen_of hb 1
  have t0 : decide ((l.length : Int) ≤ (u : Int)) = false := decide_eq_false (by omega)
  have t1 : decide (l.length ≤ u) = false := decide_eq_false (by omega)
  have w1 : IntKind.i64.wrap ((u : Int) + 1) = (u : Int) + 1 := wrap_in (by omega) (by omega)
  have w2 : IntKind.i64.wrap ((u : Int) + 1 - 1) = (u : Int) := by rw [wrap_in (by omega) (by omega)]; omega
  have w3 : IntKind.i64.wrap ((u : Int)) = (u : Int) := wrap_in (by omega) (by omega)
  have hi : (u : Int) < (l.length : Int) := by omega
  have HB := hide hb
  have HU := hide hu
  clear hb q
  generalize l[u] = y at *
  go_enter Try.func57, Try.ntmps57
  go_wp2_with fail
  go_quiet (fail)
  go_wp2_with fail
  have hx : ((w.drewN nq).setCell ⟨g, 1, none⟩ (.int .i64 ((u : Int) + 1))).heap[g]? = some (.cells #[.slice (some ⟨b0, o0, none⟩) l.length cap, .int .i64 ((u : Int) + 1), nilV, nilV, .bool false, x] 74 (0, 0)) :=
    (heap_setCell_same (w.drewN nq) g 1 _ 74 (.int .i64 ((u : Int) + 1)) HB.out).trans (by simp)
  have hk : Keeps g w ((w.drewN nq).setCell ⟨g, 1, none⟩ (.int .i64 ((u : Int) + 1))) := (show Keeps g w (w.drewN nq) from ⟨belowN _ _ _, fun _ _ _ => rfl⟩).trans (Keeps.set 1 _)
  clear c0 c1 f1
  generalize (w.drewN nq).setCell ⟨g, 1, none⟩ (.int .i64 ((u : Int) + 1)) = X at *
  have d0 : X.cell? ⟨g, 0, none⟩ = some (.slice (some ⟨b0, o0, none⟩) l.length cap) := cell_of hx 0
  have d1 : X.cell? ⟨g, 1, none⟩ = some (.int .i64 ((u : Int) + 1)) := cell_of hx 1
  have d2 : X.cell? ⟨b0, o0 + u, none⟩ = some (.int .u8 y) := (hk.below.cell (p := ⟨b0, o0 + u, none⟩) hlt).trans r0
  have HX := hide hx
  have HK := hide hk
  clear hx hk r0
  go_quiet (first
    | (go_at_call 70; exact Calls.quiet_of_same toldProg))
  go_wp2_with fail
  go_ret
  exact ⟨rfl, HK.out.trans ⟨belowN _ _ _, fun _ _ _ => rfl⟩, _, HX.out, vs_kept HK.out (Nat.le_refl _) HV.out⟩

theorem own_empty (w : World) {B : Nat} (hB : B ≤ w.heap.size) (c : Array Value) (hc : c.size = 0) : Go.Il.Own 3 .i64 B (w.alloc (.cells c 3)) (.slice (some ⟨w.heap.size, 0, none⟩) 0 0) [] := by
  refine ⟨rfl, .inr ⟨w.heap.size, 0, c, rfl, hB, new_block w _, Nat.le_refl _, by simp [maxLen], by simp [hc], ?_⟩⟩
  simp

theorem EI' : Go.Il.IntElem Try.prog 24 3 .i64 8 := EI
theorem row_one {w : World} {cb v : Nat} (hv : v < 256) (hc : w.heap[cb]? = some (.cells #[.int .i64 (v : Int)] 3 (0, 0))) : RowAt 1 (NumAt .i64) w (.slice (some ⟨cb, 0, none⟩) 1 1) [(v : Int)] := by
  refine ⟨_, _, rfl, by simp, fun i hi => ?_⟩
  obtain rfl : i = 0 := by simpa using hi
  refine ⟨cb, 0, rfl, by simpa using cell_of hc 0, ?_⟩
  simp [Lit.wf, IntKind.min, IntKind.max, IntKind.signed, IntKind.bits]
  omega

set_option maxHeartbeats 4000000 in
theorem nextNone {w : World} {g v cb : Nat} {l : List Int} {x : Value} (h : Play w g l l.length false x) (hv : v < 256) (hc : w.heap[cb]? = some (.cells #[.int .i64 (v : Int)] 3 (0, 0))) :
    Calls Try.prog 57 #[.pointer (some ⟨g, 0, none⟩), .slice (some ⟨cb, 0, none⟩) 1 1] w fun e w' => e = .returned (.int .u8 0) ∧ Keeps g w w' ∧ ∃ x', Play w' g l l.length true x' ∧ Go.Il.Own 3 .i64 w.heap.size w' x' [(v : Int)] := by
  obtain ⟨an, hb, hva⟩ := h
  have hg := block_lt hb
  have HV := hide hva
  have HV9 := hide hv
  obtain ⟨oa, cap, rfl, hlc, hl, q⟩ := hva
  have hne : cb ≠ g := by
    rintro rfl
    have := hc.symm.trans hb
    injection this with this
    injection this with _ ht
    cases ht
  have c0 : w.cell? ⟨g, 0, none⟩ = some (.slice oa l.length cap) := cell_of hb 0
  have c1 : w.cell? ⟨g, 1, none⟩ = some (.int .i64 (l.length : Int)) := cell_of hb 1
  have c4 : w.cell? ⟨g, 4, none⟩ = some (.bool false) := cell_of hb 4
  have f4 := frozen_of hb 4
  have HB := hide hb
  have HC := hide hc
  have HG := hide hg
  clear hb q hc hv
  go_enter Try.func57, Try.ntmps57
  go_wp2_with fail
  go_quiet (fail)
  go_upto_region 3 with (fail)
  have hx : ((w.drewN nq).setCell ⟨g, 4, none⟩ (.bool true)).heap[g]? = some (.cells #[.slice oa l.length cap, .int .i64 (l.length : Int), nilV, nilV, .bool true, x] 74 (0, 0)) :=
    (heap_setCell_same (w.drewN nq) g 4 _ 74 (.bool true) HB.out).trans (by simp)
  have hk : Keeps g w ((w.drewN nq).setCell ⟨g, 4, none⟩ (.bool true)) := (show Keeps g w (w.drewN nq) from ⟨belowN _ _ _, fun _ _ _ => rfl⟩).trans (Keeps.set 4 _)
  have hs : ((w.drewN nq).setCell ⟨g, 4, none⟩ (.bool true)).heap.size = w.heap.size := by simp [World.setCell]
  clear c0 c1 c4 f4
  generalize (w.drewN nq).setCell ⟨g, 4, none⟩ (.bool true) = X at *
  have HX := hide hx
  have HK := hide hk
  have HS := hide hs
  have HRX := hide (row_one HV9.out (hk.kept cb (block_lt HC.out) hne |>.trans HC.out))
  clear hx hk hs hne
  have hgX : g < X.heap.size := block_lt HX.out
  have e5 : ∀ (Y : World), Go.Il.Stp 3 X.heap.size (X.alloc (.cells #[] 3)) Y → Y.heap[g]? = some (.cells #[.slice oa l.length cap, .int .i64 (l.length : Int), nilV, nilV, .bool true, x] 74 (0, 0)) := fun Y hY => Go.Il.Stp.block hY (old_block HX.out _) (by decide)
  have HE5 := hide e5
  clear e5
  go_wp2_with (first
    | (at_builtin
       (refine Go.Il.wpl_pushRow EI (by decide) rfl (.tmp 19) (.tmp 20) rfl (own_empty X (Nat.le_refl _) _ rfl) HRX.out ((Below.refl _ X).alloc (Nat.le_refl _) _) (by simp) rfl rfl (by simp) ?_
        intro v1 w1 ho1 hs1
        obtain ⟨o1, k1, hv1⟩ := Go.Il.Own.form ho1
        subst hv1
        have HO1 := hide ho1
        have HS1 := hide hs1
        have hY := HE5.out w1 hs1
        have HY := hide hY
        have y5 : w1.cell? ⟨g, 5, none⟩ = some x := cell_of hY 5
        have z5 := frozen_of hY 5
        clear ho1 hs1 hY))
    | fail)
  all_goals
    go_ret
    have hB1 : Below X.heap.size X w1 := ((Below.refl X.heap.size X).alloc (Nat.le_refl _) _).trans HS1.out.below
    have hKF : ∀ u, Keeps g w (w1.setCell ⟨g, 5, none⟩ u) := fun u => (HK.out.trans (Keeps.of_below hgX hB1)).trans (Keeps.set 5 u)
    refine ⟨rfl, hKF _, .slice o1 1 k1, ⟨_, (heap_setCell_same w1 g 5 _ 74 (.slice o1 1 k1) HY.out).trans (by simp), vs_kept (hKF _) (Nat.le_refl _) HV.out⟩, ?_⟩
    refine own_same (own_mono (Nat.le_of_eq HS.out.symm) HO1.out) fun b cs _ hh => Below.heap_setCell _ ⟨g, 5, none⟩ _ b (fun e => ?_)
    subst e
    rw [HY.out] at hh
    injection hh with hh
    injection hh with _ ht
    cases ht
end Go.Proofs.Ytdpgcoicbagflaa.Bi
