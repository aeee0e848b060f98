import Derived.Test.YtdfjjmibhnniiaaGreatDoorProg
import Derived.Test.YtdfjjmibhnniiaaGreatDoorLeA
import Derived.WalkKit
import Derived.ProofKit
import Derived.OpenShut
import Derived.Handy
import Derived.LoopTactic
import Derived.Deep.Draws
import Derived.Deep.QuietTactic
import Derived.Deep.RegionLaw
import Derived.BigQuiet
import Derived.Deep.RegionWith
import Derived.Deep.DeepCutAuto
import Derived.Lib.Hide
set_option maxRecDepth 100000
namespace Go.Proofs.YtdfjjmibhnniiaaGreatDoor.Le
open Go Go.Ms Go.Pg Go.Le Go.ChangeShapes Go.WideShapes Go.ChangeAt Go.RowKit Go.Deep

theorem hide {p : Prop} (h : p) : Hid p := h
theorem int_cell {w : World} {oa : Option Addr} {i : Nat} {l : List Int} (h : ∀ i (h : i < l.length), ∃ b o, oa = some ⟨b, o, none⟩ ∧ NumAt .i64 w b (o + i * 1) l[i]) (hi : i < l.length) : ∃ b o, oa = some ⟨b, o, none⟩ ∧ w.cell? ⟨b, o + i, none⟩ = some (.int .i64 l[i]) := by
  obtain ⟨b, o, e, c⟩ := h i hi
  exact ⟨b, o, e, by simpa using c.1⟩
theorem drews (w : World) (a b : Nat) : (w.drewN a).drewN b = w.drewN (a + b) := by simp [World.drewN, Nat.add_assoc]
abbrev Ints (w : World) (v : Value) (l : List Int) : Prop := RowAt 1 (NumAt .i64) w v l
theorem wrap_in {z : Int} (h0 : -1000000 ≤ z) (h : z ≤ 1000000) : IntKind.i64.wrap z = z := by
  simp [IntKind.wrap, IntKind.signed, IntKind.bits]
  omega
theorem wrap_up {k n : Nat} (h : k < n) (hn : n ≤ 140737488351232) : IntKind.i64.wrap ((k : Int) + 1) = (k : Int) + 1 := by
  simp [IntKind.wrap, IntKind.signed, IntKind.bits]
  omega
theorem wrap_down {j k n : Nat} (e : k = j + 1) (h : k < n) (hn : n ≤ 140737488351232) : IntKind.i64.wrap ((k : Int) - 1) = (j : Int) := by
  simp [IntKind.wrap, IntKind.signed, IntKind.bits]
  omega
def IntsW (w : World) (v : Value) (l : List Int) : Prop := ∃ oa cap, v = .slice oa l.length cap ∧ l.length ≤ 9223372036854775807 ∧ ∀ i (h : i < l.length), ∃ b o, oa = some ⟨b, o, none⟩ ∧ NumAt .i64 w b (o + i * 1) l[i]
theorem ints_w {w : World} {v : Value} {l : List Int} (h : Ints w v l) : IntsW w v l := by
  obtain ⟨oa, cap, e, hl, hc⟩ := h
  exact ⟨oa, cap, e, by omega, hc⟩
theorem w_ints {w : World} {v : Value} {l : List Int} (h : IntsW w v l) (hn : l.length ≤ 1000) : Ints w v l := by
  obtain ⟨oa, cap, e, hl, hc⟩ := h
  exact ⟨oa, cap, e, by omega, hc⟩
theorem intsW_drewN {w : World} {v : Value} {l : List Int} (h : IntsW w v l) (n : Nat) : IntsW (w.drewN n) v l := h
theorem wrap_upW {k n : Nat} (h : k < n) (hn : n ≤ 9223372036854775807) : IntKind.i64.wrap ((k : Int) + 1) = (k : Int) + 1 := by
  simp [IntKind.wrap, IntKind.signed, IntKind.bits]
  omega
theorem wrap_downW {j k n : Nat} (e : k = j + 1) (h : k < n) (hn : n ≤ 9223372036854775807) : IntKind.i64.wrap ((k : Int) - 1) = (j : Int) := by
  simp [IntKind.wrap, IntKind.signed, IntKind.bits]
  omega
theorem cells_at {w : World} {v : Value} {l : List Int} (h : Ints w v l) : ∃ oa cap, v = .slice oa l.length cap ∧ l.length ≤ 140737488351232 ∧ ∀ i (h : i < l.length), ∃ b o, oa = some ⟨b, o, none⟩ ∧ NumAt .i64 w b (o + i * 1) l[i] := h
theorem ints_below {w w' : World} {v : Value} {l : List Int} (h : Ints w v l) (hB : Below w.heap.size w w') : Ints w' v l := h.imp fun _ _ _ q => ⟨cell_below hB q.1, q.2⟩
theorem ints_drewN {w : World} {v : Value} {l : List Int} (h : Ints w v l) (n : Nat) : Ints (w.drewN n) v l := h
theorem belowN (B : Nat) (w : World) (n : Nat) : Below B w (w.drewN n) := ⟨rfl, rfl, rfl, Nat.le_refl _, fun _ _ => rfl⟩

def Tells (p : Prop) (w : World) (e : Ending) (w' : World) : Prop := ∃ r, e = .returned (.bool r) ∧ (r = true ↔ p) ∧ ∃ n, w' = w.drewN n
theorem tells_yes {p : Prop} {w w' : World} {e : Ending} (h : Tells p w e w') (hp : p) : e = .returned (.bool true) ∧ ∃ n, w' = w.drewN n := by
  obtain ⟨r, rfl, hr, hn⟩ := h
  rw [hr.2 hp]
  exact ⟨rfl, hn⟩
theorem tells_no {p : Prop} {w w' : World} {e : Ending} (h : Tells p w e w') (hp : ¬ p) : e = .returned (.bool false) ∧ ∃ n, w' = w.drewN n := by
  obtain ⟨r, rfl, hr, hn⟩ := h
  cases r with
  | true => exact absurd (hr.1 rfl) hp
  | false => exact ⟨rfl, hn⟩
theorem not_next {l : List Int} {x : Int} {k : Nat} (h : x ∉ l.take k) (hk : k < l.length) (e : (l[k] == x) = false) : x ∉ l.take (k + 1) := by
  rw [List.take_succ_eq_append_getElem hk]
  intro q
  rcases List.mem_append.1 q with q | q
  · exact h q
  · simp at q e
    exact e q.symm


theorem plainRef {w : World} {n : Int} : Calls Tryz.prog 36 #[.int .i64 n] w (Tells (Plain n) w) := by
  by_cases h1 : -2147483647 ≤ n
  · go_enter Tryz.func36, Tryz.ntmps36
    go_wp2_with fail
    go_ret
    refine ⟨_, rfl, ?_, 0, rfl⟩
    simp [Plain, h1]
  · go_enter Tryz.func36, Tryz.ntmps36
    go_wp2_with fail
    go_ret
    refine ⟨_, rfl, ?_, 0, rfl⟩
    simp [Plain]
    omega
theorem plainProg {w : World} {n : Int} : Calls Tryz.prog 65 #[.int .i64 n] w (Tells (Plain n) w) := by
  by_cases h1 : -2147483647 ≤ n
  · go_enter Tryz.func65, Tryz.ntmps65
    go_wp2_with fail
    go_ret
    refine ⟨_, rfl, ?_, 0, rfl⟩
    simp [Plain, h1]
  · go_enter Tryz.func65, Tryz.ntmps65
    go_wp2_with fail
    go_ret
    refine ⟨_, rfl, ?_, 0, rfl⟩
    simp [Plain]
    omega
theorem closure {w : World} {n : Int} : Calls Tryz.prog 69 #[.int .i64 n] w (Tells (¬ Plain n) w) := by
  go_enter Tryz.func69, Tryz.ntmps69
  go_wp2_with (first
    | (go_at_call 65
       (with_reducible refine plainProg.mono ?_)
       rintro e _ ⟨r, rfl, hr, n, rfl⟩
       have HR := hide hr
       clear hr)
    | fail)
  go_ret
  refine ⟨_, rfl, ?_, _, rfl⟩
  rw [← HR.out]
  cases r <;> simp
end Go.Proofs.YtdfjjmibhnniiaaGreatDoor.Le

set_option maxRecDepth 100000
namespace Go.Proofs.YtdfjjmibhnniiaaGreatDoor.Le
open Go Go.Ms Go.Pg Go.Le Go.ChangeShapes Go.WideShapes Go.ChangeAt Go.RowKit Go.Deep

def cInv (x : Inv) (s : Value) : Array Value := #[.int .u8 x.k, .int .i64 x.a, .int .i64 x.b, .int .i64 x.K, .int .i64 x.M, s]
def vInv (x : Inv) (s : Value) : Value := .agg (cInv x s)
def TellsB (p : Prop) (w : World) (e : Ending) (w' : World) : Prop := ∃ r, e = .returned (.bool r) ∧ (r = true ↔ p) ∧ Below w.heap.size w w'
def BoxI (w : World) (g : Nat) (x : Inv) (s : Value) : Prop :=
  w.cell? ⟨g, 0, none⟩ = some (.int .u8 x.k) ∧ w.cell? ⟨g, 1, none⟩ = some (.int .i64 x.a) ∧ w.cell? ⟨g, 2, none⟩ = some (.int .i64 x.b) ∧
  w.cell? ⟨g, 3, none⟩ = some (.int .i64 x.K) ∧ w.cell? ⟨g, 4, none⟩ = some (.int .i64 x.M) ∧ w.cell? ⟨g, 5, none⟩ = some s
theorem boxI_of {w : World} {g : Nat} {x : Inv} {s : Value} {e : TypeId} (h : w.heap[g]? = some (.cells (cInv x s) e)) : BoxI w g x s :=
  ⟨cell_of h 0, cell_of h 1, cell_of h 2, cell_of h 3, cell_of h 4, cell_of h 5⟩
theorem BoxI.below {w w' : World} {g : Nat} {x : Inv} {s : Value} (h : BoxI w g x s) (hB : Below w.heap.size w w') : BoxI w' g x s := by
  obtain ⟨h0, h1, h2, h3, h4, h5⟩ := h
  exact ⟨cell_below hB h0, cell_below hB h1, cell_below hB h2, cell_below hB h3, cell_below hB h4, cell_below hB h5⟩
theorem heap_top (w : World) (o : Obj) : (w.alloc o).heap[w.heap.size]? = some o := by
  show (w.heap.push o)[w.heap.size]? = some o
  exact Array.getElem?_push_size
theorem size_up (w : World) (o : Obj) : (w.alloc o).heap.size = w.heap.size + 1 := by
  show (w.heap.push o).size = _
  exact Array.size_push ..
theorem one_box (w : World) (x : Inv) (s : Value) (e : TypeId) : BoxI (w.alloc (.cells (cInv x s) e)) w.heap.size x s ∧ Below w.heap.size w (w.alloc (.cells (cInv x s) e)) :=
  ⟨boxI_of (e := e) (heap_top w _), (Below.refl _ _).alloc (Nat.le_refl _) _⟩
theorem two_boxes (w : World) (x y : Inv) (s t : Value) (e f : TypeId) : BoxI ((w.alloc (.cells (cInv x s) e)).alloc (.cells (cInv y t) f)) w.heap.size x s ∧ BoxI ((w.alloc (.cells (cInv x s) e)).alloc (.cells (cInv y t) f)) (w.heap.size + 1) y t ∧
    Below w.heap.size w ((w.alloc (.cells (cInv x s) e)).alloc (.cells (cInv y t) f)) := by
  obtain ⟨h1, h2⟩ := one_box w x s e
  obtain ⟨h3, h4⟩ := one_box (w.alloc (.cells (cInv x s) e)) y t f
  refine ⟨h1.below h4, ?_, h2.alloc (by rw [size_up]; omega) _⟩
  rw [size_up] at h3
  exact h3

theorem two {w : World} {k : Int} (h1 : k ≤ 11) : Calls Tryz.prog 32 #[.int .u8 k] w (Tells (7 ≤ k) w) := by
  by_cases h : 7 ≤ k
  · go_enter Tryz.func32, Tryz.ntmps32
    go_wp2_with fail
    go_ret
    refine ⟨_, rfl, ?_, 0, rfl⟩
    simp [h]
    try omega
  · go_enter Tryz.func32, Tryz.ntmps32
    go_wp2_with fail
    go_ret
    refine ⟨_, rfl, ?_, 0, rfl⟩
    simp
    omega

theorem intsW_below {w w' : World} {v : Value} {l : List Int} (h : IntsW w v l) (hB : Below w.heap.size w w') : IntsW w' v l := by
  obtain ⟨oa, cap, e, hl, hc⟩ := h
  refine ⟨oa, cap, e, hl, fun i hi => ?_⟩
  obtain ⟨b, o, e, c⟩ := hc i hi
  exact ⟨b, o, e, cell_below hB c.1, c.2⟩

set_option maxHeartbeats 4000000 in
theorem same {w : World} {x y : Inv} {s t : Value} (hs : IntsW w s x.set) (ht : IntsW w t y.set) : Calls Tryz.prog 20 #[vInv x s, vInv y t] w (TellsB (x = y) w) := by
  have hs0 := hs
  have ht0 := ht
  obtain ⟨os, cs, rfl, hls, hs⟩ := hs
  obtain ⟨ot, ct, rfl, hlt, ht⟩ := ht
  obtain ⟨b1, b2, b3⟩ := two_boxes w x y (.slice os x.set.length cs) (.slice ot y.set.length ct) 31 31
  unfold vInv
  unfold cInv at *
  go_enter Tryz.func20, Tryz.ntmps20
  go_upto_region 1 with (fail)
  generalize (w.alloc (.cells #[.int .u8 x.k, .int .i64 x.a, .int .i64 x.b, .int .i64 x.K, .int .i64 x.M, .slice os x.set.length cs] 31)).alloc (.cells #[.int .u8 y.k, .int .i64 y.a, .int .i64 y.b, .int .i64 y.K, .int .i64 y.M, .slice ot y.set.length ct] 31) = w0 at *
  replace hs0 := intsW_below hs0 b3
  replace ht0 := intsW_below ht0 b3
  generalize hgg : w.heap.size + 1 = g2 at *
  have HB := hide b3
  clear b3 hs ht
  obtain ⟨os', cs', he, _, hs⟩ := hs0
  obtain ⟨rfl, rfl⟩ : os = os' ∧ cs = cs' := by simpa using he
  obtain ⟨ot', ct', he2, _, ht⟩ := ht0
  obtain ⟨rfl, rfl⟩ : ot = ot' ∧ ct = ct' := by simpa using he2
  clear he he2
  obtain ⟨p0, p1, p2, p3, p4, p5⟩ := b1
  obtain ⟨q0, q1, q2, q3, q4, q5⟩ := b2
  have hx : Hid (x = y ↔ x.k = y.k ∧ x.a = y.a ∧ x.b = y.b ∧ x.K = y.K ∧ x.M = y.M ∧ x.set = y.set) := hide (by cases x; cases y; simp)
  by_cases hk : x.k = y.k ∧ x.a = y.a ∧ x.b = y.b ∧ x.K = y.K ∧ x.M = y.M ∧ x.set.length = y.set.length
  · obtain ⟨k0, k1, k2, k3, k4, k5⟩ := hk
    have e0 : (x.k != y.k) = false := by simp [k0]
    have e1 : (x.a != y.a) = false := by simp [k1]
    have e2 : (x.b != y.b) = false := by simp [k2]
    have e3 : (x.K != y.K) = false := by simp [k3]
    have e4 : (x.M != y.M) = false := by simp [k4]
    have e5 : ((x.set.length : Int) != (y.set.length : Int)) = false := by simp [k5]
    have HL := hide k5
    have HE : Hid (x.set = y.set → x = y) := hide fun q => hx.out.2 ⟨k0, k1, k2, k3, k4, q⟩
    clear k0 k1 k2 k3 k4 k5
    go_wp2_with fail
    go_loopw [5] (fun i wr => ∃ k : Nat, k ≤ x.set.length ∧ i = .int .i64 k ∧ (∀ j, j < k → x.set[j]? = y.set[j]?) ∧ ∃ n, wr = w0.drewN n) (fun i _ => x.set.length - (intOf i).toNat)
    case atStart => exact ⟨0, Nat.zero_le _, rfl, fun j h => by omega, 0, rfl⟩
    case round =>
      obtain ⟨k, hk, rfl, hp, nd, rfl⟩ := hrel
      have P : Hid (∀ j, j < k → x.set[j]? = y.set[j]?) := hp
      clear hp
      by_cases hlt : k < x.set.length
      · have hlt2 : k < y.set.length := by have := HL.out; omega
        obtain ⟨r1, o1, rfl, f1⟩ := int_cell hs hlt
        obtain ⟨r2, o2, rfl, f2⟩ := int_cell ht hlt2
        have hi1 : (k : Int) < (x.set.length : Int) := by omega
        have hi2 : (k : Int) < (y.set.length : Int) := by omega
        clear hs ht
        by_cases he : x.set[k] = y.set[k]
        · have hb : (x.set[k] != y.set[k]) = false := by simp [he]
          have HE2 := hide he
          clear he
          go_wp2_with fail
          go_quiet (fail)
          go_wp2_with fail
          go_roundw
          case rel =>
            refine ⟨k + 1, by omega, by go_num, fun j hj => ?_, _, rfl⟩
            by_cases q : j < k
            · exact P.out j q
            · obtain rfl : j = k := by omega
              rw [List.getElem?_eq_getElem hlt, List.getElem?_eq_getElem hlt2, HE2.out]
          case measure => simp [intOf]; omega
        · have hb : (x.set[k] != y.set[k]) = true := by simpa using he
          have HE2 := hide he
          clear he
          go_wp2_with fail
          go_quiet (fail)
          go_wp2_with fail
          go_ret
          refine ⟨false, rfl, ⟨fun h => by simp at h, fun h => by subst h; exact absurd rfl HE2.out⟩, ?_⟩
          exact HB.out.trans ((belowN _ _ _).trans (belowN _ _ _))
      · go_wp2_with fail
        go_ret
        refine ⟨true, rfl, ⟨fun _ => HE.out ?_, fun _ => rfl⟩, HB.out.trans (belowN _ _ _)⟩
        have hk2 : k = x.set.length := by omega
        apply List.ext_getElem?
        intro j
        by_cases q : j < k
        · exact P.out j q
        · rw [List.getElem?_eq_none (by omega), List.getElem?_eq_none (by have := HL.out; omega)]
  · have HK : Hid (¬ x = y) := hide fun q => hk (by subst q; simp)
    have fin : Hid (∀ e : Ending, e = .returned (.bool false) → TellsB (x = y) w e w0) := hide fun e he => ⟨false, he, ⟨fun h => by simp at h, fun h => absurd h HK.out⟩, HB.out⟩
    by_cases k0 : x.k = y.k
    · have e0 : (x.k != y.k) = false := by simp [k0]
      by_cases k1 : x.a = y.a
      · have e1 : (x.a != y.a) = false := by simp [k1]
        by_cases k2 : x.b = y.b
        · have e2 : (x.b != y.b) = false := by simp [k2]
          by_cases k3 : x.K = y.K
          · have e3 : (x.K != y.K) = false := by simp [k3]
            by_cases k4 : x.M = y.M
            · have e4 : (x.M != y.M) = false := by simp [k4]
              have e5 : ((x.set.length : Int) != (y.set.length : Int)) = true := by
                have : x.set.length ≠ y.set.length := fun q => hk ⟨k0, k1, k2, k3, k4, q⟩
                simp
                omega
              clear k0 k1 k2 k3 k4 hk
              go_wp2_with fail
              go_ret
              exact fin.out _ rfl
            · have e4 : (x.M != y.M) = true := by simpa using k4
              clear k0 k1 k2 k3 k4 hk
              go_wp2_with fail
              go_ret
              exact fin.out _ rfl
          · have e3 : (x.K != y.K) = true := by simpa using k3
            clear k0 k1 k2 k3 hk
            go_wp2_with fail
            go_ret
            exact fin.out _ rfl
        · have e2 : (x.b != y.b) = true := by simpa using k2
          clear k0 k1 k2 hk
          go_wp2_with fail
          go_ret
          exact fin.out _ rfl
      · have e1 : (x.a != y.a) = true := by simpa using k1
        clear k0 k1 hk
        go_wp2_with fail
        go_ret
        exact fin.out _ rfl
    · have e0 : (x.k != y.k) = true := by simpa using k0
      clear k0 hk
      go_wp2_with fail
      go_ret
      exact fin.out _ rfl
end Go.Proofs.YtdfjjmibhnniiaaGreatDoor.Le

set_option maxRecDepth 100000
namespace Go.Proofs.YtdfjjmibhnniiaaGreatDoor.Le
open Go Go.Ms Go.Pg Go.Le Go.ChangeShapes Go.WideShapes Go.ChangeAt Go.RowKit Go.Deep

theorem intsW_nil (w : World) : IntsW w (.slice none 0 0) [] := ⟨none, 0, rfl, by simp, fun i hi => by simp at hi⟩
theorem Below_drewN {B : Nat} {a w : World} (h : Below B a w) (n : Nat) : Below B a (w.drewN n) := h.trans (belowN B w n)

theorem fin_ok {w w' : World} {e : Ending} {y : Inv} {t : Value} (h : Below w.heap.size w w') (k : Below w.heap.size w w' → IntsW w' t y.set) (he : e = .returned (vInv y t) := by rfl) : ∃ t, e = .returned (vInv y t) ∧ IntsW w' t y.set ∧ Below w.heap.size w w' := ⟨t, he, k h, h⟩

set_option maxHeartbeats 1000000 in
theorem bareRef {w : World} {x : Inv} {s : Value} (hk : 1 ≤ x.k ∧ x.k ≤ 11) (hs : IntsW w s x.set) : Calls Tryz.prog 34 #[vInv x s] w fun e w' => ∃ t, e = .returned (vInv (bare x) t) ∧ IntsW w' t (bare x).set ∧ Below w.heap.size w w' := by
  obtain ⟨k, a, b, K, M, l⟩ := x
  obtain ⟨h1, h11⟩ := hk
  have h1 : 1 ≤ k := h1
  have h11 : k ≤ 11 := h11
  have hc : k = 1 ∨ k = 2 ∨ k = 3 ∨ k = 4 ∨ k = 5 ∨ k = 6 ∨ k = 7 ∨ k = 8 ∨ k = 9 ∨ k = 10 ∨ k = 11 := by omega
  clear h1 h11
  have hs : IntsW w s l := hs
  obtain ⟨os, cs, rfl⟩ : ∃ os cs, s = .slice os l.length cs := by obtain ⟨oa, ca, rfl, _⟩ := hs; exact ⟨oa, ca, rfl⟩
  have HS : Hid (∀ w', Below w.heap.size w w' → IntsW w' (.slice os l.length cs) l) := hide fun w' hB => intsW_below hs hB
  clear hs
  unfold vInv cInv
  rcases hc with rfl | rfl | rfl | rfl | rfl | rfl | rfl | rfl | rfl | rfl | rfl
  · go_enter Tryz.func34, Tryz.ntmps34
    go_wp2_with (first
      | (go_at_call 32
         (with_reducible refine (two (by omega)).mono ?_)
         intro e w2 h2
         obtain ⟨rfl, n2, rfl⟩ := tells_no h2 (by omega)
         clear h2)
      | fail)
    refine bodyPost_ret (v := .agg #[.int .u8 1, .int .i64 a, .int .i64 0, .int .i64 K, .int .i64 0, .slice none 0 0]) (by simp [results, Tryz.results34, go_sem]) rfl ?_
    refine fin_ok ?_ (fun q => intsW_nil _)
    repeat (first | with_reducible refine Below.setCell ?_ (by simp; try omega) _ | with_reducible refine Below_drewN ?_ _ | with_reducible refine Below.alloc ?_ (by simp; try omega) _)
    exact Below.refl _ _
  · go_enter Tryz.func34, Tryz.ntmps34
    go_wp2_with (first
      | (go_at_call 32
         (with_reducible refine (two (by omega)).mono ?_)
         intro e w2 h2
         obtain ⟨rfl, n2, rfl⟩ := tells_no h2 (by omega)
         clear h2)
      | fail)
    refine bodyPost_ret (v := .agg #[.int .u8 2, .int .i64 a, .int .i64 0, .int .i64 0, .int .i64 0, .slice os l.length cs]) (by simp [results, Tryz.results34, go_sem]) rfl ?_
    refine fin_ok ?_ (fun q => HS.out _ q)
    repeat (first | with_reducible refine Below.setCell ?_ (by simp; try omega) _ | with_reducible refine Below_drewN ?_ _ | with_reducible refine Below.alloc ?_ (by simp; try omega) _)
    exact Below.refl _ _
  · go_enter Tryz.func34, Tryz.ntmps34
    go_wp2_with (first
      | (go_at_call 32
         (with_reducible refine (two (by omega)).mono ?_)
         intro e w2 h2
         obtain ⟨rfl, n2, rfl⟩ := tells_no h2 (by omega)
         clear h2)
      | fail)
    refine bodyPost_ret (v := .agg #[.int .u8 3, .int .i64 a, .int .i64 0, .int .i64 K, .int .i64 0, .slice none 0 0]) (by simp [results, Tryz.results34, go_sem]) rfl ?_
    refine fin_ok ?_ (fun q => intsW_nil _)
    repeat (first | with_reducible refine Below.setCell ?_ (by simp; try omega) _ | with_reducible refine Below_drewN ?_ _ | with_reducible refine Below.alloc ?_ (by simp; try omega) _)
    exact Below.refl _ _
  · go_enter Tryz.func34, Tryz.ntmps34
    go_wp2_with (first
      | (go_at_call 32
         (with_reducible refine (two (by omega)).mono ?_)
         intro e w2 h2
         obtain ⟨rfl, n2, rfl⟩ := tells_no h2 (by omega)
         clear h2)
      | fail)
    refine bodyPost_ret (v := .agg #[.int .u8 4, .int .i64 a, .int .i64 0, .int .i64 K, .int .i64 0, .slice none 0 0]) (by simp [results, Tryz.results34, go_sem]) rfl ?_
    refine fin_ok ?_ (fun q => intsW_nil _)
    repeat (first | with_reducible refine Below.setCell ?_ (by simp; try omega) _ | with_reducible refine Below_drewN ?_ _ | with_reducible refine Below.alloc ?_ (by simp; try omega) _)
    exact Below.refl _ _
  · go_enter Tryz.func34, Tryz.ntmps34
    go_wp2_with (first
      | (go_at_call 32
         (with_reducible refine (two (by omega)).mono ?_)
         intro e w2 h2
         obtain ⟨rfl, n2, rfl⟩ := tells_no h2 (by omega)
         clear h2)
      | fail)
    refine bodyPost_ret (v := .agg #[.int .u8 5, .int .i64 a, .int .i64 0, .int .i64 0, .int .i64 0, .slice none 0 0]) (by simp [results, Tryz.results34, go_sem]) rfl ?_
    refine fin_ok ?_ (fun q => intsW_nil _)
    repeat (first | with_reducible refine Below.setCell ?_ (by simp; try omega) _ | with_reducible refine Below_drewN ?_ _ | with_reducible refine Below.alloc ?_ (by simp; try omega) _)
    exact Below.refl _ _
  · go_enter Tryz.func34, Tryz.ntmps34
    go_wp2_with (first
      | (go_at_call 32
         (with_reducible refine (two (by omega)).mono ?_)
         intro e w2 h2
         obtain ⟨rfl, n2, rfl⟩ := tells_no h2 (by omega)
         clear h2)
      | fail)
    refine bodyPost_ret (v := .agg #[.int .u8 6, .int .i64 a, .int .i64 0, .int .i64 K, .int .i64 M, .slice none 0 0]) (by simp [results, Tryz.results34, go_sem]) rfl ?_
    refine fin_ok ?_ (fun q => intsW_nil _)
    repeat (first | with_reducible refine Below.setCell ?_ (by simp; try omega) _ | with_reducible refine Below_drewN ?_ _ | with_reducible refine Below.alloc ?_ (by simp; try omega) _)
    exact Below.refl _ _
  · go_enter Tryz.func34, Tryz.ntmps34
    go_wp2_with (first
      | (go_at_call 32
         (with_reducible refine (two (by omega)).mono ?_)
         intro e w2 h2
         obtain ⟨rfl, n2, rfl⟩ := tells_yes h2 (by omega)
         clear h2)
      | fail)
    refine bodyPost_ret (v := .agg #[.int .u8 7, .int .i64 a, .int .i64 b, .int .i64 0, .int .i64 0, .slice none 0 0]) (by simp [results, Tryz.results34, go_sem]) rfl ?_
    refine fin_ok ?_ (fun q => intsW_nil _)
    repeat (first | with_reducible refine Below.setCell ?_ (by simp; try omega) _ | with_reducible refine Below_drewN ?_ _ | with_reducible refine Below.alloc ?_ (by simp; try omega) _)
    exact Below.refl _ _
  · go_enter Tryz.func34, Tryz.ntmps34
    go_wp2_with (first
      | (go_at_call 32
         (with_reducible refine (two (by omega)).mono ?_)
         intro e w2 h2
         obtain ⟨rfl, n2, rfl⟩ := tells_yes h2 (by omega)
         clear h2)
      | fail)
    refine bodyPost_ret (v := .agg #[.int .u8 8, .int .i64 a, .int .i64 b, .int .i64 0, .int .i64 0, .slice none 0 0]) (by simp [results, Tryz.results34, go_sem]) rfl ?_
    refine fin_ok ?_ (fun q => intsW_nil _)
    repeat (first | with_reducible refine Below.setCell ?_ (by simp; try omega) _ | with_reducible refine Below_drewN ?_ _ | with_reducible refine Below.alloc ?_ (by simp; try omega) _)
    exact Below.refl _ _
  · go_enter Tryz.func34, Tryz.ntmps34
    go_wp2_with (first
      | (go_at_call 32
         (with_reducible refine (two (by omega)).mono ?_)
         intro e w2 h2
         obtain ⟨rfl, n2, rfl⟩ := tells_yes h2 (by omega)
         clear h2)
      | fail)
    refine bodyPost_ret (v := .agg #[.int .u8 9, .int .i64 a, .int .i64 b, .int .i64 0, .int .i64 0, .slice none 0 0]) (by simp [results, Tryz.results34, go_sem]) rfl ?_
    refine fin_ok ?_ (fun q => intsW_nil _)
    repeat (first | with_reducible refine Below.setCell ?_ (by simp; try omega) _ | with_reducible refine Below_drewN ?_ _ | with_reducible refine Below.alloc ?_ (by simp; try omega) _)
    exact Below.refl _ _
  · go_enter Tryz.func34, Tryz.ntmps34
    go_wp2_with (first
      | (go_at_call 32
         (with_reducible refine (two (by omega)).mono ?_)
         intro e w2 h2
         obtain ⟨rfl, n2, rfl⟩ := tells_yes h2 (by omega)
         clear h2)
      | fail)
    refine bodyPost_ret (v := .agg #[.int .u8 10, .int .i64 a, .int .i64 b, .int .i64 0, .int .i64 0, .slice none 0 0]) (by simp [results, Tryz.results34, go_sem]) rfl ?_
    refine fin_ok ?_ (fun q => intsW_nil _)
    repeat (first | with_reducible refine Below.setCell ?_ (by simp; try omega) _ | with_reducible refine Below_drewN ?_ _ | with_reducible refine Below.alloc ?_ (by simp; try omega) _)
    exact Below.refl _ _
  · go_enter Tryz.func34, Tryz.ntmps34
    go_wp2_with (first
      | (go_at_call 32
         (with_reducible refine (two (by omega)).mono ?_)
         intro e w2 h2
         obtain ⟨rfl, n2, rfl⟩ := tells_yes h2 (by omega)
         clear h2)
      | fail)
    refine bodyPost_ret (v := .agg #[.int .u8 11, .int .i64 a, .int .i64 b, .int .i64 K, .int .i64 M, .slice none 0 0]) (by simp [results, Tryz.results34, go_sem]) rfl ?_
    refine fin_ok ?_ (fun q => intsW_nil _)
    repeat (first | with_reducible refine Below.setCell ?_ (by simp; try omega) _ | with_reducible refine Below_drewN ?_ _ | with_reducible refine Below.alloc ?_ (by simp; try omega) _)
    exact Below.refl _ _
end Go.Proofs.YtdfjjmibhnniiaaGreatDoor.Le

set_option maxRecDepth 100000
namespace Go.Proofs.YtdfjjmibhnniiaaGreatDoor.Le
open Go Go.Ms Go.Pg Go.Le Go.ChangeShapes Go.WideShapes Go.ChangeAt Go.RowKit Go.Deep

open Classical in
noncomputable def numErr (x : Inv) : Int := if ¬ PlainOK x then 3 else if ¬ NumsOK x then 1 else 0

set_option maxHeartbeats 4000000 in
theorem numbersRef {w : World} {x : Inv} {s : Value} (hs : IntsW w s x.set) : Calls Tryz.prog 33 #[vInv x s] w fun e w' => e = .returned (.int .i64 (numErr x)) ∧ Below w.heap.size w w' := by
  have hs0 := hs
  obtain ⟨os, cs, rfl, hls, hs⟩ := hs
  obtain ⟨b1, b3⟩ := one_box w x (.slice os x.set.length cs) 31
  unfold vInv
  unfold cInv at *
  go_enter Tryz.func33, Tryz.ntmps33
  go_upto_region 1 with (fail)
  generalize w.alloc (.cells #[.int .u8 x.k, .int .i64 x.a, .int .i64 x.b, .int .i64 x.K, .int .i64 x.M, .slice os x.set.length cs] 31) = w0 at *
  replace hs0 := intsW_below hs0 b3
  have HB := hide b3
  clear b3 hs
  obtain ⟨os', cs', he, _, hs⟩ := hs0
  obtain ⟨rfl, rfl⟩ : os = os' ∧ cs = cs' := by simpa using he
  clear he
  obtain ⟨p0, p1, p2, p3, p4, p5⟩ := b1
  go_cut [3] from 6 to 13 (fun v wr => ∃ (r : Bool) (n : Nat), v = .bool r ∧ (r = true ↔ Plain x.K ∧ Plain x.M) ∧ wr = w0.drewN n)
  case first =>
    go_wp2_with (first
      | (go_at_call 36
         first
         | (with_reducible refine (plainRef (n := x.K)).mono ?_
            rintro e w2 ⟨r, rfl, hr, n, rfl⟩
            have HK := hide hr
            clear hr
            cases r)
         | (with_reducible refine (plainRef (n := x.M)).mono ?_
            rintro e w2 ⟨r, rfl, hr, n, rfl⟩
            have HM := hide hr
            clear hr
            cases r))
      | fail)
    all_goals
      go_meet
      refine ⟨_, _, rfl, ?_, rfl⟩
      have a := HK.out
      first
        | (have b := HM.out; simp at a b ⊢; first | exact ⟨a, b⟩ | exact fun _ => b)
        | (simp at a ⊢; exact fun h => absurd h a)
  case rest =>
    obtain ⟨r0, m0, rfl, h0, rfl⟩ := hcut
    have H0 := hide h0
    clear h0
    go_wp2_with fail
    go_loopw [3, 4] (fun v i wr => ∃ (k : Nat) (r : Bool) (n : Nat), k ≤ x.set.length ∧ v = .bool r ∧ i = .int .i64 k ∧ (r = true ↔ (Plain x.K ∧ Plain x.M) ∧ AllPlain (x.set.take k)) ∧ wr = w0.drewN n) (fun _ i _ => x.set.length - (intOf i).toNat)
    case atStart => exact ⟨0, r0, m0, Nat.zero_le _, rfl, rfl, by rw [H0.out]; simp [AllPlain], rfl⟩
    case round =>
      obtain ⟨k, r, nd, hk, rfl, rfl, hr, rfl⟩ := hrel
      have HR := hide hr
      clear hr
      by_cases hlt : k < x.set.length
      · obtain ⟨r1, o1, rfl, f1⟩ := int_cell hs hlt
        have hi1 : (k : Int) < (x.set.length : Int) := by omega
        clear hs
        cases r with
        | true =>
          go_wp2_with (first
            | (go_at_call 36
               with_reducible refine (plainRef (n := x.set[k])).mono ?_
               rintro e w2 ⟨r, rfl, hr, n, rfl⟩
               have HP := hide hr
               clear hr)
            | fail)
          go_roundw
          case rel =>
            refine ⟨k + 1, _, _, by omega, rfl, by go_num, ?_, rfl⟩
            rw [HP.out]
            have h1 := HR.out.1 trivial
            constructor
            · intro q
              exact ⟨h1.1, plain_next h1.2 hlt q⟩
            · intro q
              exact q.2 _ (List.mem_take_iff_getElem.2 ⟨k, by omega, rfl⟩)
          case measure => simp [intOf]; omega
        | false =>
          go_wp2_with fail
          go_roundw
          case rel =>
            refine ⟨k + 1, _, _, by omega, rfl, by go_num, ?_, rfl⟩
            have h1 := HR.out
            simp only [Bool.false_eq_true, false_iff] at h1 ⊢
            intro q
            refine h1 ⟨q.1, fun v hv => q.2 v ?_⟩
            exact List.take_subset_take_left _ (by omega) hv
          case measure => simp [intOf]; omega
      · have hk2 : k = x.set.length := by omega
        have HP : Hid (r = true ↔ PlainOK x) := hide (by
          rw [HR.out, hk2, List.take_length]
          unfold PlainOK
          exact and_assoc)
        cases r with
        | false =>
          go_wp2_with fail
          go_ret
          refine ⟨?_, HB.out.trans (belowN _ _ _)⟩
          have h1 : ¬ PlainOK x := fun q => by simpa using HP.out.2 q
          simp [numErr, h1]
        | true =>
          have P := hide (HP.out.1 rfl)
          by_cases k2 : x.k = 2
          · have ek : (x.k == 2) = true := by simp [k2]
            have e6 : (x.k == 6) = false := by simp [k2]
            have K2 := hide k2
            clear k2
            by_cases l2 : (x.set.length : Int) < 2
            · go_wp2_with fail
              go_ret
              refine ⟨?_, HB.out.trans (belowN _ _ _)⟩
              have h1 : ¬ NumsOK x := fun q => by have := (q.1 K2.out).1; omega
              simp [numErr, P.out, h1]
            · by_cases l3 : 3 < (x.set.length : Int)
              · go_wp2_with fail
                go_ret
                refine ⟨?_, HB.out.trans (belowN _ _ _)⟩
                have h1 : ¬ NumsOK x := fun q => by have := (q.1 K2.out).2.1; omega
                simp [numErr, P.out, h1]
              · go_wp2_with fail
                go_loopw [5] (fun i wr => ∃ (k : Nat) (n : Nat), 1 ≤ k ∧ k ≤ x.set.length ∧ i = .int .i64 k ∧ RisingTo x.set k ∧ wr = w0.drewN n) (fun i _ => x.set.length - (intOf i).toNat)
                case atStart => exact ⟨1, _, by omega, by omega, rfl, fun i hi h1 j hj e => by omega, rfl⟩
                case round =>
                  obtain ⟨k, nd, hk1, hk, rfl, hr, rfl⟩ := hrel
                  have HR := hide hr
                  clear hr
                  by_cases hlt : k < x.set.length
                  · obtain ⟨j, rfl⟩ : ∃ j, k = j + 1 := ⟨k - 1, by omega⟩
                    have hj : j < x.set.length := by omega
                    obtain ⟨r1, o1, rfl, f1⟩ := int_cell hs hlt
                    obtain ⟨r2, o2, he, f2⟩ := int_cell hs hj
                    simp only [Option.some.injEq, Addr.mk.injEq] at he
                    obtain ⟨rfl, rfl, _⟩ := he
                    have hi1 : ((j + 1 : Nat) : Int) < (x.set.length : Int) := by omega
                    have hi2 : (j : Int) < (x.set.length : Int) := by omega
                    have hd : IntKind.i64.wrap (((j + 1 : Nat) : Int) - 1) = (j : Int) := wrap_downW rfl hlt hls
                    clear hs
                    by_cases he : x.set[j + 1] ≤ x.set[j]
                    · go_wp2_with fail
                      go_quiet (fail)
                      go_wp2_with fail
                      go_ret
                      refine ⟨?_, HB.out.trans ((belowN _ _ _).trans (belowN _ _ _))⟩
                      have h1 : ¬ NumsOK x := fun q => by have := (q.1 K2.out).2.2 (j + 1) hlt j hj rfl; omega
                      simp [numErr, P.out, h1]
                    · go_wp2_with fail
                      go_quiet (fail)
                      go_wp2_with fail
                      go_roundw
                      case rel =>
                        refine ⟨j + 1 + 1, _, by omega, by omega, by go_num, rising_next HR.out hlt (fun i hi e => ?_), rfl⟩
                        obtain rfl : i = j := by omega
                        omega
                      case measure => simp [intOf]; omega
                  · go_wp2_with fail
                    go_ret
                    refine ⟨?_, HB.out.trans (belowN _ _ _)⟩
                    have hk2 : k = x.set.length := by omega
                    have h1 : NumsOK x := ⟨fun _ => ⟨by omega, by omega, rising_all (hk2 ▸ HR.out)⟩, fun q => by have := K2.out; omega⟩
                    simp [numErr, P.out, h1]
          · have ek : (x.k == 2) = false := by simp [k2]
            have K2 := hide k2
            clear k2
            by_cases k6 : x.k = 6
            · have e6 : (x.k == 6) = true := by simp [k6]
              have K6 := hide k6
              clear k6
              by_cases m2 : x.M < 2
              · go_wp2_with fail
                go_ret
                refine ⟨?_, HB.out.trans (belowN _ _ _)⟩
                have h1 : ¬ NumsOK x := fun q => by have := (q.2 K6.out).1; omega
                simp [numErr, P.out, h1]
              · by_cases m3 : x.K < 0
                · go_wp2_with fail
                  go_ret
                  refine ⟨?_, HB.out.trans (belowN _ _ _)⟩
                  have h1 : ¬ NumsOK x := fun q => by have := (q.2 K6.out).2.1; omega
                  simp [numErr, P.out, h1]
                · by_cases m4 : x.M ≤ x.K
                  · go_wp2_with fail
                    go_ret
                    refine ⟨?_, HB.out.trans (belowN _ _ _)⟩
                    have h1 : ¬ NumsOK x := fun q => by have := (q.2 K6.out).2.2; omega
                    simp [numErr, P.out, h1]
                  · go_wp2_with fail
                    go_ret
                    refine ⟨?_, HB.out.trans (belowN _ _ _)⟩
                    have h1 : NumsOK x := ⟨fun q => absurd q K2.out, fun _ => ⟨by omega, by omega, by omega⟩⟩
                    simp [numErr, P.out, h1]
            · have e6 : (x.k == 6) = false := by simp [k6]
              have K6 := hide k6
              clear k6
              go_wp2_with fail
              go_ret
              refine ⟨?_, HB.out.trans (belowN _ _ _)⟩
              have h1 : NumsOK x := ⟨fun q => absurd q K2.out, fun q => absurd q K6.out⟩
              simp [numErr, P.out, h1]
end Go.Proofs.YtdfjjmibhnniiaaGreatDoor.Le

