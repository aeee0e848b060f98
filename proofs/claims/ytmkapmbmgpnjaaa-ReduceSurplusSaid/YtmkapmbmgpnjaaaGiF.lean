import Derived.Test.YtmkapmbmgpnjaaaProg
import Derived.Test.YtmkapmbmgpnjaaaSeA
import Derived.Test.YtmkapmbmgpnjaaaIlB
import Derived.LoopTactic
import Derived.Deep.Draws
import Derived.Deep.QuietTactic
import Derived.Deep.RegionLaw
import Derived.Deep.RegionWith
import Derived.Deep.DeepCutAuto
import Derived.BigQuiet
import Derived.WalkSmall
set_option maxRecDepth 100000
set_option linter.unusedSimpArgs false
set_option linter.unusedVariables false
namespace Go.Proofs.Ytmkapmbmgpnjaaa.Bi
open Go Go.Ms Go.Pg Go.Bi Go.ChangeShapes Go.WideShapes Go.ChangeAt Go.RowKit Go.Deep

theorem hide {p : Prop} (h : p) : Hid p := h
theorem frozen_of {w : World} {b : Nat} {cs : Array Value} {t : TypeId} (h : w.heap[b]? = some (.cells cs t (0, 0))) (i : Nat) : w.frozen? ⟨b, i, none⟩ = false := by simp [World.frozen?, h]
def SetIs (v : Value) (p : Nat → Bool) : Prop := ∃ a b c d : Nat, v = .agg #[.int .u64 a, .int .u64 b, .int .u64 c, .int .u64 d] ∧ a < 2 ^ 64 ∧ b < 2 ^ 64 ∧ c < 2 ^ 64 ∧ d < 2 ^ 64 ∧
  ∀ n, n < 256 → p n = (if n < 64 then a else if n < 128 then b else if n < 192 then c else d).testBit (n % 64)

def asks (v : Value) : Ending := .panicked [{ v := .iface 201 (.agg #[v]), recovered := false }]
def asks4 (a b c d : Nat) : Ending := .panicked [{ v := .iface 201 (.agg #[.int .u64 a, .int .u64 b, .int .u64 c, .int .u64 d]), recovered := false }]

set_option maxHeartbeats 4000000 in
theorem answerNone {w : World} {g : Nat} {a b c d : Nat} (h : Box w g 204 []) :
    Calls Try.prog 140 #[.pointer (some ⟨g, 0, none⟩), .agg #[.int .u64 a, .int .u64 b, .int .u64 c, .int .u64 d]] w fun e w' => e = asks4 a b c d ∧ Below w.heap.size w w' := by
  obtain ⟨tx, an, told, hb, oa, cap, rfl, hlc, hl, q⟩ := h
  have hg := block_lt hb
  obtain ⟨c1, f1⟩ : w.cell? ⟨g, 1, none⟩ = some (.slice oa 0 cap) ∧ w.frozen? ⟨g, 1, none⟩ = false := ⟨by simp [World.cell?, hb], frozen_of hb 1⟩
  clear hb q hl hlc
  go_enter Try.func140, Try.ntmps140
  go_wp2_with fail
  exact ⟨rfl, rfl, (Below.refl _ w).alloc (Nat.le_refl _) _⟩

theorem tail_end {w : World} {g : Nat} {tx old told v : Value} {l : List Int} (hb : w.heap[g]? = some (.cells #[tx, old, told] 204 (0, 0))) (hv : Vs w g v l) (o : Obj) :
    Keeps g w ((w.setCell ⟨g, 1, none⟩ v).alloc o) ∧ Box ((w.setCell ⟨g, 1, none⟩ v).alloc o) g 204 l := by
  have hg := block_lt hb
  have hs : (w.setCell ⟨g, 1, none⟩ v).heap.size = w.heap.size := by simp [World.setCell]
  have K : Keeps g w ((w.setCell ⟨g, 1, none⟩ v).alloc o) := (Keeps.set 1 v).trans (Keeps.of_below (by rw [hs]; exact hg) ((Below.refl _ _).alloc (Nat.le_refl _) o))
  refine ⟨K, tx, v, told, ?_, vs_kept K (Nat.le_refl _) hv⟩
  rw [Below.heap_alloc _ _ _ (by rw [hs]; exact hg)]
  simp [World.setCell, Array.getElem?_modify, hb]

set_option maxHeartbeats 4000000 in
theorem answerSome {w : World} {g : Nat} {a b c d : Nat} {x : Int} {l : List Int} (h : Box w g 204 (x :: l)) :
    Calls Try.prog 140 #[.pointer (some ⟨g, 0, none⟩), .agg #[.int .u64 a, .int .u64 b, .int .u64 c, .int .u64 d]] w fun e w' => e = .returned (.int .u8 x) ∧ Keeps g w w' ∧ Box w' g 204 l := by
  obtain ⟨tx, an, told, hb, hv⟩ := h
  have hg := block_lt hb
  have HV := hide hv
  obtain ⟨oa, cap, rfl, hlc, hl, q⟩ := hv
  obtain ⟨b0, o0, rfl, hlt, r0⟩ := q 0 (by simp)
  simp only [List.getElem_cons_zero, Nat.add_zero] at r0
  simp only [List.length_cons] at hlc hl HV
  have hb0 : b0 < w.heap.size := by omega
  obtain ⟨c1, f1⟩ : w.cell? ⟨g, 1, none⟩ = some (.slice (some ⟨b0, o0, none⟩) (l.length + 1) cap) ∧ w.frozen? ⟨g, 1, none⟩ = false := ⟨by simp [World.cell?, hb], frozen_of hb 1⟩
  have t0 : decide ((l.length : Int) + 1 = 0) = false := decide_eq_false (by omega)
  have HB := hide hb
  clear hb q
  go_enter Try.func140, Try.ntmps140
  go_wp2_with fail
  all_goals (go_ret; exact ⟨rfl, tail_end HB.out (by have := vs_tail HV.out; simpa [sliced, h, Addr.add] using this) _⟩)
end Go.Proofs.Ytmkapmbmgpnjaaa.Bi

set_option maxRecDepth 100000
set_option linter.unusedSimpArgs false
set_option linter.unusedVariables false
namespace Go.Proofs.Ytmkapmbmgpnjaaa.Bi
open Go Go.Ms Go.Pg Go.Bi Go.ChangeShapes Go.WideShapes Go.ChangeAt Go.RowKit Go.Deep

abbrev setV (a b c d : Nat) : Value := .agg #[.int .u64 a, .int .u64 b, .int .u64 c, .int .u64 d]
abbrev boxV (a b c d : Nat) : Obj := .cells #[.int .u64 a, .int .u64 b, .int .u64 c, .int .u64 d] 98 (0, 0)
structure Sp (p : Nat → Bool) (a b c d : Nat) : Prop where
  ha : a < 2 ^ 64
  hb : b < 2 ^ 64
  hc : c < 2 ^ 64
  hd : d < 2 ^ 64
  h0 : ∀ r, r < 64 → p r = a.testBit r
  h1 : ∀ r, r < 64 → p (64 + r) = b.testBit r
  h2 : ∀ r, r < 64 → p (128 + r) = c.testBit r
  h3 : ∀ r, r < 64 → p (192 + r) = d.testBit r

theorem Sp.zero : Sp (fun _ => false) 0 0 0 0 := ⟨by decide, by decide, by decide, by decide, by simp, by simp, by simp, by simp⟩
theorem Sp.congr {p q : Nat → Bool} {a b c d : Nat} (h : Sp p a b c d) (e : ∀ n, n < 256 → p n = q n) : Sp q a b c d :=
  ⟨h.ha, h.hb, h.hc, h.hd, fun r hr => by rw [← e r (by omega)]; exact h.h0 r hr, fun r hr => by rw [← e _ (by omega)]; exact h.h1 r hr, fun r hr => by rw [← e _ (by omega)]; exact h.h2 r hr, fun r hr => by rw [← e _ (by omega)]; exact h.h3 r hr⟩
theorem Sp.or {p q : Nat → Bool} {a b c d e f g k : Nat} (h : Sp p a b c d) (i : Sp q e f g k) : Sp (fun n => p n || q n) (a ||| e) (b ||| f) (c ||| g) (d ||| k) :=
  ⟨Nat.or_lt_two_pow h.ha i.ha, Nat.or_lt_two_pow h.hb i.hb, Nat.or_lt_two_pow h.hc i.hc, Nat.or_lt_two_pow h.hd i.hd,
    fun r hr => by simp only [Nat.testBit_or, ← h.h0 r hr, ← i.h0 r hr], fun r hr => by simp only [Nat.testBit_or, ← h.h1 r hr, ← i.h1 r hr],
    fun r hr => by simp only [Nat.testBit_or, ← h.h2 r hr, ← i.h2 r hr], fun r hr => by simp only [Nat.testBit_or, ← h.h3 r hr, ← i.h3 r hr]⟩
theorem pow_lt {r : Nat} (h : r < 64) : 2 ^ r < 2 ^ 64 := Nat.pow_lt_pow_right (by decide) h
theorem one_bit {n r : Nat} : (2 ^ r).testBit n = (n == r) := by
  rw [Nat.testBit_two_pow]
  by_cases e : r = n
  · subst e; simp
  · rw [decide_eq_false e]
    exact (beq_false_of_ne fun q => e q.symm).symm
theorem Sp.one0 {r : Nat} (h : r < 64) : Sp (fun i => i == r) (2 ^ r) 0 0 0 :=
  ⟨pow_lt h, by decide, by decide, by decide, fun i hi => one_bit.symm, fun i hi => by simp; omega, fun i hi => by simp; omega, fun i hi => by simp; omega⟩
theorem Sp.one1 {r : Nat} (h : r < 64) : Sp (fun i => i == 64 + r) 0 (2 ^ r) 0 0 :=
  ⟨by decide, pow_lt h, by decide, by decide, fun i hi => by simp; omega, fun i hi => by rw [one_bit, Bool.eq_iff_iff, beq_iff_eq, beq_iff_eq]; omega, fun i hi => by simp; omega, fun i hi => by simp; omega⟩
theorem Sp.one2 {r : Nat} (h : r < 64) : Sp (fun i => i == 128 + r) 0 0 (2 ^ r) 0 :=
  ⟨by decide, by decide, pow_lt h, by decide, fun i hi => by simp; omega, fun i hi => by simp; omega, fun i hi => by rw [one_bit, Bool.eq_iff_iff, beq_iff_eq, beq_iff_eq]; omega, fun i hi => by simp; omega⟩
theorem Sp.one3 {r : Nat} (h : r < 64) : Sp (fun i => i == 192 + r) 0 0 0 (2 ^ r) :=
  ⟨by decide, by decide, by decide, pow_lt h, fun i hi => by simp; omega, fun i hi => by simp; omega, fun i hi => by simp; omega, fun i hi => by rw [one_bit, Bool.eq_iff_iff, beq_iff_eq, beq_iff_eq]; omega⟩
theorem Sp.put0 {p : Nat → Bool} {a b c d r : Nat} (h : Sp p a b c d) (hr : r < 64) : Sp (fun i => p i || i == r) (a ||| 2 ^ r) b c d := by simpa using h.or (Sp.one0 hr)
theorem Sp.put1 {p : Nat → Bool} {a b c d r : Nat} (h : Sp p a b c d) (hr : r < 64) : Sp (fun i => p i || i == 64 + r) a (b ||| 2 ^ r) c d := by simpa using h.or (Sp.one1 hr)
theorem Sp.put2 {p : Nat → Bool} {a b c d r : Nat} (h : Sp p a b c d) (hr : r < 64) : Sp (fun i => p i || i == 128 + r) a b (c ||| 2 ^ r) d := by simpa using h.or (Sp.one2 hr)
theorem Sp.put3 {p : Nat → Bool} {a b c d r : Nat} (h : Sp p a b c d) (hr : r < 64) : Sp (fun i => p i || i == 192 + r) a b c (d ||| 2 ^ r) := by simpa using h.or (Sp.one3 hr)

theorem wraps_u64 (n : Int) (h0 : 0 ≤ n) (h1 : n < 2 ^ 64) : IntKind.u64.wrap n = n := by
  simp [IntKind.wrap, IntKind.signed, IntKind.bits]
  omega
theorem bitAt {x n : Nat} (hx : x < 2 ^ 64) (hn : n < 64) : (bits .and .u64 ((x : Int) / 2 ^ min n 64) 1 == 1) = x.testBit n := by
  have e : ((x : Int) / 2 ^ min n 64) = ((x / 2 ^ n : Nat) : Int) := by
    rw [Nat.min_eq_left (by omega)]
    simp
  have hlt : x / 2 ^ n < 2 ^ 64 := Nat.lt_of_le_of_lt (Nat.div_le_self _ _) hx
  have h := bits_mask .u64 64 (by decide) wraps_u64 1 (by decide) (((x / 2 ^ n : Nat) : Int)) (Int.natCast_nonneg _) (by exact_mod_cast hlt)
  have h1 : ((2 : Int) ^ 1 - 1) = 1 := by decide
  rw [h1] at h
  rw [e, h, Nat.testBit_eq_decide_div_mod_eq]
  have h2 : ((x / 2 ^ n : Nat) : Int) % 2 ^ 1 = ((x / 2 ^ n % 2 : Nat) : Int) := by simp
  rw [h2]
  rw [Bool.eq_iff_iff]
  simp only [beq_iff_eq, decide_eq_true_iff]
  omega
theorem orAt {x y : Nat} (hx : x < 2 ^ 64) (hy : y < 2 ^ 64) : bits .or .u64 (x : Int) (y : Int) = ((x ||| y : Nat) : Int) := (bits_nat .u64 64 (by decide) wraps_u64 x y hx hy).2
theorem shlAt {n : Nat} (hn : n < 64) : IntKind.u64.wrap (2 ^ min n 64) = ((2 ^ n : Nat) : Int) := by
  rw [Nat.min_eq_left (by omega)]
  have h : (2 : Nat) ^ n < 2 ^ 64 := pow_lt hn
  have h2 : ((2 : Int) ^ n) = ((2 ^ n : Nat) : Int) := by simp
  rw [h2, wraps_u64 _ (Int.natCast_nonneg _) (by exact_mod_cast h)]
theorem quo64 (n : Nat) : (n : Int).tdiv 64 = ((n / 64 : Nat) : Int) := by
  rw [Int.tdiv_eq_ediv_of_nonneg (Int.natCast_nonneg _)]
  omega
theorem rem64 (n : Nat) : (n : Int).tmod 64 = ((n % 64 : Nat) : Int) := by
  rw [Int.tmod_eq_emod_of_nonneg (Int.natCast_nonneg _)]
  omega
theorem place {n : Nat} (h : n < 256) : ∃ r : Nat, r < 64 ∧ (n : Int).tmod 64 = (r : Int) ∧ ((n = r ∧ (n : Int).tdiv 64 = 0) ∨ (n = 64 + r ∧ (n : Int).tdiv 64 = 1) ∨ (n = 128 + r ∧ (n : Int).tdiv 64 = 2) ∨ (n = 192 + r ∧ (n : Int).tdiv 64 = 3)) := by
  refine ⟨n % 64, by omega, rem64 n, ?_⟩
  rw [quo64]
  omega

set_option maxHeartbeats 4000000 in
theorem hasSet {w : World} {p : Nat → Bool} {a b c d n : Nat} (h : Sp p a b c d) (hn : n < 256) :
    Calls Try.prog 73 #[setV a b c d, .int .i64 n] w fun e w' => e = .returned (.bool (p n)) ∧ Below w.heap.size w w' := by
  obtain ⟨r, hr, e2, q⟩ := place hn
  have H := hide h
  have HR := hide hr
  rcases q with ⟨q, e1⟩ | ⟨q, e1⟩ | ⟨q, e1⟩ | ⟨q, e1⟩
  · have HB := hide ((bitAt h.ha hr).trans ((h.h0 r hr).symm.trans (congrArg p q.symm)))
    clear h hr q hn
    go_enter Try.func73, Try.ntmps73
    go_wp2_with fail
    go_ret
    exact ⟨congrArg (fun b => Ending.returned (.bool b)) HB.out, (Below.refl _ w).alloc (Nat.le_refl _) _⟩
  · have HB := hide ((bitAt h.hb hr).trans ((h.h1 r hr).symm.trans (congrArg p q.symm)))
    clear h hr q hn
    go_enter Try.func73, Try.ntmps73
    go_wp2_with fail
    go_ret
    exact ⟨congrArg (fun b => Ending.returned (.bool b)) HB.out, (Below.refl _ w).alloc (Nat.le_refl _) _⟩
  · have HB := hide ((bitAt h.hc hr).trans ((h.h2 r hr).symm.trans (congrArg p q.symm)))
    clear h hr q hn
    go_enter Try.func73, Try.ntmps73
    go_wp2_with fail
    go_ret
    exact ⟨congrArg (fun b => Ending.returned (.bool b)) HB.out, (Below.refl _ w).alloc (Nat.le_refl _) _⟩
  · have HB := hide ((bitAt h.hd hr).trans ((h.h3 r hr).symm.trans (congrArg p q.symm)))
    clear h hr q hn
    go_enter Try.func73, Try.ntmps73
    go_wp2_with fail
    go_ret
    exact ⟨congrArg (fun b => Ending.returned (.bool b)) HB.out, (Below.refl _ w).alloc (Nat.le_refl _) _⟩

def putV (w : World) (B a b c d : Nat) : World := (((w.setCell ⟨B, 0, none⟩ (.int .u64 a)).setCell ⟨B, 1, none⟩ (.int .u64 b)).setCell ⟨B, 2, none⟩ (.int .u64 c)).setCell ⟨B, 3, none⟩ (.int .u64 d)
theorem putV_block {w : World} {B a b c d e f g h : Nat} (q : w.heap[B]? = some (boxV a b c d)) : (putV w B e f g h).heap[B]? = some (boxV e f g h) := by
  have h0 := heap_setCell_same _ B 0 _ 98 (.int .u64 e) q
  have h1 := heap_setCell_same _ B 1 _ 98 (.int .u64 f) h0
  have h2 := heap_setCell_same _ B 2 _ 98 (.int .u64 g) h1
  have h3 := heap_setCell_same _ B 3 _ 98 (.int .u64 h) h2
  refine h3.trans ?_
  simp [boxV]
theorem putV_below {C B a b c d : Nat} {w0 w : World} (h : Below C w0 w) (hB : C ≤ B) : Below C w0 (putV w B a b c d) :=
  (((h.setCell (p := ⟨B, 0, none⟩) hB _).setCell (p := ⟨B, 1, none⟩) hB _).setCell (p := ⟨B, 2, none⟩) hB _).setCell (p := ⟨B, 3, none⟩) hB _
theorem putV_other {w : World} {B a b c d k : Nat} (h : k ≠ B) : (putV w B a b c d).heap[k]? = w.heap[k]? := by
  unfold putV
  rw [Below.heap_setCell _ _ _ _ h, Below.heap_setCell _ _ _ _ h, Below.heap_setCell _ _ _ _ h, Below.heap_setCell _ _ _ _ h]
theorem putV_size {w : World} {B a b c d : Nat} : (putV w B a b c d).heap.size = w.heap.size := by simp [putV]
theorem final8 {P : Exit → Act → World → Prop} {x : Exit} {a : Act} {w X : World} (e : w = X) (h : P x a X) : P x a w := by subst e; exact h
theorem box_cells {w : World} {B a b c d : Nat} (h : w.heap[B]? = some (boxV a b c d)) : w.cell? ⟨B, 0, none⟩ = some (.int .u64 (a : Int)) ∧ w.cell? ⟨B, 1, none⟩ = some (.int .u64 (b : Int)) ∧ w.cell? ⟨B, 2, none⟩ = some (.int .u64 (c : Int)) ∧ w.cell? ⟨B, 3, none⟩ = some (.int .u64 (d : Int)) :=
  ⟨cell_of h 0, cell_of h 1, cell_of h 2, cell_of h 3⟩
theorem set0 {w : World} {B a b c d z : Nat} (h : w.heap[B]? = some (boxV a b c d)) : (w.setCell ⟨B, 0, none⟩ (.int .u64 z)).drew.heap[B]? = some (boxV z b c d) := by
  refine (heap_setCell_same _ B 0 _ 98 (.int .u64 z) h).trans ?_
  simp [boxV]
theorem set1 {w : World} {B a b c d z : Nat} (h : w.heap[B]? = some (boxV a b c d)) : (w.setCell ⟨B, 1, none⟩ (.int .u64 z)).drew.heap[B]? = some (boxV a z c d) := by
  refine (heap_setCell_same _ B 1 _ 98 (.int .u64 z) h).trans ?_
  simp [boxV]
theorem set2 {w : World} {B a b c d z : Nat} (h : w.heap[B]? = some (boxV a b c d)) : (w.setCell ⟨B, 2, none⟩ (.int .u64 z)).drew.heap[B]? = some (boxV a b z d) := by
  refine (heap_setCell_same _ B 2 _ 98 (.int .u64 z) h).trans ?_
  simp [boxV]
theorem set3 {w : World} {B a b c d z : Nat} (h : w.heap[B]? = some (boxV a b c d)) : (w.setCell ⟨B, 3, none⟩ (.int .u64 z)).drew.heap[B]? = some (boxV a b c z) := by
  refine (heap_setCell_same _ B 3 _ 98 (.int .u64 z) h).trans ?_
  simp [boxV]
theorem setO {w : World} {B i k : Nat} {u : Value} {o : Obj} (h : w.heap[k]? = some o) (hk : k ≠ B) : (w.setCell ⟨B, i, none⟩ u).drew.heap[k]? = some o :=
  (Below.heap_setCell w ⟨B, i, none⟩ u k hk).trans h
theorem alloc_at {w : World} {o : Obj} {B : Nat} (h : w.heap.size = B) : (w.alloc o).heap[B]? = some o := by subst h; exact new_block w o
end Go.Proofs.Ytmkapmbmgpnjaaa.Bi

set_option maxRecDepth 100000
set_option linter.unusedSimpArgs false
set_option linter.unusedVariables false
namespace Go.Proofs.Ytmkapmbmgpnjaaa.Bi
open Go Go.Ms Go.Pg Go.Bi Go.ChangeShapes Go.WideShapes Go.ChangeAt Go.RowKit Go.Deep

def Nats (w : World) (v : Value) (xs : List Nat) : Prop := ∃ oa cap, v = .slice oa xs.length cap ∧ xs.length ≤ 9223372036854775807 ∧ ∀ i (h : i < xs.length), ∃ b o, oa = some ⟨b, o, none⟩ ∧ w.cell? ⟨b, o + i, none⟩ = some (.int .i64 (xs[i] : Int))
theorem wrap_in {z : Int} (h0 : -1000000 ≤ z) (h : z ≤ 1000000) : IntKind.i64.wrap z = z := by
  simp [IntKind.wrap, IntKind.signed, IntKind.bits]
  omega
theorem wrap_upW {k n : Nat} (h : k < n) (hn : n ≤ 9223372036854775807) : IntKind.i64.wrap ((k : Int) + 1) = (k : Int) + 1 := by
  simp [IntKind.wrap, IntKind.signed, IntKind.bits]
  omega
def among (xs : List Nat) (n : Nat) : Bool := decide (n ∈ xs)
theorem among_next {xs : List Nat} {k : Nat} (h : k < xs.length) (n : Nat) : (among (xs.take k) n || n == xs[k]) = among (xs.take (k + 1)) n := by
  unfold among
  rw [List.take_succ_eq_append_getElem h, Bool.eq_iff_iff]
  simp only [Bool.or_eq_true, decide_eq_true_eq, beq_iff_eq, List.mem_append, List.mem_singleton]
theorem cell_old {w w' : World} (h : Below w.heap.size w w') {b o : Nat} {v : Value} (hc : w.cell? ⟨b, o, none⟩ = some v) : w'.cell? ⟨b, o, none⟩ = some v := by
  have hb : b < w.heap.size := by
    by_cases q : b < w.heap.size
    · exact q
    · simp [World.cell?, Array.getElem?_eq_none (Nat.le_of_not_lt q)] at hc
  exact (h.cell (p := ⟨b, o, none⟩) hb).trans hc

set_option maxHeartbeats 8000000 in
theorem setOfProg {w : World} {v : Value} {xs : List Nat} (h : Nats w v xs) (hx : ∀ n ∈ xs, n < 256) :
    Calls Try.prog 77 #[v] w fun e w' => ∃ a b c d, e = .returned (setV a b c d) ∧ Sp (among xs) a b c d ∧ Below w.heap.size w w' := by
  obtain ⟨oa, cap, rfl, hl, hc⟩ := h
  have HC := hide hc
  have HX := hide hx
  clear hc hx
  go_enter Try.func77, Try.ntmps77
  go_wp2_with fail
  go_loopw [8] (fun i wr => ∃ k : Nat, k ≤ xs.length ∧ i = .int .i64 (k : Int) ∧ Below w.heap.size w wr ∧ wr.heap[w.heap.size]? = some (boxV 0 0 0 0) ∧ ∃ a b c d, Sp (among (xs.take k)) a b c d ∧ wr.heap[w.heap.size + 1]? = some (boxV a b c d)) (fun i _ => xs.length - (intOf i).toNat)
  case atStart => exact ⟨0, Nat.zero_le _, rfl, ((Below.refl _ w).alloc (Nat.le_refl _) _).alloc (by simp) _, old_block (new_block w _) _, 0, 0, 0, 0, Sp.zero.congr (by simp [among]), alloc_at (by simp)⟩
  case round =>
    obtain ⟨k, hk, rfl, hB, hb0, a, b, c, d, hp, hb1⟩ := hrel
    have HB := hide hB
    have H0 := hide hb0
    have H1 := hide hb1
    have HP := hide hp
    clear hB hb0 hb1 hp
    by_cases hlt : k < xs.length
    · have hi : (k : Int) < (xs.length : Int) := by omega
      obtain ⟨bb, o, rfl, f0⟩ := HC.out k hlt
      have f := cell_old HB.out f0
      clear f0
      have hw := wrap_upW hlt hl
      have HN := hide (HX.out xs[k] (List.getElem_mem hlt))
      have HT := hide (among_next hlt)
      generalize xs[k] = n at *
      obtain ⟨r, hr, e2, q⟩ := place HN.out
      have e3 := shlAt hr
      have HR := hide hr
      obtain ⟨p, hpw⟩ : ∃ p, p = 2 ^ r := ⟨_, rfl⟩
      rw [← hpw] at e3
      have HPW := hide hpw
      have hpl : p < 2 ^ 64 := by rw [hpw]; exact pow_lt hr
      clear hr hpw
      rcases q with ⟨q, e1⟩ | ⟨q, e1⟩ | ⟨q, e1⟩ | ⟨q, e1⟩
      · have HQ := hide q
        have e4 := orAt HP.out.ha hpl
        clear q hpl
        have q1 : wr.cell? ⟨w.heap.size + 1, 0, none⟩ = some (.int .u64 (a : Int)) := cell_of H1.out 0
        have q3 := frozen_of H1.out 0
        go_wp2_with fail
        go_region
        all_goals
          go_wp2
          refine ⟨⟨k + 1, by omega, by go_num, Below.drew (HB.out.setCell (p := ⟨w.heap.size + 1, 0, none⟩) (by simp) _), setO H0.out (by omega), a ||| p, b, c, d, (by rw [HPW.out]; exact (HP.out.put0 HR.out).congr fun m _ => by rw [← HT.out m, HQ.out]), set0 H1.out⟩, by simp [intOf]; omega⟩
      · have HQ := hide q
        have e4 := orAt HP.out.hb hpl
        clear q hpl
        have q1 : wr.cell? ⟨w.heap.size + 1, 1, none⟩ = some (.int .u64 (b : Int)) := cell_of H1.out 1
        have q3 := frozen_of H1.out 1
        go_wp2_with fail
        go_region
        all_goals
          go_wp2
          refine ⟨⟨k + 1, by omega, by go_num, Below.drew (HB.out.setCell (p := ⟨w.heap.size + 1, 1, none⟩) (by simp) _), setO H0.out (by omega), a, b ||| p, c, d, (by rw [HPW.out]; exact (HP.out.put1 HR.out).congr fun m _ => by rw [← HT.out m, HQ.out]), set1 H1.out⟩, by simp [intOf]; omega⟩
      · have HQ := hide q
        have e4 := orAt HP.out.hc hpl
        clear q hpl
        have q1 : wr.cell? ⟨w.heap.size + 1, 2, none⟩ = some (.int .u64 (c : Int)) := cell_of H1.out 2
        have q3 := frozen_of H1.out 2
        go_wp2_with fail
        go_region
        all_goals
          go_wp2
          refine ⟨⟨k + 1, by omega, by go_num, Below.drew (HB.out.setCell (p := ⟨w.heap.size + 1, 2, none⟩) (by simp) _), setO H0.out (by omega), a, b, c ||| p, d, (by rw [HPW.out]; exact (HP.out.put2 HR.out).congr fun m _ => by rw [← HT.out m, HQ.out]), set2 H1.out⟩, by simp [intOf]; omega⟩
      · have HQ := hide q
        have e4 := orAt HP.out.hd hpl
        clear q hpl
        have q1 : wr.cell? ⟨w.heap.size + 1, 3, none⟩ = some (.int .u64 (d : Int)) := cell_of H1.out 3
        have q3 := frozen_of H1.out 3
        go_wp2_with fail
        go_region
        all_goals
          go_wp2
          refine ⟨⟨k + 1, by omega, by go_num, Below.drew (HB.out.setCell (p := ⟨w.heap.size + 1, 3, none⟩) (by simp) _), setO H0.out (by omega), a, b, c, d ||| p, (by rw [HPW.out]; exact (HP.out.put3 HR.out).congr fun m _ => by rw [← HT.out m, HQ.out]), set3 H1.out⟩, by simp [intOf]; omega⟩
    · obtain rfl : k = xs.length := by omega
      rw [List.take_length] at HP
      obtain ⟨q1, q2, q3, q4⟩ := box_cells H1.out
      obtain ⟨r1, r2, r3, r4⟩ := box_cells H0.out
      have s1 := frozen_of H0.out 0
      have s2 := frozen_of H0.out 1
      have s3 := frozen_of H0.out 2
      have s4 := frozen_of H0.out 3
      go_wp2_with fail
      refine final8 (X := putV wr w.heap.size a b c d) rfl ?_
      have HV := hide (putV_block (e := a) (f := b) (g := c) (h := d) H0.out)
      have HQ := hide (putV_below (a := a) (b := b) (c := c) (d := d) HB.out (B := w.heap.size) (Nat.le_refl _))
      generalize putV wr w.heap.size a b c d = X at *
      obtain ⟨x0, x1, x2, x3⟩ := box_cells HV.out
      refine bodyPost_ret (v := setV a b c d) (by simp [results, Try.results77, go_sem, x0, x1, x2, x3]) rfl ?_
      exact ⟨a, b, c, d, rfl, HP.out, HQ.out⟩

set_option maxHeartbeats 8000000 in
theorem withSet {w : World} {p q : Nat → Bool} {a b c d a' b' c' d' : Nat} (h : Sp p a b c d) (g : Sp q a' b' c' d') :
    Calls Try.prog 81 #[setV a b c d, setV a' b' c' d'] w fun e w' => e = .returned (setV (a ||| a') (b ||| b') (c ||| c') (d ||| d')) ∧ Below w.heap.size w w' := by
  have h0 := orAt h.ha g.ha
  have h1 := orAt h.hb g.hb
  have h2 := orAt h.hc g.hc
  have h3 := orAt h.hd g.hd
  clear h g
  go_enter Try.func81, Try.ntmps81
  go_wp2_with fail
  go_loopw [6] (fun i wr => ∃ k z0 z1 z2 z3 : Nat, k ≤ 4 ∧ i = .int .i64 (k : Int) ∧ Hid (z0 = (if 0 < k then a ||| a' else a) ∧ z1 = (if 1 < k then b ||| b' else b) ∧ z2 = (if 2 < k then c ||| c' else c) ∧ z3 = (if 3 < k then d ||| d' else d)) ∧ Below w.heap.size w wr ∧ wr.heap[w.heap.size]? = some (boxV z0 z1 z2 z3) ∧ wr.heap[w.heap.size + 1]? = some (boxV a' b' c' d') ∧ wr.heap[w.heap.size + 1 + 1]? = some (boxV 0 0 0 0)) (fun i _ => 4 - (intOf i).toNat)
  case atStart => exact ⟨0, a, b, c, d, by omega, rfl, hide ⟨rfl, rfl, rfl, rfl⟩, (((Below.refl _ w).alloc (Nat.le_refl _) _).alloc (by simp) _).alloc (by simp; omega) _, old_block (old_block (new_block w _) _) _, old_block (alloc_at (by simp)) _, alloc_at (by simp)⟩
  case round =>
    obtain ⟨k, z0, z1, z2, z3, hk, rfl, hz, hB, hb0, hb1, hb2⟩ := hrel
    have HB := hide hB
    have H0 := hide hb0
    have H1 := hide hb1
    have H2 := hide hb2
    clear hB hb0 hb1 hb2
    have hc : k = 0 ∨ k = 1 ∨ k = 2 ∨ k = 3 ∨ k = 4 := by omega
    rcases hc with rfl | rfl | rfl | rfl | rfl
    · obtain ⟨g0, g1, g2, g3⟩ : z0 = a ∧ z1 = b ∧ z2 = c ∧ z3 = d := by simpa using hz.out
      rw [g0, g1, g2, g3] at H0
      clear hz g0 g1 g2 g3
      have q1 : wr.cell? ⟨w.heap.size, 0, none⟩ = some (.int .u64 (a : Int)) := cell_of H0.out 0
      have q2 : wr.cell? ⟨w.heap.size + 1, 0, none⟩ = some (.int .u64 (a' : Int)) := cell_of H1.out 0
      have q3 := frozen_of H0.out 0
      go_wp2_with fail
      go_region
      all_goals
        go_wp2
        exact ⟨⟨1, a ||| a', b, c, d, by omega, rfl, hide (by simp), Below.drew (HB.out.setCell (p := ⟨w.heap.size, 0, none⟩) (Nat.le_refl _) _), set0 H0.out, setO H1.out (by omega), setO H2.out (by omega)⟩, by simp [intOf]⟩
    · obtain ⟨g0, g1, g2, g3⟩ : z0 = a ||| a' ∧ z1 = b ∧ z2 = c ∧ z3 = d := by simpa using hz.out
      rw [g0, g1, g2, g3] at H0
      clear hz g0 g1 g2 g3
      have q1 : wr.cell? ⟨w.heap.size, 1, none⟩ = some (.int .u64 (b : Int)) := cell_of H0.out 1
      have q2 : wr.cell? ⟨w.heap.size + 1, 1, none⟩ = some (.int .u64 (b' : Int)) := cell_of H1.out 1
      have q3 := frozen_of H0.out 1
      go_wp2_with fail
      go_region
      all_goals
        go_wp2
        exact ⟨⟨2, a ||| a', b ||| b', c, d, by omega, rfl, hide (by simp), Below.drew (HB.out.setCell (p := ⟨w.heap.size, 1, none⟩) (Nat.le_refl _) _), set1 H0.out, setO H1.out (by omega), setO H2.out (by omega)⟩, by simp [intOf]⟩
    · obtain ⟨g0, g1, g2, g3⟩ : z0 = a ||| a' ∧ z1 = b ||| b' ∧ z2 = c ∧ z3 = d := by simpa using hz.out
      rw [g0, g1, g2, g3] at H0
      clear hz g0 g1 g2 g3
      have q1 : wr.cell? ⟨w.heap.size, 2, none⟩ = some (.int .u64 (c : Int)) := cell_of H0.out 2
      have q2 : wr.cell? ⟨w.heap.size + 1, 2, none⟩ = some (.int .u64 (c' : Int)) := cell_of H1.out 2
      have q3 := frozen_of H0.out 2
      go_wp2_with fail
      go_region
      all_goals
        go_wp2
        exact ⟨⟨3, a ||| a', b ||| b', c ||| c', d, by omega, rfl, hide (by simp), Below.drew (HB.out.setCell (p := ⟨w.heap.size, 2, none⟩) (Nat.le_refl _) _), set2 H0.out, setO H1.out (by omega), setO H2.out (by omega)⟩, by simp [intOf]⟩
    · obtain ⟨g0, g1, g2, g3⟩ : z0 = a ||| a' ∧ z1 = b ||| b' ∧ z2 = c ||| c' ∧ z3 = d := by simpa using hz.out
      rw [g0, g1, g2, g3] at H0
      clear hz g0 g1 g2 g3
      have q1 : wr.cell? ⟨w.heap.size, 3, none⟩ = some (.int .u64 (d : Int)) := cell_of H0.out 3
      have q2 : wr.cell? ⟨w.heap.size + 1, 3, none⟩ = some (.int .u64 (d' : Int)) := cell_of H1.out 3
      have q3 := frozen_of H0.out 3
      go_wp2_with fail
      go_region
      all_goals
        go_wp2
        exact ⟨⟨4, a ||| a', b ||| b', c ||| c', d ||| d', by omega, rfl, hide (by simp), Below.drew (HB.out.setCell (p := ⟨w.heap.size, 3, none⟩) (Nat.le_refl _) _), set3 H0.out, setO H1.out (by omega), setO H2.out (by omega)⟩, by simp [intOf]⟩
    · obtain ⟨g0, g1, g2, g3⟩ : z0 = a ||| a' ∧ z1 = b ||| b' ∧ z2 = c ||| c' ∧ z3 = d ||| d' := by simpa using hz.out
      rw [g0, g1, g2, g3] at H0
      clear hz g0 g1 g2 g3
      obtain ⟨q1, q2, q3, q4⟩ := box_cells H0.out
      obtain ⟨r1, r2, r3, r4⟩ := box_cells H2.out
      have s1 := frozen_of H2.out 0
      have s2 := frozen_of H2.out 1
      have s3 := frozen_of H2.out 2
      have s4 := frozen_of H2.out 3
      go_wp2_with fail
      refine final8 (X := putV wr (w.heap.size + 1 + 1) (a ||| a') (b ||| b') (c ||| c') (d ||| d')) rfl ?_
      have HV := hide (putV_block (e := a ||| a') (f := b ||| b') (g := c ||| c') (h := d ||| d') H2.out)
      have HQ := hide (putV_below (a := a ||| a') (b := b ||| b') (c := c ||| c') (d := d ||| d') HB.out (B := w.heap.size + 1 + 1) (by omega))
      generalize putV wr (w.heap.size + 1 + 1) (a ||| a') (b ||| b') (c ||| c') (d ||| d') = X at *
      obtain ⟨x0, x1, x2, x3⟩ := box_cells HV.out
      refine bodyPost_ret (v := setV (a ||| a') (b ||| b') (c ||| c') (d ||| d')) (by simp [results, Try.results81, go_sem, x0, x1, x2, x3]) rfl ?_
      exact ⟨rfl, HQ.out⟩
end Go.Proofs.Ytmkapmbmgpnjaaa.Bi

set_option maxRecDepth 100000
set_option linter.unusedSimpArgs false
set_option linter.unusedVariables false
namespace Go.Proofs.Ytmkapmbmgpnjaaa.Bi
open Go Go.Ms Go.Pg Go.Bi Go.ChangeShapes Go.WideShapes Go.ChangeAt Go.RowKit Go.Deep

def Told (g v : Nat) (w : World) : Option (Int × List Int) → Ending → World → Prop
  | none, e, w' => ∃ a b c d, e = asks4 a b c d ∧ Sp (among [v]) a b c d ∧ Keeps g w w'
  | some (x, r), e, w' => e = .returned (.int .u8 x) ∧ Keeps g w w' ∧ Box w' g 204 r

theorem box_kept {w w' : World} {g : Nat} {l : List Int} (h : Box w g 204 l) (hB : Below w.heap.size w w') : Box w' g 204 l := by
  obtain ⟨tx, an, told, hb, hv⟩ := h
  have hg := block_lt hb
  exact ⟨tx, an, told, (hB.block g hg).trans hb, vs_kept (Keeps.of_below hg hB) (Nat.le_refl _) hv⟩
theorem box_lt {w : World} {g : Nat} {l : List Int} (h : Box w g 204 l) : g < w.heap.size := by
  obtain ⟨tx, an, told, hb, hv⟩ := h
  exact block_lt hb
theorem ver_cons2 {t : Nat} {v : Int} {l : List Int} : ver (t + 1) v (2 :: l) = some (2, l) := by simp [ver]
theorem ver_cons1 {t : Nat} {v : Int} {l : List Int} : ver (t + 1) v (1 :: l) = ver t 1 l := by simp [ver]
theorem ver_cons {t : Nat} {v x : Int} {l : List Int} (h2 : x ≠ 2) (h1 : x ≠ 1) : ver (t + 1) v (x :: l) = ver t v l := by simp [ver, h1, h2]
theorem nats_one {w : World} {B v : Nat} (hc : w.cell? ⟨B, 0, none⟩ = some (.int .i64 (v : Int))) : Nats w (.slice (some ⟨B, 0, none⟩) 1 1) [v] :=
  ⟨_, _, rfl, by simp, fun i hi => by
    obtain rfl : i = 0 := by simpa using hi
    exact ⟨B, 0, rfl, by simpa using hc⟩⟩

set_option maxHeartbeats 8000000 in
theorem verdictProg {w : World} {g v : Nat} {z : Int} {l : List Int} (h : Box w g 204 l) (hv : v < 256) :
    Calls Try.prog 80 #[.pointer (some ⟨g, 0, none⟩), .int .i64 (v : Int), .int .i64 z] w (Told g v w (ver (tries z) 3 l)) := by
  have HB0 := hide h
  have HV := hide hv
  obtain ⟨M, hM⟩ : ∃ M, (if z < 1 then (1 : Int) else z) = M := ⟨_, rfl⟩
  have hT : (if 9 < M then (9 : Int) else M) = (tries z : Int) := by unfold tries; rw [← hM]; split <;> split <;> omega
  have h9 := (tries_pos z).2
  generalize tries z = T at *
  clear h hv
  go_enter Try.func80, Try.ntmps80
  go_wp2_with fail
  go_loopw [7, 11] (fun s i wr => ∃ (k : Nat) (x : Int) (m : List Int), k ≤ T ∧ s = .int .u8 x ∧ i = .int .i64 (k : Int) ∧ Hid (ver (T - k) x m = ver T 3 l) ∧ Keeps g w wr ∧ Box wr g 204 m) (fun _ i _ => T - (intOf i).toNat)
  case atStart => exact ⟨0, 3, l, Nat.zero_le _, rfl, rfl, hide rfl, Keeps.refl g w, HB0.out⟩
  case round =>
    obtain ⟨k, x, m, hk, rfl, rfl, hr, hK, hb⟩ := hrel
    have HK := hide hK
    have HB := hide hb
    clear hK hb
    by_cases hlt : k < T
    · have hi : (k : Int) < (T : Int) := by omega
      have hw : IntKind.i64.wrap ((k : Int) + 1) = (k : Int) + 1 := wrap_in (by omega) (by omega)
      obtain ⟨j, hj⟩ : ∃ j, T - k = j + 1 := ⟨T - k - 1, by omega⟩
      rw [hj] at hr
      have HR := hide hr.out
      clear hr
      have hsz : g < wr.heap.size := box_lt HB.out
      cases m with
      | nil =>
        go_wp2_with (first
          | (go_at_call 77
             (with_reducible refine (setOfProg (xs := [v]) (nats_one (B := wr.heap.size) (v := v) (by simp)) (by intro n hn; rw [List.mem_singleton] at hn; rw [hn]; exact HV.out)).mono ?_)
             rintro e w1 ⟨a, b, c, d, rfl, hp, hB1⟩
             have HP := hide hp
             have hB1' := ((Below.refl wr.heap.size wr).alloc (Nat.le_refl _) _).trans (hB1.mono (by simp))
             have HB1 := hide hB1'
             have HX1 := hide (box_kept HB.out hB1')
             clear hp hB1 hB1')
          | (go_at_call 140
             (with_reducible refine (answerNone HX1.out).mono ?_)
             rintro e w2 ⟨rfl, hB2⟩
             unfold asks4
             have HB2 := hide hB2
             clear hB2)
          | fail)
        refine ⟨rfl, ?_⟩
        rw [← HR.out]
        exact ⟨a, b, c, d, rfl, HP.out, HK.out.trans (Keeps.of_below hsz (HB1.out.trans (HB2.out.mono HB1.out.size)))⟩
      | cons y m =>
        by_cases y2 : y = 2
        · subst y2
          rw [ver_cons2] at HR
          go_wp2_with (first
            | (go_at_call 77
               (with_reducible refine (setOfProg (xs := [v]) (nats_one (B := wr.heap.size) (v := v) (by simp)) (by intro n hn; rw [List.mem_singleton] at hn; rw [hn]; exact HV.out)).mono ?_)
               rintro e w1 ⟨a, b, c, d, rfl, hp, hB1⟩
               have hB1' := ((Below.refl wr.heap.size wr).alloc (Nat.le_refl _) _).trans (hB1.mono (by simp))
               have HB1 := hide hB1'
               have HX1 := hide (box_kept HB.out hB1')
               clear hp hB1 hB1')
            | (go_at_call 140
               (with_reducible refine (answerSome HX1.out).mono ?_)
               rintro e w2 ⟨rfl, hK2, hX2⟩
               have HK2 := hide hK2
               have HX2 := hide hX2
               clear hK2 hX2)
            | fail)
          go_ret
          rw [← HR.out]
          exact ⟨rfl, HK.out.trans ((Keeps.of_below hsz HB1.out).trans HK2.out), HX2.out⟩
        · by_cases y1 : y = 1
          · subst y1
            rw [ver_cons1] at HR
            go_wp2_with (first
              | (go_at_call 77
                 (with_reducible refine (setOfProg (xs := [v]) (nats_one (B := wr.heap.size) (v := v) (by simp)) (by intro n hn; rw [List.mem_singleton] at hn; rw [hn]; exact HV.out)).mono ?_)
                 rintro e w1 ⟨a, b, c, d, rfl, hp, hB1⟩
                 have hB1' := ((Below.refl wr.heap.size wr).alloc (Nat.le_refl _) _).trans (hB1.mono (by simp))
                 have HB1 := hide hB1'
                 have HX1 := hide (box_kept HB.out hB1')
                 clear hp hB1 hB1')
              | (go_at_call 140
                 (with_reducible refine (answerSome HX1.out).mono ?_)
                 rintro e w2 ⟨rfl, hK2, hX2⟩
                 have HK2 := hide hK2
                 have HX2 := hide hX2
                 clear hK2 hX2)
              | fail)
            exact ⟨⟨k + 1, 1, m, by omega, rfl, by go_num, hide (by rw [← HR.out, show T - (k + 1) = j by omega]), HK.out.trans ((Keeps.of_below hsz HB1.out).trans HK2.out), HX2.out⟩, by simp [intOf]; omega⟩
          · rw [ver_cons y2 y1] at HR
            go_wp2_with (first
              | (go_at_call 77
                 (with_reducible refine (setOfProg (xs := [v]) (nats_one (B := wr.heap.size) (v := v) (by simp)) (by intro n hn; rw [List.mem_singleton] at hn; rw [hn]; exact HV.out)).mono ?_)
                 rintro e w1 ⟨a, b, c, d, rfl, hp, hB1⟩
                 have hB1' := ((Below.refl wr.heap.size wr).alloc (Nat.le_refl _) _).trans (hB1.mono (by simp))
                 have HB1 := hide hB1'
                 have HX1 := hide (box_kept HB.out hB1')
                 clear hp hB1 hB1')
              | (go_at_call 140
                 (with_reducible refine (answerSome HX1.out).mono ?_)
                 rintro e w2 ⟨rfl, hK2, hX2⟩
                 have HK2 := hide hK2
                 have HX2 := hide hX2
                 clear hK2 hX2)
              | fail)
            exact ⟨⟨k + 1, x, m, by omega, rfl, by go_num, hide (by rw [← HR.out, show T - (k + 1) = j by omega]), HK.out.trans ((Keeps.of_below hsz HB1.out).trans HK2.out), HX2.out⟩, by simp [intOf]; omega⟩
    · obtain rfl : k = T := by omega
      rw [Nat.sub_self] at hr
      have HR := hide hr.out
      clear hr
      go_wp2_with fail
      go_ret
      rw [← HR.out]
      exact ⟨rfl, HK.out, HB.out⟩
end Go.Proofs.Ytmkapmbmgpnjaaa.Bi

set_option maxRecDepth 100000
set_option linter.unusedSimpArgs false
set_option linter.unusedVariables false
namespace Go.Proofs.Ytmkapmbmgpnjaaa.Bi
open Go Go.Ms Go.Pg Go.Bi Go.ChangeShapes Go.WideShapes Go.ChangeAt Go.RowKit Go.Deep

def Fits (low high : Nat) (p : Nat → Bool) (c : Int) : Prop := (low : Int) < c ∧ c < (high : Int) ∧ p c.toNat = false
theorem nearAt_first {low high : Nat} {p : Nat → Bool} {d n : Nat} {c : Int} (e : c = (((low + high) / 2 : Nat) : Int) + (d : Int)) (h : Fits low high p c) (hn : c = (n : Int)) : nearAt low high p d = some n := by
  obtain ⟨h1, h2, h3⟩ := h
  have en : (low + high) / 2 + d = n := by omega
  have e3 : c.toNat = n := by omega
  rw [e3] at h3
  unfold nearAt
  rw [en, if_pos ⟨by omega, by omega, h3⟩]
theorem nearAt_second {low high : Nat} {p : Nat → Bool} {d n : Nat} {c c' : Int} (e : c = (((low + high) / 2 : Nat) : Int) + (d : Int)) (e' : c' = (((low + high) / 2 : Nat) : Int) - (d : Int)) (h : ¬ Fits low high p c) (h' : Fits low high p c') (hn : c' = (n : Int)) : nearAt low high p d = some n := by
  obtain ⟨h1, h2, h3⟩ := h'
  have en : (low + high) / 2 - d = n := by omega
  have e3 : c'.toNat = n := by omega
  rw [e3] at h3
  unfold nearAt
  rw [if_neg, en, if_pos ⟨by omega, by omega, h3⟩]
  rintro ⟨a, b, f⟩
  exact h ⟨by omega, by omega, by rw [show c.toNat = (low + high) / 2 + d by omega]; exact f⟩
theorem nearAt_none {low high : Nat} {p : Nat → Bool} {d : Nat} {c c' : Int} (e : c = (((low + high) / 2 : Nat) : Int) + (d : Int)) (e' : c' = (((low + high) / 2 : Nat) : Int) - (d : Int)) (h : ¬ Fits low high p c) (h' : ¬ Fits low high p c') : nearAt low high p d = none := by
  unfold nearAt
  rw [if_neg, if_neg]
  · rintro ⟨a, b, f⟩
    exact h' ⟨by omega, by omega, by rw [show c'.toNat = (low + high) / 2 - d by omega]; exact f⟩
  · rintro ⟨a, b, f⟩
    exact h ⟨by omega, by omega, by rw [show c.toNat = (low + high) / 2 + d by omega]; exact f⟩
theorem nearF_some {low high : Nat} {p : Nat → Bool} {k d n : Nat} (h : nearAt low high p d = some n) : nearF low high p (k + 1) d = some n := by simp [nearF, h]
theorem nearF_none {low high : Nat} {p : Nat → Bool} {k d : Nat} (h : nearAt low high p d = none) : nearF low high p (k + 1) d = nearF low high p k (d + 1) := by simp [nearF, h]

theorem size3 : ∀ h, (Try.prog.types[3]'h).size = 1 := fun _ => by kernel_rfl
theorem idx0 (x y : Int) (w : World) : (Instr.index 199 (.agg #[.int .i64 x, .int .i64 y]) (.int .i64 0)).run Try.prog w = .ok (.int .i64 x) w := by
  simp [Instr.index, go_sem, run_underlying Try.underlying199, Result.andThen, size3]
theorem idx1 (x y : Int) (w : World) : (Instr.index 199 (.agg #[.int .i64 x, .int .i64 y]) (.int .i64 1)).run Try.prog w = .ok (.int .i64 y) w := by
  simp [Instr.index, go_sem, run_underlying Try.underlying199, Result.andThen, size3]
def Near : Option Nat → Ending → Prop
  | some n, e => e = .returned (.tuple #[.int .i64 (n : Int), .bool true])
  | none, e => e = .returned (.tuple #[.int .i64 0, .bool false])

end Go.Proofs.Ytmkapmbmgpnjaaa.Bi

