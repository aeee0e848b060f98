import Derived.Test.YtdpgcoicbagflaaBiB
set_option maxRecDepth 100000
set_option linter.unusedSimpArgs false
set_option linter.unusedVariables false
namespace Go.Proofs.Ytdpgcoicbagflaa.Bi
open Go Go.Ms Go.Pg Go.Bi Go.ChangeShapes Go.WideShapes Go.ChangeAt Go.RowKit Go.Deep

abbrev setV (a b c d : Nat) : Value := .agg #[.int .u64 a, .int .u64 b, .int .u64 c, .int .u64 d]
abbrev boxV (a b c d : Nat) : Obj := .cells #[.int .u64 a, .int .u64 b, .int .u64 c, .int .u64 d] 60 (0, 0)
structure Sp (p : Nat → Bool) (a b c d : Nat) : Prop where
  ha : a < 2 ^ 64
  hb : b < 2 ^ 64
  hc : c < 2 ^ 64
  hd : d < 2 ^ 64
  h0 : ∀ r, r < 64 → p r = a.testBit r
  h1 : ∀ r, r < 64 → p (64 + r) = b.testBit r
  h2 : ∀ r, r < 64 → p (128 + r) = c.testBit r
  h3 : ∀ r, r < 64 → p (192 + r) = d.testBit r

theorem Sp.zero : Sp (fun _ => false) 0 0 0 0 := ⟨by decide, by decide, by decide, by decide, by simp, by simp, by simp, by simp⟩
theorem Sp.congr {p q : Nat → Bool} {a b c d : Nat} (h : Sp p a b c d) (e : ∀ n, n < 256 → p n = q n) : Sp q a b c d :=
  ⟨h.ha, h.hb, h.hc, h.hd, fun r hr => by rw [← e r (by omega)]; exact h.h0 r hr, fun r hr => by rw [← e _ (by omega)]; exact h.h1 r hr, fun r hr => by rw [← e _ (by omega)]; exact h.h2 r hr, fun r hr => by rw [← e _ (by omega)]; exact h.h3 r hr⟩
theorem Sp.or {p q : Nat → Bool} {a b c d e f g k : Nat} (h : Sp p a b c d) (i : Sp q e f g k) : Sp (fun n => p n || q n) (a ||| e) (b ||| f) (c ||| g) (d ||| k) :=
  ⟨Nat.or_lt_two_pow h.ha i.ha, Nat.or_lt_two_pow h.hb i.hb, Nat.or_lt_two_pow h.hc i.hc, Nat.or_lt_two_pow h.hd i.hd,
    fun r hr => by simp only [Nat.testBit_or, ← h.h0 r hr, ← i.h0 r hr], fun r hr => by simp only [Nat.testBit_or, ← h.h1 r hr, ← i.h1 r hr],
    fun r hr => by simp only [Nat.testBit_or, ← h.h2 r hr, ← i.h2 r hr], fun r hr => by simp only [Nat.testBit_or, ← h.h3 r hr, ← i.h3 r hr]⟩
theorem pow_lt {r : Nat} (h : r < 64) : 2 ^ r < 2 ^ 64 := Nat.pow_lt_pow_right (by decide) h
theorem one_bit {n r : Nat} : (2 ^ r).testBit n = (n == r) := by
  rw [Nat.testBit_two_pow]
  by_cases e : r = n
  · subst e; simp
  · rw [decide_eq_false e]
    exact (beq_false_of_ne fun q => e q.symm).symm
theorem Sp.one0 {r : Nat} (h : r < 64) : Sp (fun i => i == r) (2 ^ r) 0 0 0 :=
  ⟨pow_lt h, by decide, by decide, by decide, fun i hi => one_bit.symm, fun i hi => by simp; omega, fun i hi => by simp; omega, fun i hi => by simp; omega⟩
theorem Sp.one1 {r : Nat} (h : r < 64) : Sp (fun i => i == 64 + r) 0 (2 ^ r) 0 0 :=
  ⟨by decide, pow_lt h, by decide, by decide, fun i hi => by simp; omega, fun i hi => by rw [one_bit, Bool.eq_iff_iff, beq_iff_eq, beq_iff_eq]; omega, fun i hi => by simp; omega, fun i hi => by simp; omega⟩
theorem Sp.one2 {r : Nat} (h : r < 64) : Sp (fun i => i == 128 + r) 0 0 (2 ^ r) 0 :=
  ⟨by decide, by decide, pow_lt h, by decide, fun i hi => by simp; omega, fun i hi => by simp; omega, fun i hi => by rw [one_bit, Bool.eq_iff_iff, beq_iff_eq, beq_iff_eq]; omega, fun i hi => by simp; omega⟩
theorem Sp.one3 {r : Nat} (h : r < 64) : Sp (fun i => i == 192 + r) 0 0 0 (2 ^ r) :=
  ⟨by decide, by decide, by decide, pow_lt h, fun i hi => by simp; omega, fun i hi => by simp; omega, fun i hi => by simp; omega, fun i hi => by rw [one_bit, Bool.eq_iff_iff, beq_iff_eq, beq_iff_eq]; omega⟩
theorem Sp.put0 {p : Nat → Bool} {a b c d r : Nat} (h : Sp p a b c d) (hr : r < 64) : Sp (fun i => p i || i == r) (a ||| 2 ^ r) b c d := by simpa using h.or (Sp.one0 hr)
theorem Sp.put1 {p : Nat → Bool} {a b c d r : Nat} (h : Sp p a b c d) (hr : r < 64) : Sp (fun i => p i || i == 64 + r) a (b ||| 2 ^ r) c d := by simpa using h.or (Sp.one1 hr)
theorem Sp.put2 {p : Nat → Bool} {a b c d r : Nat} (h : Sp p a b c d) (hr : r < 64) : Sp (fun i => p i || i == 128 + r) a b (c ||| 2 ^ r) d := by simpa using h.or (Sp.one2 hr)
theorem Sp.put3 {p : Nat → Bool} {a b c d r : Nat} (h : Sp p a b c d) (hr : r < 64) : Sp (fun i => p i || i == 192 + r) a b c (d ||| 2 ^ r) := by simpa using h.or (Sp.one3 hr)

theorem wraps_u64 (n : Int) (h0 : 0 ≤ n) (h1 : n < 2 ^ 64) : IntKind.u64.wrap n = n := by
  simp [IntKind.wrap, IntKind.signed, IntKind.bits]
  omega
theorem bitAt {x n : Nat} (hx : x < 2 ^ 64) (hn : n < 64) : (bits .and .u64 ((x : Int) / 2 ^ min n 64) 1 == 1) = x.testBit n := by
  have e : ((x : Int) / 2 ^ min n 64) = ((x / 2 ^ n : Nat) : Int) := by
    rw [Nat.min_eq_left (by omega)]
    simp
  have hlt : x / 2 ^ n < 2 ^ 64 := Nat.lt_of_le_of_lt (Nat.div_le_self _ _) hx
  have h := bits_mask .u64 64 (by decide) wraps_u64 1 (by decide) (((x / 2 ^ n : Nat) : Int)) (Int.natCast_nonneg _) (by exact_mod_cast hlt)
  have h1 : ((2 : Int) ^ 1 - 1) = 1 := by decide
  rw [h1] at h
  rw [e, h, Nat.testBit_eq_decide_div_mod_eq]
  have h2 : ((x / 2 ^ n : Nat) : Int) % 2 ^ 1 = ((x / 2 ^ n % 2 : Nat) : Int) := by simp
  rw [h2]
  rw [Bool.eq_iff_iff]
  simp only [beq_iff_eq, decide_eq_true_iff]
  omega
theorem orAt {x y : Nat} (hx : x < 2 ^ 64) (hy : y < 2 ^ 64) : bits .or .u64 (x : Int) (y : Int) = ((x ||| y : Nat) : Int) := (bits_nat .u64 64 (by decide) wraps_u64 x y hx hy).2
theorem shlAt {n : Nat} (hn : n < 64) : IntKind.u64.wrap (2 ^ min n 64) = ((2 ^ n : Nat) : Int) := by
  rw [Nat.min_eq_left (by omega)]
  have h : (2 : Nat) ^ n < 2 ^ 64 := pow_lt hn
  have h2 : ((2 : Int) ^ n) = ((2 ^ n : Nat) : Int) := by simp
  rw [h2, wraps_u64 _ (Int.natCast_nonneg _) (by exact_mod_cast h)]
theorem quo64 (n : Nat) : (n : Int).tdiv 64 = ((n / 64 : Nat) : Int) := by
  rw [Int.tdiv_eq_ediv_of_nonneg (Int.natCast_nonneg _)]
  omega
theorem rem64 (n : Nat) : (n : Int).tmod 64 = ((n % 64 : Nat) : Int) := by
  rw [Int.tmod_eq_emod_of_nonneg (Int.natCast_nonneg _)]
  omega
theorem place {n : Nat} (h : n < 256) : ∃ r : Nat, r < 64 ∧ (n : Int).tmod 64 = (r : Int) ∧ ((n = r ∧ (n : Int).tdiv 64 = 0) ∨ (n = 64 + r ∧ (n : Int).tdiv 64 = 1) ∨ (n = 128 + r ∧ (n : Int).tdiv 64 = 2) ∨ (n = 192 + r ∧ (n : Int).tdiv 64 = 3)) := by
  refine ⟨n % 64, by omega, rem64 n, ?_⟩
  rw [quo64]
  omega

set_option maxHeartbeats 4000000 in
theorem hasSet {w : World} {p : Nat → Bool} {a b c d n : Nat} (h : Sp p a b c d) (hn : n < 256) :
    Calls Try.prog 56 #[setV a b c d, .int .i64 n] w fun e w' => e = .returned (.bool (p n)) ∧ Below w.heap.size w w' := by
  obtain ⟨r, hr, e2, q⟩ := place hn
  have H := hide h
  have HR := hide hr
  rcases q with ⟨q, e1⟩ | ⟨q, e1⟩ | ⟨q, e1⟩ | ⟨q, e1⟩
  · have HB := hide ((bitAt h.ha hr).trans ((h.h0 r hr).symm.trans (congrArg p q.symm)))
    clear h hr q hn
    go_enter Try.func56, Try.ntmps56
    go_wp2_with fail
    go_ret
    exact ⟨congrArg (fun b => Ending.returned (.bool b)) HB.out, (Below.refl _ w).alloc (Nat.le_refl _) _⟩
  · have HB := hide ((bitAt h.hb hr).trans ((h.h1 r hr).symm.trans (congrArg p q.symm)))
    clear h hr q hn
    go_enter Try.func56, Try.ntmps56
    go_wp2_with fail
    go_ret
    exact ⟨congrArg (fun b => Ending.returned (.bool b)) HB.out, (Below.refl _ w).alloc (Nat.le_refl _) _⟩
  · have HB := hide ((bitAt h.hc hr).trans ((h.h2 r hr).symm.trans (congrArg p q.symm)))
    clear h hr q hn
    go_enter Try.func56, Try.ntmps56
    go_wp2_with fail
    go_ret
    exact ⟨congrArg (fun b => Ending.returned (.bool b)) HB.out, (Below.refl _ w).alloc (Nat.le_refl _) _⟩
  · have HB := hide ((bitAt h.hd hr).trans ((h.h3 r hr).symm.trans (congrArg p q.symm)))
    clear h hr q hn
    go_enter Try.func56, Try.ntmps56
    go_wp2_with fail
    go_ret
    exact ⟨congrArg (fun b => Ending.returned (.bool b)) HB.out, (Below.refl _ w).alloc (Nat.le_refl _) _⟩

def putV (w : World) (B a b c d : Nat) : World := (((w.setCell ⟨B, 0, none⟩ (.int .u64 a)).setCell ⟨B, 1, none⟩ (.int .u64 b)).setCell ⟨B, 2, none⟩ (.int .u64 c)).setCell ⟨B, 3, none⟩ (.int .u64 d)
theorem putV_block {w : World} {B a b c d e f g h : Nat} (q : w.heap[B]? = some (boxV a b c d)) : (putV w B e f g h).heap[B]? = some (boxV e f g h) := by
  have h0 := heap_setCell_same _ B 0 _ 60 (.int .u64 e) q
  have h1 := heap_setCell_same _ B 1 _ 60 (.int .u64 f) h0
  have h2 := heap_setCell_same _ B 2 _ 60 (.int .u64 g) h1
  have h3 := heap_setCell_same _ B 3 _ 60 (.int .u64 h) h2
  refine h3.trans ?_
  simp [boxV]
theorem putV_below {C B a b c d : Nat} {w0 w : World} (h : Below C w0 w) (hB : C ≤ B) : Below C w0 (putV w B a b c d) :=
  (((h.setCell (p := ⟨B, 0, none⟩) hB _).setCell (p := ⟨B, 1, none⟩) hB _).setCell (p := ⟨B, 2, none⟩) hB _).setCell (p := ⟨B, 3, none⟩) hB _
theorem putV_other {w : World} {B a b c d k : Nat} (h : k ≠ B) : (putV w B a b c d).heap[k]? = w.heap[k]? := by
  unfold putV
  rw [Below.heap_setCell _ _ _ _ h, Below.heap_setCell _ _ _ _ h, Below.heap_setCell _ _ _ _ h, Below.heap_setCell _ _ _ _ h]
theorem putV_size {w : World} {B a b c d : Nat} : (putV w B a b c d).heap.size = w.heap.size := by simp [putV]
theorem final8 {P : Exit → Act → World → Prop} {x : Exit} {a : Act} {w X : World} (e : w = X) (h : P x a X) : P x a w := by subst e; exact h
theorem box_cells {w : World} {B a b c d : Nat} (h : w.heap[B]? = some (boxV a b c d)) : w.cell? ⟨B, 0, none⟩ = some (.int .u64 (a : Int)) ∧ w.cell? ⟨B, 1, none⟩ = some (.int .u64 (b : Int)) ∧ w.cell? ⟨B, 2, none⟩ = some (.int .u64 (c : Int)) ∧ w.cell? ⟨B, 3, none⟩ = some (.int .u64 (d : Int)) :=
  ⟨cell_of h 0, cell_of h 1, cell_of h 2, cell_of h 3⟩
theorem set0 {w : World} {B a b c d z : Nat} (h : w.heap[B]? = some (boxV a b c d)) : (w.setCell ⟨B, 0, none⟩ (.int .u64 z)).drew.heap[B]? = some (boxV z b c d) := by
  refine (heap_setCell_same _ B 0 _ 60 (.int .u64 z) h).trans ?_
  simp [boxV]
theorem set1 {w : World} {B a b c d z : Nat} (h : w.heap[B]? = some (boxV a b c d)) : (w.setCell ⟨B, 1, none⟩ (.int .u64 z)).drew.heap[B]? = some (boxV a z c d) := by
  refine (heap_setCell_same _ B 1 _ 60 (.int .u64 z) h).trans ?_
  simp [boxV]
theorem set2 {w : World} {B a b c d z : Nat} (h : w.heap[B]? = some (boxV a b c d)) : (w.setCell ⟨B, 2, none⟩ (.int .u64 z)).drew.heap[B]? = some (boxV a b z d) := by
  refine (heap_setCell_same _ B 2 _ 60 (.int .u64 z) h).trans ?_
  simp [boxV]
theorem set3 {w : World} {B a b c d z : Nat} (h : w.heap[B]? = some (boxV a b c d)) : (w.setCell ⟨B, 3, none⟩ (.int .u64 z)).drew.heap[B]? = some (boxV a b c z) := by
  refine (heap_setCell_same _ B 3 _ 60 (.int .u64 z) h).trans ?_
  simp [boxV]
theorem setO {w : World} {B i k : Nat} {u : Value} {o : Obj} (h : w.heap[k]? = some o) (hk : k ≠ B) : (w.setCell ⟨B, i, none⟩ u).drew.heap[k]? = some o :=
  (Below.heap_setCell w ⟨B, i, none⟩ u k hk).trans h
theorem alloc_at {w : World} {o : Obj} {B : Nat} (h : w.heap.size = B) : (w.alloc o).heap[B]? = some o := by subst h; exact new_block w o
end Go.Proofs.Ytdpgcoicbagflaa.Bi
