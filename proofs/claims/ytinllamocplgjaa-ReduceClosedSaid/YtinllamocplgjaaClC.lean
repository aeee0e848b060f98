import Derived.Test.YtinllamocplgjaaClB
import Derived.Laws.BitsLemmas
import Derived.ChangeKeysEq
set_option maxRecDepth 100000
namespace Go.Proofs.Ytinllamocplgjaa.Cl
open Go Go.Ms Go.Pg Go.Rc Go.Cl Go.ChangeShapes Go.WideShapes Go.ChangeAt Go.RowKit Go.Deep Go.Proofs.Ytinllamocplgjaa.Rc

def setC (x : Nat) : List Value := [.int .u64 x, .int .u64 0, .int .u64 0, .int .u64 0]
abbrev setV (x : Nat) : Value := .agg #[.int .u64 x, .int .u64 0, .int .u64 0, .int .u64 0]

theorem wraps_u64 (n : Int) (h0 : 0 ≤ n) (h1 : n < 2 ^ 64) : IntKind.u64.wrap n = n := by
  simp [IntKind.wrap, IntKind.signed, IntKind.bits]
  omega
theorem bitAt {x n : Nat} (hx : x < 2 ^ 20) (hn : n < 64) : (bits .and .u64 ((x : Int) / 2 ^ min n 64) 1 == 1) = x.testBit n := by
  have e : ((x : Int) / 2 ^ min n 64) = ((x / 2 ^ n : Nat) : Int) := by
    rw [Nat.min_eq_left (by omega)]
    simp
  have hlt : x / 2 ^ n < 2 ^ 64 := Nat.lt_of_le_of_lt (Nat.div_le_self _ _) (by omega)
  have h := bits_mask .u64 64 (by decide) wraps_u64 1 (by decide) (((x / 2 ^ n : Nat) : Int)) (Int.natCast_nonneg _) (by exact_mod_cast hlt)
  have h1 : ((2 : Int) ^ 1 - 1) = 1 := by decide
  rw [h1] at h
  rw [e, h, Nat.testBit_eq_decide_div_mod_eq]
  have h2 : ((x / 2 ^ n : Nat) : Int) % 2 ^ 1 = ((x / 2 ^ n % 2 : Nat) : Int) := by simp
  rw [h2]
  rw [Bool.eq_iff_iff]
  simp only [beq_iff_eq, decide_eq_true_iff]
  omega
theorem quo64 (n : Nat) : (n : Int).tdiv 64 = ((n / 64 : Nat) : Int) := by
  rw [Int.tdiv_eq_ediv_of_nonneg (Int.natCast_nonneg _)]
  omega
theorem rem64 (n : Nat) : (n : Int).tmod 64 = ((n % 64 : Nat) : Int) := by
  rw [Int.tmod_eq_emod_of_nonneg (Int.natCast_nonneg _)]
  omega
theorem high_bit {x n : Nat} (hx : x < 2 ^ 20) (hn : 64 ≤ n) : x.testBit n = false :=
  Nat.testBit_lt_two_pow (Nat.lt_of_lt_of_le hx (Nat.pow_le_pow_right (by decide) (by omega)))
theorem zeroBit : (bits .and .u64 0 1 == 1) = false := by decide

set_option maxHeartbeats 4000000 in
theorem hasSet {w : World} {x n : Nat} (hx : x < 2 ^ 20) (hn : n < 256) : Calls Try.prog 59 #[setV x, .int .i64 n] w fun e w' => e = .returned (.bool (x.testBit n)) ∧ Below w.heap.size w w' := by
  have HX := hide hx
  by_cases h64 : n < 64
  · have e1 : (n : Int).tdiv 64 = 0 := by rw [quo64, show n / 64 = 0 by omega]; rfl
    have e2 : (n : Int).tmod 64 = n := by rw [rem64, show n % 64 = n by omega]
    have HB := hide (bitAt hx h64)
    clear hx h64
    go_enter Try.func59, Try.ntmps59
    go_wp2_with fail
    go_ret
    exact ⟨congrArg (fun b => Ending.returned (.bool b)) HB.out, (Below.refl _ w).alloc (Nat.le_refl _) _⟩
  · have HB := hide (high_bit (n := n) hx (by omega))
    obtain ⟨r, hr⟩ : ∃ r, r = n % 64 := ⟨_, rfl⟩
    have e2 : (n : Int).tmod 64 = (r : Int) := by rw [rem64, hr]
    have hq : n / 64 = 1 ∨ n / 64 = 2 ∨ n / 64 = 3 := by omega
    clear hx h64 hr
    rcases hq with q | q | q
    · have e1 : (n : Int).tdiv 64 = 1 := by rw [quo64, q]; rfl
      clear q
      go_enter Try.func59, Try.ntmps59
      go_wp2_with fail
      go_ret
      exact ⟨congrArg (fun b => Ending.returned (.bool b)) (zeroBit.trans HB.out.symm), (Below.refl _ w).alloc (Nat.le_refl _) _⟩
    · have e1 : (n : Int).tdiv 64 = 2 := by rw [quo64, q]; rfl
      clear q
      go_enter Try.func59, Try.ntmps59
      go_wp2_with fail
      go_ret
      exact ⟨congrArg (fun b => Ending.returned (.bool b)) (zeroBit.trans HB.out.symm), (Below.refl _ w).alloc (Nat.le_refl _) _⟩
    · have e1 : (n : Int).tdiv 64 = 3 := by rw [quo64, q]; rfl
      clear q
      go_enter Try.func59, Try.ntmps59
      go_wp2_with fail
      go_ret
      exact ⟨congrArg (fun b => Ending.returned (.bool b)) (zeroBit.trans HB.out.symm), (Below.refl _ w).alloc (Nat.le_refl _) _⟩

theorem orAt {x y : Nat} (hx : x < 2 ^ 20) (hy : y < 2 ^ 20) : bits .or .u64 (x : Int) (y : Int) = ((x ||| y : Nat) : Int) := (bits_nat .u64 64 (by decide) wraps_u64 x y (by omega) (by omega)).2
theorem or_lt {x y : Nat} (hx : x < 2 ^ 20) (hy : y < 2 ^ 20) : x ||| y < 2 ^ 20 := Nat.or_lt_two_pow hx hy

theorem own_same {w w' : World} {B : Nat} {e : TypeId} {size : Nat} {v : Value} {n : Nat} {xs : List Value} (h : w.ownsRow B e size v n xs) (k : ∀ (g : Nat) cs, B ≤ g → w.heap[g]? = some (Obj.cells cs e (0, 0)) → w'.heap[g]? = w.heap[g]?) : w'.ownsRow B e size v n xs := by
  refine ⟨h.1, ?_⟩
  rcases h.2 with h2 | ⟨g, cap, cur, rfl, hb, hh, r⟩
  · exact .inl h2
  · exact .inr ⟨g, cap, cur, rfl, hb, (k g _ hb hh).trans hh, r⟩
theorem own_kept1 {w w' : World} {B : Nat} {v : Value} {l : List Int} (h : Go.Il.Own 3 .i64 B w v l) (hb : Below w.heap.size w w') : Go.Il.Own 3 .i64 B w' v l := own_same h fun g _ _ hh => hb.block g (block_lt hh)
def putS (w : World) (B o z : Nat) : World := (((w.setCell ⟨B, o, none⟩ (.int .u64 z)).setCell ⟨B, o + 1, none⟩ (.int .u64 0)).setCell ⟨B, o + 2, none⟩ (.int .u64 0)).setCell ⟨B, o + 3, none⟩ (.int .u64 0)
abbrev boxS (z : Nat) : Obj := .cells #[.int .u64 z, .int .u64 0, .int .u64 0, .int .u64 0] 69 (0, 0)
theorem putS_block {w : World} {B z : Nat} {y : Nat} (h : w.heap[B]? = some (boxS y)) : (putS w B 0 z).heap[B]? = some (boxS z) := by
  have h0 := heap_setCell_same _ B 0 _ 69 (.int .u64 z) h
  have h1 := heap_setCell_same _ B 1 _ 69 (.int .u64 0) h0
  have h2 := heap_setCell_same _ B 2 _ 69 (.int .u64 0) h1
  have h3 := heap_setCell_same _ B 3 _ 69 (.int .u64 0) h2
  refine h3.trans ?_
  simp [boxS]
theorem putS_other {w : World} {B o z k : Nat} (h : k ≠ B) : (putS w B o z).heap[k]? = w.heap[k]? := by
  unfold putS
  rw [Below.heap_setCell _ _ _ _ h, Below.heap_setCell _ _ _ _ h, Below.heap_setCell _ _ _ _ h, Below.heap_setCell _ _ _ _ h]
theorem putS_below {C B o z : Nat} {w0 w : World} (h : Below C w0 w) (hB : C ≤ B) : Below C w0 (putS w B o z) :=
  (((h.setCell (p := ⟨B, o, none⟩) hB _).setCell (p := ⟨B, o + 1, none⟩) hB _).setCell (p := ⟨B, o + 2, none⟩) hB _).setCell (p := ⟨B, o + 3, none⟩) hB _
theorem putS_size {w : World} {B o z : Nat} : (putS w B o z).heap.size = w.heap.size := by simp [putS]
theorem final8 {P : Exit → Act → World → Prop} {x : Exit} {a : Act} {w X : World} (e : w = X) (h : P x a X) : P x a w := by subst e; exact h
theorem box_cells {w : World} {B z : Nat} (h : w.heap[B]? = some (boxS z)) : w.cell? ⟨B, 0, none⟩ = some (.int .u64 (z : Int)) ∧ w.cell? ⟨B, 1, none⟩ = some (.int .u64 0) ∧ w.cell? ⟨B, 2, none⟩ = some (.int .u64 0) ∧ w.cell? ⟨B, 3, none⟩ = some (.int .u64 0) :=
  ⟨cell_of h 0, cell_of h 1, cell_of h 2, cell_of h 3⟩
theorem box_frozen {w : World} {B z : Nat} (h : w.heap[B]? = some (boxS z)) (i : Nat) : w.frozen? ⟨B, i, none⟩ = false := frozen_of h i
theorem alloc_at {w : World} {o : Obj} {B : Nat} (h : w.heap.size = B) : (w.alloc o).heap[B]? = some o := by subst h; exact new_block w o

theorem set0 {w : World} {B a z : Nat} (h : w.heap[B]? = some (boxS a)) : (w.setCell ⟨B, 0, none⟩ (.int .u64 z)).drew.heap[B]? = some (boxS z) := by
  refine (heap_setCell_same _ B 0 _ 69 (.int .u64 z) h).trans ?_
  simp [boxS]
theorem setI {w : World} {B a i : Nat} (h : w.heap[B]? = some (boxS a)) (hi : i = 1 ∨ i = 2 ∨ i = 3) : (w.setCell ⟨B, i, none⟩ (.int .u64 0)).drew.heap[B]? = some (boxS a) := by
  refine (heap_setCell_same _ B i _ 69 (.int .u64 0) h).trans ?_
  rcases hi with rfl | rfl | rfl <;> simp [boxS]
theorem setO {w : World} {B i k : Nat} {u : Value} {o : Obj} (h : w.heap[k]? = some o) (hk : k ≠ B) : (w.setCell ⟨B, i, none⟩ u).drew.heap[k]? = some o :=
  (Below.heap_setCell w ⟨B, i, none⟩ u k hk).trans h

set_option maxHeartbeats 8000000 in
theorem withSet {w : World} {x y : Nat} (hx : x < 2 ^ 20) (hy : y < 2 ^ 20) : Calls Try.prog 52 #[setV x, setV y] w fun e w' => e = .returned (setV (x ||| y)) ∧ Below w.heap.size w w' := by
  have HO := hide (orAt hx hy)
  have h1 := HO.out
  have h2 : bits .or .u64 0 0 = 0 := by decide
  clear hx hy
  go_enter Try.func52, Try.ntmps52
  go_wp2_with fail
  go_loopw [6] (fun i wr => ∃ k z : Nat, k ≤ 4 ∧ i = .int .i64 (k : Int) ∧ z = (if k = 0 then x else x ||| y) ∧ Below w.heap.size w wr ∧ wr.heap[w.heap.size]? = some (boxS z) ∧ wr.heap[w.heap.size + 1]? = some (boxS y) ∧ wr.heap[w.heap.size + 1 + 1]? = some (boxS 0)) (fun i _ => 4 - (intOf i).toNat)
  case atStart => exact ⟨0, x, by omega, rfl, rfl, (((Below.refl _ w).alloc (Nat.le_refl _) _).alloc (by simp) _).alloc (by simp; omega) _, old_block (old_block (new_block w _) _) _, old_block (alloc_at (by simp)) _, alloc_at (by simp)⟩
  case round =>
    obtain ⟨k, z, hk, rfl, hz, hB, hb0, hb1, hb2⟩ := hrel
    have HB := hide hB
    have H0 := hide hb0
    have H1 := hide hb1
    have H2 := hide hb2
    clear hB hb0 hb1 hb2
    have hc : k = 0 ∨ k = 1 ∨ k = 2 ∨ k = 3 ∨ k = 4 := by omega
    rcases hc with rfl | rfl | rfl | rfl | rfl
    · have ez : z = x := by simpa using hz
      clear hz
      subst ez
      have q1 := (box_cells H0.out).1
      have q2 := (box_cells H1.out).1
      have q3 := box_frozen H0.out 0
      go_wp2_with fail
      go_region
      all_goals
        go_wp2
        exact ⟨⟨1, z ||| y, by omega, rfl, by simp, Below.drew (HB.out.setCell (p := ⟨w.heap.size, 0, none⟩) (Nat.le_refl _) _), set0 H0.out, setO H1.out (by omega), setO H2.out (by omega)⟩, by simp [intOf]⟩
    · have ez : z = x ||| y := by simpa using hz
      clear hz
      subst ez
      have q1 : wr.cell? ⟨w.heap.size, 1, none⟩ = some (.int .u64 0) := cell_of H0.out 1
      have q2 : wr.cell? ⟨w.heap.size + 1, 1, none⟩ = some (.int .u64 0) := cell_of H1.out 1
      have q3 := box_frozen H0.out 1
      go_wp2_with fail
      go_region
      all_goals
        go_wp2
        exact ⟨⟨2, x ||| y, by omega, rfl, by simp, Below.drew (HB.out.setCell (p := ⟨w.heap.size, 1, none⟩) (Nat.le_refl _) _), setI H0.out (by omega), setO H1.out (by omega), setO H2.out (by omega)⟩, by simp [intOf]⟩
    · have ez : z = x ||| y := by simpa using hz
      clear hz
      subst ez
      have q1 : wr.cell? ⟨w.heap.size, 2, none⟩ = some (.int .u64 0) := cell_of H0.out 2
      have q2 : wr.cell? ⟨w.heap.size + 1, 2, none⟩ = some (.int .u64 0) := cell_of H1.out 2
      have q3 := box_frozen H0.out 2
      go_wp2_with fail
      go_region
      all_goals
        go_wp2
        exact ⟨⟨3, x ||| y, by omega, rfl, by simp, Below.drew (HB.out.setCell (p := ⟨w.heap.size, 2, none⟩) (Nat.le_refl _) _), setI H0.out (by omega), setO H1.out (by omega), setO H2.out (by omega)⟩, by simp [intOf]⟩
    · have ez : z = x ||| y := by simpa using hz
      clear hz
      subst ez
      have q1 : wr.cell? ⟨w.heap.size, 3, none⟩ = some (.int .u64 0) := cell_of H0.out 3
      have q2 : wr.cell? ⟨w.heap.size + 1, 3, none⟩ = some (.int .u64 0) := cell_of H1.out 3
      have q3 := box_frozen H0.out 3
      go_wp2_with fail
      go_region
      all_goals
        go_wp2
        exact ⟨⟨4, x ||| y, by omega, rfl, by simp, Below.drew (HB.out.setCell (p := ⟨w.heap.size, 3, none⟩) (Nat.le_refl _) _), setI H0.out (by omega), setO H1.out (by omega), setO H2.out (by omega)⟩, by simp [intOf]⟩
    · have ez : z = x ||| y := by simpa using hz
      clear hz
      subst ez
      obtain ⟨q1, q2, q3, q4⟩ := box_cells H0.out
      obtain ⟨r1, r2, r3, r4⟩ := box_cells H2.out
      have s1 := box_frozen H2.out 0
      have s2 := box_frozen H2.out 1
      have s3 := box_frozen H2.out 2
      have s4 := box_frozen H2.out 3
      go_wp2_with fail
      refine final8 (X := putS wr (w.heap.size + 1 + 1) 0 (x ||| y)) rfl ?_
      have HP := hide (putS_block (z := x ||| y) H2.out)
      have HQ := hide (putS_below (o := 0) (z := x ||| y) HB.out (B := w.heap.size + 1 + 1) (by omega))
      generalize putS wr (w.heap.size + 1 + 1) 0 (x ||| y) = X at *
      obtain ⟨x0, x1, x2, x3⟩ := box_cells HP.out
      refine bodyPost_ret (v := setV (x ||| y)) (by simp [results, Try.results52, go_sem, x0, x1, x2, x3]) rfl ?_
      exact ⟨rfl, HQ.out⟩

theorem mask_lt {xs : List Nat} (h : ∀ n ∈ xs, n < 20) : maskOf xs < 2 ^ 20 := lt_of_bits fun b hb => h b ((testBit_mask b xs).1 hb)
theorem mask_take {xs : List Nat} {k : Nat} (h : k < xs.length) : maskOf (xs.take (k + 1)) = maskOf (xs.take k) ||| 2 ^ xs[k] := by rw [List.take_succ_eq_append_getElem h, mask_snoc]
theorem nat_cell {w : World} {oa : Option Addr} {k : Nat} {xs : List Nat} (h : ∀ i (h : i < (xs.map Int.ofNat).length), ∃ b o, oa = some ⟨b, o, none⟩ ∧ NumAt .i64 w b (o + i * 1) (xs.map Int.ofNat)[i]) (hk : k < xs.length) : ∃ b o, oa = some ⟨b, o, none⟩ ∧ w.cell? ⟨b, o + k, none⟩ = some (.int .i64 (xs[k] : Int)) := by
  obtain ⟨b, o, e, f⟩ := int_cell h (i := k) (by simpa using hk)
  have ef : (xs.map Int.ofNat)[k]'(by simpa using hk) = (xs[k] : Int) := by simp
  rw [ef] at f
  exact ⟨b, o, e, f⟩
theorem shlAt {n : Nat} (hn : n < 20) : IntKind.u64.wrap (2 ^ min n 64) = ((2 ^ n : Nat) : Int) := by
  rw [Nat.min_eq_left (by omega)]
  have h : (2 : Nat) ^ n < 2 ^ 20 := Nat.pow_lt_pow_right (by decide) hn
  have h2 : ((2 : Int) ^ n) = ((2 ^ n : Nat) : Int) := by simp
  rw [h2, wraps_u64 _ (Int.natCast_nonneg _) (by omega)]

set_option maxHeartbeats 8000000 in
theorem setOfProg {w : World} {v : Value} {xs : List Nat} (h : Ints w v (xs.map Int.ofNat)) (hx : ∀ n ∈ xs, n < 20) : Calls Try.prog 39 #[v] w fun e w' => e = .returned (setV (maskOf xs)) ∧ Below w.heap.size w w' := by
  obtain ⟨oa, cap, rfl, hl, hc⟩ := cells_at h
  have HC := hide hc
  have HX := hide hx
  have hlen : (xs.map Int.ofNat).length = xs.length := by simp
  rw [hlen] at hl ⊢
  clear h hc hx hlen
  go_enter Try.func39, Try.ntmps39
  go_wp2_with fail
  go_loopw [8] (fun i wr => ∃ k : Nat, k ≤ xs.length ∧ i = .int .i64 (k : Int) ∧ Below w.heap.size w wr ∧ wr.heap[w.heap.size]? = some (boxS 0) ∧ wr.heap[w.heap.size + 1]? = some (boxS (maskOf (xs.take k)))) (fun i _ => xs.length - (intOf i).toNat)
  case atStart => exact ⟨0, Nat.zero_le _, rfl, ((Below.refl _ w).alloc (Nat.le_refl _) _).alloc (by simp) _, old_block (new_block w _) _, alloc_at (by simp)⟩
  case round =>
    obtain ⟨k, hk, rfl, hB, hb0, hb1⟩ := hrel
    have HB := hide hB
    have H0 := hide hb0
    have H1 := hide hb1
    clear hB hb0 hb1
    by_cases hlt : k < xs.length
    · have hi : (k : Int) < (xs.length : Int) := by omega
      obtain ⟨b, o, rfl, f0⟩ := nat_cell HC.out hlt
      have f := cell_below HB.out f0
      clear f0
      have hw := wrap_up hlt hl
      have HN := hide (HX.out xs[k] (List.getElem_mem hlt))
      have HT := hide (mask_take hlt)
      have HM := hide (mask_lt (xs := xs.take k) fun n hn => HX.out n (List.mem_of_mem_take hn))
      generalize xs[k] = n at *
      obtain ⟨p, hp⟩ : ∃ p, p = 2 ^ n := ⟨_, rfl⟩
      have hpl : p < 2 ^ 20 := by rw [hp]; exact Nat.pow_lt_pow_right (by decide) HN.out
      have e1 : (n : Int).tdiv 64 = 0 := by rw [quo64, show n / 64 = 0 by have := HN.out; omega]; rfl
      have e2 : (n : Int).tmod 64 = n := by rw [rem64, show n % 64 = n by have := HN.out; omega]
      have e3 : IntKind.u64.wrap (2 ^ min n 64) = (p : Int) := by rw [shlAt HN.out, hp]
      have e4 := orAt HM.out hpl
      have HP := hide hp
      clear hp hpl
      have q1 : wr.cell? ⟨w.heap.size + 1, 0, none⟩ = some (.int .u64 (maskOf (xs.take k) : Int)) := cell_of H1.out 0
      have q3 := box_frozen H1.out 0
      go_wp2_with fail
      go_region
      all_goals
        go_wp2
        refine ⟨⟨k + 1, by omega, by go_num, Below.drew (HB.out.setCell (p := ⟨w.heap.size + 1, 0, none⟩) (by simp) _), setO H0.out (by omega), ?_⟩, by simp [intOf]; omega⟩
        rw [HT.out, ← HP.out]
        exact set0 H1.out
    · obtain rfl : k = xs.length := by omega
      rw [List.take_length] at H1
      obtain ⟨q1, q2, q3, q4⟩ := box_cells H1.out
      obtain ⟨r1, r2, r3, r4⟩ := box_cells H0.out
      have s1 := box_frozen H0.out 0
      have s2 := box_frozen H0.out 1
      have s3 := box_frozen H0.out 2
      have s4 := box_frozen H0.out 3
      go_wp2_with fail
      refine final8 (X := putS wr w.heap.size 0 (maskOf xs)) rfl ?_
      have HP := hide (putS_block (z := maskOf xs) H0.out)
      have HQ := hide (putS_below (o := 0) (z := maskOf xs) HB.out (B := w.heap.size) (Nat.le_refl _))
      generalize putS wr w.heap.size 0 (maskOf xs) = X at *
      obtain ⟨x0, x1, x2, x3⟩ := box_cells HP.out
      refine bodyPost_ret (v := setV (maskOf xs)) (by simp [results, Try.results39, go_sem, x0, x1, x2, x3]) rfl ?_
      exact ⟨rfl, HQ.out⟩

def upTo (x k : Nat) : List Int := ((List.range k).filter fun n => x.testBit n).map Int.ofNat
theorem upTo_succ (x k : Nat) : upTo x (k + 1) = upTo x k ++ if x.testBit k = true then [(k : Int)] else [] := by
  unfold upTo
  rw [List.range_succ, List.filter_append, List.map_append]
  by_cases h : x.testBit k = true <;> simp [h]
theorem upTo_length (x k : Nat) : (upTo x k).length ≤ k := by
  unfold upTo
  rw [List.length_map]
  have := List.length_filter_le (fun n => x.testBit n) (List.range k)
  simpa using this

set_option maxHeartbeats 8000000 in
theorem listProg {w : World} {x : Nat} (hx : x < 2 ^ 20) : Calls Try.prog 38 #[setV x] w fun e w' => ∃ v', e = .returned v' ∧ Below w.heap.size w w' ∧ Go.Il.Own 3 .i64 w.heap.size w' v' (upTo x 256) := by
  have HX := hide hx
  clear hx
  go_enter Try.func38, Try.ntmps38
  go_wp2_with fail
  go_loopw [3, 5] (fun r i wr => ∃ k : Nat, k ≤ 256 ∧ i = .int .i64 (k : Int) ∧ Below w.heap.size w wr ∧ wr.heap[w.heap.size]? = some (boxS x) ∧ Go.Il.Own 3 .i64 w.heap.size wr r (upTo x k)) (fun _ i _ => 256 - (intOf i).toNat)
  case atStart => exact ⟨0, Nat.zero_le _, rfl, (Below.refl _ w).alloc (Nat.le_refl _) _, new_block w _, Go.Il.Own.nil _ _ _ _⟩
  case round =>
    obtain ⟨k, hk, rfl, hB, hb0, hO⟩ := hrel
    have HB := hide hB
    have H0 := hide hb0
    have HO := hide hO
    clear hB hb0 hO
    obtain ⟨q1, q2, q3, q4⟩ := box_cells H0.out
    have hz : w.heap.size ≤ wr.heap.size := HB.out.size
    have hbl : w.heap.size < wr.heap.size := block_lt H0.out
    by_cases hlt : k < 256
    · have hi : (k : Int) < 256 := by omega
      have hi2 : decide (k < 256) = true := decide_eq_true hlt
      have hw : IntKind.i64.wrap ((k : Int) + 1) = (k : Int) + 1 := wrap_in (by omega) (by omega)
      have HT := hide (upTo_succ x k)
      have hul := upTo_length x k
      cases hb : x.testBit k with
      | true =>
        rw [hb, if_pos rfl] at HT
        have HBT := hide hb
        clear hb
        go_wp2_with (first
          | (go_at_call 59
             (with_reducible refine (hasSet HX.out hlt).mono ?_)
             rintro e w1 ⟨he, hB1⟩
             rw [HBT.out] at he
             subst he
             have HB1 := hide hB1
             have HO1 := hide (own_kept1 HO.out hB1)
             have hz1 : w.heap.size ≤ w1.heap.size := Nat.le_trans hz hB1.size
             have H01 := hide ((hB1.block _ hbl).trans H0.out)
             clear hB1)
          | (at_builtin
             (refine Go.Il.wpl_push EI (by decide) rfl (.tmp 11) (.tmp 13) rfl HO1.out _ _ [(k : Int)] _ _ rfl rfl rfl rfl rfl hz1 (by simp; omega) ?_
              intro v2 w2 ho2 hs2
              have HO2 := hide ho2
              have HS2 := hide hs2
              clear ho2 hs2))
          | fail)
        refine ⟨⟨k + 1, by omega, by go_num, HB.out.trans ((HB1.out.mono hz).trans HS2.out.below), Go.Il.Stp.block HS2.out H01.out (by decide), ?_⟩, by simp [intOf]; omega⟩
        rw [HT.out]
        exact HO2.out
      | false =>
        rw [hb] at HT
        simp only [Bool.false_eq_true, if_false, List.append_nil] at HT
        have HBT := hide hb
        clear hb
        go_wp2_with (first
          | (go_at_call 59
             (with_reducible refine (hasSet HX.out hlt).mono ?_)
             rintro e w1 ⟨he, hB1⟩
             rw [HBT.out] at he
             subst he
             have HB1 := hide hB1
             have HO1 := hide (own_kept1 HO.out hB1)
             have H01 := hide ((hB1.block _ hbl).trans H0.out)
             clear hB1)
          | fail)
        refine ⟨⟨k + 1, by omega, by go_num, HB.out.trans (HB1.out.mono hz), H01.out, ?_⟩, by simp [intOf]; omega⟩
        rw [HT.out]
        exact HO1.out
    · obtain rfl : k = 256 := by omega
      go_wp2_with fail
      go_ret
      exact ⟨_, rfl, HB.out, HO.out⟩
end Go.Proofs.Ytinllamocplgjaa.Cl
