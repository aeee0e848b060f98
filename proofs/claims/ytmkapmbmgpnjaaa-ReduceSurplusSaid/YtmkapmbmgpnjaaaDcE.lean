import Derived.Test.YtmkapmbmgpnjaaaDlA
import Derived.Test.YtmkapmbmgpnjaaaDsI
import Derived.Test.YtmkapmbmgpnjaaaDsG
import Derived.Lib.BitFns
set_option maxRecDepth 100000
set_option linter.unusedSimpArgs false
set_option linter.unusedVariables false
namespace Go.Proofs.Ytmkapmbmgpnjaaa.Se
open Go Go.Ms Go.Pg Go.Bi Go.Se Go.ChangeShapes Go.WideShapes Go.ChangeAt Go.RowKit Go.Deep Go.Proofs.Ytmkapmbmgpnjaaa.Bi

theorem tabSize : 256 = Lib.len8tab.size := by decide +kernel
theorem tab8 : ∀ n : Fin 256, wrap64 (wrap64 ((Lib.len8tab[n.val]'(Nat.lt_of_lt_of_eq n.2 tabSize)).toNat : Int)) = (Lib.bitLen n.val : Int) := by decide +kernel
def lastOf (s : Nat) : Nat := Lib.bitLen s - 1
theorem starts : ∀ s : Fin 257, 1 ≤ s.val → (2 ^ lastOf s.val ≤ s.val ∧ s.val < 2 ^ (lastOf s.val + 1)) ∧ lastOf s.val ≤ 8 ∧ 1 ≤ Lib.bitLen s.val := by decide +kernel
theorem start_of {s : Nat} (h1 : 1 ≤ s) (h2 : s ≤ 256) : Start s (lastOf s) := by
  obtain ⟨⟨a, b⟩, c, _⟩ := starts ⟨s, by omega⟩ h1
  exact ⟨a, b, c⟩

set_option maxHeartbeats 4000000 in
theorem len64 {w : World} {x : Nat} (h : x < 256) : Calls Try.prog 168 #[.int .u64 (x : Int)] w fun e w' => e = .returned (.int .i64 (Lib.bitLen x : Int)) ∧ w' = w := by
  have t1 : decide ((4294967296 : Int) ≤ (x : Int)) = false := decide_eq_false (by omega)
  have t2 : decide ((65536 : Int) ≤ (x : Int)) = false := decide_eq_false (by omega)
  have t3 : decide ((256 : Int) ≤ (x : Int)) = false := decide_eq_false (by omega)
  have ht := tab8 ⟨x, h⟩
  simp only at ht
  have HT := hide ht
  clear ht
  go_enter Try.func168, Try.ntmps168
  go_wp2_with fail
  refine bodyPost_ret (v := .int .i64 (Lib.bitLen x : Int)) ?_ rfl ⟨rfl, rfl⟩
  simp [results, Try.results168, go_sem]
  exact HT.out
set_option maxHeartbeats 4000000 in
theorem len64' {w : World} : Calls Try.prog 168 #[.int .u64 256] w fun e w' => e = .returned (.int .i64 (Lib.bitLen 256 : Int)) ∧ w' = w := by
  go_enter Try.func168, Try.ntmps168
  go_wp2_with fail
  refine bodyPost_ret (v := .int .i64 (Lib.bitLen 256 : Int)) ?_ rfl ⟨rfl, rfl⟩
  simp [results, Try.results168, go_sem]
  decide +kernel
theorem lenAll {w : World} {x : Nat} (h : x ≤ 256) : Calls Try.prog 168 #[.int .u64 (x : Int)] w fun e w' => e = .returned (.int .i64 (Lib.bitLen x : Int)) ∧ w' = w := by
  by_cases q : x < 256
  · exact len64 q
  · obtain rfl : x = 256 := by omega
    exact len64'
set_option maxHeartbeats 4000000 in
theorem lenProg {w : World} {x : Nat} (h : x ≤ 256) : Calls Try.prog 164 #[.int .u64 (x : Int)] w fun e w' => e = .returned (.int .i64 (Lib.bitLen x : Int)) ∧ w' = w := by
  have HL := hide (lenAll (w := w) h)
  clear h
  go_enter Try.func164, Try.ntmps164
  go_wp2_with fail
  (with_reducible refine HL.out.mono ?_)
  rintro e w' ⟨rfl, rfl⟩
  go_wp2_with fail
  go_ret
  exact ⟨rfl, rfl⟩
end Go.Proofs.Ytmkapmbmgpnjaaa.Se

set_option maxRecDepth 100000
set_option linter.unusedSimpArgs false
set_option linter.unusedVariables false
namespace Go.Proofs.Ytmkapmbmgpnjaaa.Se
open Go Go.Ms Go.Pg Go.Bi Go.Se Go.ChangeShapes Go.WideShapes Go.ChangeAt Go.RowKit Go.Deep Go.Proofs.Ytmkapmbmgpnjaaa.Bi

/-! Where Counted keeps its state. -/
abbrev boxC (kv lv : Value) (s : Nat) : Obj := .cells #[kv, lv, .int .i64 s] 139 (0, 0)
abbrev boxL (lev : List Nat) : Obj := .cells (lev.map fun n : Nat => Value.int .i64 (n : Int)).toArray 3 (0, 0)
abbrev levV (Lb n : Nat) : Value := .slice (some ⟨Lb, 0, none⟩) n n
theorem c_cells {w : World} {C s : Nat} {kv lv : Value} (h : w.heap[C]? = some (boxC kv lv s)) : w.cell? ⟨C, 0, none⟩ = some kv ∧ w.cell? ⟨C, 1, none⟩ = some lv ∧ w.cell? ⟨C, 2, none⟩ = some (.int .i64 (s : Int)) := ⟨cell_of h 0, cell_of h 1, cell_of h 2⟩
theorem lev_cell {w : World} {Lb i : Nat} {lev : List Nat} (h : w.heap[Lb]? = some (boxL lev)) (hi : i < lev.length) : w.cell? ⟨Lb, i, none⟩ = some (.int .i64 ((lev.getD i 0 : Nat) : Int)) := by
  rw [cell_of h i]
  simp [List.getD_eq_getElem?_getD, hi]
theorem lev_set {w : World} {Lb i x : Nat} {lev : List Nat} (h : w.heap[Lb]? = some (boxL lev)) : (w.setCell ⟨Lb, i, none⟩ (.int .i64 (x : Int))).heap[Lb]? = some (boxL (lev.set i x)) := by
  refine (heap_setCell_same _ Lb i _ 3 _ h).trans ?_
  simp [boxL, List.map_set]
theorem bitLen_pos {s : Nat} (h1 : 1 ≤ s) (h2 : s ≤ 256) : Lib.bitLen s = lastOf s + 1 := by
  have := (starts ⟨s, by omega⟩ h1).2.2
  unfold lastOf
  simp only at this
  omega
set_option maxHeartbeats 4000000 in
theorem lastProg {w : World} {C s : Nat} {kv lv : Value} (h : w.heap[C]? = some (boxC kv lv s)) (h1 : 1 ≤ s) (h2 : s ≤ 256) :
    Calls Try.prog 150 #[.pointer (some ⟨C, 0, none⟩)] w fun e w' => e = .returned (.int .i64 (lastOf s : Int)) ∧ w' = w := by
  obtain ⟨-, -, x2⟩ := c_cells h
  have HL := hide (lenProg (w := w) h2)
  have hs := (starts ⟨s, by omega⟩ h1).2.1
  simp only at hs
  have HLO := hide hs
  rw [bitLen_pos h1 h2] at HL
  have hw1 : IntKind.u64.wrap (s : Int) = (s : Int) := by simp [IntKind.wrap, IntKind.signed, IntKind.bits]; omega
  have hw2 : IntKind.i64.wrap (((lastOf s + 1 : Nat) : Int) - 1) = (lastOf s : Int) := by simp [IntKind.wrap, IntKind.signed, IntKind.bits]; omega
  have hw3 : (s : Int) % 18446744073709551616 = (s : Int) := by omega
  clear h h1 h2 hs
  go_enter Try.func150, Try.ntmps150
  go_wp2_with fail
  (with_reducible refine HL.out.mono ?_)
  rintro e w' ⟨rfl, rfl⟩
  go_wp2_with fail
  refine bodyPost_ret (v := .int .i64 (lastOf s : Int)) ?_ rfl ⟨rfl, rfl⟩
  simp [results, Try.results150, go_sem]
  have := HLO.out
  unfold wrap64
  omega
def Apart (w : World) (Lb C : Nat) (v : Value) (xs : List Nat) : Prop := ∃ oa cap, v = .slice oa xs.length cap ∧ xs.length ≤ 256 ∧ ∀ i (h : i < xs.length), ∃ b o, oa = some ⟨b, o, none⟩ ∧ (b ≠ Lb ∧ b ≠ C) ∧ w.cell? ⟨b, o + i, none⟩ = some (.int .i64 (xs[i] : Int))
theorem Apart.keep {w w' : World} {Lb C : Nat} {v : Value} {xs : List Nat} (h : Apart w Lb C v xs) (k : ∀ i, i ≠ Lb → i ≠ C → w'.heap[i]? = w.heap[i]?) : Apart w' Lb C v xs := by
  obtain ⟨oa, cap, e, hl, hc⟩ := h
  exact ⟨oa, cap, e, hl, fun i hi => by
    obtain ⟨b, o, e, hb, hx⟩ := hc i hi
    exact ⟨b, o, e, hb, (World.cell?_of_block (a := ⟨b, o + i, none⟩) (k b hb.1 hb.2)).trans hx⟩⟩
theorem not_before {l : List Nat} (hd : l.Pairwise (· < ·)) {k : Nat} (hk : k < l.length) : l[k] ∉ l.take k := by
  intro h
  obtain ⟨j, hj, e⟩ := List.getElem_of_mem h
  rw [List.length_take] at hj
  rw [List.getElem_take] at e
  have := List.pairwise_iff_getElem.1 hd j k (by omega) hk (by omega)
  omega
theorem at_before {f : Nat → Nat} {l lev : List Nat} (hd : l.Pairwise (· < ·)) {k : Nat} (hk : k < l.length) : (atLev f (l.take k) lev).getD l[k] 0 = lev.getD l[k] 0 := by
  rw [at_get, if_neg fun q => not_before hd hk q.1]

set_option maxHeartbeats 8000000 in
theorem raiseProg {w : World} {C Lb s n : Nat} {lev xs : List Nat} {kv v : Value} (hC : w.heap[C]? = some (boxC kv (levV Lb n) s)) (hL : w.heap[Lb]? = some (boxL lev)) (hn : lev.length = n) (hne : C ≠ Lb) (hv : Apart w Lb C v xs) (hd : xs.Pairwise (· < ·)) (hx : ∀ i ∈ xs, i < n) (hl : ∀ i, lev.getD i 0 ≤ 1000) :
    Calls Try.prog 112 #[.pointer (some ⟨C, 0, none⟩), v] w fun e w' => e = .returned (.tuple #[]) ∧ w'.heap[Lb]? = some (boxL (raised xs lev)) ∧ (∀ k, k ≠ Lb → w'.heap[k]? = w.heap[k]?) ∧ Below Lb w w' := by
  have HC := hide hC
  have HV := hide hv
  have HD := hide hd
  have HX := hide hx
  have HLL := hide hl
  have HN := hide hn
  have HNE := hide hne
  obtain ⟨oa, cap, rfl, hxl, -⟩ := hv
  have HXL := hide hxl
  have HL : Hid (w.heap[Lb]? = some (boxL (atLev (fun x => x + 1) (xs.take 0) lev))) := hide (by
    have : atLev (fun x => x + 1) (xs.take 0) lev = lev := by
      apply List.ext_getElem
      · simp [at_len]
      · intro i h1 h2; rw [at_elem]; simp
    rw [this]; exact hL)
  clear hC hL hn hne hd hx hl hxl
  go_enter Try.func112, Try.ntmps112
  go_wp2_with fail
  go_loopw [8] (fun s8 wr => ∃ k : Nat, k ≤ xs.length ∧ s8 = .int .i64 (k : Int) ∧ Hid (wr.heap[Lb]? = some (boxL (atLev (fun x => x + 1) (xs.take k) lev))) ∧ Hid (∀ j, j ≠ Lb → wr.heap[j]? = w.heap[j]?) ∧ Hid (Below Lb w wr)) (fun s8 _ => xs.length - (intOf s8).toNat)
  case atStart => exact ⟨0, Nat.zero_le _, rfl, HL, hide fun _ _ => rfl, hide (Below.refl _ _)⟩
  case round =>
    obtain ⟨k, hk, rfl, HLK, HO, HB⟩ := hrel
    by_cases hlt : k < xs.length
    · have hi : (k : Int) < (xs.length : Int) := by omega
      obtain ⟨x, hxk⟩ : ∃ x, x = xs[k] := ⟨_, rfl⟩
      obtain ⟨oa2, cap2, e2, -, hc⟩ := HV.out.keep fun i h1 _ => HO.out i h1
      injection e2 with e2 e3 e4
      subst e2 e4
      obtain ⟨b, o, rfl, -, f0⟩ := hc k hlt
      rw [← hxk] at f0
      have hxn : x < n := by rw [hxk]; exact HX.out _ (List.getElem_mem hlt)
      obtain ⟨y, hy⟩ : ∃ y, y = lev.getD x 0 := ⟨_, rfl⟩
      have hyl : y ≤ 1000 := by rw [hy]; exact HLL.out x
      have hcl := lev_cell (i := x) HLK.out (by rw [at_len, HN.out]; exact hxn)
      have hbef : (atLev (fun x => x + 1) (xs.take k) lev).getD x 0 = y := by rw [hy, hxk]; exact at_before HD.out hlt
      rw [hbef] at hcl
      have hfz := Bi.frozen_of HLK.out x
      obtain ⟨-, c1, -⟩ := c_cells ((HO.out C HNE.out).trans HC.out)
      have hw := wrap_upW hlt (by have := HXL.out; omega)
      have hw2 : IntKind.i64.wrap ((y : Int) + 1) = ((y + 1 : Nat) : Int) := by simp [IntKind.wrap, IntKind.signed, IntKind.bits]; omega
      have hbL := block_lt HLK.out
      have hx2 : (x : Int) < (n : Int) := by omega
      have HNX : Hid (((atLev (fun x => x + 1) (xs.take k) lev).set x (y + 1)) = atLev (fun x => x + 1) (xs.take (k + 1)) lev) := hide (by
        have := at_next (f := fun x => x + 1) (lev := lev) hlt
        rw [← hxk, ← hy] at this
        exact this)
      have HLT := hide hlt
      clear hc e3 hxk hy hyl hbef hlt
      go_wp2_with fail
      have hX := lev_set (i := x) (x := y + 1) HLK.out
      rw [HNX.out] at hX
      refine ⟨⟨k + 1, HLT.out, by go_num, hide hX, hide fun j hj => (Below.heap_setCell _ _ _ _ hj).trans (HO.out j hj), hide (HB.out.setCell (p := ⟨Lb, x, none⟩) (Nat.le_refl _) _)⟩, by simp [intOf]; have := HLT.out; omega⟩
    · obtain rfl : k = xs.length := by omega
      rw [List.take_length] at HLK
      go_wp2_with fail
      go_end0
      exact ⟨rfl, HLK.out, HO.out, HB.out⟩

set_option maxHeartbeats 16000000 in
theorem keepProg {w : World} {C Lb s n M : Nat} {lev xs : List Nat} {kv v : Value} (hC : w.heap[C]? = some (boxC kv (levV Lb n) s)) (hL : w.heap[Lb]? = some (boxL lev)) (hn : lev.length = n) (hne : C ≠ Lb) (hv : Apart w Lb C v xs) (hd : xs.Pairwise (· < ·)) (hx : ∀ i ∈ xs, i < n) (hl : ∀ i, lev.getD i 0 ≤ 1000) (hs : 1 ≤ s ∧ s ≤ 256) (hM : M ≤ C ∧ M ≤ Lb) :
    Calls Try.prog 111 #[.pointer (some ⟨C, 0, none⟩), v] w fun e w' => e = .returned (.tuple #[]) ∧ w'.heap[C]? = some (boxC v (levV Lb n) s) ∧ w'.heap[Lb]? = some (boxL (lowered (lastOf s) xs lev)) ∧ (∀ k, k ≠ Lb → k ≠ C → w'.heap[k]? = w.heap[k]?) ∧ Below M w w' := by
  have HV := hide hv
  have HD := hide hd
  have HX := hide hx
  have HLL := hide hl
  have HN := hide hn
  have HNE := hide hne
  have HS1 := hide hs
  have HMM := hide hM
  obtain ⟨oa, cap, rfl, hxl, -⟩ := hv
  have HXL := hide hxl
  have HL : Hid (w.heap[Lb]? = some (boxL (atLev (fun x => min x (lastOf s)) (xs.take 0) lev))) := hide (by
    have : atLev (fun x => min x (lastOf s)) (xs.take 0) lev = lev := by
      apply List.ext_getElem
      · simp [at_len]
      · intro i h1 h2; rw [at_elem]; simp
    rw [this]; exact hL)
  have hCX : (w.setCell ⟨C, 0, none⟩ (.slice oa xs.length cap)).heap[C]? = some (boxC (.slice oa xs.length cap) (levV Lb n) s) := by
    refine (heap_setCell_same _ C 0 _ 139 _ hC).trans ?_
    simp [boxC]
  have HCX := hide hCX
  have HOX : Hid (∀ j, j ≠ C → (w.setCell ⟨C, 0, none⟩ (.slice oa xs.length cap)).heap[j]? = w.heap[j]?) := hide fun j hj => Below.heap_setCell _ _ _ _ hj
  have HBX : Hid (Below M w (w.setCell ⟨C, 0, none⟩ (.slice oa xs.length cap))) := hide ((Below.refl _ _).setCell (p := ⟨C, 0, none⟩) hM.1 _)
  obtain ⟨c0, c1, c2⟩ := c_cells hC
  have f0 := Bi.frozen_of hC 0
  have hCs := block_lt hC
  clear hC hL hn hne hd hx hl hxl hs hM hCX
  go_enter Try.func111, Try.ntmps111
  go_wp2_with fail
  clear c0 c1 c2 f0 hCs
  go_loopw [12] (fun s12 wr => ∃ k : Nat, k ≤ xs.length ∧ s12 = .int .i64 (k : Int) ∧ Hid (wr.heap[C]? = some (boxC (.slice oa xs.length cap) (levV Lb n) s)) ∧ Hid (wr.heap[Lb]? = some (boxL (atLev (fun x => min x (lastOf s)) (xs.take k) lev))) ∧ Hid (∀ j, j ≠ Lb → j ≠ C → wr.heap[j]? = w.heap[j]?) ∧ Hid (Below M w wr)) (fun s12 _ => xs.length - (intOf s12).toNat)
  case atStart => exact ⟨0, Nat.zero_le _, rfl, HCX, hide ((HOX.out Lb HNE.out.symm).trans HL.out), hide fun j _ h2 => HOX.out j h2, HBX⟩
  case round =>
    obtain ⟨k, hk, rfl, HCK, HLK, HO, HB⟩ := hrel
    by_cases hlt : k < xs.length
    · have hi : (k : Int) < (xs.length : Int) := by omega
      obtain ⟨x, hxk⟩ : ∃ x, x = xs[k] := ⟨_, rfl⟩
      obtain ⟨oa2, cap2, e2, -, hc⟩ := HV.out.keep HO.out
      injection e2 with e2 e3 e4
      subst e2 e4
      obtain ⟨b, o, rfl, -, f0⟩ := hc k hlt
      rw [← hxk] at f0
      have hxn : x < n := by rw [hxk]; exact HX.out _ (List.getElem_mem hlt)
      obtain ⟨y, hy⟩ : ∃ y, y = lev.getD x 0 := ⟨_, rfl⟩
      have HBEF : Hid ((atLev (fun x => min x (lastOf s)) (xs.take k) lev).getD x 0 = y) := hide (by rw [hy, hxk]; exact at_before HD.out hlt)
      have HXN := hide hxn
      have HMN : Hid ((if lastOf s < y then (lastOf s : Int) else (y : Int)) = ((min y (lastOf s) : Nat) : Int)) := hide (by split <;> omega)
      have hw := wrap_upW hlt (by have := HXL.out; omega)
      have hx2 : (x : Int) < (n : Int) := by omega
      have HNX : Hid (((atLev (fun x => min x (lastOf s)) (xs.take k) lev).set x (min y (lastOf s))) = atLev (fun x => min x (lastOf s)) (xs.take (k + 1)) lev) := hide (by
        have := at_next (f := fun x => min x (lastOf s)) (lev := lev) hlt
        rw [← hxk, ← hy] at this
        exact this)
      have HLT := hide hlt
      clear hc e3 hxk hy hlt hxn
      go_upto_region 4 with (fail)
      have HH5 : Hid (wr.drew.heap[C]? = some (boxC (.slice (some ⟨b, o, none⟩) xs.length cap) (levV Lb n) s)) := hide HCK.out
      have HH6 : Hid ((wr.setCell ⟨Lb, x, none⟩ (.int .i64 ((min y (lastOf s) : Nat) : Int))).drew.heap[C]? = some (boxC (.slice (some ⟨b, o, none⟩) xs.length cap) (levV Lb n) s)) := hide ((Below.heap_setCell _ ⟨Lb, x, none⟩ _ _ HNE.out).trans HCK.out)
      have HX6 : Hid ((wr.setCell ⟨Lb, x, none⟩ (.int .i64 ((min y (lastOf s) : Nat) : Int))).drew.heap[Lb]? = some (boxL (atLev (fun x => min x (lastOf s)) (xs.take (k + 1)) lev))) := hide (by
        have hX := lev_set (i := x) (x := min y (lastOf s)) HLK.out
        rw [HNX.out] at hX
        exact hX)
      have hcl := lev_cell (i := x) HLK.out (by rw [at_len, HN.out]; exact HXN.out)
      rw [HBEF.out] at hcl
      refine wp_region_held_drew (S := fun w' => Hid (w'.heap[C]? = some (boxC (.slice (some ⟨b, o, none⟩) xs.length cap) (levV Lb n) s))) (by kernel_rfl) HCK (fun hHeld => ?_)
      refine takeAt (i := 0) (d := some 16) (v := .pointer (some ⟨C, 0, none⟩)) rfl rfl (by kernel_rfl) (by kernel_rfl) (by kernel_rfl) (fun _ _ _ h => h) (Or.inl ⟨by rfl, fun w hS => by go_simp⟩) hHeld ?_
      simp only [Act.put, List.setIfInBounds_toArray, List.set_cons_zero, List.set_cons_succ]
      refine takeAt (i := 1) (d := some 17) (v := .pointer (some ⟨C, 0, none⟩)) rfl rfl (by kernel_rfl) (by kernel_rfl) (by kernel_rfl) (fun _ _ _ h => h) (Or.inl ⟨by rfl, fun w hS => by go_simp⟩) hHeld ?_
      simp only [Act.put, List.setIfInBounds_toArray, List.set_cons_zero, List.set_cons_succ]
      refine takeAt (i := 2) (d := some 18) (v := .pointer (some ⟨C, 1, none⟩)) rfl rfl (by kernel_rfl) (by kernel_rfl) (by kernel_rfl) (fun _ _ _ h => h) (Or.inl ⟨by rfl, fun w hS => by go_simp⟩) hHeld ?_
      simp only [Act.put, List.setIfInBounds_toArray, List.set_cons_zero, List.set_cons_succ]
      refine takeAt (i := 3) (d := some 19) (v := levV Lb n) rfl rfl (by kernel_rfl) (by kernel_rfl) (by kernel_rfl) (fun _ _ _ h => h) (Or.inl ⟨by rfl, fun w hS => by obtain ⟨c0, c1, c2⟩ := c_cells hS.out; go_simp⟩) hHeld ?_
      simp only [Act.put, List.setIfInBounds_toArray, List.set_cons_zero, List.set_cons_succ]
      refine takeAt (i := 4) (d := some 20) (v := .int .i64 (x : Int)) rfl rfl (by kernel_rfl) (by kernel_rfl) (by kernel_rfl) (fun _ _ _ h => h) (Or.inl ⟨by rfl, fun w hS => by go_simp⟩) hHeld ?_
      simp only [Act.put, List.setIfInBounds_toArray, List.set_cons_zero, List.set_cons_succ]
      refine takeAt (i := 5) (d := some 21) (v := .pointer (some ⟨C, 0, none⟩)) rfl rfl (by kernel_rfl) (by kernel_rfl) (by kernel_rfl) (fun _ _ _ h => h) (Or.inl ⟨by rfl, fun w hS => by go_simp⟩) hHeld ?_
      simp only [Act.put, List.setIfInBounds_toArray, List.set_cons_zero, List.set_cons_succ]
      refine takeAt (i := 6) (d := some 22) (v := .pointer (some ⟨C, 0, none⟩)) rfl rfl (by kernel_rfl) (by kernel_rfl) (by kernel_rfl) (fun _ _ _ h => h) (Or.inl ⟨by rfl, fun w hS => by go_simp⟩) hHeld ?_
      simp only [Act.put, List.setIfInBounds_toArray, List.set_cons_zero, List.set_cons_succ]
      refine takeAt (i := 7) (d := some 23) (v := .pointer (some ⟨C, 1, none⟩)) rfl rfl (by kernel_rfl) (by kernel_rfl) (by kernel_rfl) (fun _ _ _ h => h) (Or.inl ⟨by rfl, fun w hS => by go_simp⟩) hHeld ?_
      simp only [Act.put, List.setIfInBounds_toArray, List.set_cons_zero, List.set_cons_succ]
      refine takeAt (i := 8) (d := some 24) (v := levV Lb n) rfl rfl (by kernel_rfl) (by kernel_rfl) (by kernel_rfl) (fun _ _ _ h => h) (Or.inl ⟨by rfl, fun w hS => by obtain ⟨c0, c1, c2⟩ := c_cells hS.out; go_simp⟩) hHeld ?_
      simp only [Act.put, List.setIfInBounds_toArray, List.set_cons_zero, List.set_cons_succ]
      refine takeAt (i := 9) (d := some 25) (v := .int .i64 (x : Int)) rfl rfl (by kernel_rfl) (by kernel_rfl) (by kernel_rfl) (fun _ _ _ h => h) (Or.inl ⟨by rfl, fun w hS => by go_simp⟩) hHeld ?_
      simp only [Act.put, List.setIfInBounds_toArray, List.set_cons_zero, List.set_cons_succ]
      refine takeAt (i := 10) (d := some 26) (v := .pointer (some ⟨Lb, x, none⟩)) rfl rfl (by kernel_rfl) (by kernel_rfl) (by kernel_rfl) (fun _ _ _ h => h) (Or.inl ⟨by rfl, fun w hS => by go_simp⟩) hHeld ?_
      simp only [Act.put, List.setIfInBounds_toArray, List.set_cons_zero, List.set_cons_succ]
      refine takeAt (i := 12) (d := some 28) (v := .pointer (some ⟨C, 0, none⟩)) rfl rfl (by kernel_rfl) (by kernel_rfl) (by kernel_rfl) (fun _ _ _ h => h) (Or.inl ⟨by rfl, fun w hS => by go_simp⟩) hHeld ?_
      simp only [Act.put, List.setIfInBounds_toArray, List.set_cons_zero, List.set_cons_succ]
      refine wpAnyH_ready (rs := [11, 13]) (by kernel_rfl) (by simp) ?_
      refine AllReadyH.cons rfl (fun K0 hK => ?_) (AllReadyH.cons rfl (fun K0 hK => ?_) AllReadyH.nil)
      · go_simp
        refine hK.out _ _ HH5 (fun hHeld => ?_)
        clear hK K0
        try simp only [Act.put, List.setIfInBounds_toArray, List.set_cons_zero, List.set_cons_succ]
        refine wpAnyH_ready (rs := [13]) (by kernel_rfl) (by simp) ?_
        refine AllReadyH.cons rfl (fun K0 hK => ?_) AllReadyH.nil
        go_simp
        go_at_call 150
        (with_reducible refine (lastProg (w := wr.drew) (kv := .slice (some ⟨b, o, none⟩) xs.length cap) (lv := levV Lb n) HCK.out HS1.out.1 HS1.out.2).mono ?_)
        rintro e w5 ⟨rfl, rfl⟩
        refine hK.out _ _ HH5 (fun hHeld => ?_)
        clear hK K0
        try simp only [Act.put, List.setIfInBounds_toArray, List.set_cons_zero, List.set_cons_succ]
        refine takeAt (i := 14) (d := some 30) (v := .int .i64 ((min y (lastOf s) : Nat) : Int)) rfl rfl (by kernel_rfl) (by kernel_rfl) (by kernel_rfl) (fun _ _ _ h => h) (Or.inl ⟨by rfl, fun w hS => by go_simp; exact HMN.out⟩) hHeld ?_
        simp only [Act.put, List.setIfInBounds_toArray, List.set_cons_zero, List.set_cons_succ]
        refine takeAt (i := 15) (d := some 31) (v := .pointer (some ⟨Lb, x, none⟩)) rfl rfl (by kernel_rfl) (by kernel_rfl) (by kernel_rfl) (fun _ _ _ h => h) (Or.inl ⟨by rfl, fun w hS => by go_simp⟩) hHeld ?_
        simp only [Act.put, List.setIfInBounds_toArray, List.set_cons_zero, List.set_cons_succ]
        refine wpAnyH_ready (rs := [16]) (by kernel_rfl) (by simp) ?_
        refine AllReadyH.cons rfl (fun K0 hK => ?_) AllReadyH.nil
        have hfz := Bi.frozen_of HLK.out x
        go_simp
        refine hK.out _ _ HH6 (fun hHeld => ?_)
        clear hK K0
        try simp only [Act.put, List.setIfInBounds_toArray, List.set_cons_zero, List.set_cons_succ]
        refine wpAnyH_done (by kernel_rfl) ?_ _
        clear hcl
        go_wp2_with fail
        refine ⟨⟨k + 1, HLT.out, by go_num, HH6, hide HX6.out, hide fun j h1 h2 => (Below.heap_setCell _ _ _ _ h1).trans (HO.out j h1 h2), hide (Below.drew (HB.out.setCell (p := ⟨Lb, x, none⟩) HMM.out.2 _))⟩, by simp [intOf]; have := HLT.out; omega⟩
      · go_simp
        go_at_call 150
        (with_reducible refine (lastProg (w := wr.drew) (kv := .slice (some ⟨b, o, none⟩) xs.length cap) (lv := levV Lb n) HCK.out HS1.out.1 HS1.out.2).mono ?_)
        rintro e w5 ⟨rfl, rfl⟩
        refine hK.out _ _ HH5 (fun hHeld => ?_)
        clear hK K0
        try simp only [Act.put, List.setIfInBounds_toArray, List.set_cons_zero, List.set_cons_succ]
        refine wpAnyH_ready (rs := [11]) (by kernel_rfl) (by simp) ?_
        refine AllReadyH.cons rfl (fun K0 hK => ?_) AllReadyH.nil
        go_simp
        refine hK.out _ _ HH5 (fun hHeld => ?_)
        clear hK K0
        try simp only [Act.put, List.setIfInBounds_toArray, List.set_cons_zero, List.set_cons_succ]
        refine takeAt (i := 14) (d := some 30) (v := .int .i64 ((min y (lastOf s) : Nat) : Int)) rfl rfl (by kernel_rfl) (by kernel_rfl) (by kernel_rfl) (fun _ _ _ h => h) (Or.inl ⟨by rfl, fun w hS => by go_simp; exact HMN.out⟩) hHeld ?_
        simp only [Act.put, List.setIfInBounds_toArray, List.set_cons_zero, List.set_cons_succ]
        refine takeAt (i := 15) (d := some 31) (v := .pointer (some ⟨Lb, x, none⟩)) rfl rfl (by kernel_rfl) (by kernel_rfl) (by kernel_rfl) (fun _ _ _ h => h) (Or.inl ⟨by rfl, fun w hS => by go_simp⟩) hHeld ?_
        simp only [Act.put, List.setIfInBounds_toArray, List.set_cons_zero, List.set_cons_succ]
        refine wpAnyH_ready (rs := [16]) (by kernel_rfl) (by simp) ?_
        refine AllReadyH.cons rfl (fun K0 hK => ?_) AllReadyH.nil
        have hfz := Bi.frozen_of HLK.out x
        go_simp
        refine hK.out _ _ HH6 (fun hHeld => ?_)
        clear hK K0
        try simp only [Act.put, List.setIfInBounds_toArray, List.set_cons_zero, List.set_cons_succ]
        refine wpAnyH_done (by kernel_rfl) ?_ _
        clear hcl
        go_wp2_with fail
        refine ⟨⟨k + 1, HLT.out, by go_num, HH6, hide HX6.out, hide fun j h1 h2 => (Below.heap_setCell _ _ _ _ h1).trans (HO.out j h1 h2), hide (Below.drew (HB.out.setCell (p := ⟨Lb, x, none⟩) HMM.out.2 _))⟩, by simp [intOf]; have := HLT.out; omega⟩
    · obtain rfl : k = xs.length := by omega
      rw [List.take_length] at HLK
      go_wp2_with fail
      go_end0
      exact ⟨rfl, HCK.out, HLK.out, HO.out, HB.out⟩
end Go.Proofs.Ytmkapmbmgpnjaaa.Se

set_option maxRecDepth 100000
set_option linter.unusedSimpArgs false
set_option linter.unusedVariables false
namespace Go.Proofs.Ytmkapmbmgpnjaaa.Se
open Go Go.Ms Go.Pg Go.Bi Go.Se Go.ChangeShapes Go.WideShapes Go.ChangeAt Go.RowKit Go.Deep Go.Proofs.Ytmkapmbmgpnjaaa.Bi

/-! The group that is left out next. -/
theorem EP30' : Go.Il.IntElem Try.prog 30 3 .i64 8 := Go.Il.IntElem.mk Try.underlying30 (by kernel_rfl)
theorem low_next {la : Nat} {c : Cs} {k : Nat} (hk : k < c.kept.length) : (c.kept.take (k + 1)).foldl (fun a i => min a (levOf c i)) (la + 1) = min ((c.kept.take k).foldl (fun a i => min a (levOf c i)) (la + 1)) (levOf c c.kept[k]) := by
  rw [List.take_succ_eq_append_getElem hk, List.foldl_append]
  rfl
def grp (s lo : Nat) (c : Cs) (k : Nat) : List Nat := ((c.kept.take k).filter fun i => levOf c i == lo).take (s >>> lo)
theorem grp_next {s lo : Nat} {c : Cs} {k : Nat} (hk : k < c.kept.length) : grp s lo c (k + 1) = if levOf c c.kept[k] = lo ∧ (grp s lo c k).length < s >>> lo then grp s lo c k ++ [c.kept[k]] else grp s lo c k := by
  unfold grp
  rw [List.take_succ_eq_append_getElem hk, List.filter_append]
  generalize (c.kept.take k).filter (fun i => levOf c i == lo) = F
  by_cases h : levOf c c.kept[k] = lo
  · rw [show ([c.kept[k]].filter fun i => levOf c i == lo) = [c.kept[k]] by simp [h]]
    by_cases q : (F.take (s >>> lo)).length < s >>> lo
    · rw [if_pos ⟨h, q⟩]
      rw [List.length_take] at q
      rw [List.take_of_length_le (by simp; omega), List.take_of_length_le (by omega)]
    · rw [if_neg fun x => q x.2]
      rw [List.length_take] at q
      rw [List.take_append_of_le_length (by omega)]
  · rw [if_neg fun x => h x.1, show ([c.kept[k]].filter fun i => levOf c i == lo) = [] by simp [h], List.append_nil]

set_option maxHeartbeats 16000000 in
theorem groupProg {w : World} {C Lb s n : Nat} {c : Cs} {kv : Value} (hC : w.heap[C]? = some (boxC kv (levV Lb n) s)) (hL : w.heap[Lb]? = some (boxL c.lev)) (hf : FitC n (lastOf s) c) (hn : n ≤ 256) (hv : Apart w Lb C kv c.kept) (hs : 1 ≤ s ∧ s ≤ 256) :
    Calls Try.prog 109 #[.pointer (some ⟨C, 0, none⟩)] w fun e w' => ∃ v, e = .returned v ∧ Go.Il.Own 3 .i64 w.heap.size w' v ((groupOf s (lastOf s) c).map Int.ofNat) ∧ Below w.heap.size w w' := by
  have HC := hide hC
  have HL := hide hL
  have HF := hide hf
  have HN := hide hn
  have HS := hide hs
  have HKL := hide (kept_le hf)
  obtain ⟨la, hla⟩ : ∃ la, la = lastOf s := ⟨_, rfl⟩
  have HLA := hide hla
  have HST : Hid (Start s la) := hide (by rw [hla]; exact start_of hs.1 hs.2)
  rw [← hla] at HF ⊢
  obtain ⟨oa, cap, rfl, hkl, hcells⟩ := hv
  have HCE := hide hcells
  obtain ⟨c0, c1, c2⟩ := c_cells hC
  have hla8 : la ≤ 8 := HST.out.small
  have hw1 : IntKind.i64.wrap ((la : Int) + 1) = ((la + 1 : Nat) : Int) := by simp [IntKind.wrap, IntKind.signed, IntKind.bits]; omega
  have HLP : Hid (∀ W : World, W.heap[C]? = some (boxC (.slice oa c.kept.length cap) (levV Lb n) s) → Calls Try.prog 150 #[.pointer (some ⟨C, 0, none⟩)] W fun e w' => e = .returned (.int .i64 (la : Int)) ∧ w' = W) := hide fun W h => by rw [hla]; exact lastProg h hs.1 hs.2
  clear hC hL hf hn hs hla hcells hla8
  go_enter Try.func109, Try.ntmps109
  go_wp2_with fail
  (with_reducible refine (HLP.out _ HC.out).mono ?_)
  rintro e w1 ⟨rfl, rfl⟩
  go_wp2_with fail
  clear hw1
  go_loopw [3, 17] (fun s3 s17 wr => ∃ k : Nat, k ≤ c.kept.length ∧ s17 = .int .i64 (k : Int) ∧ s3 = .int .i64 (((c.kept.take k).foldl (fun a i => min a (levOf c i)) (la + 1) : Nat) : Int) ∧ wr = w1) (fun _ s17 _ => c.kept.length - (intOf s17).toNat)
  case atStart => exact ⟨0, Nat.zero_le _, rfl, by simp, rfl⟩
  case round =>
    obtain ⟨k, hk, rfl, rfl, rfl⟩ := hrel
    obtain ⟨lo, hlo⟩ : ∃ lo, lo = (c.kept.take k).foldl (fun a i => min a (levOf c i)) (la + 1) := ⟨_, rfl⟩
    have HLO := hide hlo
    rw [← hlo]
    clear hlo
    by_cases hlt : k < c.kept.length
    · have hi : (k : Int) < (c.kept.length : Int) := by omega
      obtain ⟨x, hxk⟩ : ∃ x, x = c.kept[k] := ⟨_, rfl⟩
      obtain ⟨b, o, rfl, -, f0⟩ := HCE.out k hlt
      rw [← hxk] at f0
      have hxn : x < n := by rw [hxk]; exact HF.out.low _ (List.getElem_mem hlt)
      have hcl := lev_cell (i := x) HL.out (by rw [HF.out.len]; exact hxn)
      obtain ⟨y, hy⟩ : ∃ y, y = c.lev.getD x 0 := ⟨_, rfl⟩
      rw [← hy] at hcl
      have hx2 : (x : Int) < (n : Int) := by omega
      have hw := wrap_upW hlt (by omega)
      have HNX : Hid ((c.kept.take (k + 1)).foldl (fun a i => min a (levOf c i)) (la + 1) = min lo y) := hide (by rw [low_next hlt, ← HLO.out, ← hxk, hy]; rfl)
      have HLT := hide hlt
      clear hxk hxn hy hlt
      go_wp2_with fail
      refine ⟨⟨k + 1, HLT.out, by go_num, ?_, by first | trivial | rfl⟩, by simp [intOf]; have := HLT.out; omega⟩
      rw [HNX.out]
      congr 1
      split <;> omega
    · obtain rfl : k = c.kept.length := by omega
      have hlo2 : lo = lowest la c := by rw [HLO.out, List.take_length]; rfl
      have HLW := hide hlo2
      clear hlt hlo2 HLO
      go_wp2_with fail
      (with_reducible refine (HLP.out _ HC.out).mono ?_)
      rintro e w2 ⟨rfl, rfl⟩
      by_cases hgt : la < lo
      · have d1 : decide ((la : Int) < (lo : Int)) = true := decide_eq_true (by omega)
        have d2 : decide (la < lo) = true := decide_eq_true hgt
        have HG : Hid (groupOf s la c = []) := hide (by unfold groupOf; rw [if_pos (by rw [← HLW.out]; exact hgt)])
        clear hgt
        go_wp2_with fail
        go_ret
        rw [HG.out]
        exact ⟨_, rfl, Go.Il.Own.nil _ _ _ _, Below.refl _ _⟩
      · have d1 : decide ((la : Int) < (lo : Int)) = false := decide_eq_false (by omega)
        have d2 : decide (la < lo) = false := decide_eq_false hgt
        have HGT := hide hgt
        have HSH : Hid ((s : Int) / 2 ^ min lo 64 = ((s >>> lo : Nat) : Int)) := hide (by
          have := HST.out.small
          rw [Nat.min_eq_left (by omega), Nat.shiftRight_eq_div_pow]
          simp)
        clear hgt
        go_wp2_with fail
        clear d1 d2
        go_loopw [6, 40] (fun s6 s40 wr => ∃ k : Nat, k ≤ c.kept.length ∧ s40 = .int .i64 (k : Int) ∧ Hid (Go.Il.Own 3 .i64 w2.heap.size wr s6 ((grp s lo c k).map Int.ofNat)) ∧ Hid (Below w2.heap.size w2 wr)) (fun _ s40 _ => c.kept.length - (intOf s40).toNat)
        case atStart => exact ⟨0, Nat.zero_le _, rfl, hide (by simp [grp]; exact Go.Il.Own.nil _ _ _ _), hide (Below.refl _ _)⟩
        case round =>
          obtain ⟨k, hk, rfl, HO, HB⟩ := hrel
          obtain ⟨b6, p6, hv6⟩ := Go.Il.Own.form HO.out
          subst hv6
          by_cases hlt : k < c.kept.length
          · have hi : (k : Int) < (c.kept.length : Int) := by omega
            obtain ⟨x, hxk⟩ : ∃ x, x = c.kept[k] := ⟨_, rfl⟩
            obtain ⟨b, o, rfl, -, f0⟩ := HCE.out k hlt
            rw [← hxk] at f0
            have f1 := cell_old HB.out f0
            have hxn : x < n := by rw [hxk]; exact HF.out.low _ (List.getElem_mem hlt)
            have hLw := (HB.out.block _ (block_lt HL.out)).trans HL.out
            have hCw := (HB.out.block _ (block_lt HC.out)).trans HC.out
            have hcl := lev_cell (i := x) hLw (by rw [HF.out.len]; exact hxn)
            obtain ⟨e0, e1, e2⟩ := c_cells hCw
            obtain ⟨y, hy⟩ : ∃ y, y = c.lev.getD x 0 := ⟨_, rfl⟩
            rw [← hy] at hcl
            have hx2 : (x : Int) < (n : Int) := by omega
            have hw := wrap_upW hlt (by omega)
            have HNX := hide (grp_next (s := s) (lo := lo) hlt)
            rw [← hxk, show levOf c x = y from hy.symm] at HNX
            have HLT := hide hlt
            have hgl : (grp s lo c k).length ≤ c.kept.length := by
              unfold grp
              rw [List.length_take]
              exact Nat.le_trans (Nat.min_le_right _ _) (Nat.le_trans (List.length_filter_le _ _) (by rw [List.length_take]; omega))
            have hsz : w2.heap.size ≤ wr.heap.size := HB.out.size
            have hln : ((grp s lo c k).map Int.ofNat).length + [(x : Int)].length ≤ 10000000 := by rw [List.length_map]; simp; omega
            clear hxk hxn hy hlt hLw hCw f0
            by_cases hyl : y = lo
            · have d1 : ((y : Int) == (lo : Int)) = true := by simp [hyl]
              by_cases hq : (grp s lo c k).length < s >>> lo
              · rw [if_pos ⟨hyl, hq⟩] at HNX
                have hq1 : ((grp s lo c k).length : Int) < (s : Int) / 2 ^ min lo 64 := by rw [HSH.out]; omega
                have hq2 : decide (((grp s lo c k).length : Int) < (s : Int) / 2 ^ min lo 64) = true := decide_eq_true hq1
                clear hyl hq
                go_wp2_with (first
                  | (at_builtin
                     (refine Go.Il.wpl_push EP30' (by decide) rfl (.tmp 64) (.tmp 66) rfl HO.out _ _ [(x : Int)] _ _ rfl rfl rfl rfl rfl hsz hln ?_
                      intro v7 w7 ho7 hs7
                      have HO7 := hide ho7
                      have HS7 := hide hs7
                      clear ho7 hs7 hsz hln))
                  | fail)
                refine ⟨⟨k + 1, HLT.out, by go_num, hide ?_, hide (HB.out.trans HS7.out.below)⟩, by simp [intOf]; have := HLT.out; omega⟩
                rw [HNX.out, List.map_append]
                exact HO7.out
              · rw [if_neg fun q => hq q.2] at HNX
                have hq1 : ¬ ((grp s lo c k).length : Int) < (s : Int) / 2 ^ min lo 64 := by rw [HSH.out]; omega
                have hq2 : decide (((grp s lo c k).length : Int) < (s : Int) / 2 ^ min lo 64) = false := decide_eq_false hq1
                clear hyl hq
                go_wp2_with fail
                refine ⟨⟨k + 1, HLT.out, by go_num, hide ?_, HB⟩, by simp [intOf]; have := HLT.out; omega⟩
                rw [HNX.out]
                exact HO.out
            · have d1 : ((y : Int) == (lo : Int)) = false := beq_false_of_ne (by omega)
              rw [if_neg fun q => hyl q.1] at HNX
              clear hyl
              go_wp2_with fail
              refine ⟨⟨k + 1, HLT.out, by go_num, hide ?_, HB⟩, by simp [intOf]; have := HLT.out; omega⟩
              rw [HNX.out]
              exact HO.out
          · obtain rfl : k = c.kept.length := by omega
            have HG : Hid (groupOf s la c = grp s lo c c.kept.length) := hide (by
              have := HLW.out
              subst this
              unfold groupOf grp
              rw [if_neg HGT.out, List.take_length])
            go_wp2_with fail
            go_ret
            rw [HG.out]
            exact ⟨_, rfl, HO.out, HB.out⟩
end Go.Proofs.Ytmkapmbmgpnjaaa.Se

set_option maxRecDepth 100000
set_option linter.unusedSimpArgs false
set_option linter.unusedVariables false
namespace Go.Proofs.Ytmkapmbmgpnjaaa.Se
open Go Go.Ms Go.Pg Go.Bi Go.Se Go.ChangeShapes Go.WideShapes Go.ChangeAt Go.RowKit Go.Deep Go.Proofs.Ytmkapmbmgpnjaaa.Bi

/-! A set without a part of it. -/
def withoutL : List Nat → List Nat → List Nat
  | [], _ => []
  | x :: xs, [] => x :: withoutL xs []
  | x :: xs, p :: ps => if x = p then withoutL xs ps else x :: withoutL xs (p :: ps)
theorem without_nil : ∀ xs : List Nat, withoutL xs [] = xs
  | [] => rfl
  | x :: xs => by rw [withoutL, without_nil xs]
theorem without_rest : ∀ (xs ps : List Nat), xs.Pairwise (· < ·) → ps.Sublist xs → withoutL xs ps = restOf xs ps
  | [], ps, _, h => by rfl
  | x :: xs, [], hd, h => by
    rw [without_nil]
    unfold restOf
    exact (List.filter_eq_self.2 fun i _ => by simp).symm
  | x :: xs, p :: ps, hd, h => by
    have hd' := List.pairwise_cons.1 hd
    rw [withoutL]
    by_cases e : x = p
    · subst e
      have hs : ps.Sublist xs := by
        cases h with
        | cons _ h => exact (List.sublist_cons_self _ _).trans h
        | cons_cons _ h => exact h
      rw [if_pos rfl, without_rest xs ps hd'.2 hs]
      unfold restOf
      rw [List.filter_cons_of_neg (by simp)]
      exact List.filter_congr fun i hi => by
        have hne : i ≠ x := fun q => by subst q; have := hd'.1 i hi; omega
        simp [hne]
    · have hs : (p :: ps).Sublist xs := by
        cases h with
        | cons _ h => exact h
        | cons_cons _ h => exact absurd rfl e
      rw [if_neg e, without_rest xs (p :: ps) hd'.2 hs]
      unfold restOf
      rw [List.filter_cons_of_pos]
      have : x ∉ p :: ps := fun q => by have := hd'.1 x (hs.subset q); omega
      simpa using this
theorem without_len : ∀ (xs ps : List Nat), (withoutL xs ps).length ≤ xs.length
  | [], _ => by simp [withoutL]
  | x :: xs, [] => by rw [without_nil]; exact Nat.le_refl _
  | x :: xs, p :: ps => by
    rw [withoutL]
    split
    · have := without_len xs ps; simp; omega
    · have := without_len xs (p :: ps); simp; omega
def Laid (w : World) (v : Value) (xs : List Nat) : Prop := ∃ oa cap, v = .slice oa xs.length cap ∧ xs.length ≤ cap ∧ xs.length ≤ 256 ∧ ∀ i (h : i < xs.length), ∃ b o, oa = some ⟨b, o, none⟩ ∧ w.cell? ⟨b, o + i, none⟩ = some (.int .i64 (xs[i] : Int))
theorem Laid.old {w w' : World} {v : Value} {xs : List Nat} (h : Laid w v xs) (hB : Below w.heap.size w w') : Laid w' v xs := by
  obtain ⟨oa, cap, e, h1, h2, hc⟩ := h
  exact ⟨oa, cap, e, h1, h2, fun i hi => by
    obtain ⟨b, o, e, hx⟩ := hc i hi
    exact ⟨b, o, e, cell_old hB hx⟩⟩
set_option maxHeartbeats 16000000 in
theorem withoutProg {w : World} {v u : Value} {xs ps : List Nat} (hv : Laid w v xs) (hu : Laid w u ps) :
    Calls Try.prog 110 #[v, u] w fun e w' => ∃ r, e = .returned r ∧ Go.Il.Own 3 .i64 w.heap.size w' r ((withoutL xs ps).map Int.ofNat) ∧ Below w.heap.size w w' := by
  have HV := hide hv
  have HU := hide hu
  obtain ⟨oa, cap, rfl, hxc, hxl, hcx⟩ := hv
  obtain ⟨ob, cb, rfl, hpc, hpl, hcp⟩ := hu
  have HCX := hide hcx
  clear hcx hcp
  go_enter Try.func110, Try.ntmps110
  go_wp2_with fail
  go_loopw [1, 5, 10] (fun s1 s5 s10 wr => ∃ (k : Nat) (q out : List Nat), k ≤ xs.length ∧ s10 = .int .i64 (k : Int) ∧ Hid (Laid w s1 q) ∧ Hid (Go.Il.Own 3 .i64 w.heap.size wr s5 (out.map Int.ofNat)) ∧ Hid (Below w.heap.size w wr) ∧ Hid (out ++ withoutL (xs.drop k) q = withoutL xs ps) ∧ Hid (out.length ≤ k)) (fun _ _ s10 _ => xs.length - (intOf s10).toNat)
  case atStart => exact ⟨0, ps, [], Nat.zero_le _, rfl, HU, hide (Go.Il.Own.nil _ _ _ _), hide (Below.refl _ _), hide rfl, hide (Nat.le_refl _)⟩
  case round =>
    obtain ⟨k, q, out, hk, rfl, HQ, HO, HB, HP, HOL⟩ := hrel
    obtain ⟨b5, p5, rfl⟩ := Go.Il.Own.form HO.out
    by_cases hlt : k < xs.length
    · have hi : (k : Int) < (xs.length : Int) := by omega
      obtain ⟨x, hxk⟩ : ∃ x, x = xs[k] := ⟨_, rfl⟩
      obtain ⟨b, o, rfl, f0⟩ := HCX.out k hlt
      rw [← hxk] at f0
      have f1 := cell_old HB.out f0
      have hw := wrap_upW hlt (by omega)
      have hsz : w.heap.size ≤ wr.heap.size := HB.out.size
      have hln : (out.map Int.ofNat).length + [(x : Int)].length ≤ 10000000 := by have := HOL.out; rw [List.length_map]; simp; omega
      have HDR : Hid (xs.drop k = x :: xs.drop (k + 1)) := hide (by rw [hxk]; exact List.drop_eq_getElem_cons hlt)
      have HLT := hide hlt
      clear hxk hlt f0
      cases q with
      | nil =>
        obtain ⟨oq, cq, rfl, hq1, hq2, -⟩ := HQ.out
        have HPN : Hid ((out ++ [x]) ++ withoutL (xs.drop (k + 1)) [] = withoutL xs ps) := hide (by rw [← HP.out, HDR.out, withoutL]; simp)
        go_wp2_with (first
          | (at_builtin
             (refine Go.Il.wpl_push EP30' (by decide) rfl (.tmp 26) (.tmp 28) rfl HO.out _ _ [(x : Int)] _ _ rfl rfl rfl rfl rfl hsz hln ?_
              intro v7 w7 ho7 hs7
              have HO7 := hide ho7
              have HS7 := hide hs7
              clear ho7 hs7 hsz hln))
          | fail)
        refine ⟨⟨k + 1, [], out ++ [x], HLT.out, by go_num, HQ, hide ?_, hide (HB.out.trans HS7.out.below), HPN, hide (by have := HOL.out; simp; omega)⟩, by simp [intOf]; have := HLT.out; omega⟩
        rw [List.map_append]
        exact HO7.out
      | cons p q =>
        obtain ⟨oq, cq, rfl, hq1, hq2, hqc⟩ := HQ.out
        obtain ⟨b2, o2, rfl, g0⟩ := hqc 0 (by simp)
        have g1 := cell_old HB.out g0
        simp only [Nat.add_zero, List.getElem_cons_zero] at g1
        have hql : 0 < (p :: q).length := by simp
        by_cases he : x = p
        · have d1 : ((x : Int) == (p : Int)) = true := by simp [he]
          have HPN : Hid (out ++ withoutL (xs.drop (k + 1)) q = withoutL xs ps) := hide (by rw [← HP.out, HDR.out, withoutL, if_pos he])
          have HQN : Hid (Laid w (.slice (if cq = 1 then some ⟨b2, o2, none⟩ else some ⟨b2, o2 + 1, none⟩) q.length (cq - 1)) q) := hide (by
            simp only [List.length_cons] at hq1 hq2
            refine ⟨_, _, rfl, by omega, by omega, fun i hi => ?_⟩
            obtain ⟨b3, o3, e3, hx⟩ := hqc (i + 1) (by simp; omega)
            injection e3 with e3
            injection e3 with e4 e5
            subst e4 e5
            rw [if_neg (by omega)]
            refine ⟨_, _, rfl, ?_⟩
            rw [List.getElem_cons_succ] at hx
            rw [show o2 + 1 + i = o2 + (i + 1) by omega]
            exact hx)
          clear he hqc
          go_wp2_with fail
          exact ⟨⟨k + 1, q, out, HLT.out, by go_num, HQN, HO, HB, HPN, hide (by have := HOL.out; omega)⟩, by simp [intOf]; have := HLT.out; omega⟩
        · have d1 : ((x : Int) == (p : Int)) = false := beq_false_of_ne (by omega)
          have HPN : Hid ((out ++ [x]) ++ withoutL (xs.drop (k + 1)) (p :: q) = withoutL xs ps) := hide (by rw [← HP.out, HDR.out, withoutL, if_neg he]; simp)
          clear he hqc
          go_wp2_with (first
            | (at_builtin
               (refine Go.Il.wpl_push EP30' (by decide) rfl (.tmp 26) (.tmp 28) rfl HO.out _ _ [(x : Int)] _ _ rfl rfl rfl rfl rfl hsz hln ?_
                intro v7 w7 ho7 hs7
                have HO7 := hide ho7
                have HS7 := hide hs7
                clear ho7 hs7 hsz hln))
            | fail)
          refine ⟨⟨k + 1, p :: q, out ++ [x], HLT.out, by go_num, HQ, hide ?_, hide (HB.out.trans HS7.out.below), HPN, hide (by have := HOL.out; simp; omega)⟩, by simp [intOf]; have := HLT.out; omega⟩
          rw [List.map_append]
          exact HO7.out
    · obtain rfl : k = xs.length := by omega
      have HPE : Hid (out = withoutL xs ps) := hide (by rw [← HP.out, List.drop_length]; simp [withoutL])
      go_wp2_with fail
      go_ret
      rw [← HPE.out]
      exact ⟨_, rfl, HO.out, HB.out⟩
end Go.Proofs.Ytmkapmbmgpnjaaa.Se

