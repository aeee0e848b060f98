import Derived.Test.YtmkapmbmgpnjaaaDmC
import Derived.Test.YtmkapmbmgpnjaaaDsN
set_option maxRecDepth 100000
set_option linter.unusedSimpArgs false
set_option linter.unusedVariables false
namespace Go.Proofs.Ytmkapmbmgpnjaaa.Se
open Go Go.Ms Go.Pg Go.Rc Go.Bi Go.Se Go.ChangeShapes Go.WideShapes Go.ChangeAt Go.RowKit Go.Deep Go.Proofs.Ytmkapmbmgpnjaaa.Bi

/-! What changes need, where they need nothing. -/
theorem indexNil {w : World} {k : Nat} : Calls Try.prog 145 #[.slice none 0 0, .int .i64 (k : Int)] w fun e w' => e = .returned (.int .i64 (-1)) ∧ w' = w := by
  go_enter Try.func145, Try.ntmps145
  go_wp2_with fail
  go_loopw [8] (fun i wr => i = .int .i64 0 ∧ wr = w) (fun _ _ => 0)
  case atStart => exact ⟨rfl, rfl⟩
  case round =>
    obtain ⟨rfl, rfl⟩ := hrel
    go_wp2_with fail
    go_ret
    exact ⟨rfl, rfl⟩
theorem containsNil {w : World} {k : Nat} : Calls Try.prog 98 #[.slice none 0 0, .int .i64 (k : Int)] w fun e w' => e = .returned (.bool false) ∧ w' = w := by
  go_enter Try.func98, Try.ntmps98
  go_wp2_with fail
  (with_reducible refine (indexNil).mono ?_)
  rintro e w1 ⟨rfl, rfl⟩
  go_wp2_with fail
  go_ret
  exact ⟨rfl, rfl⟩
theorem intsW_nil (w : World) : IntsW w (.slice none 0 0) [] := ⟨none, 0, rfl, by simp, fun i hi => absurd hi (Nat.not_lt_zero i)⟩
theorem isSet_nil (n : Int) : IsSet [] n := fun i hi => absurd hi (Nat.not_lt_zero i)

set_option maxHeartbeats 8000000 in
theorem checkN {w : World} {v : Value} {n : Nat} (h : NilRow w v n) (hn : n ≤ 256) : Calls Try.prog 38 #[v] w fun e w' => e = .returned (.int .i64 0) ∧ ∃ d, w' = w.drewN d := by
  obtain ⟨oa, cap, rfl, hc⟩ := h
  have HC := hide hc
  have HN := hide hn
  have h256 : (n : Int) ≤ 256 := by omega
  clear hc hn
  go_enter Try.func38, Try.ntmps38
  go_wp2_with fail
  go_loopw [10] (fun i wr => ∃ k : Nat, k ≤ n ∧ i = .int .i64 (k : Int) ∧ ∃ d, wr = w.drewN d) (fun i _ => n - (intOf i).toNat)
  case atStart => exact ⟨0, Nat.zero_le _, rfl, 0, rfl⟩
  case round =>
    obtain ⟨k, hk, rfl, d, rfl⟩ := hrel
    by_cases hlt : k < n
    · have hi : (k : Int) < (n : Int) := by omega
      obtain ⟨b, o, rfl, f0⟩ := HC.out k hlt
      have f : (w.drewN d).cell? ⟨b, o + k, none⟩ = some (.slice none 0 0) := f0
      have hw := wrap_k (k := k) (by have := HN.out; omega)
      clear f0
      go_wp2_with (first
        | (go_at_call 69
           (with_reducible refine (isSetProg (intsW_nil _) (isSet_nil _)).mono ?_)
           rintro e _ ⟨rfl, n1, rfl⟩)
        | (go_at_call 98
           (with_reducible refine (containsNil).mono ?_)
           rintro e _ ⟨rfl, rfl⟩)
        | fail)
      exact ⟨⟨k + 1, by omega, by go_num, _, rfl⟩, by simp [intOf]; omega⟩
    · obtain rfl : k = n := by omega
      go_wp2_with fail
      go_ret
      exact ⟨rfl, _, rfl⟩

theorem isSet_range {n : Nat} (hn : n ≤ 256) : IsSet ((List.range n).map Int.ofNat) n := by
  rw [all_upTo hn]
  refine set_upTo fun i hi hp => ?_
  by_cases q : i < n
  · exact q
  · rw [small_all.low i hi (by omega)] at hp
    cases hp

set_option maxHeartbeats 8000000 in
theorem neededN {w : World} {v u : Value} {n : Nat} (h : NilRow w v n) (hn : n ≤ 256) (hu : IntsW w u ((List.range n).map Int.ofNat)) :
    Calls Try.prog 89 #[v, u] w fun e w' => ∃ g, e = .returned (.tuple #[.slice (some ⟨g, 0, none⟩) n n, .int .i64 0]) ∧ w.heap.size ≤ g ∧ Below w.heap.size w w' ∧ w'.heap[g]? = some (rowQ (singles n)) := by
  have HH := hide h
  have HU := hide hu
  have HS := hide (isSet_range hn)
  have HN := hide hn
  obtain ⟨oa, cap, rfl, _⟩ := h
  obtain ⟨ou, cu, rfl, _, _⟩ := hu
  clear hn
  rw [List.length_map, List.length_range] at HU ⊢
  go_enter Try.func89, Try.ntmps89
  go_wp2_with (first
    | (go_at_call 38
       (with_reducible refine (checkN HH.out HN.out).mono ?_)
       rintro e _ ⟨rfl, d, rfl⟩)
    | (go_at_call 69
       (with_reducible refine (isSetProg (ints_below HU.out (belowN _ _ _)) HS.out).mono ?_)
       rintro e _ ⟨rfl, d2, rfl⟩)
    | (go_at_call 71
       (with_reducible refine (closuresN (HH.out.old (belowN _ _ _)) HN.out).mono ?_)
       rintro e w3 ⟨g, rfl, hg, hB, hR⟩
       have HB : Hid (Below w.heap.size w w3) := hide ((belowN w.heap.size w _).trans hB)
       have HR := hide hR
       have HG : Hid (w.heap.size ≤ g) := hide hg
       clear hg hB hR)
    | fail)
  go_ret2
  exact ⟨g, rfl, HG.out, HB.out, HR.out⟩
end Go.Proofs.Ytmkapmbmgpnjaaa.Se

set_option maxRecDepth 100000
set_option linter.unusedSimpArgs false
set_option linter.unusedVariables false
namespace Go.Proofs.Ytmkapmbmgpnjaaa.Se
open Go Go.Ms Go.Pg Go.Rc Go.Bi Go.Se Go.ChangeShapes Go.WideShapes Go.ChangeAt Go.RowKit Go.Deep Go.Proofs.Ytmkapmbmgpnjaaa.Bi

/-! What does not need a change. -/
theorem or_among {l : List Nat} {x : Nat} : (⟨(ofP (among l)).a ||| (ofP (among [x])).a, (ofP (among l)).b ||| (ofP (among [x])).b, (ofP (among l)).c ||| (ofP (among [x])).c, (ofP (among l)).d ||| (ofP (among [x])).d⟩ : Q4) = ofP (among (l ++ [x])) := by
  refine sp_ext ((sp_of (among l)).or (sp_of (among [x]))) (sp_of (among (l ++ [x]))) fun n hn => ?_
  simp [among]
theorem withAmong {w : World} {l : List Nat} {x : Nat} : Calls Try.prog 81 #[setQ (ofP (among l)), setQ (ofP (among [x]))] w fun e w' => e = .returned (setQ (ofP (among (l ++ [x])))) ∧ Below w.heap.size w w' := by
  have := withSet (w := w) (sp_of (among l)) (sp_of (among [x]))
  rw [← or_among]
  exact this
theorem stay_take {A : List Q4} {c k : Nat} {xs : List Nat} (h : k < xs.length) : stayA A c (xs.take (k + 1)) = if memQ (A.getD xs[k] zeroQ) c = true then stayA A c (xs.take k) else stayA A c (xs.take k) ++ [xs[k]] := by
  rw [List.take_succ_eq_append_getElem h]
  unfold stayA
  rw [List.filter_append]
  cases hb : memQ (A.getD xs[k] zeroQ) c
  · rw [List.filter_cons, hb]
    rfl
  · rw [List.filter_cons, hb]
    simp
abbrev boxQ4 (q : Q4) : Obj := boxV q.a q.b q.c q.d
theorem setOneW {w : World} {g n : Nat} (hg : w.heap.size = g) (hn : n < 256) : Calls Try.prog 77 #[.slice (some ⟨g, 0, none⟩) 1 1] (w.alloc (.cells #[.int .i64 (n : Int)] 3)).drew fun e w' => e = .returned (setQ (ofP (among [n]))) ∧ Below w.heap.size w w' := by
  subst hg
  have hb : Below w.heap.size w (w.alloc (.cells #[.int .i64 (n : Int)] 3)).drew := Below.drew ((Below.refl _ w).alloc (Nat.le_refl _) _)
  refine (setOfQ (xs := [n]) (nats_one (cell_of (new_block w _) 0)) (fun m hm => by simp at hm; omega)).mono ?_
  rintro e w' ⟨rfl, h⟩
  exact ⟨rfl, hb.trans (h.mono hb.size)⟩

set_option maxHeartbeats 16000000 in
theorem notNeedingA {w : World} {g c : Nat} {v : Value} {A : List Q4} {xs : List Nat} (hR : w.heap[g]? = some (rowQ A)) (hA : ∀ i, i < A.length → (A.getD i zeroQ).Ok) (hv : Nats w v xs) (hx : ∀ n ∈ xs, n < A.length) (hl : A.length ≤ 256) (hxl : xs.length ≤ 256) (hc : c < 256) :
    Calls Try.prog 99 #[.slice (some ⟨g, 0, none⟩) A.length A.length, v, .int .i64 (c : Int)] w fun e w' => e = .returned (setQ (ofP (among (stayA A c xs)))) ∧ Below w.heap.size w w' := by
  have HR := hide hR
  have HA := hide hA
  have HX := hide hx
  have HL := hide hl
  have HXL := hide hxl
  have HCC := hide hc
  obtain ⟨oa, cap, rfl, -, hcl⟩ := hv
  have HC := hide hcl
  clear hR hA hx hl hxl hc hcl
  go_enter Try.func99, Try.ntmps99
  go_wp2_with fail
  go_loopw [12] (fun i wr => ∃ (k : Nat) (z : Q4), k ≤ xs.length ∧ i = .int .i64 (k : Int) ∧ Hid (z = ofP (among (stayA A c (xs.take k)))) ∧ Below w.heap.size w wr ∧ wr.heap[w.heap.size]? = some (boxV 0 0 0 0) ∧ wr.heap[w.heap.size + 1]? = some (boxQ4 z)) (fun i _ => xs.length - (intOf i).toNat)
  case atStart => exact ⟨0, zeroQ, Nat.zero_le _, rfl, hide zero_among.symm, ((Below.refl _ w).alloc (Nat.le_refl _) _).alloc (by simp) _, old_block (new_block w _) _, alloc_at (by simp)⟩
  case round =>
    obtain ⟨k, z, hk, rfl, HZ, hB, hb0, hb1⟩ := hrel
    have HB := hide hB
    have H0 := hide hb0
    have H1 := hide hb1
    clear hB hb0 hb1
    by_cases hlt : k < xs.length
    · have hi : (k : Int) < (xs.length : Int) := by omega
      obtain ⟨b, o, rfl, f0⟩ := HC.out k hlt
      have f := cell_old HB.out f0
      clear f0
      have hw := wrap_k (k := k) (by have := HXL.out; omega)
      have HN := hide (HX.out xs[k] (List.getElem_mem hlt))
      have HT := hide (stay_take (A := A) (c := c) hlt)
      generalize xs[k] = n at *
      have hnA : n < A.length := HN.out
      have hn64 : (n : Int) < (A.length : Int) := by omega
      have HN2 : Hid (n < 256) := hide (by have := HL.out; omega)
      obtain ⟨y, ey⟩ : ∃ y, A.getD n zeroQ = y := ⟨_, rfl⟩
      have HY : Hid (y.Ok) := hide (by rw [← ey]; exact HA.out n hnA)
      have HW : Hid (wr.heap[g]? = some (rowQ A)) := hide ((HB.out.block _ (block_lt HR.out)).trans HR.out)
      obtain ⟨p0, p1, p2, p3⟩ := row_get HW.out hnA ey
      rw [ey] at HT
      clear ey
      have hb1 := block_lt H1.out
      have hb0 := block_lt H0.out
      cases hb : memQ y c with
      | true =>
        rw [hb, if_pos rfl] at HT
        have HBT := hide hb
        clear hb
        go_wp2_with (first
          | (go_at_call 73
             (with_reducible refine (hasSet (sp_mem HY.out) HCC.out).mono ?_)
             rintro e w1 ⟨he, hB1⟩
             rw [HBT.out] at he
             subst he
             have HB1 := hide (HB.out.trans (hB1.mono HB.out.size))
             have H11 := hide ((hB1.block _ hb1).trans H1.out)
             have H01 := hide ((hB1.block _ hb0).trans H0.out)
             clear hB1)
          | fail)
        exact ⟨⟨k + 1, z, by omega, by go_num, hide (by rw [HT.out]; exact HZ.out), HB1.out, H01.out, H11.out⟩, by simp [intOf]; omega⟩
      | false =>
        rw [hb] at HT
        simp only [Bool.false_eq_true, if_false] at HT
        have HBT := hide hb
        clear hb
        obtain ⟨l, hl⟩ : ∃ l, l = stayA A c (xs.take k) := ⟨_, rfl⟩
        rw [← hl] at HT HZ
        have HLL := hide hl
        have HZ2 := HZ.out
        subst HZ2
        clear hl
        obtain ⟨z, hz⟩ : ∃ z, z = ofP (among l) := ⟨_, rfl⟩
        obtain ⟨t, ht⟩ : ∃ t, t = ofP (among [n]) := ⟨_, rfl⟩
        obtain ⟨r, hr⟩ : ∃ r, r = ofP (among (l ++ [n])) := ⟨_, rfl⟩
        have HWA : Hid (∀ w, Calls Try.prog 81 #[setQ z, setQ t] w fun e w' => e = .returned (setQ r) ∧ Below w.heap.size w w') := hide fun w => by rw [hz, ht, hr]; exact withAmong
        have HSO : Hid (∀ (w : World) (g : Nat), w.heap.size = g → Calls Try.prog 77 #[.slice (some ⟨g, 0, none⟩) 1 1] (w.alloc (.cells #[.int .i64 (n : Int)] 3)).drew fun e w' => e = .returned (setQ t) ∧ Below w.heap.size w w') := hide fun w g hg => by rw [ht]; exact setOneW hg HN2.out
        have HRR := hide hr
        rw [← hz] at H1
        clear hz ht hr HZ
        go_wp2_with (first
          | (go_at_call 73
             (with_reducible refine (hasSet (sp_mem HY.out) HCC.out).mono ?_)
             rintro e w1 ⟨he, hB1⟩
             rw [HBT.out] at he
             subst he
             have HB1 := hide (HB.out.trans (hB1.mono HB.out.size))
             have H11 := hide ((hB1.block _ hb1).trans H1.out)
             have H01 := hide ((hB1.block _ hb0).trans H0.out)
             have hb11 := block_lt H11.out
             have hb01 := block_lt H01.out
             obtain ⟨q0, q1, q2, q3⟩ := box_cells H11.out
             clear hB1 p0 p1 p2 p3)
          | fail)
        go_region_with (first
          | (go_at_call 77
             (with_reducible refine (HSO.out _ _ rfl).mono ?_)
             rintro e w2 ⟨rfl, hB2⟩
             have HB2 := hide (HB1.out.trans (hB2.mono HB1.out.size))
             have H12 := hide ((hB2.block _ hb11).trans H11.out)
             have H02 := hide ((hB2.block _ hb01).trans H01.out)
             have hb12 := block_lt H12.out
             have hb02 := block_lt H02.out
             clear hB2 q0 q1 q2 q3
             obtain ⟨q0, q1, q2, q3⟩ := box_cells H12.out)
          | (go_at_call 81
             (with_reducible refine (HWA.out _).mono ?_)
             rintro e w3 ⟨rfl, hB3⟩
             have HB3 := hide (HB2.out.trans (hB3.mono HB2.out.size))
             have H13 := hide ((hB3.block _ hb12).trans H12.out)
             have H03 := hide ((hB3.block _ hb02).trans H02.out)
             have r0 := Bi.frozen_of H13.out 0
             have r1 := Bi.frozen_of H13.out 1
             have r2 := Bi.frozen_of H13.out 2
             have r3 := Bi.frozen_of H13.out 3
             clear q0 q1 q2 q3
             obtain ⟨q0, q1, q2, q3⟩ := box_cells H13.out
             clear hB3)
          | fail)
        all_goals
          go_wp2_with fail
          exact ⟨⟨k + 1, r, by omega, by go_num, hide (by rw [HT.out]; exact HRR.out), putV_below (a := r.a) (b := r.b) (c := r.c) (d := r.d) HB3.out (B := w.heap.size + 1) (by omega), (putV_other (a := r.a) (b := r.b) (c := r.c) (d := r.d) (by omega)).trans H03.out, putV_block (e := r.a) (f := r.b) (g := r.c) (h := r.d) H13.out⟩, by simp [intOf]; omega⟩
    · obtain rfl : k = xs.length := by omega
      rw [List.take_length] at HZ
      obtain ⟨q1, q2, q3, q4⟩ := box_cells H1.out
      obtain ⟨r1, r2, r3, r4⟩ := box_cells H0.out
      have s1 := Bi.frozen_of H0.out 0
      have s2 := Bi.frozen_of H0.out 1
      have s3 := Bi.frozen_of H0.out 2
      have s4 := Bi.frozen_of H0.out 3
      go_wp2_with fail
      refine final8 (X := putV wr w.heap.size z.a z.b z.c z.d) rfl ?_
      have HP := hide (putV_block (e := z.a) (f := z.b) (g := z.c) (h := z.d) H0.out)
      have HQ := hide (putV_below (a := z.a) (b := z.b) (c := z.c) (d := z.d) HB.out (B := w.heap.size) (Nat.le_refl _))
      generalize putV wr w.heap.size z.a z.b z.c z.d = X at *
      obtain ⟨x0, x1, x2, x3⟩ := box_cells HP.out
      refine bodyPost_ret (v := setQ z) (by simp [results, Try.results99, go_sem, x0, x1, x2, x3]) rfl ?_
      exact ⟨by rw [HZ.out], HQ.out⟩
end Go.Proofs.Ytmkapmbmgpnjaaa.Se

