import Derived.Test.YtdpgcoicbagflaaBiC
set_option maxRecDepth 100000
set_option linter.unusedSimpArgs false
set_option linter.unusedVariables false
namespace Go.Proofs.Ytdpgcoicbagflaa.Bi
open Go Go.Ms Go.Pg Go.Bi Go.ChangeShapes Go.WideShapes Go.ChangeAt Go.RowKit Go.Deep

def Nats (w : World) (v : Value) (xs : List Nat) : Prop := ∃ oa cap, v = .slice oa xs.length cap ∧ xs.length ≤ 9223372036854775807 ∧ ∀ i (h : i < xs.length), ∃ b o, oa = some ⟨b, o, none⟩ ∧ w.cell? ⟨b, o + i, none⟩ = some (.int .i64 (xs[i] : Int))
theorem wrap_in {z : Int} (h0 : -1000000 ≤ z) (h : z ≤ 1000000) : IntKind.i64.wrap z = z := by
  simp [IntKind.wrap, IntKind.signed, IntKind.bits]
  omega
theorem wrap_upW {k n : Nat} (h : k < n) (hn : n ≤ 9223372036854775807) : IntKind.i64.wrap ((k : Int) + 1) = (k : Int) + 1 := by
  simp [IntKind.wrap, IntKind.signed, IntKind.bits]
  omega
def among (xs : List Nat) (n : Nat) : Bool := decide (n ∈ xs)
theorem among_next {xs : List Nat} {k : Nat} (h : k < xs.length) (n : Nat) : (among (xs.take k) n || n == xs[k]) = among (xs.take (k + 1)) n := by
  unfold among
  rw [List.take_succ_eq_append_getElem h, Bool.eq_iff_iff]
  simp only [Bool.or_eq_true, decide_eq_true_eq, beq_iff_eq, List.mem_append, List.mem_singleton]
theorem cell_old {w w' : World} (h : Below w.heap.size w w') {b o : Nat} {v : Value} (hc : w.cell? ⟨b, o, none⟩ = some v) : w'.cell? ⟨b, o, none⟩ = some v := by
  have hb : b < w.heap.size := by
    by_cases q : b < w.heap.size
    · exact q
    · simp [World.cell?, Array.getElem?_eq_none (Nat.le_of_not_lt q)] at hc
  exact (h.cell (p := ⟨b, o, none⟩) hb).trans hc

set_option maxHeartbeats 8000000 in
theorem setOfProg {w : World} {v : Value} {xs : List Nat} (h : Nats w v xs) (hx : ∀ n ∈ xs, n < 256) :
    Calls Try.prog 28 #[v] w fun e w' => ∃ a b c d, e = .returned (setV a b c d) ∧ Sp (among xs) a b c d ∧ Below w.heap.size w w' := by
  obtain ⟨oa, cap, rfl, hl, hc⟩ := h
  have HC := hide hc
  have HX := hide hx
  clear hc hx
  go_enter Try.func28, Try.ntmps28
  go_wp2_with fail
  go_loopw [8] (fun i wr => ∃ k : Nat, k ≤ xs.length ∧ i = .int .i64 (k : Int) ∧ Below w.heap.size w wr ∧ wr.heap[w.heap.size]? = some (boxV 0 0 0 0) ∧ ∃ a b c d, Sp (among (xs.take k)) a b c d ∧ wr.heap[w.heap.size + 1]? = some (boxV a b c d)) (fun i _ => xs.length - (intOf i).toNat)
  case atStart => exact ⟨0, Nat.zero_le _, rfl, ((Below.refl _ w).alloc (Nat.le_refl _) _).alloc (by simp) _, old_block (new_block w _) _, 0, 0, 0, 0, Sp.zero.congr (by simp [among]), alloc_at (by simp)⟩
  case round =>
    obtain ⟨k, hk, rfl, hB, hb0, a, b, c, d, hp, hb1⟩ := hrel
    have HB := hide hB
    have H0 := hide hb0
    have H1 := hide hb1
    have HP := hide hp
    clear hB hb0 hb1 hp
    by_cases hlt : k < xs.length
    · have hi : (k : Int) < (xs.length : Int) := by omega
      obtain ⟨bb, o, rfl, f0⟩ := HC.out k hlt
      have f := cell_old HB.out f0
      clear f0
      have hw := wrap_upW hlt hl
      have HN := hide (HX.out xs[k] (List.getElem_mem hlt))
      have HT := hide (among_next hlt)
      generalize xs[k] = n at *
      obtain ⟨r, hr, e2, q⟩ := place HN.out
      have e3 := shlAt hr
      have HR := hide hr
      obtain ⟨p, hpw⟩ : ∃ p, p = 2 ^ r := ⟨_, rfl⟩
      rw [← hpw] at e3
      have HPW := hide hpw
      have hpl : p < 2 ^ 64 := by rw [hpw]; exact pow_lt hr
      clear hr hpw
      rcases q with ⟨q, e1⟩ | ⟨q, e1⟩ | ⟨q, e1⟩ | ⟨q, e1⟩
      · have HQ := hide q
        have e4 := orAt HP.out.ha hpl
        clear q hpl
        have q1 : wr.cell? ⟨w.heap.size + 1, 0, none⟩ = some (.int .u64 (a : Int)) := cell_of H1.out 0
        have q3 := frozen_of H1.out 0
        go_wp2_with fail
        go_region
        all_goals
          go_wp2
          refine ⟨⟨k + 1, by omega, by go_num, Below.drew (HB.out.setCell (p := ⟨w.heap.size + 1, 0, none⟩) (by simp) _), setO H0.out (by omega), a ||| p, b, c, d, (by rw [HPW.out]; exact (HP.out.put0 HR.out).congr fun m _ => by rw [← HT.out m, HQ.out]), set0 H1.out⟩, by simp [intOf]; omega⟩
      · have HQ := hide q
        have e4 := orAt HP.out.hb hpl
        clear q hpl
        have q1 : wr.cell? ⟨w.heap.size + 1, 1, none⟩ = some (.int .u64 (b : Int)) := cell_of H1.out 1
        have q3 := frozen_of H1.out 1
        go_wp2_with fail
        go_region
        all_goals
          go_wp2
          refine ⟨⟨k + 1, by omega, by go_num, Below.drew (HB.out.setCell (p := ⟨w.heap.size + 1, 1, none⟩) (by simp) _), setO H0.out (by omega), a, b ||| p, c, d, (by rw [HPW.out]; exact (HP.out.put1 HR.out).congr fun m _ => by rw [← HT.out m, HQ.out]), set1 H1.out⟩, by simp [intOf]; omega⟩
      · have HQ := hide q
        have e4 := orAt HP.out.hc hpl
        clear q hpl
        have q1 : wr.cell? ⟨w.heap.size + 1, 2, none⟩ = some (.int .u64 (c : Int)) := cell_of H1.out 2
        have q3 := frozen_of H1.out 2
        go_wp2_with fail
        go_region
        all_goals
          go_wp2
          refine ⟨⟨k + 1, by omega, by go_num, Below.drew (HB.out.setCell (p := ⟨w.heap.size + 1, 2, none⟩) (by simp) _), setO H0.out (by omega), a, b, c ||| p, d, (by rw [HPW.out]; exact (HP.out.put2 HR.out).congr fun m _ => by rw [← HT.out m, HQ.out]), set2 H1.out⟩, by simp [intOf]; omega⟩
      · have HQ := hide q
        have e4 := orAt HP.out.hd hpl
        clear q hpl
        have q1 : wr.cell? ⟨w.heap.size + 1, 3, none⟩ = some (.int .u64 (d : Int)) := cell_of H1.out 3
        have q3 := frozen_of H1.out 3
        go_wp2_with fail
        go_region
        all_goals
          go_wp2
          refine ⟨⟨k + 1, by omega, by go_num, Below.drew (HB.out.setCell (p := ⟨w.heap.size + 1, 3, none⟩) (by simp) _), setO H0.out (by omega), a, b, c, d ||| p, (by rw [HPW.out]; exact (HP.out.put3 HR.out).congr fun m _ => by rw [← HT.out m, HQ.out]), set3 H1.out⟩, by simp [intOf]; omega⟩
    · obtain rfl : k = xs.length := by omega
      rw [List.take_length] at HP
      obtain ⟨q1, q2, q3, q4⟩ := box_cells H1.out
      obtain ⟨r1, r2, r3, r4⟩ := box_cells H0.out
      have s1 := frozen_of H0.out 0
      have s2 := frozen_of H0.out 1
      have s3 := frozen_of H0.out 2
      have s4 := frozen_of H0.out 3
      go_wp2_with fail
      refine final8 (X := putV wr w.heap.size a b c d) rfl ?_
      have HV := hide (putV_block (e := a) (f := b) (g := c) (h := d) H0.out)
      have HQ := hide (putV_below (a := a) (b := b) (c := c) (d := d) HB.out (B := w.heap.size) (Nat.le_refl _))
      generalize putV wr w.heap.size a b c d = X at *
      obtain ⟨x0, x1, x2, x3⟩ := box_cells HV.out
      refine bodyPost_ret (v := setV a b c d) (by simp [results, Try.results28, go_sem, x0, x1, x2, x3]) rfl ?_
      exact ⟨a, b, c, d, rfl, HP.out, HQ.out⟩

set_option maxHeartbeats 8000000 in
theorem withSet {w : World} {p q : Nat → Bool} {a b c d a' b' c' d' : Nat} (h : Sp p a b c d) (g : Sp q a' b' c' d') :
    Calls Try.prog 27 #[setV a b c d, setV a' b' c' d'] w fun e w' => e = .returned (setV (a ||| a') (b ||| b') (c ||| c') (d ||| d')) ∧ Below w.heap.size w w' := by
  have h0 := orAt h.ha g.ha
  have h1 := orAt h.hb g.hb
  have h2 := orAt h.hc g.hc
  have h3 := orAt h.hd g.hd
  clear h g
  go_enter Try.func27, Try.ntmps27
  go_wp2_with fail
  go_loopw [6] (fun i wr => ∃ k z0 z1 z2 z3 : Nat, k ≤ 4 ∧ i = .int .i64 (k : Int) ∧ Hid (z0 = (if 0 < k then a ||| a' else a) ∧ z1 = (if 1 < k then b ||| b' else b) ∧ z2 = (if 2 < k then c ||| c' else c) ∧ z3 = (if 3 < k then d ||| d' else d)) ∧ Below w.heap.size w wr ∧ wr.heap[w.heap.size]? = some (boxV z0 z1 z2 z3) ∧ wr.heap[w.heap.size + 1]? = some (boxV a' b' c' d') ∧ wr.heap[w.heap.size + 1 + 1]? = some (boxV 0 0 0 0)) (fun i _ => 4 - (intOf i).toNat)
  case atStart => exact ⟨0, a, b, c, d, by omega, rfl, hide ⟨rfl, rfl, rfl, rfl⟩, (((Below.refl _ w).alloc (Nat.le_refl _) _).alloc (by simp) _).alloc (by simp; omega) _, old_block (old_block (new_block w _) _) _, old_block (alloc_at (by simp)) _, alloc_at (by simp)⟩
  case round =>
    obtain ⟨k, z0, z1, z2, z3, hk, rfl, hz, hB, hb0, hb1, hb2⟩ := hrel
    have HB := hide hB
    have H0 := hide hb0
    have H1 := hide hb1
    have H2 := hide hb2
    clear hB hb0 hb1 hb2
    have hc : k = 0 ∨ k = 1 ∨ k = 2 ∨ k = 3 ∨ k = 4 := by omega
    rcases hc with rfl | rfl | rfl | rfl | rfl
    · obtain ⟨g0, g1, g2, g3⟩ : z0 = a ∧ z1 = b ∧ z2 = c ∧ z3 = d := by simpa using hz.out
      rw [g0, g1, g2, g3] at H0
      clear hz g0 g1 g2 g3
      have q1 : wr.cell? ⟨w.heap.size, 0, none⟩ = some (.int .u64 (a : Int)) := cell_of H0.out 0
      have q2 : wr.cell? ⟨w.heap.size + 1, 0, none⟩ = some (.int .u64 (a' : Int)) := cell_of H1.out 0
      have q3 := frozen_of H0.out 0
      go_wp2_with fail
      go_region
      all_goals
        go_wp2
        exact ⟨⟨1, a ||| a', b, c, d, by omega, rfl, hide (by simp), Below.drew (HB.out.setCell (p := ⟨w.heap.size, 0, none⟩) (Nat.le_refl _) _), set0 H0.out, setO H1.out (by omega), setO H2.out (by omega)⟩, by simp [intOf]⟩
    · obtain ⟨g0, g1, g2, g3⟩ : z0 = a ||| a' ∧ z1 = b ∧ z2 = c ∧ z3 = d := by simpa using hz.out
      rw [g0, g1, g2, g3] at H0
      clear hz g0 g1 g2 g3
      have q1 : wr.cell? ⟨w.heap.size, 1, none⟩ = some (.int .u64 (b : Int)) := cell_of H0.out 1
      have q2 : wr.cell? ⟨w.heap.size + 1, 1, none⟩ = some (.int .u64 (b' : Int)) := cell_of H1.out 1
      have q3 := frozen_of H0.out 1
      go_wp2_with fail
      go_region
      all_goals
        go_wp2
        exact ⟨⟨2, a ||| a', b ||| b', c, d, by omega, rfl, hide (by simp), Below.drew (HB.out.setCell (p := ⟨w.heap.size, 1, none⟩) (Nat.le_refl _) _), set1 H0.out, setO H1.out (by omega), setO H2.out (by omega)⟩, by simp [intOf]⟩
    · obtain ⟨g0, g1, g2, g3⟩ : z0 = a ||| a' ∧ z1 = b ||| b' ∧ z2 = c ∧ z3 = d := by simpa using hz.out
      rw [g0, g1, g2, g3] at H0
      clear hz g0 g1 g2 g3
      have q1 : wr.cell? ⟨w.heap.size, 2, none⟩ = some (.int .u64 (c : Int)) := cell_of H0.out 2
      have q2 : wr.cell? ⟨w.heap.size + 1, 2, none⟩ = some (.int .u64 (c' : Int)) := cell_of H1.out 2
      have q3 := frozen_of H0.out 2
      go_wp2_with fail
      go_region
      all_goals
        go_wp2
        exact ⟨⟨3, a ||| a', b ||| b', c ||| c', d, by omega, rfl, hide (by simp), Below.drew (HB.out.setCell (p := ⟨w.heap.size, 2, none⟩) (Nat.le_refl _) _), set2 H0.out, setO H1.out (by omega), setO H2.out (by omega)⟩, by simp [intOf]⟩
    · obtain ⟨g0, g1, g2, g3⟩ : z0 = a ||| a' ∧ z1 = b ||| b' ∧ z2 = c ||| c' ∧ z3 = d := by simpa using hz.out
      rw [g0, g1, g2, g3] at H0
      clear hz g0 g1 g2 g3
      have q1 : wr.cell? ⟨w.heap.size, 3, none⟩ = some (.int .u64 (d : Int)) := cell_of H0.out 3
      have q2 : wr.cell? ⟨w.heap.size + 1, 3, none⟩ = some (.int .u64 (d' : Int)) := cell_of H1.out 3
      have q3 := frozen_of H0.out 3
      go_wp2_with fail
      go_region
      all_goals
        go_wp2
        exact ⟨⟨4, a ||| a', b ||| b', c ||| c', d ||| d', by omega, rfl, hide (by simp), Below.drew (HB.out.setCell (p := ⟨w.heap.size, 3, none⟩) (Nat.le_refl _) _), set3 H0.out, setO H1.out (by omega), setO H2.out (by omega)⟩, by simp [intOf]⟩
    · obtain ⟨g0, g1, g2, g3⟩ : z0 = a ||| a' ∧ z1 = b ||| b' ∧ z2 = c ||| c' ∧ z3 = d ||| d' := by simpa using hz.out
      rw [g0, g1, g2, g3] at H0
      clear hz g0 g1 g2 g3
      obtain ⟨q1, q2, q3, q4⟩ := box_cells H0.out
      obtain ⟨r1, r2, r3, r4⟩ := box_cells H2.out
      have s1 := frozen_of H2.out 0
      have s2 := frozen_of H2.out 1
      have s3 := frozen_of H2.out 2
      have s4 := frozen_of H2.out 3
      go_wp2_with fail
      refine final8 (X := putV wr (w.heap.size + 1 + 1) (a ||| a') (b ||| b') (c ||| c') (d ||| d')) rfl ?_
      have HV := hide (putV_block (e := a ||| a') (f := b ||| b') (g := c ||| c') (h := d ||| d') H2.out)
      have HQ := hide (putV_below (a := a ||| a') (b := b ||| b') (c := c ||| c') (d := d ||| d') HB.out (B := w.heap.size + 1 + 1) (by omega))
      generalize putV wr (w.heap.size + 1 + 1) (a ||| a') (b ||| b') (c ||| c') (d ||| d') = X at *
      obtain ⟨x0, x1, x2, x3⟩ := box_cells HV.out
      refine bodyPost_ret (v := setV (a ||| a') (b ||| b') (c ||| c') (d ||| d')) (by simp [results, Try.results27, go_sem, x0, x1, x2, x3]) rfl ?_
      exact ⟨rfl, HQ.out⟩
end Go.Proofs.Ytdpgcoicbagflaa.Bi
