import Derived.Test.YtinllamocplgjaaNoK
set_option maxRecDepth 100000
namespace Go.Proofs.Ytinllamocplgjaa.No
open Go Go.Ms Go.Pg Go.Rc Go.No Go.ChangeShapes Go.WideShapes Go.ChangeAt Go.RowKit Go.Deep Go.Shelf Go.Proofs.Ytinllamocplgjaa.Rc

theorem OwnP.setBox {C B : Nat} {w : World} {v : Value} {l : List Pick} (h : OwnP C w v l) (hB : B < C) (u : Value) : OwnP C (w.setCell ⟨B, 0, none⟩ u) v l :=
  own_same h fun g _ hg _ => Below.heap_setCell w _ u g (by simp; omega)
theorem zero_normal {w w1 : World} {l : List Pick} {e : Ending} (h : Normal w l e w1) (h0 : err 65536 l = 0) :
    ∃ oa cap, e = .returned (.tuple #[.slice oa (norm l).length cap, .int .i64 0]) ∧ Below w.heap.size w w1 ∧ OwnP w.heap.size w1 (.slice oa (norm l).length cap) (norm l) := by
  obtain ⟨v', rfl, hB, hO, _⟩ := h
  have hO := hO h0
  obtain ⟨oa, cap, rfl⟩ := hO.form
  exact ⟨oa, cap, by rw [h0], hB, hO⟩

set_option maxHeartbeats 4000000 in
theorem deleteEmpty {w : World} {B : Nat} {l : List Pick} {oa : Option Addr} {cap : Nat} (h : Reads B l w) :
    Calls Try.prog 31 #[.slice oa 0 cap, .func (.func 33) #[] #[.pointer (some ⟨B, 0, none⟩)]] w fun e w' => e = .returned (.slice oa 0 cap) ∧ ∃ n, w' = w.drewN n := by
  have H := hide (indexFunc (v := .slice oa 0 cap) (xs := []) h (fun x hx => by simp at hx) ⟨oa, cap, rfl, Nat.zero_le _, fun i hi => absurd hi (Nat.not_lt_zero i)⟩)
  clear h
  go_enter Try.func31, Try.ntmps31
  go_wp2_with (first
    | (go_at_call 53
       (with_reducible refine H.out.mono ?_)
       rintro e w1 ⟨he, n, rfl⟩
       have he2 : e = .returned (.int .i64 (-1)) := he
       clear he
       subst he2)
    | fail)
  go_ret
  exact ⟨rfl, n, rfl⟩
theorem deleteAll {ρ : Ren} (L : SlLaysH.n10 Try.prog ρ) (h31 : ρ.f 10 = 31) (h3 : ρ.t 23 = 3) {w : World} {N B : Nat} {v : Value} {l : List Pick} (hO : Go.Il.Own 3 .i64 N w v ((List.range l.length).map Int.ofNat)) (hl : l.length ≤ 100000) (hN : N ≤ w.heap.size)
    (hR : ∀ W, Below N w W → Reads B l W) : Calls Try.prog 31 #[v, .func (.func 33) #[] #[.pointer (some ⟨B, 0, none⟩)]] w fun e w' => ∃ v', e = .returned v' ∧ Below N w w' ∧ RowAt 1 (NumAt .i64) w' v' (pres l) := by
  have hlen : ((List.range l.length).map Int.ofNat).length = l.length := by simp
  rcases Nat.eq_zero_or_pos l.length with h0 | h0
  · obtain ⟨oa, cap, rfl⟩ := hO.form
    have hl0 : l = [] := List.eq_nil_of_length_eq_zero h0
    subst hl0
    refine (deleteEmpty (hR w (Below.refl _ _))).mono ?_
    rintro e w' ⟨rfl, n, rfl⟩
    exact ⟨_, rfl, belowN _ _ _, oa, cap, rfl, Nat.zero_le _, fun i hi => absurd hi (Nat.not_lt_zero i)⟩
  · obtain ⟨g, cap, rfl, hcap, hg, hc⟩ := own_num hO (by rw [hlen]; exact h0)
    rw [hlen] at hcap ⊢
    refine deleteFunc L h31 h3 h0 hl hg hN hR (fun j hj => ?_) hcap
    have := hc j (by rw [hlen]; exact hj)
    simpa using this

theorem reads_below {w1 W : World} {B N : Nat} {v : Value} {l : List Pick} (hb : w1.heap[B]? = some (.cells #[v] 28 (0, 0))) (hp : Picks w1 v l) (hk : Below N w1 W) (hN : w1.heap.size ≤ N) : Reads B l W := by
  obtain ⟨oa, cap, e⟩ := hp.slice
  exact ⟨_, cell_of ((hk.block B (Nat.lt_of_lt_of_le (block_lt hb) hN)).trans hb) 0, picks_below hp (hk.mono hN), _, _, _, e⟩

set_option maxHeartbeats 8000000 in
theorem preemptionsProg {ρ : Ren} (L : SlLaysH.n10 Try.prog ρ) (h31 : ρ.f 10 = 31) (h3 : ρ.t 23 = 3) {w : World} {v : Value} {l : List Pick} (h : Picks w v l) (hl : l.length ≤ 100000) (h0 : err 65536 l = 0) :
    Calls Try.prog 15 #[v] w fun e w' => ∃ v', e = .returned (.tuple #[v', .int .i64 0]) ∧ Below w.heap.size w w' ∧ RowAt 1 (NumAt .i64) w' v' (pres (norm l)) := by
  have HW := hide h
  have HZ := hide h0
  have hnl : (norm l).length ≤ 100000 := Nat.le_trans (norm_length l) hl
  obtain ⟨oa0, ca0, rfl, _, _⟩ := h
  clear h0
  go_enter Try.func15, Try.ntmps15
  go_wp2_with (first
    | (go_at_call 12
       (with_reducible refine (normalProg (picks_below HW.out ((Below.refl _ w).alloc (Nat.le_refl _) _)) hl).mono ?_)
       rintro e w1 hN
       obtain ⟨oa, cap, rfl, hB1, hO1⟩ := zero_normal hN HZ.out
       have HB1 := hide hB1
       have HO1 := hide hO1
       clear hN hB1 hO1
       have hz1 : (w.alloc (.cells #[.slice oa0 l.length ca0] 28)).heap.size = w.heap.size + 1 := by simp
       have kb : w1.heap[w.heap.size]? = some (.cells #[.slice oa0 l.length ca0] 28 (0, 0)) := (HB1.out.block _ (by omega)).trans (new_block _ _)
       have k1 : w1.cell? ⟨w.heap.size, 0, none⟩ = some (.slice oa0 l.length ca0) := cell_of kb 0
       have k2 : w1.frozen? ⟨w.heap.size, 0, none⟩ = false := frozen_of kb 0
       have KB := hide kb
       have HZ1 := hide hz1
       clear kb hz1)
    | (go_at_call 32
       (with_reducible refine (untilProg (n := (norm l).length) (by omega)).mono ?_)
       rintro e w2 ⟨u, rfl, hB2, hO2⟩
       have HB2 := hide hB2
       have HO2 := hide hO2
       have HRD : Hid (∀ W, Below (w1.setCell ⟨w.heap.size, 0, none⟩ (.slice oa (norm l).length cap)).heap.size w2 W → Reads w.heap.size (norm l) W) := hide fun W hW =>
         reads_below (set_block KB.out) (norm_row (OwnP.setBox HO1.out (by have := HZ1.out; omega) _) HZ.out hl) (HB2.out.trans hW) (Nat.le_refl _)
       clear hB2 hO2)
    | (go_at_call 31
       (with_reducible refine (deleteAll L h31 h3 HO2.out hnl HB2.out.size HRD.out).mono ?_)
       rintro e w3 ⟨u3, rfl, hB3, hR3⟩
       have HB3 := hide hB3
       have HR3 := hide hR3
       clear hB3 hR3)
    | fail)
  go_ret2
  have h1 : w.heap.size ≤ w1.heap.size := by
    have a := HB1.out.size
    have b := HZ1.out
    omega
  have h2 : w.heap.size ≤ (w1.setCell ⟨w.heap.size, 0, none⟩ (.slice oa (norm l).length cap)).heap.size := by simpa using h1
  exact ⟨_, rfl, ((((Below.refl _ w).alloc (Nat.le_refl _) _).trans (HB1.out.mono (by have b := HZ1.out; omega))).setCell (p := ⟨w.heap.size, 0, none⟩) (Nat.le_refl _) _).trans ((HB2.out.mono h2).trans (HB3.out.mono h2)), HR3.out⟩
end Go.Proofs.Ytinllamocplgjaa.No
