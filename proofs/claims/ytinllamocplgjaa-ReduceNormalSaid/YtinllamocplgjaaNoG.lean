import Derived.Test.YtinllamocplgjaaNoF
set_option maxRecDepth 100000
namespace Go.Proofs.Ytinllamocplgjaa.No
open Go Go.Ms Go.Pg Go.Rc Go.No Go.ChangeShapes Go.WideShapes Go.ChangeAt Go.RowKit Go.Deep Go.Proofs.Ytinllamocplgjaa.Rc

theorem isNum {w : World} {n c : Int} {r : Bool} (e : decide (0 ≤ n ∧ n < c) = r) : Calls Try.prog 29 #[.int .i64 n, .int .i64 c] w fun e w' => e = .returned (.bool r) ∧ w' = w := by
  subst e
  exact isNumber
theorem own_base {w : World} {B C : Nat} {e : TypeId} {size : Nat} {v : Value} {n : Nat} {xs : List Value} (h : w.ownsRow B e size v n xs) (hC : C ≤ B) : w.ownsRow C e size v n xs := by
  refine ⟨h.1, ?_⟩
  rcases h.2 with h2 | ⟨g, cap, cur, hv, hb, hh, r⟩
  · exact .inl h2
  · exact .inr ⟨g, cap, cur, hv, by omega, hh, r⟩
theorem picks_below {w w' : World} {v : Value} {l : List Pick} (h : Picks w v l) (k : Below w.heap.size w w') : Picks w' v l := h.imp fun _ _ _ q => PairAt.keeps _ _ k _ _ _ q

set_option maxHeartbeats 8000000 in
theorem normalProg {w : World} {v : Value} {l : List Pick} (h : Picks w v l) (hl : l.length ≤ 100000) : Calls Try.prog 12 #[v] w (Normal w l) := by
  have HW := hide h
  obtain ⟨oa, ca, rfl, hla, hc⟩ := h
  have HC := hide hc
  clear hc
  go_enter Try.func12, Try.ntmps12
  go_wp2_with fail
  go_loopw [4, 9] (fun s i wr => ∃ k : Nat, k ≤ l.length ∧ i = .int .i64 (k : Int) ∧ s = .int .i64 (65536 - No.sum (l.take k)) ∧ err 65536 (l.take k) = 0 ∧ Below w.heap.size w wr) (fun _ i _ => l.length - (intOf i).toNat)
  case atStart => exact ⟨0, Nat.zero_le _, rfl, rfl, rfl, Below.refl _ _⟩
  case round =>
    obtain ⟨k, hk, rfl, rfl, h0, hB⟩ := hrel
    have HE := hide h0
    have HB := hide hB
    clear h0
    by_cases hlt : k < l.length
    · have hi1 : (k : Int) < (l.length : Int) := by omega
      obtain ⟨b1, o1, rfl, f0, f0'⟩ := pick_cell HC.out hlt
      have f1 := cell_below HB.out f0
      have f2 := cell_below HB.out f0'
      have hbx : w.heap.size ≤ wr.heap.size := HB.out.size
      have HB1 := hide (HB.out.alloc hbx (.cells #[.int .i64 l[k].1, .int .i64 l[k].2] 36))
      clear f0 f0' hB
      have HT := hide (err_take hlt HE.out)
      have HS := hide (sum_bound _ _ (by omega) HE.out)
      have eP : (l[k]?.getD (0, 0)) = l[k] := by simp [List.getElem?_eq_getElem hlt]
      rw [eP] at HT
      clear eP
      by_cases hb1 : 0 ≤ l[k].1 ∧ l[k].1 < 8
      · have D : Hid (decide (0 ≤ l[k].1 ∧ l[k].1 < 8) = true) := decide_eq_true hb1
        by_cases hb3 : l[k].2 < 1
        · have HX := hide (err_bad HT.out (.inr (.inr hb3)))
          clear hb1
          go_wp2_with (first
            | (go_at_call 29
               (with_reducible refine (isNum D.out).mono ?_)
               rintro e w1 ⟨rfl, rfl⟩)
            | fail)
          go_ret2
          exact ⟨.slice none 0 0, by rw [HX.out]; rfl, HB1.out, fun q => absurd (HX.out.symm.trans q) (by decide), fun _ => rfl⟩
        · have hb3' : 1 ≤ l[k].2 := by omega
          have HN : Hid (¬ Bad l[k]) := hide (by unfold Bad; omega)
          by_cases hs : 65536 - No.sum (l.take k) < l[k].2
          · have HX := hide (err_much HT.out HN.out hs)
            clear hb1 hb3
            go_wp2_with (first
              | (go_at_call 29
                 (with_reducible refine (isNum D.out).mono ?_)
                 rintro e w1 ⟨rfl, rfl⟩)
              | fail)
            go_ret2
            exact ⟨.slice none 0 0, by rw [HX.out]; rfl, HB1.out, fun q => absurd (HX.out.symm.trans q) (by decide), fun _ => rfl⟩
          · have hs' : l[k].2 ≤ 65536 - No.sum (l.take k) := by omega
            have H0 : Hid (err 65536 (l.take (k + 1)) = 0) := hide (by have q := HT.out; rw [if_neg HN.out, if_neg hs] at q; exact q)
            have hw1 : IntKind.i64.wrap (65536 - No.sum (l.take k) - l[k].2) = 65536 - No.sum (l.take k) - l[k].2 := by
              have := HS.out
              exact wrap_in (by omega) (by omega)
            have HQ : Hid (No.sum (l.take (k + 1)) = No.sum (l.take k) + l[k].2) := hide (by rw [take_snoc hlt, sum_snoc])
            clear hb1 hb3 hs
            go_wp2_with (first
              | (go_at_call 29
                 (with_reducible refine (isNum D.out).mono ?_)
                 rintro e w1 ⟨rfl, rfl⟩)
              | fail)
            refine ⟨⟨k + 1, by omega, by go_num, by rw [HQ.out, Int.sub_sub], H0.out, HB1.out⟩, by simp [intOf]; omega⟩
      · have D : Hid (decide (0 ≤ l[k].1 ∧ l[k].1 < 8) = false) := decide_eq_false hb1
        have HX := hide (err_bad HT.out (by unfold Bad; omega))
        clear hb1
        go_wp2_with (first
          | (go_at_call 29
             (with_reducible refine (isNum D.out).mono ?_)
             rintro e w1 ⟨rfl, rfl⟩)
          | fail)
        go_ret2
        exact ⟨.slice none 0 0, by rw [HX.out]; rfl, HB1.out, fun q => absurd (HX.out.symm.trans q) (by decide), fun _ => rfl⟩
    · obtain rfl : k = l.length := by omega
      rw [List.take_length] at HE
      clear hB
      go_wp2_with (first
        | (go_at_call 30
           (with_reducible refine (mergedProg (picks_below HW.out HB.out) hl HE.out).mono ?_)
           rintro e w1 ⟨v1, rfl, hb1, ho1⟩
           have HB1 := hide (HB.out.trans (hb1.mono HB.out.size))
           have HO1 := hide (own_base ho1 HB.out.size)
           clear hb1 ho1)
        | fail)
      go_ret2
      exact ⟨_, by rw [HE.out]; rfl, HB1.out, fun _ => HO1.out, fun q => absurd HE.out q⟩
end Go.Proofs.Ytinllamocplgjaa.No
