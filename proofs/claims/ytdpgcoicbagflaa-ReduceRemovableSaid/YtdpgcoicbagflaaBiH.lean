import Derived.Test.YtdpgcoicbagflaaBiG
import Derived.Test.YtdpgcoicbagflaaIlB
import Derived.Defers
import Derived.Recover
set_option maxRecDepth 100000
set_option linter.unusedSimpArgs false
set_option linter.unusedVariables false
namespace Go.Proofs.Ytdpgcoicbagflaa.Bi
open Go Go.Ms Go.Pg Go.Bi Go.ChangeShapes Go.WideShapes Go.ChangeAt Go.RowKit Go.Deep

theorem EI : Go.Il.IntElem Try.prog 24 3 .i64 8 := Go.Il.IntElem.mk Try.underlying24 (by kernel_rfl)
theorem own_same {w w' : World} {B : Nat} {e : TypeId} {size : Nat} {v : Value} {n : Nat} {xs : List Value} (h : w.ownsRow B e size v n xs) (k : ∀ (g : Nat) cs, B ≤ g → w.heap[g]? = some (Obj.cells cs e (0, 0)) → w'.heap[g]? = w.heap[g]?) : w'.ownsRow B e size v n xs := by
  refine ⟨h.1, ?_⟩
  rcases h.2 with h2 | ⟨g, cap, cur, rfl, hb, hh, r⟩
  · exact .inl h2
  · exact .inr ⟨g, cap, cur, rfl, hb, (k g _ hb hh).trans hh, r⟩
theorem own_kept1 {w w' : World} {B : Nat} {v : Value} {l : List Int} (h : Go.Il.Own 3 .i64 B w v l) (hb : Below w.heap.size w w') : Go.Il.Own 3 .i64 B w' v l := own_same h fun g _ _ hh => hb.block g (block_lt hh)

theorem own_mono {w : World} {B B' : Nat} {v : Value} {l : List Int} (hB : B' ≤ B) (h : Go.Il.Own 3 .i64 B w v l) : Go.Il.Own 3 .i64 B' w v l := by
  refine ⟨h.1, ?_⟩
  rcases h.2 with h2 | ⟨g, cap, cur, hv, hb, hh, r⟩
  · exact .inl h2
  · exact .inr ⟨g, cap, cur, hv, Nat.le_trans hB hb, hh, r⟩
theorem own_putQ {w : World} {B C : Nat} {v : Value} {l : List Int} {d e : Bool} {a k p a' l' p' : Value} (h : Go.Il.Own 3 .i64 B w v l) (hq : w.heap[C]? = some (boxQ e a' l' p')) : Go.Il.Own 3 .i64 B (putQ w C d a k p) v l :=
  own_same h fun g cs _ hh => putQ_other (fun e => by subst e; rw [hq] at hh; injection hh with hh; injection hh with _ ht; cases ht)

def upTo (p : Nat → Bool) (k : Nat) : List Int := ((List.range k).filter p).map Int.ofNat
theorem upTo_succ (p : Nat → Bool) (k : Nat) : upTo p (k + 1) = upTo p k ++ if p k = true then [(k : Int)] else [] := by
  unfold upTo
  rw [List.range_succ, List.filter_append, List.map_append]
  by_cases h : p k = true <;> simp [h]
theorem upTo_length (p : Nat → Bool) (k : Nat) : (upTo p k).length ≤ k := by
  unfold upTo
  rw [List.length_map]
  have := List.length_filter_le p (List.range k)
  simpa using this
theorem upTo_one {v : Nat} : ∀ k, upTo (among [v]) k = if v < k then [(v : Int)] else []
  | 0 => rfl
  | k + 1 => by
    rw [upTo_succ, upTo_one k]
    by_cases h : v = k
    · subst h; simp [among]
    · have hk : among [v] k = false := by simp [among]; omega
      rw [hk]
      by_cases h2 : v < k
      · simp [h2, Nat.lt_succ_of_lt h2]
      · have : ¬ v < k + 1 := by omega
        simp [h2, this]

set_option maxHeartbeats 8000000 in
theorem listProg {w : World} {p : Nat → Bool} {a b c d : Nat} (hs : Sp p a b c d) : Calls Try.prog 51 #[setV a b c d] w fun e w' => ∃ v', e = .returned v' ∧ Below w.heap.size w w' ∧ Go.Il.Own 3 .i64 w.heap.size w' v' (upTo p 256) := by
  have HX := hide hs
  clear hs
  go_enter Try.func51, Try.ntmps51
  go_wp2_with fail
  go_loopw [3, 5] (fun r i wr => ∃ k : Nat, k ≤ 256 ∧ i = .int .i64 (k : Int) ∧ Below w.heap.size w wr ∧ wr.heap[w.heap.size]? = some (boxV a b c d) ∧ Go.Il.Own 3 .i64 w.heap.size wr r (upTo p k)) (fun _ i _ => 256 - (intOf i).toNat)
  case atStart => exact ⟨0, Nat.zero_le _, rfl, (Below.refl _ w).alloc (Nat.le_refl _) _, new_block w _, Go.Il.Own.nil _ _ _ _⟩
  case round =>
    obtain ⟨k, hk, rfl, hB, hb0, hO⟩ := hrel
    have HB := hide hB
    have H0 := hide hb0
    have HO := hide hO
    clear hB hb0 hO
    obtain ⟨q1, q2, q3, q4⟩ := box_cells H0.out
    have hz : w.heap.size ≤ wr.heap.size := HB.out.size
    have hbl : w.heap.size < wr.heap.size := block_lt H0.out
    by_cases hlt : k < 256
    · have hi : (k : Int) < 256 := by omega
      have hi2 : decide (k < 256) = true := decide_eq_true hlt
      have hw : IntKind.i64.wrap ((k : Int) + 1) = (k : Int) + 1 := wrap_in (by omega) (by omega)
      have HT := hide (upTo_succ p k)
      have hul := upTo_length p k
      cases hb : p k with
      | true =>
        rw [hb, if_pos rfl] at HT
        have HBT := hide hb
        clear hb
        go_wp2_with (first
          | (go_at_call 56
             (with_reducible refine (hasSet HX.out hlt).mono ?_)
             rintro e w1 ⟨he, hB1⟩
             rw [HBT.out] at he
             subst he
             have HB1 := hide hB1
             have HO1 := hide (own_kept1 HO.out hB1)
             have hz1 : w.heap.size ≤ w1.heap.size := Nat.le_trans hz hB1.size
             have H01 := hide ((hB1.block _ hbl).trans H0.out)
             clear hB1)
          | (at_builtin
             (refine Go.Il.wpl_push EI (by decide) rfl (.tmp 11) (.tmp 13) rfl HO1.out _ _ [(k : Int)] _ _ rfl rfl rfl rfl rfl hz1 (by simp; omega) ?_
              intro v2 w2 ho2 hs2
              have HO2 := hide ho2
              have HS2 := hide hs2
              clear ho2 hs2))
          | fail)
        refine ⟨⟨k + 1, by omega, by go_num, HB.out.trans ((HB1.out.mono hz).trans HS2.out.below), Go.Il.Stp.block HS2.out H01.out (by decide), ?_⟩, by simp [intOf]; omega⟩
        rw [HT.out]
        exact HO2.out
      | false =>
        rw [hb] at HT
        simp only [Bool.false_eq_true, if_false, List.append_nil] at HT
        have HBT := hide hb
        clear hb
        go_wp2_with (first
          | (go_at_call 56
             (with_reducible refine (hasSet HX.out hlt).mono ?_)
             rintro e w1 ⟨he, hB1⟩
             rw [HBT.out] at he
             subst he
             have HB1 := hide hB1
             have HO1 := hide (own_kept1 HO.out hB1)
             have H01 := hide ((hB1.block _ hbl).trans H0.out)
             clear hB1)
          | fail)
        refine ⟨⟨k + 1, by omega, by go_num, HB.out.trans (HB1.out.mono hz), H01.out, ?_⟩, by simp [intOf]; omega⟩
        rw [HT.out]
        exact HO1.out
    · obtain rfl : k = 256 := by omega
      go_wp2_with fail
      go_ret
      exact ⟨_, rfl, HB.out, HO.out⟩

set_option maxHeartbeats 8000000 in
theorem askProg {w : World} {p : Nat → Bool} {a b c d : Nat} (hs : Sp p a b c d) : Calls Try.prog 54 #[setV a b c d] w fun e w' => ∃ v', e = .returned (questV false v' nilV nilV) ∧ Below w.heap.size w w' ∧ Go.Il.Own 3 .i64 w.heap.size w' v' (upTo p 256) := by
  have HX := hide hs
  clear hs
  go_enter Try.func54, Try.ntmps54
  go_wp2_with fail
  (with_reducible refine (listProg HX.out).mono ?_)
  rintro e w1 ⟨v', rfl, hB1, hO⟩
  have hBw := (((Below.refl w.heap.size w).alloc (Nat.le_refl _) (boxV a b c d)).alloc (by simp) (boxQ false nilV nilV nilV)).trans (hB1.mono (by simp; omega))
  have HB := hide hBw
  have H1 : Hid (w1.heap[w.heap.size + 1]? = some (boxQ false nilV nilV nilV)) := hide ((hB1.block _ (by simp)).trans (alloc_at (by simp)))
  have HO := hide (own_mono (B' := w.heap.size) (by simp; omega) hO)
  clear hB1 hO hBw
  obtain ⟨oa, cap, hv⟩ := Go.Il.Own.form HO.out
  obtain ⟨L, hL⟩ : ∃ L, L = (upTo p 256).length := ⟨_, rfl⟩
  rw [← hL] at hv
  subst hv
  clear hL
  obtain ⟨q0, q1, q2, q3⟩ := q_cells H1.out
  have s0 := frozen_of H1.out 0
  have s1 := frozen_of H1.out 1
  have s2 := frozen_of H1.out 2
  have s3 := frozen_of H1.out 3
  go_wp2_with fail
  refine final8 (X := putQ w1 (w.heap.size + 1) false (.slice oa L cap) nilV nilV) rfl ?_
  have HP := hide (putQ_block (e := false) (b := .slice oa L cap) (l := nilV) (q := nilV) H1.out)
  have HQ := hide (putQ_below (d := false) (a := .slice oa L cap) (l := nilV) (p := nilV) HB.out (B := w.heap.size + 1) (by omega))
  have HOX := hide (own_putQ (d := false) (a := .slice oa L cap) (k := nilV) (p := nilV) HO.out H1.out)
  generalize putQ w1 (w.heap.size + 1) false (.slice oa L cap) nilV nilV = X at *
  obtain ⟨x0, x1, x2, x3⟩ := q_cells HP.out
  refine bodyPost_ret (v := questV false (.slice oa L cap) nilV nilV) (by simp [results, Try.results54, go_sem, x0, x1, x2, x3]) rfl ?_
  exact ⟨_, rfl, HQ.out, HOX.out⟩
end Go.Proofs.Ytdpgcoicbagflaa.Bi
