import Derived.Test.YtinllamocplgjaaNoB
set_option maxRecDepth 100000
namespace Go.Proofs.Ytinllamocplgjaa.No
open Go Go.Ms Go.Pg Go.Rc Go.ChangeShapes Go.WideShapes Go.ChangeAt Go.RowKit Go.Deep Go.Proofs.Ytinllamocplgjaa.Rc

theorem isNumber {w : World} {n c : Int} : Calls Try.prog 29 #[.int .i64 n, .int .i64 c] w fun e w' => e = .returned (.bool (decide (0 ≤ n ∧ n < c))) ∧ w' = w := by
  by_cases h1 : 0 ≤ n
  · by_cases h2 : n < c
    · have e : decide (0 ≤ n ∧ n < c) = true := decide_eq_true ⟨h1, h2⟩
      rw [e]
      clear e
      go_enter Try.func29, Try.ntmps29
      go_wp2_with fail
      go_ret
      simp
    · have e : decide (0 ≤ n ∧ n < c) = false := decide_eq_false fun h => h2 h.2
      rw [e]
      clear e
      go_enter Try.func29, Try.ntmps29
      go_wp2_with fail
      go_ret
      simp
  · have e : decide (0 ≤ n ∧ n < c) = false := decide_eq_false fun h => h1 h.1
    rw [e]
    clear e
    go_enter Try.func29, Try.ntmps29
    go_wp2_with fail
    go_ret
    simp

set_option maxHeartbeats 4000000 in
theorem isPreemption {w : World} {v : Value} {l : List (Int × Int)} (h : Picks w v l) (a : Nat) (ha : a < l.length) :
    Calls Try.prog 34 #[v, .int .i64 a] w fun e w' => e = .returned (.bool (decide ((a : Int) < later l a))) ∧ ∃ n, w' = w.drewN n := by
  have H := hide (laterProg h a ha)
  obtain ⟨oa, ca, rfl, hla, hc⟩ := h
  clear hc
  go_enter Try.func34, Try.ntmps34
  go_wp2_with (first
    | (go_at_call 54
       (with_reducible refine H.out.mono ?_)
       rintro e w1 ⟨rfl, n, rfl⟩)
    | fail)
  go_ret
  exact ⟨rfl, n, rfl⟩

set_option maxHeartbeats 4000000 in
theorem untilProg {w : World} {n : Nat} (hn : n ≤ 1000000) :
    Calls Try.prog 32 #[.int .i64 n] w fun e w' => ∃ v, e = .returned v ∧ Below w.heap.size w w' ∧ Il.Own 3 .i64 w.heap.size w' v ((List.range n).map Int.ofNat) := by
  go_enter Try.func32, Try.ntmps32
  go_wp2_with fail
  go_loopw [3, 6] (fun v i wr => ∃ k : Nat, k ≤ n ∧ i = .int .i64 (k : Int) ∧ Il.Own 3 .i64 w.heap.size wr v ((List.range k).map Int.ofNat) ∧ Il.Stp 3 w.heap.size w wr) (fun _ i _ => n - (intOf i).toNat)
  case atStart => exact ⟨0, Nat.zero_le _, rfl, Il.Own.nil _ _ _ _, Il.Stp.refl _ _ _⟩
  case round =>
    obtain ⟨k, hk, rfl, hO, hS⟩ := hrel
    have HO := hide hO
    have HS := hide hS
    clear hO hS
    by_cases hlt : k < n
    · have h64 : (k : Int) < (n : Int) := by omega
      have hz : w.heap.size ≤ wr.heap.size := HS.out.below.size
      go_wp2_with (first
        | (at_builtin
           (refine Go.Il.wpl_push EI (by decide) rfl (.tmp 9) (.tmp 11) rfl HO.out _ _ [(k : Int)] _ _ rfl rfl rfl rfl rfl hz (by simp; omega) ?_
            intro v1 w1 ho1 hs1
            have HO1 := hide ho1
            have HS1 := hide (HS.out.trans hs1)
            clear ho1 hs1))
        | fail)
      refine ⟨⟨k + 1, by omega, by go_num, ?_, HS1.out⟩, by simp [intOf]; omega⟩
      rw [List.range_succ, List.map_append]
      exact HO1.out
    · obtain rfl : k = n := by omega
      go_wp2_with fail
      go_ret
      exact ⟨_, rfl, HS.out.below, HO.out⟩

theorem neqPick (x1 y1 x2 y2 : Int) (w : World) : (binOp .neq 36 (.agg #[.int .i64 x1, .int .i64 y1]) (.agg #[.int .i64 x2, .int .i64 y2])).run Try.prog w = .ok (.bool (!(decide (x1 = x2 ∧ y1 = y2)))) w := by
  by_cases h1 : x1 = x2
  · by_cases h2 : y1 = y2
    · subst h1 h2
      go_simp
    · subst h1
      go_simp
  · go_simp

def SaysP (l m : List (Int × Int)) (w : World) (e : Ending) (w' : World) : Prop := ∃ r, e = .returned (.bool r) ∧ (r = true ↔ l = m) ∧ ∃ n, w' = w.drewN n

set_option maxHeartbeats 4000000 in
theorem samePicks {w : World} {va vb : Value} {l m : List (Int × Int)} (ha : Picks w va l) (hb : Picks w vb m) : Calls Try.prog 13 #[va, vb] w (SaysP l m w) := by
  obtain ⟨oa, ca, rfl, hla, ha⟩ := ha
  obtain ⟨ob, cb, rfl, hlb, hb⟩ := hb
  go_enter Try.func13, Try.ntmps13
  go_wp2_with fail
  · have hq : ((l.length : Int) != (m.length : Int)) = true := by assumption
    go_ret
    exact ⟨false, rfl, ⟨fun h => by simp at h, fun h => by subst h; simp at hq⟩, 0, rfl⟩
  · have hq : ((l.length : Int) != (m.length : Int)) = false := by assumption
    have hlen : Hid (l.length = m.length) := by
      have : (l.length : Int) = (m.length : Int) := by simpa using hq
      exact hide (by omega)
    generalize ((l.length : Int) != (m.length : Int)) = bq at *
    subst hq
    go_loopw [5] (fun i wr => ∃ k : Nat, k ≤ l.length ∧ i = .int .i64 k ∧ (∀ j, j < k → l[j]? = m[j]?) ∧ ∃ n, wr = w.drewN n) (fun i _ => l.length - (intOf i).toNat)
    case atStart => exact ⟨0, Nat.zero_le _, rfl, fun j h => by omega, 0, rfl⟩
    case round =>
      obtain ⟨k, hk, rfl, hp, nd, rfl⟩ := hrel
      have P : Hid (∀ j, j < k → l[j]? = m[j]?) := hp
      clear hp
      by_cases hlt : k < l.length
      · have hlt2 : k < m.length := by have := hlen.out; omega
        obtain ⟨b1, o1, rfl, f1, f1'⟩ := pick_cell ha hlt
        obtain ⟨b2, o2, rfl, f2, f2'⟩ := pick_cell hb hlt2
        have hi1 : (k : Int) < (l.length : Int) := by omega
        have hi2 : (k : Int) < (m.length : Int) := by omega
        clear ha hb
        by_cases he : l[k] = m[k]
        · have hx : ∀ w : World, (binOp .neq 36 (.agg #[.int .i64 l[k].1, .int .i64 l[k].2]) (.agg #[.int .i64 m[k].1, .int .i64 m[k].2])).run Try.prog w = .ok (.bool false) w := fun w => by rw [neqPick, he]; simp
          have HE := hide he
          clear he
          go_wp2_with fail
          go_quiet (fail)
          go_wp2_with fail
          go_roundw
          case rel =>
            refine ⟨k + 1, by omega, by go_num, fun j hj => ?_, _, rfl⟩
            by_cases q : j < k
            · exact P.out j q
            · obtain rfl : j = k := by omega
              rw [List.getElem?_eq_getElem hlt, List.getElem?_eq_getElem hlt2, HE.out]
          case measure => simp [intOf]; omega
        · have hx : ∀ w : World, (binOp .neq 36 (.agg #[.int .i64 l[k].1, .int .i64 l[k].2]) (.agg #[.int .i64 m[k].1, .int .i64 m[k].2])).run Try.prog w = .ok (.bool true) w := fun w => by
            rw [neqPick]
            have : ¬ (l[k].1 = m[k].1 ∧ l[k].2 = m[k].2) := fun h => he (Prod.ext h.1 h.2)
            simp only [this, decide_false, Bool.not_false]
          have HE := hide he
          clear he
          go_wp2_with fail
          go_quiet (fail)
          go_wp2_with fail
          go_ret
          exact ⟨false, rfl, ⟨fun h => by simp at h, fun h => by subst h; exact absurd rfl HE.out⟩, _, drews _ _ _⟩
      · go_wp2_with fail
        go_ret
        have : k = l.length := by omega
        subst this
        refine ⟨true, rfl, ⟨fun _ => ?_, fun _ => rfl⟩, _, rfl⟩
        apply List.ext_getElem?
        intro j
        by_cases q : j < l.length
        · exact P.out j q
        · rw [List.getElem?_eq_none (by omega), List.getElem?_eq_none (by have := hlen.out; omega)]
end Go.Proofs.Ytinllamocplgjaa.No
