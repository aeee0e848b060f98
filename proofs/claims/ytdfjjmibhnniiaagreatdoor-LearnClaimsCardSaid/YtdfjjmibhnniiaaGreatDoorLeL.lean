import Derived.Test.YtdfjjmibhnniiaaGreatDoorLeE
set_option maxRecDepth 100000
set_option linter.unusedSimpArgs false
set_option linter.unusedVariables false
namespace Go.Proofs.YtdfjjmibhnniiaaGreatDoor.Le
open Go Go.Ms Go.Pg Go.Le Go.ChangeShapes Go.WideShapes Go.ChangeAt Go.RowKit Go.Deep

theorem checkVars (n : Int) (w : World) : Calls Tryz.prog 41 #[.int .i64 n] w fun e w' => e = .returned (.int .i64 (if n < 1 then 1 else if 8 < n then 3 else 0)) ∧ w' = w := by
  by_cases h1 : n < 1
  · go_enter Tryz.func41, Tryz.ntmps41
    go_wp2_with fail
    go_ret
    exact ⟨rfl, rfl⟩
  by_cases h8 : 8 < n
  · go_enter Tryz.func41, Tryz.ntmps41
    go_wp2_with fail
    go_ret
    exact ⟨rfl, rfl⟩
  · go_enter Tryz.func41, Tryz.ntmps41
    go_wp2_with fail
    go_ret
    exact ⟨rfl, rfl⟩

set_option maxHeartbeats 4000000 in
theorem indexPlain {w : World} {v : Value} {l : List Int} (h : IntsW w v l) : Calls Tryz.prog 109 #[v, .func (.func 69) #[] #[]] w fun e w' => (∃ r : Int, e = .returned (.int .i64 r) ∧ (0 ≤ r ↔ ¬ AllPlain l)) ∧ ∃ n, w' = w.drewN n := by
  obtain ⟨oa, cap, rfl, hl, hc⟩ := h
  have HC := hide hc
  clear hc
  go_enter Tryz.func109, Tryz.ntmps109
  go_wp2_with fail
  go_loopw [8] (fun i wr => ∃ (k : Nat) (n : Nat), k ≤ l.length ∧ i = .int .i64 (k : Int) ∧ AllPlain (l.take k) ∧ wr = w.drewN n) (fun i _ => l.length - (intOf i).toNat)
  case atStart => exact ⟨0, 0, Nat.zero_le _, rfl, by simp [AllPlain], rfl⟩
  case round =>
    obtain ⟨k, n, hk, rfl, hx, rfl⟩ := hrel
    have HX := hide hx
    clear hx
    by_cases hlt : k < l.length
    · have hi : (k : Int) < (l.length : Int) := by omega
      obtain ⟨b, o, rfl, f⟩ := int_cell HC.out hlt
      by_cases hp : Plain l[k]
      · have HP := hide hp
        clear hp
        go_wp2_with (first
          | (go_at_call 69
             with_reducible refine (closure (n := l[k])).mono ?_
             intro e w2 h2
             obtain ⟨rfl, n2, rfl⟩ := tells_no h2 (not_not_intro HP.out)
             clear h2)
          | fail)
        go_roundw
        case rel => exact ⟨k + 1, _, by omega, by go_num, plain_next HX.out hlt HP.out, rfl⟩
        case measure => simp [intOf]; omega
      · have HP := hide hp
        clear hp
        go_wp2_with (first
          | (go_at_call 69
             with_reducible refine (closure (n := l[k])).mono ?_
             intro e w2 h2
             obtain ⟨rfl, n2, rfl⟩ := tells_yes h2 HP.out
             clear h2)
          | fail)
        go_ret
        exact ⟨⟨k, rfl, ⟨fun _ q => HP.out (q _ (List.getElem_mem hlt)), fun _ => by omega⟩⟩, _, rfl⟩
    · have HA : Hid (AllPlain l) := hide (by
        have := HX.out
        rwa [List.take_of_length_le (by omega)] at this)
      go_wp2_with fail
      go_ret
      exact ⟨⟨-1, rfl, ⟨fun q => by omega, fun q => absurd HA.out q⟩⟩, _, rfl⟩
set_option maxHeartbeats 4000000 in
theorem someNot {w : World} {v : Value} {l : List Int} (h : IntsW w v l) : Calls Tryz.prog 68 #[v, .func (.func 69) #[] #[]] w (Tells (¬ AllPlain l) w) := by
  have HR := hide h
  obtain ⟨oa, cap, rfl, _, _⟩ := h
  go_enter Tryz.func68, Tryz.ntmps68
  go_wp2_with (first
    | (go_at_call 109
       (with_reducible refine (indexPlain HR.out).mono ?_)
       rintro e _ ⟨⟨r, rfl, hr⟩, n, rfl⟩
       have HX := hide hr
       clear hr)
    | fail)
  go_ret
  exact ⟨_, rfl, by rw [decide_eq_true_iff]; exact HX.out, _, rfl⟩
set_option maxHeartbeats 4000000 in
theorem plainAll {w : World} {v : Value} {l : List Int} (h : IntsW w v l) : Calls Tryz.prog 35 #[v] w (Tells (AllPlain l) w) := by
  have HR := hide h
  obtain ⟨oa, cap, rfl, _, _⟩ := h
  go_enter Tryz.func35, Tryz.ntmps35
  go_wp2_with (first
    | (go_at_call 68
       (with_reducible refine (someNot HR.out).mono ?_)
       rintro e _ ⟨r, rfl, hr, n, rfl⟩
       have HX := hide hr
       clear hr)
    | fail)
  go_ret
  refine ⟨_, rfl, ?_, _, rfl⟩
  have := HX.out
  cases r <;> simp at this ⊢ <;> exact this
end Go.Proofs.YtdfjjmibhnniiaaGreatDoor.Le

set_option maxRecDepth 100000
set_option linter.unusedSimpArgs false
set_option linter.unusedVariables false
namespace Go.Proofs.YtdfjjmibhnniiaaGreatDoor.Le
open Go Go.Ms Go.Pg Go.Le Go.ChangeShapes Go.WideShapes Go.ChangeAt Go.RowKit Go.Deep

set_option maxHeartbeats 4000000 in
theorem equalProg {w : World} {s t : Value} {l m : List Int} (hs : IntsW w s l) (ht : IntsW w t m) : Calls Tryz.prog 108 #[s, t] w (Tells (l = m) w) := by
  obtain ⟨os, cs, rfl, hls, hs⟩ := hs
  obtain ⟨ot, ct, rfl, hlt, ht⟩ := ht
  by_cases hq : l.length = m.length
  · have e5 : ((l.length : Int) != (m.length : Int)) = false := by simp [hq]
    have HL := hide hq
    clear hq
    go_enter Tryz.func108, Tryz.ntmps108
    go_wp2_with fail
    go_loopw [13] (fun i wr => ∃ k : Nat, k ≤ l.length ∧ i = .int .i64 k ∧ (∀ j, j < k → l[j]? = m[j]?) ∧ ∃ n, wr = w.drewN n) (fun i _ => l.length - (intOf i).toNat)
    case atStart => exact ⟨0, Nat.zero_le _, rfl, fun j h => by omega, 0, rfl⟩
    case round =>
      obtain ⟨k, hk, rfl, hp, nd, rfl⟩ := hrel
      have P : Hid (∀ j, j < k → l[j]? = m[j]?) := hp
      clear hp
      by_cases hlk : k < l.length
      · have hlt2 : k < m.length := by have := HL.out; omega
        obtain ⟨r1, o1, rfl, f1⟩ := int_cell hs hlk
        obtain ⟨r2, o2, rfl, f2⟩ := int_cell ht hlt2
        have hi1 : (k : Int) < (l.length : Int) := by omega
        have hi2 : (k : Int) < (m.length : Int) := by omega
        clear hs ht
        by_cases he : l[k] = m[k]
        · have hb : (l[k] != m[k]) = false := by simp [he]
          have HE2 := hide he
          clear he
          go_wp2_with fail
          go_quiet (fail)
          go_wp2_with fail
          go_roundw
          case rel =>
            refine ⟨k + 1, by omega, by go_num, fun j hj => ?_, _, rfl⟩
            by_cases q : j < k
            · exact P.out j q
            · obtain rfl : j = k := by omega
              rw [List.getElem?_eq_getElem hlk, List.getElem?_eq_getElem hlt2, HE2.out]
          case measure => simp [intOf]; omega
        · have hb : (l[k] != m[k]) = true := by simpa using he
          have HE2 := hide he
          clear he
          go_wp2_with fail
          go_quiet (fail)
          go_wp2_with fail
          go_ret
          exact ⟨false, rfl, ⟨fun h => by simp at h, fun h => by subst h; exact absurd rfl HE2.out⟩, _, drews _ _ _⟩
      · go_wp2_with fail
        go_ret
        refine ⟨true, rfl, ⟨fun _ => ?_, fun _ => rfl⟩, _, rfl⟩
        have hk2 : k = l.length := by omega
        apply List.ext_getElem?
        intro j
        by_cases q : j < k
        · exact P.out j q
        · rw [List.getElem?_eq_none (by omega), List.getElem?_eq_none (by have := HL.out; omega)]
  · have e5 : ((l.length : Int) != (m.length : Int)) = true := by
      simp
      omega
    have HN : Hid (¬ l = m) := hide fun q => hq (by rw [q])
    clear hq
    go_enter Tryz.func108, Tryz.ntmps108
    go_wp2_with fail
    go_ret
    exact ⟨false, rfl, ⟨fun h => by simp at h, fun h => absurd h HN.out⟩, 0, rfl⟩

set_option maxHeartbeats 4000000 in
theorem sameProg {w : World} {x y : Inv} {s t : Value} (hs : IntsW w s x.set) (ht : IntsW w t y.set) : Calls Tryz.prog 67 #[vInv x s, vInv y t] w (TellsB (x = y) w) := by
  have hs0 := hs
  have ht0 := ht
  obtain ⟨os, cs, rfl, hls, hs⟩ := hs
  obtain ⟨ot, ct, rfl, hlt, ht⟩ := ht
  obtain ⟨b1, b2, b3⟩ := two_boxes w x y (.slice os x.set.length cs) (.slice ot y.set.length ct) 31 31
  unfold vInv
  unfold cInv at *
  go_enter Tryz.func67, Tryz.ntmps67
  go_upto_region 1 with (fail)
  generalize (w.alloc (.cells #[.int .u8 x.k, .int .i64 x.a, .int .i64 x.b, .int .i64 x.K, .int .i64 x.M, .slice os x.set.length cs] 31)).alloc (.cells #[.int .u8 y.k, .int .i64 y.a, .int .i64 y.b, .int .i64 y.K, .int .i64 y.M, .slice ot y.set.length ct] 31) = w0 at *
  replace hs0 := intsW_below hs0 b3
  have HS1 := hide hs0
  replace ht0 := intsW_below ht0 b3
  have HT1 := hide ht0
  generalize hgg : w.heap.size + 1 = g2 at *
  have HB := hide b3
  clear b3 hs ht
  obtain ⟨os', cs', he, _, hs⟩ := hs0
  obtain ⟨rfl, rfl⟩ : os = os' ∧ cs = cs' := by simpa using he
  obtain ⟨ot', ct', he2, _, ht⟩ := ht0
  obtain ⟨rfl, rfl⟩ : ot = ot' ∧ ct = ct' := by simpa using he2
  clear he he2
  obtain ⟨p0, p1, p2, p3, p4, p5⟩ := b1
  obtain ⟨q0, q1, q2, q3, q4, q5⟩ := b2
  have hx : Hid (x = y ↔ x.k = y.k ∧ x.a = y.a ∧ x.b = y.b ∧ x.K = y.K ∧ x.M = y.M ∧ x.set = y.set) := hide (by cases x; cases y; simp)
  by_cases hk : x.k = y.k ∧ x.a = y.a ∧ x.b = y.b ∧ x.K = y.K ∧ x.M = y.M
  · obtain ⟨k0, k1, k2, k3, k4⟩ := hk
    have e0 : (x.k == y.k) = true := by simp [k0]
    have e1 : (x.a == y.a) = true := by simp [k1]
    have e2 : (x.b == y.b) = true := by simp [k2]
    have e3 : (x.K == y.K) = true := by simp [k3]
    have e4 : (x.M == y.M) = true := by simp [k4]
    have HE : Hid (x.set = y.set ↔ x = y) := hide ⟨fun q => hx.out.2 ⟨k0, k1, k2, k3, k4, q⟩, fun q => by rw [q]⟩
    clear k0 k1 k2 k3 k4
    go_wp2_with (first
      | (go_at_call 108
         with_reducible refine (equalProg HS1.out HT1.out).mono ?_
         rintro e w1 ⟨r, rfl, hr, n, rfl⟩
         have HR := hide hr
         clear hr)
      | fail)
    go_ret
    exact ⟨_, rfl, HR.out.trans HE.out, HB.out.trans (belowN _ _ _)⟩
  · have HK : Hid (¬ x = y) := hide fun q => hk (by subst q; simp)
    have fin : Hid (∀ e : Ending, e = .returned (.bool false) → TellsB (x = y) w e w0) := hide fun e he => ⟨false, he, ⟨fun h => by simp at h, fun h => absurd h HK.out⟩, HB.out⟩
    by_cases k0 : x.k = y.k
    · have e0 : (x.k == y.k) = true := by simp [k0]
      by_cases k1 : x.a = y.a
      · have e1 : (x.a == y.a) = true := by simp [k1]
        by_cases k2 : x.b = y.b
        · have e2 : (x.b == y.b) = true := by simp [k2]
          by_cases k3 : x.K = y.K
          · have e3 : (x.K == y.K) = true := by simp [k3]
            have k4 : ¬ x.M = y.M := fun q => hk ⟨k0, k1, k2, k3, q⟩
            have e4 : (x.M == y.M) = false := by simpa using k4
            clear k0 k1 k2 k3 k4 hk
            go_wp2_with fail
            go_ret
            exact fin.out _ rfl
          · have e3 : (x.K == y.K) = false := by simpa using k3
            clear k0 k1 k2 k3 hk
            go_wp2_with fail
            go_ret
            exact fin.out _ rfl
        · have e2 : (x.b == y.b) = false := by simpa using k2
          clear k0 k1 k2 hk
          go_wp2_with fail
          go_ret
          exact fin.out _ rfl
      · have e1 : (x.a == y.a) = false := by simpa using k1
        clear k0 k1 hk
        go_wp2_with fail
        go_ret
        exact fin.out _ rfl
    · have e0 : (x.k == y.k) = false := by simpa using k0
      clear k0 hk
      go_wp2_with fail
      go_ret
      exact fin.out _ rfl
end Go.Proofs.YtdfjjmibhnniiaaGreatDoor.Le

set_option maxRecDepth 100000
set_option linter.unusedSimpArgs false
set_option linter.unusedVariables false
namespace Go.Proofs.YtdfjjmibhnniiaaGreatDoor.Le
open Go Go.Ms Go.Pg Go.Le Go.ChangeShapes Go.WideShapes Go.ChangeAt Go.RowKit Go.Deep

/-! The invariant of a claim: the fields that belong to its kind, and no others. -/
theorem inv1 (a b K M : Int) (os : Option Addr) (n cs : Nat) (w : World) : Calls Tryz.prog 221 #[.agg #[.int .i64 a, .int .i64 K]] w fun e w' => e = .returned (.agg #[.int .u8 1, .int .i64 a, .int .i64 0, .int .i64 K, .int .i64 0, .slice none 0 0]) ∧ Below w.heap.size w w' := by
  go_enter Tryz.func221, Tryz.ntmps221
  go_wp2_with fail
  refine bodyPost_ret (v := .agg #[.int .u8 1, .int .i64 a, .int .i64 0, .int .i64 K, .int .i64 0, .slice none 0 0]) (by simp [results, Tryz.results221, go_sem]) rfl ⟨rfl, ?_⟩
  repeat (first | with_reducible refine Below.setCell ?_ (by first | omega | (simp; try omega)) _ | with_reducible refine Below.drew ?_ | with_reducible refine Below.alloc ?_ (by first | omega | (simp only [size_up]; omega)) _)
  exact Below.refl _ _
theorem inv2 (a b K M : Int) (os : Option Addr) (n cs : Nat) (w : World) : Calls Tryz.prog 241 #[.agg #[.int .i64 a, .slice os n cs]] w fun e w' => e = .returned (.agg #[.int .u8 2, .int .i64 a, .int .i64 0, .int .i64 0, .int .i64 0, .slice os n cs]) ∧ Below w.heap.size w w' := by
  go_enter Tryz.func241, Tryz.ntmps241
  go_wp2_with fail
  refine bodyPost_ret (v := .agg #[.int .u8 2, .int .i64 a, .int .i64 0, .int .i64 0, .int .i64 0, .slice os n cs]) (by simp [results, Tryz.results241, go_sem]) rfl ⟨rfl, ?_⟩
  repeat (first | with_reducible refine Below.setCell ?_ (by first | omega | (simp; try omega)) _ | with_reducible refine Below.drew ?_ | with_reducible refine Below.alloc ?_ (by first | omega | (simp only [size_up]; omega)) _)
  exact Below.refl _ _
theorem inv3 (a b K M : Int) (os : Option Addr) (n cs : Nat) (w : World) : Calls Tryz.prog 235 #[.agg #[.int .i64 a, .int .i64 K]] w fun e w' => e = .returned (.agg #[.int .u8 3, .int .i64 a, .int .i64 0, .int .i64 K, .int .i64 0, .slice none 0 0]) ∧ Below w.heap.size w w' := by
  go_enter Tryz.func235, Tryz.ntmps235
  go_wp2_with fail
  refine bodyPost_ret (v := .agg #[.int .u8 3, .int .i64 a, .int .i64 0, .int .i64 K, .int .i64 0, .slice none 0 0]) (by simp [results, Tryz.results235, go_sem]) rfl ⟨rfl, ?_⟩
  repeat (first | with_reducible refine Below.setCell ?_ (by first | omega | (simp; try omega)) _ | with_reducible refine Below.drew ?_ | with_reducible refine Below.alloc ?_ (by first | omega | (simp only [size_up]; omega)) _)
  exact Below.refl _ _
theorem inv4 (a b K M : Int) (os : Option Addr) (n cs : Nat) (w : World) : Calls Tryz.prog 238 #[.agg #[.int .i64 a, .int .i64 K]] w fun e w' => e = .returned (.agg #[.int .u8 4, .int .i64 a, .int .i64 0, .int .i64 K, .int .i64 0, .slice none 0 0]) ∧ Below w.heap.size w w' := by
  go_enter Tryz.func238, Tryz.ntmps238
  go_wp2_with fail
  refine bodyPost_ret (v := .agg #[.int .u8 4, .int .i64 a, .int .i64 0, .int .i64 K, .int .i64 0, .slice none 0 0]) (by simp [results, Tryz.results238, go_sem]) rfl ⟨rfl, ?_⟩
  repeat (first | with_reducible refine Below.setCell ?_ (by first | omega | (simp; try omega)) _ | with_reducible refine Below.drew ?_ | with_reducible refine Below.alloc ?_ (by first | omega | (simp only [size_up]; omega)) _)
  exact Below.refl _ _
theorem inv5 (a b K M : Int) (os : Option Addr) (n cs : Nat) (w : World) : Calls Tryz.prog 244 #[.agg #[.int .i64 a]] w fun e w' => e = .returned (.agg #[.int .u8 5, .int .i64 a, .int .i64 0, .int .i64 0, .int .i64 0, .slice none 0 0]) ∧ Below w.heap.size w w' := by
  go_enter Tryz.func244, Tryz.ntmps244
  go_wp2_with fail
  refine bodyPost_ret (v := .agg #[.int .u8 5, .int .i64 a, .int .i64 0, .int .i64 0, .int .i64 0, .slice none 0 0]) (by simp [results, Tryz.results244, go_sem]) rfl ⟨rfl, ?_⟩
  repeat (first | with_reducible refine Below.setCell ?_ (by first | omega | (simp; try omega)) _ | with_reducible refine Below.drew ?_ | with_reducible refine Below.alloc ?_ (by first | omega | (simp only [size_up]; omega)) _)
  exact Below.refl _ _
theorem inv6 (a b K M : Int) (os : Option Addr) (n cs : Nat) (w : World) : Calls Tryz.prog 247 #[.agg #[.int .i64 a, .int .i64 K, .int .i64 M]] w fun e w' => e = .returned (.agg #[.int .u8 6, .int .i64 a, .int .i64 0, .int .i64 K, .int .i64 M, .slice none 0 0]) ∧ Below w.heap.size w w' := by
  go_enter Tryz.func247, Tryz.ntmps247
  go_wp2_with fail
  refine bodyPost_ret (v := .agg #[.int .u8 6, .int .i64 a, .int .i64 0, .int .i64 K, .int .i64 M, .slice none 0 0]) (by simp [results, Tryz.results247, go_sem]) rfl ⟨rfl, ?_⟩
  repeat (first | with_reducible refine Below.setCell ?_ (by first | omega | (simp; try omega)) _ | with_reducible refine Below.drew ?_ | with_reducible refine Below.alloc ?_ (by first | omega | (simp only [size_up]; omega)) _)
  exact Below.refl _ _
theorem inv7 (a b K M : Int) (os : Option Addr) (n cs : Nat) (w : World) : Calls Tryz.prog 250 #[.agg #[.int .i64 a, .int .i64 b]] w fun e w' => e = .returned (.agg #[.int .u8 7, .int .i64 a, .int .i64 b, .int .i64 0, .int .i64 0, .slice none 0 0]) ∧ Below w.heap.size w w' := by
  go_enter Tryz.func250, Tryz.ntmps250
  go_wp2_with fail
  refine bodyPost_ret (v := .agg #[.int .u8 7, .int .i64 a, .int .i64 b, .int .i64 0, .int .i64 0, .slice none 0 0]) (by simp [results, Tryz.results250, go_sem]) rfl ⟨rfl, ?_⟩
  repeat (first | with_reducible refine Below.setCell ?_ (by first | omega | (simp; try omega)) _ | with_reducible refine Below.drew ?_ | with_reducible refine Below.alloc ?_ (by first | omega | (simp only [size_up]; omega)) _)
  exact Below.refl _ _
theorem inv8 (a b K M : Int) (os : Option Addr) (n cs : Nat) (w : World) : Calls Tryz.prog 259 #[.agg #[.int .i64 a, .int .i64 b]] w fun e w' => e = .returned (.agg #[.int .u8 8, .int .i64 a, .int .i64 b, .int .i64 0, .int .i64 0, .slice none 0 0]) ∧ Below w.heap.size w w' := by
  go_enter Tryz.func259, Tryz.ntmps259
  go_wp2_with fail
  refine bodyPost_ret (v := .agg #[.int .u8 8, .int .i64 a, .int .i64 b, .int .i64 0, .int .i64 0, .slice none 0 0]) (by simp [results, Tryz.results259, go_sem]) rfl ⟨rfl, ?_⟩
  repeat (first | with_reducible refine Below.setCell ?_ (by first | omega | (simp; try omega)) _ | with_reducible refine Below.drew ?_ | with_reducible refine Below.alloc ?_ (by first | omega | (simp only [size_up]; omega)) _)
  exact Below.refl _ _
theorem inv9 (a b K M : Int) (os : Option Addr) (n cs : Nat) (w : World) : Calls Tryz.prog 253 #[.agg #[.int .i64 a, .int .i64 b]] w fun e w' => e = .returned (.agg #[.int .u8 9, .int .i64 a, .int .i64 b, .int .i64 0, .int .i64 0, .slice none 0 0]) ∧ Below w.heap.size w w' := by
  go_enter Tryz.func253, Tryz.ntmps253
  go_wp2_with fail
  refine bodyPost_ret (v := .agg #[.int .u8 9, .int .i64 a, .int .i64 b, .int .i64 0, .int .i64 0, .slice none 0 0]) (by simp [results, Tryz.results253, go_sem]) rfl ⟨rfl, ?_⟩
  repeat (first | with_reducible refine Below.setCell ?_ (by first | omega | (simp; try omega)) _ | with_reducible refine Below.drew ?_ | with_reducible refine Below.alloc ?_ (by first | omega | (simp only [size_up]; omega)) _)
  exact Below.refl _ _
theorem inv10 (a b K M : Int) (os : Option Addr) (n cs : Nat) (w : World) : Calls Tryz.prog 256 #[.agg #[.int .i64 a, .int .i64 b]] w fun e w' => e = .returned (.agg #[.int .u8 10, .int .i64 a, .int .i64 b, .int .i64 0, .int .i64 0, .slice none 0 0]) ∧ Below w.heap.size w w' := by
  go_enter Tryz.func256, Tryz.ntmps256
  go_wp2_with fail
  refine bodyPost_ret (v := .agg #[.int .u8 10, .int .i64 a, .int .i64 b, .int .i64 0, .int .i64 0, .slice none 0 0]) (by simp [results, Tryz.results256, go_sem]) rfl ⟨rfl, ?_⟩
  repeat (first | with_reducible refine Below.setCell ?_ (by first | omega | (simp; try omega)) _ | with_reducible refine Below.drew ?_ | with_reducible refine Below.alloc ?_ (by first | omega | (simp only [size_up]; omega)) _)
  exact Below.refl _ _
theorem inv11 (a b K M : Int) (os : Option Addr) (n cs : Nat) (w : World) : Calls Tryz.prog 262 #[.agg #[.int .i64 a, .int .i64 b, .int .i64 K, .int .i64 M]] w fun e w' => e = .returned (.agg #[.int .u8 11, .int .i64 a, .int .i64 b, .int .i64 K, .int .i64 M, .slice none 0 0]) ∧ Below w.heap.size w w' := by
  go_enter Tryz.func262, Tryz.ntmps262
  go_wp2_with fail
  refine bodyPost_ret (v := .agg #[.int .u8 11, .int .i64 a, .int .i64 b, .int .i64 K, .int .i64 M, .slice none 0 0]) (by simp [results, Tryz.results262, go_sem]) rfl ⟨rfl, ?_⟩
  repeat (first | with_reducible refine Below.setCell ?_ (by first | omega | (simp; try omega)) _ | with_reducible refine Below.drew ?_ | with_reducible refine Below.alloc ?_ (by first | omega | (simp only [size_up]; omega)) _)
  exact Below.refl _ _
end Go.Proofs.YtdfjjmibhnniiaaGreatDoor.Le

