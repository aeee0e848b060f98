import Derived.Test.YtmkapmbmgpnjaaaGmC
set_option maxRecDepth 100000
set_option linter.unusedSimpArgs false
set_option linter.unusedVariables false
namespace Go.Proofs.Ytmkapmbmgpnjaaa.Se
open Go Go.Ms Go.Pg Go.Bi Go.Se Go.ChangeShapes Go.WideShapes Go.ChangeAt Go.RowKit Go.Deep Go.Proofs.Ytmkapmbmgpnjaaa.Bi

/-! Do two lists have the same numbers? -/
set_option maxHeartbeats 4000000 in
theorem intsRef {w : World} {s t : Value} {l m : List Int} (hs : IntsW w s l) (ht : IntsW w t m) : Calls Try.prog 83 #[s, t] w (Tells (l = m) w) := by
  obtain ⟨os, cs, rfl, hls, hs⟩ := hs
  obtain ⟨ot, ct, rfl, hlt, ht⟩ := ht
  by_cases hq : l.length = m.length
  · have e5 : ((l.length : Int) != (m.length : Int)) = false := by simp [hq]
    have HL := hide hq
    clear hq
    go_enter Try.func83, Try.ntmps83
    go_wp2_with fail
    go_loopw [5] (fun i wr => ∃ k : Nat, k ≤ l.length ∧ i = .int .i64 k ∧ (∀ j, j < k → l[j]? = m[j]?) ∧ ∃ n, wr = w.drewN n) (fun i _ => l.length - (intOf i).toNat)
    case atStart => exact ⟨0, Nat.zero_le _, rfl, fun j h => by omega, 0, rfl⟩
    case round =>
      obtain ⟨k, hk, rfl, hp, nd, rfl⟩ := hrel
      have P : Hid (∀ j, j < k → l[j]? = m[j]?) := hp
      clear hp
      by_cases hlk : k < l.length
      · have hlt2 : k < m.length := by have := HL.out; omega
        obtain ⟨r1, o1, rfl, f1⟩ := int_cell hs hlk
        obtain ⟨r2, o2, rfl, f2⟩ := int_cell ht hlt2
        have hi1 : (k : Int) < (l.length : Int) := by omega
        have hi2 : (k : Int) < (m.length : Int) := by omega
        clear hs ht
        by_cases he : l[k] = m[k]
        · have hb : (l[k] != m[k]) = false := by simp [he]
          have HE2 := hide he
          clear he
          go_wp2_with fail
          go_quiet (fail)
          go_wp2_with fail
          go_roundw
          case rel =>
            refine ⟨k + 1, by omega, by go_num, fun j hj => ?_, _, rfl⟩
            by_cases q : j < k
            · exact P.out j q
            · obtain rfl : j = k := by omega
              rw [List.getElem?_eq_getElem hlk, List.getElem?_eq_getElem hlt2, HE2.out]
          case measure => simp [intOf]; omega
        · have hb : (l[k] != m[k]) = true := by simpa using he
          have HE2 := hide he
          clear he
          go_wp2_with fail
          go_quiet (fail)
          go_wp2_with fail
          go_ret
          exact ⟨false, rfl, ⟨fun h => by simp at h, fun h => by subst h; exact absurd rfl HE2.out⟩, _, drews _ _ _⟩
      · go_wp2_with fail
        go_ret
        refine ⟨true, rfl, ⟨fun _ => ?_, fun _ => rfl⟩, _, rfl⟩
        have hk2 : k = l.length := by omega
        apply List.ext_getElem?
        intro j
        by_cases q : j < k
        · exact P.out j q
        · rw [List.getElem?_eq_none (by omega), List.getElem?_eq_none (by have := HL.out; omega)]
  · have e5 : ((l.length : Int) != (m.length : Int)) = true := by
      simp
      omega
    have HN : Hid (¬ l = m) := hide fun q => hq (by rw [q])
    clear hq
    go_enter Try.func83, Try.ntmps83
    go_wp2_with fail
    go_ret
    exact ⟨false, rfl, ⟨fun h => by simp at h, fun h => absurd h HN.out⟩, 0, rfl⟩

set_option maxHeartbeats 4000000 in
theorem intsLaw {w : World} {s t : Value} {l m : List Int} (hs : IntsW w s l) (ht : IntsW w t m) : Calls Try.prog 22 #[s, t] w (Tells (l = m) w) := by
  have HI := hide (intsRef hs ht)
  obtain ⟨os, cs, rfl, hls, hs⟩ := hs
  obtain ⟨ot, ct, rfl, hlt, ht⟩ := ht
  clear hs ht
  go_enter Try.func22, Try.ntmps22
  go_wp2_with fail
  (with_reducible refine HI.out.mono ?_)
  rintro e w' ⟨r, rfl, hr, n, rfl⟩
  clear HI
  go_wp2_with fail
  go_ret
  exact ⟨r, rfl, hr, n, rfl⟩
end Go.Proofs.Ytmkapmbmgpnjaaa.Se
