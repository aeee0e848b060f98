import Derived.Test.YtmkapmbmgpnjaaaDmC
import Derived.Test.YtmkapmbmgpnjaaaDsN
set_option maxRecDepth 100000
set_option linter.unusedSimpArgs false
set_option linter.unusedVariables false
namespace Go.Proofs.Ytmkapmbmgpnjaaa.Se
open Go Go.Ms Go.Pg Go.Rc Go.Bi Go.Se Go.ChangeShapes Go.WideShapes Go.ChangeAt Go.RowKit Go.Deep Go.Proofs.Ytmkapmbmgpnjaaa.Bi

/-! What changes need, where they need nothing. -/
theorem indexNil {w : World} {k : Nat} : Calls Try.prog 145 #[.slice none 0 0, .int .i64 (k : Int)] w fun e w' => e = .returned (.int .i64 (-1)) ∧ w' = w := by
  go_enter Try.func145, Try.ntmps145
  go_wp2_with fail
  go_loopw [8] (fun i wr => i = .int .i64 0 ∧ wr = w) (fun _ _ => 0)
  case atStart => exact ⟨rfl, rfl⟩
  case round =>
    obtain ⟨rfl, rfl⟩ := hrel
    go_wp2_with fail
    go_ret
    exact ⟨rfl, rfl⟩
theorem containsNil {w : World} {k : Nat} : Calls Try.prog 98 #[.slice none 0 0, .int .i64 (k : Int)] w fun e w' => e = .returned (.bool false) ∧ w' = w := by
  go_enter Try.func98, Try.ntmps98
  go_wp2_with fail
  (with_reducible refine (indexNil).mono ?_)
  rintro e w1 ⟨rfl, rfl⟩
  go_wp2_with fail
  go_ret
  exact ⟨rfl, rfl⟩
theorem intsW_nil (w : World) : IntsW w (.slice none 0 0) [] := ⟨none, 0, rfl, by simp, fun i hi => absurd hi (Nat.not_lt_zero i)⟩
theorem isSet_nil (n : Int) : IsSet [] n := fun i hi => absurd hi (Nat.not_lt_zero i)

set_option maxHeartbeats 8000000 in
theorem checkN {w : World} {v : Value} {n : Nat} (h : NilRow w v n) (hn : n ≤ 256) : Calls Try.prog 38 #[v] w fun e w' => e = .returned (.int .i64 0) ∧ ∃ d, w' = w.drewN d := by
  obtain ⟨oa, cap, rfl, hc⟩ := h
  have HC := hide hc
  have HN := hide hn
  have h256 : (n : Int) ≤ 256 := by omega
  clear hc hn
  go_enter Try.func38, Try.ntmps38
  go_wp2_with fail
  go_loopw [10] (fun i wr => ∃ k : Nat, k ≤ n ∧ i = .int .i64 (k : Int) ∧ ∃ d, wr = w.drewN d) (fun i _ => n - (intOf i).toNat)
  case atStart => exact ⟨0, Nat.zero_le _, rfl, 0, rfl⟩
  case round =>
    obtain ⟨k, hk, rfl, d, rfl⟩ := hrel
    by_cases hlt : k < n
    · have hi : (k : Int) < (n : Int) := by omega
      obtain ⟨b, o, rfl, f0⟩ := HC.out k hlt
      have f : (w.drewN d).cell? ⟨b, o + k, none⟩ = some (.slice none 0 0) := f0
      have hw := wrap_k (k := k) (by have := HN.out; omega)
      clear f0
      go_wp2_with (first
        | (go_at_call 69
           (with_reducible refine (isSetProg (intsW_nil _) (isSet_nil _)).mono ?_)
           rintro e _ ⟨rfl, n1, rfl⟩)
        | (go_at_call 98
           (with_reducible refine (containsNil).mono ?_)
           rintro e _ ⟨rfl, rfl⟩)
        | fail)
      exact ⟨⟨k + 1, by omega, by go_num, _, rfl⟩, by simp [intOf]; omega⟩
    · obtain rfl : k = n := by omega
      go_wp2_with fail
      go_ret
      exact ⟨rfl, _, rfl⟩

theorem isSet_range {n : Nat} (hn : n ≤ 256) : IsSet ((List.range n).map Int.ofNat) n := by
  rw [all_upTo hn]
  refine set_upTo fun i hi hp => ?_
  by_cases q : i < n
  · exact q
  · rw [small_all.low i hi (by omega)] at hp
    cases hp

set_option maxHeartbeats 8000000 in
theorem neededN {w : World} {v u : Value} {n : Nat} (h : NilRow w v n) (hn : n ≤ 256) (hu : IntsW w u ((List.range n).map Int.ofNat)) :
    Calls Try.prog 89 #[v, u] w fun e w' => ∃ g, e = .returned (.tuple #[.slice (some ⟨g, 0, none⟩) n n, .int .i64 0]) ∧ w.heap.size ≤ g ∧ Below w.heap.size w w' ∧ w'.heap[g]? = some (rowQ (singles n)) := by
  have HH := hide h
  have HU := hide hu
  have HS := hide (isSet_range hn)
  have HN := hide hn
  obtain ⟨oa, cap, rfl, _⟩ := h
  obtain ⟨ou, cu, rfl, _, _⟩ := hu
  clear hn
  rw [List.length_map, List.length_range] at HU ⊢
  go_enter Try.func89, Try.ntmps89
  go_wp2_with (first
    | (go_at_call 38
       (with_reducible refine (checkN HH.out HN.out).mono ?_)
       rintro e _ ⟨rfl, d, rfl⟩)
    | (go_at_call 69
       (with_reducible refine (isSetProg (ints_below HU.out (belowN _ _ _)) HS.out).mono ?_)
       rintro e _ ⟨rfl, d2, rfl⟩)
    | (go_at_call 71
       (with_reducible refine (closuresN (HH.out.old (belowN _ _ _)) HN.out).mono ?_)
       rintro e w3 ⟨g, rfl, hg, hB, hR⟩
       have HB : Hid (Below w.heap.size w w3) := hide ((belowN w.heap.size w _).trans hB)
       have HR := hide hR
       have HG : Hid (w.heap.size ≤ g) := hide hg
       clear hg hB hR)
    | fail)
  go_ret2
  exact ⟨g, rfl, HG.out, HB.out, HR.out⟩
end Go.Proofs.Ytmkapmbmgpnjaaa.Se
