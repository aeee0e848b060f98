import Derived.Test.YtmkapmbmgpnjaaaGiL
set_option maxRecDepth 100000
set_option linter.unusedSimpArgs false
set_option linter.unusedVariables false
namespace Go.Proofs.Ytmkapmbmgpnjaaa.Bi
open Go Go.Ms Go.Pg Go.Bi Go.ChangeShapes Go.WideShapes Go.ChangeAt Go.RowKit Go.Deep

def IntsW (w : World) (v : Value) (l : List Int) : Prop := ∃ oa cap, v = .slice oa l.length cap ∧ l.length ≤ 9223372036854775807 ∧ ∀ i (h : i < l.length), ∃ b o, oa = some ⟨b, o, none⟩ ∧ w.cell? ⟨b, o + i, none⟩ = some (.int .i64 l[i])
theorem int_cell {w : World} {oa : Option Addr} {i : Nat} {l : List Int} (h : ∀ i (h : i < l.length), ∃ b o, oa = some ⟨b, o, none⟩ ∧ w.cell? ⟨b, o + i, none⟩ = some (.int .i64 l[i])) (hi : i < l.length) : ∃ b o, oa = some ⟨b, o, none⟩ ∧ w.cell? ⟨b, o + i, none⟩ = some (.int .i64 l[i]) := h i hi
theorem drews (w : World) (a b : Nat) : (w.drewN a).drewN b = w.drewN (a + b) := by simp [World.drewN, Nat.add_assoc]
def Tells (p : Prop) (w : World) (e : Ending) (w' : World) : Prop := ∃ r, e = .returned (.bool r) ∧ (r = true ↔ p) ∧ ∃ n, w' = w.drewN n

def counts (x : Int) : Int := if x = 1 then 1 else if x = 2 then 2 else 3
set_option maxHeartbeats 4000000 in
theorem toldProg {w : World} {x : Int} : Calls Try.prog 159 #[.int .u8 x] w fun e w' => e = .returned (.int .u8 (counts x)) ∧ w' = w := by
  by_cases h1 : x = 1
  · subst h1
    go_enter Try.func159, Try.ntmps159
    go_wp2_with fail
    go_ret
    exact ⟨rfl, rfl⟩
  · by_cases h2 : x = 2
    · subst h2
      go_enter Try.func159, Try.ntmps159
      go_wp2_with fail
      go_ret
      exact ⟨rfl, rfl⟩
    · have t1 : (x == (1 : Int)) = false := beq_false_of_ne h1
      have t2 : (x == (2 : Int)) = false := beq_false_of_ne h2
      have H1 := hide h1
      have H2 := hide h2
      clear h1 h2
      go_enter Try.func159, Try.ntmps159
      go_wp2_with fail
      go_ret
      have e : counts x = 3 := by rw [counts, if_neg H1.out, if_neg H2.out]
      rw [e]
      exact ⟨rfl, rfl⟩

set_option maxHeartbeats 4000000 in
theorem intsRef {w : World} {s t : Value} {l m : List Int} (hs : IntsW w s l) (ht : IntsW w t m) : Calls Try.prog 83 #[s, t] w (Tells (l = m) w) := by
  obtain ⟨os, cs, rfl, hls, hs⟩ := hs
  obtain ⟨ot, ct, rfl, hlt, ht⟩ := ht
  by_cases hq : l.length = m.length
  · have e5 : ((l.length : Int) != (m.length : Int)) = false := by simp [hq]
    have HL := hide hq
    clear hq
    go_enter Try.func83, Try.ntmps83
    go_wp2_with fail
    go_loopw [5] (fun i wr => ∃ k : Nat, k ≤ l.length ∧ i = .int .i64 k ∧ (∀ j, j < k → l[j]? = m[j]?) ∧ ∃ n, wr = w.drewN n) (fun i _ => l.length - (intOf i).toNat)
    case atStart => exact ⟨0, Nat.zero_le _, rfl, fun j h => by omega, 0, rfl⟩
    case round =>
      obtain ⟨k, hk, rfl, hp, nd, rfl⟩ := hrel
      have P : Hid (∀ j, j < k → l[j]? = m[j]?) := hp
      clear hp
      by_cases hlk : k < l.length
      · have hlt2 : k < m.length := by have := HL.out; omega
        obtain ⟨r1, o1, rfl, f1⟩ := int_cell hs hlk
        obtain ⟨r2, o2, rfl, f2⟩ := int_cell ht hlt2
        have hi1 : (k : Int) < (l.length : Int) := by omega
        have hi2 : (k : Int) < (m.length : Int) := by omega
        clear hs ht
        by_cases he : l[k] = m[k]
        · have hb : (l[k] != m[k]) = false := by simp [he]
          have HE2 := hide he
          clear he
          go_wp2_with fail
          go_quiet (fail)
          go_wp2_with fail
          go_roundw
          case rel =>
            refine ⟨k + 1, by omega, by go_num, fun j hj => ?_, _, rfl⟩
            by_cases q : j < k
            · exact P.out j q
            · obtain rfl : j = k := by omega
              rw [List.getElem?_eq_getElem hlk, List.getElem?_eq_getElem hlt2, HE2.out]
          case measure => simp [intOf]; omega
        · have hb : (l[k] != m[k]) = true := by simpa using he
          have HE2 := hide he
          clear he
          go_wp2_with fail
          go_quiet (fail)
          go_wp2_with fail
          go_ret
          exact ⟨false, rfl, ⟨fun h => by simp at h, fun h => by subst h; exact absurd rfl HE2.out⟩, _, drews _ _ _⟩
      · go_wp2_with fail
        go_ret
        refine ⟨true, rfl, ⟨fun _ => ?_, fun _ => rfl⟩, _, rfl⟩
        have hk2 : k = l.length := by omega
        apply List.ext_getElem?
        intro j
        by_cases q : j < k
        · exact P.out j q
        · rw [List.getElem?_eq_none (by omega), List.getElem?_eq_none (by have := HL.out; omega)]
  · have e5 : ((l.length : Int) != (m.length : Int)) = true := by
      simp
      omega
    have HN : Hid (¬ l = m) := hide fun q => hq (by rw [q])
    clear hq
    go_enter Try.func83, Try.ntmps83
    go_wp2_with fail
    go_ret
    exact ⟨false, rfl, ⟨fun h => by simp at h, fun h => absurd h HN.out⟩, 0, rfl⟩

end Go.Proofs.Ytmkapmbmgpnjaaa.Bi

set_option maxRecDepth 100000
set_option linter.unusedSimpArgs false
set_option linter.unusedVariables false
namespace Go.Proofs.Ytmkapmbmgpnjaaa.Bi
open Go Go.Ms Go.Pg Go.Bi Go.ChangeShapes Go.WideShapes Go.ChangeAt Go.RowKit Go.Deep

theorem ints_below {w w' : World} {v : Value} {l : List Int} (h : IntsW w v l) (hB : Below w.heap.size w w') : IntsW w' v l := by
  obtain ⟨oa, cap, rfl, hl, q⟩ := h
  refine ⟨oa, cap, rfl, hl, fun i hi => ?_⟩
  obtain ⟨b, o, e, hc⟩ := q i hi
  exact ⟨b, o, e, cell_old hB hc⟩
theorem ints_drewN {w : World} {v : Value} {l : List Int} (h : IntsW w v l) (n : Nat) : IntsW (w.drewN n) v l := h
theorem ints_nil (w : World) : IntsW w nilV [] := ⟨none, 0, rfl, by simp, fun i hi => by simp at hi⟩
theorem ints_own {w : World} {B : Nat} {v : Value} {l : List Int} (h : Go.Il.Own 3 .i64 B w v l) (hl : l.length ≤ 1000000) : IntsW w v l := by
  obtain ⟨oa, cap, rfl, hc⟩ := h.at
  refine ⟨oa, cap, rfl, by omega, fun i hi => ?_⟩
  obtain ⟨g, e, hcell⟩ := hc i hi
  exact ⟨g, 0, e, by simpa using hcell⟩
theorem ints_two {w : World} {b : Nat} {x y : Int} (h : w.heap[b]? = some (.cells #[.int .i64 x, .int .i64 y] 3 (0, 0))) : IntsW w (.slice (some ⟨b, 0, none⟩) 2 2) [x, y] := by
  refine ⟨_, _, rfl, by simp, fun i hi => ⟨b, 0, rfl, ?_⟩⟩
  have hi2 : i = 0 ∨ i = 1 := by simp at hi; omega
  rcases hi2 with rfl | rfl
  · exact cell_of h 0
  · exact cell_of h 1
theorem intsSame {w : World} {s t : Value} {l : List Int} (hs : IntsW w s l) (ht : IntsW w t l) : Calls Try.prog 83 #[s, t] w fun e w' => e = .returned (.bool true) ∧ ∃ n, w' = w.drewN n :=
  (intsRef hs ht).mono fun e w' q => by
    obtain ⟨r, h1, h2, h3⟩ := q
    rw [h2.2 rfl] at h1
    exact ⟨h1, h3⟩

end Go.Proofs.Ytmkapmbmgpnjaaa.Bi

