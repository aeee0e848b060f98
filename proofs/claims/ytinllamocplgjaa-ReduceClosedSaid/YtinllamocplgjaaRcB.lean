import Derived.Test.YtinllamocplgjaaProg
import Derived.Test.YtinllamocplgjaaRcA
import Derived.WalkKit
import Derived.ProofKit
import Derived.OpenShut
import Derived.Handy
import Derived.LoopTactic
import Derived.Deep.Draws
import Derived.Deep.QuietTactic
import Derived.Deep.RegionLaw
import Derived.BigQuiet
set_option maxRecDepth 100000
namespace Go.Proofs.Ytinllamocplgjaa.Rc
open Go Go.Ms Go.Il Go.Pg Go.Rc Go.ChangeShapes Go.WideShapes Go.ChangeAt Go.RowKit Go.Deep

theorem hide {p : Prop} (h : p) : Hid p := h
theorem int_cell {w : World} {oa : Option Addr} {i : Nat} {l : List Int} (h : ∀ i (h : i < l.length), ∃ b o, oa = some ⟨b, o, none⟩ ∧ NumAt .i64 w b (o + i * 1) l[i]) (hi : i < l.length) : ∃ b o, oa = some ⟨b, o, none⟩ ∧ w.cell? ⟨b, o + i, none⟩ = some (.int .i64 l[i]) := by
  obtain ⟨b, o, e, c⟩ := h i hi
  exact ⟨b, o, e, by simpa using c.1⟩
theorem get_next {l m : List Int} {k : Nat} (h : ∀ j, j < k → l[j]? = m[j]?) (hl : k < l.length) (hm : k < m.length) (e : l[k] = m[k]) : ∀ j, j < k + 1 → l[j]? = m[j]? := by
  intro j hj
  by_cases q : j < k
  · exact h j q
  · obtain rfl : j = k := by omega
    rw [List.getElem?_eq_getElem hl, List.getElem?_eq_getElem hm, e]
theorem eq_next {l m : List Int} (hn : l.length = m.length) (h : ∀ j, j < l.length → l[j]? = m[j]?) : l = m := by
  apply List.ext_getElem?
  intro j
  by_cases q : j < l.length
  · exact h j q
  · rw [List.getElem?_eq_none (by omega), List.getElem?_eq_none (by omega)]

theorem drews (w : World) (a b : Nat) : (w.drewN a).drewN b = w.drewN (a + b) := by simp [World.drewN, Nat.add_assoc]

def Says (l m : List Int) (w : World) (e : Ending) (w' : World) : Prop := ∃ r, e = .returned (.bool r) ∧ (r = true ↔ l = m) ∧ ∃ n, w' = w.drewN n

set_option maxHeartbeats 4000000 in
theorem intsRef {w : World} {va vb : Value} {l m : List Int} (ha : RowAt 1 (NumAt .i64) w va l) (hb : RowAt 1 (NumAt .i64) w vb m) : Calls Try.prog 27 #[va, vb] w (Says l m w) := by
  obtain ⟨oa, ca, rfl, hla, ha⟩ := ha
  obtain ⟨ob, cb, rfl, hlb, hb⟩ := hb
  go_enter Try.func27, Try.ntmps27
  go_wp2_with fail
  · have hq : ((l.length : Int) != (m.length : Int)) = true := by assumption
    go_ret
    exact ⟨false, rfl, ⟨fun h => by simp at h, fun h => by subst h; simp at hq⟩, 0, rfl⟩
  · have hq : ((l.length : Int) != (m.length : Int)) = false := by assumption
    have hlen : Hid (l.length = m.length) := by
      have : (l.length : Int) = (m.length : Int) := by simpa using hq
      exact hide (by omega)
    generalize ((l.length : Int) != (m.length : Int)) = bq at *
    subst hq
    go_loopw [5] (fun i wr => ∃ k : Nat, k ≤ l.length ∧ i = .int .i64 k ∧ (∀ j, j < k → l[j]? = m[j]?) ∧ ∃ n, wr = w.drewN n) (fun i _ => l.length - (intOf i).toNat)
    case atStart => exact ⟨0, Nat.zero_le _, rfl, fun j h => by omega, 0, rfl⟩
    case round =>
      obtain ⟨k, hk, rfl, hp, nd, rfl⟩ := hrel
      have P : Hid (∀ j, j < k → l[j]? = m[j]?) := hp
      clear hp
      by_cases hlt : k < l.length
      · have hlt2 : k < m.length := by have := hlen.out; omega
        obtain ⟨b1, o1, rfl, f1⟩ := int_cell ha hlt
        obtain ⟨b2, o2, rfl, f2⟩ := int_cell hb hlt2
        have hi1 : (k : Int) < (l.length : Int) := by omega
        have hi2 : (k : Int) < (m.length : Int) := by omega
        clear ha hb
        go_wp2_with fail
        go_quiet (fail)
        go_wp2_with fail
        · have hq : (l[k] != m[k]) = true := by assumption
          go_ret
          exact ⟨false, rfl, ⟨fun h => by simp at h, fun h => by subst h; simp at hq⟩, _, drews _ _ _⟩
        · have hq : (l[k] != m[k]) = false := by assumption
          go_roundw
          case rel => exact ⟨k + 1, by omega, by go_num, get_next P.out hlt hlt2 (by simpa using hq), _, rfl⟩
          case measure => simp [intOf]; omega
      · go_wp2_with fail
        go_ret
        have : k = l.length := by omega
        subst this
        exact ⟨true, rfl, ⟨fun _ => eq_next hlen.out P.out, fun _ => rfl⟩, _, rfl⟩

theorem intsLaw {w : World} {va vb : Value} {l m : List Int} (ha : RowAt 1 (NumAt .i64) w va l) (hb : RowAt 1 (NumAt .i64) w vb m) : Calls Try.prog 9 #[va, vb] w (Says l m w) := by
  have H := hide (intsRef ha hb)
  obtain ⟨oa, ca, rfl, hla, ha⟩ := ha
  obtain ⟨ob, cb, rfl, hlb, hb⟩ := hb
  clear ha hb
  go_enter Try.func9, Try.ntmps9
  go_wp2_with (first
    | (go_at_call 27
       (with_reducible refine H.out.mono ?_)
       rintro e w1 ⟨r, rfl, hr, n, rfl⟩)
    | fail)
  go_ret
  exact ⟨r, rfl, hr, n, rfl⟩
end Go.Proofs.Ytinllamocplgjaa.Rc
