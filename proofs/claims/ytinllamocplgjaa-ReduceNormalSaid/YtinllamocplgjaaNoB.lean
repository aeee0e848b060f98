import Derived.Test.YtinllamocplgjaaRcC
import Derived.BigQuiet
set_option maxRecDepth 100000
namespace Go.Proofs.Ytinllamocplgjaa.No
open Go Go.Ms Go.Pg Go.Rc Go.ChangeShapes Go.WideShapes Go.ChangeAt Go.RowKit Go.Deep Go.Proofs.Ytinllamocplgjaa.Rc

/-! Schedules: rows of picks. -/
abbrev Picks (w : World) (v : Value) (l : List (Int × Int)) : Prop := RowAt 2 (PairAt .i64 .i64) w v l

theorem pick_cell {w : World} {oa : Option Addr} {i : Nat} {l : List (Int × Int)} (h : ∀ i (h : i < l.length), ∃ b o, oa = some ⟨b, o, none⟩ ∧ PairAt .i64 .i64 w b (o + i * 2) l[i]) (hi : i < l.length) :
    ∃ b o, oa = some ⟨b, o, none⟩ ∧ w.cell? ⟨b, o + i * 2, none⟩ = some (.int .i64 l[i].1) ∧ w.cell? ⟨b, o + i * 2 + 1, none⟩ = some (.int .i64 l[i].2) := by
  obtain ⟨b, o, e, c⟩ := h i hi
  exact ⟨b, o, e, c.1.1, c.2.1⟩

def laterFrom (l : List (Int × Int)) (t : Int) : Nat → Nat → Int
  | 0, _ => -1
  | n + 1, i => match l[i]? with
    | some p => if p.1 = t then i else laterFrom l t n (i + 1)
    | none => -1
def later (l : List (Int × Int)) (at_ : Nat) : Int := laterFrom l ((l[at_]?).getD (0, 0)).1 (l.length - (at_ + 1)) (at_ + 1)

set_option maxHeartbeats 4000000 in
theorem laterProg {w : World} {v : Value} {l : List (Int × Int)} (h : Picks w v l) (a : Nat) (ha : a < l.length) :
    Calls Try.prog 54 #[v, .int .i64 a] w fun e w' => e = .returned (.int .i64 (later l a)) ∧ ∃ n, w' = w.drewN n := by
  obtain ⟨oa, ca, rfl, hla, hc⟩ := h
  have HC := hide hc
  clear hc
  have hw1 : IntKind.i64.wrap ((a : Int) + 1) = (a : Int) + 1 := by simp [IntKind.wrap, IntKind.signed, IntKind.bits]; omega
  go_enter Try.func54, Try.ntmps54
  go_wp2_with fail
  go_loopw [5] (fun i wr => ∃ k : Nat, k ≤ l.length ∧ a < k ∧ i = .int .i64 (k : Int) ∧ later l a = laterFrom l ((l[a]?).getD (0, 0)).1 (l.length - k) k ∧ ∃ n, wr = w.drewN n) (fun i _ => l.length - (intOf i).toNat)
  case atStart => exact ⟨a + 1, by omega, by omega, by go_num, rfl, 0, rfl⟩
  case round =>
    obtain ⟨k, hk, hak, rfl, hL, nd, rfl⟩ := hrel
    have HL := hide hL
    clear hL
    by_cases hlt : k < l.length
    · have hi1 : (k : Int) < (l.length : Int) := by omega
      have hi2 : (a : Int) < (l.length : Int) := by omega
      obtain ⟨b1, o1, rfl, f1, f1'⟩ := pick_cell HC.out hlt
      obtain ⟨b2, o2, e, f2, f2'⟩ := pick_cell HC.out ha
      cases e
      go_wp2_with fail
      go_quiet (fail)
      go_wp2_with fail
      · have hq : (l[k].1 == l[a].1) = true := by assumption
        go_ret
        refine ⟨?_, _, drews _ _ _⟩
        rw [HL.out, show l.length - k = (l.length - (k + 1)) + 1 by omega]
        unfold laterFrom
        have : l[k].1 = l[a].1 := by simpa using hq
        simp [List.getElem?_eq_getElem hlt, List.getElem?_eq_getElem ha, this]
      · have hq : (l[k].1 == l[a].1) = false := by assumption
        have hne : ¬ l[k].1 = l[a].1 := by simpa using hq
        go_roundw
        case rel =>
          refine ⟨k + 1, by omega, by omega, by go_num, ?_, _, rfl⟩
          rw [HL.out, show l.length - k = (l.length - (k + 1)) + 1 by omega]
          conv => lhs; unfold laterFrom
          simp [List.getElem?_eq_getElem hlt, List.getElem?_eq_getElem ha, hne]
        case measure => simp [intOf]; omega
    · go_wp2_with fail
      go_ret
      refine ⟨?_, _, rfl⟩
      rw [HL.out, show l.length - k = 0 by omega]
      rfl
end Go.Proofs.Ytinllamocplgjaa.No
