import Derived.Test.YtdpgcoicbagflaaProg
import Derived.Test.YtdpgcoicbagflaaBiA
import Derived.Test.YtdpgcoicbagflaaIlB
import Derived.LoopTactic
import Derived.Deep.Draws
import Derived.Deep.QuietTactic
import Derived.Deep.RegionLaw
import Derived.Deep.RegionWith
import Derived.Deep.DeepCutAuto
import Derived.BigQuiet
import Derived.WalkSmall
set_option maxRecDepth 100000
set_option linter.unusedSimpArgs false
set_option linter.unusedVariables false
namespace Go.Proofs.Ytdpgcoicbagflaa.Bi
open Go Go.Ms Go.Pg Go.Bi Go.ChangeShapes Go.WideShapes Go.ChangeAt Go.RowKit Go.Deep

theorem hide {p : Prop} (h : p) : Hid p := h
theorem frozen_of {w : World} {b : Nat} {cs : Array Value} {t : TypeId} (h : w.heap[b]? = some (.cells cs t (0, 0))) (i : Nat) : w.frozen? ⟨b, i, none⟩ = false := by simp [World.frozen?, h]
def SetIs (v : Value) (p : Nat → Bool) : Prop := ∃ a b c d : Nat, v = .agg #[.int .u64 a, .int .u64 b, .int .u64 c, .int .u64 d] ∧ a < 2 ^ 64 ∧ b < 2 ^ 64 ∧ c < 2 ^ 64 ∧ d < 2 ^ 64 ∧
  ∀ n, n < 256 → p n = (if n < 64 then a else if n < 128 then b else if n < 192 then c else d).testBit (n % 64)

def asks (v : Value) : Ending := .panicked [{ v := .iface 113 (.agg #[v]), recovered := false }]
def asks4 (a b c d : Nat) : Ending := .panicked [{ v := .iface 113 (.agg #[.int .u64 a, .int .u64 b, .int .u64 c, .int .u64 d]), recovered := false }]

set_option maxHeartbeats 4000000 in
theorem answerNone {w : World} {g : Nat} {a b c d : Nat} (h : Box w g 117 []) :
    Calls Try.prog 55 #[.pointer (some ⟨g, 0, none⟩), .agg #[.int .u64 a, .int .u64 b, .int .u64 c, .int .u64 d]] w fun e w' => e = asks4 a b c d ∧ Below w.heap.size w w' := by
  obtain ⟨tx, an, told, hb, oa, cap, rfl, hlc, hl, q⟩ := h
  have hg := block_lt hb
  obtain ⟨c1, f1⟩ : w.cell? ⟨g, 1, none⟩ = some (.slice oa 0 cap) ∧ w.frozen? ⟨g, 1, none⟩ = false := ⟨by simp [World.cell?, hb], frozen_of hb 1⟩
  clear hb q hl hlc
  go_enter Try.func55, Try.ntmps55
  go_wp2_with fail
  exact ⟨rfl, rfl, (Below.refl _ w).alloc (Nat.le_refl _) _⟩

theorem tail_end {w : World} {g : Nat} {tx old told v : Value} {l : List Int} (hb : w.heap[g]? = some (.cells #[tx, old, told] 117 (0, 0))) (hv : Vs w g v l) (o : Obj) :
    Keeps g w ((w.setCell ⟨g, 1, none⟩ v).alloc o) ∧ Box ((w.setCell ⟨g, 1, none⟩ v).alloc o) g 117 l := by
  have hg := block_lt hb
  have hs : (w.setCell ⟨g, 1, none⟩ v).heap.size = w.heap.size := by simp [World.setCell]
  have K : Keeps g w ((w.setCell ⟨g, 1, none⟩ v).alloc o) := (Keeps.set 1 v).trans (Keeps.of_below (by rw [hs]; exact hg) ((Below.refl _ _).alloc (Nat.le_refl _) o))
  refine ⟨K, tx, v, told, ?_, vs_kept K (Nat.le_refl _) hv⟩
  rw [Below.heap_alloc _ _ _ (by rw [hs]; exact hg)]
  simp [World.setCell, Array.getElem?_modify, hb]

set_option maxHeartbeats 4000000 in
theorem answerSome {w : World} {g : Nat} {a b c d : Nat} {x : Int} {l : List Int} (h : Box w g 117 (x :: l)) :
    Calls Try.prog 55 #[.pointer (some ⟨g, 0, none⟩), .agg #[.int .u64 a, .int .u64 b, .int .u64 c, .int .u64 d]] w fun e w' => e = .returned (.int .u8 x) ∧ Keeps g w w' ∧ Box w' g 117 l := by
  obtain ⟨tx, an, told, hb, hv⟩ := h
  have hg := block_lt hb
  have HV := hide hv
  obtain ⟨oa, cap, rfl, hlc, hl, q⟩ := hv
  obtain ⟨b0, o0, rfl, hlt, r0⟩ := q 0 (by simp)
  simp only [List.getElem_cons_zero, Nat.add_zero] at r0
  simp only [List.length_cons] at hlc hl HV
  have hb0 : b0 < w.heap.size := by omega
  obtain ⟨c1, f1⟩ : w.cell? ⟨g, 1, none⟩ = some (.slice (some ⟨b0, o0, none⟩) (l.length + 1) cap) ∧ w.frozen? ⟨g, 1, none⟩ = false := ⟨by simp [World.cell?, hb], frozen_of hb 1⟩
  have t0 : decide ((l.length : Int) + 1 = 0) = false := decide_eq_false (by omega)
  have HB := hide hb
  clear hb q
  go_enter Try.func55, Try.ntmps55
  go_wp2_with fail
  all_goals (go_ret; exact ⟨rfl, tail_end HB.out (by have := vs_tail HV.out; simpa [sliced, h, Addr.add] using this) _⟩)
end Go.Proofs.Ytdpgcoicbagflaa.Bi
