import Derived.Test.YtgfiociglimoaaaGreatDoorProg
import Derived.Test.YtgfiociglimoaaaGreatDoorMsD
import Derived.WalkKit
import Derived.ProofKit
import Derived.OpenShut
import Derived.Handy
import Derived.LoopTactic
import Derived.Deep.Draws
import Derived.Deep.QuietTactic
import Derived.Deep.RegionLaw
import Derived.BigQuiet
set_option maxRecDepth 100000
namespace Go.Proofs.YtgfiociglimoaaaGreatDoor.Ms
open Go Go.Ms Go.Pg Go.ChangeShapes Go.WideShapes Go.ChangeAt Go.RowKit Go.Deep

abbrev tU8 : TypeId := 5
abbrev tBL : TypeId := 60
theorem infoU8 : (Tryz.prog.info? 5).map (fun i => (i.zero, i.size, i.bytes)) = some (some (.int .u8 0), 1, 1) := by kernel_rfl

theorem wf_u8 {k : Int} (h : WfI .u8 k) : 0 ≤ k ∧ k ≤ 255 := by
  simp [WfI, Lit.wf, IntKind.min, IntKind.max, IntKind.signed, IntKind.bits] at h
  omega
theorem wf_i64 {k : Int} (h : WfI .i64 k) : -9223372036854775808 ≤ k ∧ k ≤ 9223372036854775807 := by
  simp [WfI, Lit.wf, IntKind.min, IntKind.max, IntKind.signed, IntKind.bits] at h
  omega
theorem byte_of (n : Int) (k : Nat) : IntKind.u8.wrap (n / 2 ^ (8 * (k : Int)).toNat) = n / 256 ^ k % 256 := by
  have e : (8 * (k : Int)).toNat = 8 * k := by omega
  have p : (2 : Int) ^ (8 * k) = 256 ^ k := by rw [Int.pow_mul]; rfl
  rw [e, p]
  simp [IntKind.wrap, IntKind.signed, IntKind.bits]

set_option maxHeartbeats 4000000 in
theorem put {B g : Nat} {l : List Int} {n : Int} {w : World} (hb : Buf 60 5 B g w l) (hl : l.length ≤ 1000000) :
    Calls Tryz.prog 30 #[.pointer (some ⟨g, 0, none⟩), .int .i64 n] w fun e w' => e = .returned (.tuple #[]) ∧ Buf 60 5 B g w' (l ++ enc n) ∧ Step 5 B g w w' := by
  obtain ⟨i0, hi, hz0, hz1, hz2⟩ := info_parts infoU8
  go_enter Tryz.func30, Tryz.ntmps30
  go_wp2
  go_loopw [4] (fun i wr => ∃ k : Nat, k ≤ 8 ∧ i = .int .i64 (8 * (k : Int)) ∧ Buf 60 5 B g wr (l ++ (enc n).take k) ∧ Step 5 B g w wr) (fun i _ => 64 - (intOf i).toNat)
  case atStart => exact ⟨0, by omega, rfl, by simpa using hb, Step.refl _ _ _ _⟩
  case round =>
    obtain ⟨k, hk, rfl, hB, hS⟩ := hrel
    by_cases hlt : k < 8
    · have h64 : 8 * (k : Int) < 64 := by omega
      obtain ⟨hBg, v, hg, hv⟩ := hB
      have hc := cell_of hg 0
      have hf := frozen_of hg 0
      go_wp2
      have hlen : (l ++ (enc n).take k).length ≤ 1000008 := by rw [List.length_append, List.length_take, enc_len]; omega
      have hBw : B ≤ wr.heap.size := by have := block_lt hg; omega
      have hne := own_ne hv hg (by decide)
      have hca : ∀ o, (wr.alloc o).cell? ⟨g, 0, none⟩ = some v := fun o => cell_of (old_block hg o) 0
      go_region_law ((
        refine step_own rfl (.tmp 12) (.tmp 17) 60 rfl B 5 i0 _ 1 1 Tryz.underlying60 hi hz0 hz1 hz2 rfl (by decide) v _ _ rfl (hv.alloc _) ⟨wr.heap.size, 0, none⟩ 1 1 [.int .u8 (IntKind.u8.wrap (n / 2 ^ (8 * (k : Int)).toNat))] rfl rfl (one_new (cell_of (new_block wr _) 0)) one_cell (by unfold maxLen; omega) (by omega) (by simp; omega) ?_
        intro v1 w1 ho1 hg1 _
        obtain ⟨g1, cap1, rfl⟩ := own_form ho1
        have hgw := (hg1.block g (by simp; have := block_lt hg; omega) (fun e => hne e.symm)).trans (old_block hg _)
        have hc1 := cell_of hgw 0
        have hf1 := frozen_of hgw 0))
      all_goals
        clear hc hf hca
        obtain ⟨hB2, hS2⟩ := pushed (by decide) hBg hg hv (by simpa using ho1) hg1
        clear ho1 hg1 hgw hc1 hf1
      all_goals
        go_wp2
        refine ⟨⟨k + 1, by omega, by go_num, ?_, hS.trans hS2⟩, by simp [intOf]; omega⟩
        rw [enc_take n k hlt, ← List.append_assoc, ← byte_of n k]
        exact hB2
    · obtain rfl : k = 8 := by omega
      go_wp2
      go_end0
      rw [enc_all] at hB
      exact ⟨rfl, hB, hS⟩

def Wrote (B g : Nat) (w : World) (l x : List Int) (e : Ending) (w' : World) : Prop := e = .returned (.tuple #[]) ∧ Buf 60 5 B g w' (l ++ x.flatMap enc) ∧ Step 5 B g w w'

theorem put' {B g : Nat} {l : List Int} {n : Int} {w : World} (hb : Buf 60 5 B g w l) (hl : l.length ≤ 1000000) :
    Calls Tryz.prog 30 #[.pointer (some ⟨g, 0, none⟩), .int .i64 n] w (Wrote B g w l [n]) := (put hb hl).mono fun _ _ h => by simpa [Wrote] using h

set_option maxHeartbeats 4000000 in
theorem value {B g : Nat} {l : List Int} {k n : Int} {w : World} (hb : Buf 60 5 B g w l) (hl : l.length ≤ 999990) (hk : WfI .u8 k) :
    Calls Tryz.prog 17 #[.pointer (some ⟨g, 0, none⟩), .agg #[.int .u8 k, .int .i64 n]] w (Wrote B g w l [k, n]) := by
  have HB : Hid (Buf 60 5 B g w l) := hb
  have hlt := hb.lt
  obtain ⟨hk0, hk1⟩ := wf_u8 hk
  clear hb hk
  go_enter Tryz.func17, Tryz.ntmps17
  go_wp2_with (first
    | (go_at_call 30
       refine (put' (HB.out.alloc _) (by omega)).mono ?_
       rintro e w1 ⟨rfl, hb1, hs1⟩
       have hc1 := cell_of (hs1.block (new_block w _) (by omega) (by decide)) 1
       have HB1 : Hid (Buf 60 5 B g w1 (l ++ [k].flatMap enc)) := hb1
       have HS1 : Hid (Step 5 B g w w1) := ((Step.refl _ _ _ _).alloc (by omega) _).trans hs1
       clear hb1 hs1 HB)
    | (go_at_call 30
       refine (put' HB1.out (by rw [List.length_append, encs_len]; simp; omega)).mono ?_
       rintro e w2 ⟨rfl, hb2, hs2⟩
       have HB2 : Hid (Buf 60 5 B g w2 (l ++ [k].flatMap enc ++ [n].flatMap enc)) := hb2
       have HS2 : Hid (Step 5 B g w w2) := HS1.out.trans hs2
       clear hb2 hs2 HB1 HS1 hc1)
    | fail)
  go_end0
  exact ⟨rfl, by simpa using HB2.out, HS2.out⟩
end Go.Proofs.YtgfiociglimoaaaGreatDoor.Ms
