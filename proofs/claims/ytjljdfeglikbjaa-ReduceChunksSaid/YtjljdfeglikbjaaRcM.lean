import Derived.Test.YtjljdfeglikbjaaRcL
import Derived.BigQuiet
set_option maxRecDepth 100000
namespace Go.Proofs.Ytjljdfeglikbjaa.Rc
open Go Go.Ms Go.Pg Go.Rc Go.ChangeShapes Go.WideShapes Go.ChangeAt Go.RowKit Go.Deep

def Awake : Prop := ∀ w : World, Calls Try.prog 6 #[] w fun e w' => e = .returned (.bool true) ∧ Below w.heap.size w w'

theorem awakeAt (h : Awake) (w : World) : Calls Try.prog 6 #[] w fun e w' => e = .returned (.bool true) ∧ Below w.heap.size w w' := h w
theorem says_eq {va vb : Value} {l m : List Int} {w : World} {n : Nat} (e : l = m) (h : Calls Try.prog 9 #[va, vb] (w.drewN n) (Says l m (w.drewN n))) : Calls Try.prog 9 #[va, vb] (w.drewN n) fun e w'' => e = .returned (.bool true) ∧ ∃ k, w'' = w.drewN k :=
  h.mono fun e' w' ⟨r, h1, h2, k, h3⟩ => ⟨by rw [h1, h2.2 e], n + k, by rw [h3, World.drewN_drewN]⟩
theorem wrap_diff {a b : Nat} (ha : a ≤ 400) (hb : b ≤ 400) : IntKind.i64.wrap ((a : Int) - (b : Int)) = (a : Int) - (b : Int) := by
  simp [IntKind.wrap, IntKind.signed, IntKind.bits]
  omega
theorem own_drewN {w : World} {B : Nat} {v : Value} {l : List Int} (h : Go.Il.Own 3 .i64 B w v l) (n : Nat) : Go.Il.Own 3 .i64 B (w.drewN n) v l := h
theorem below_drewN (B : Nat) (w : World) (n : Nat) : Below B w (w.drewN n) := ⟨rfl, rfl, rfl, Nat.le_refl _, fun _ _ => rfl⟩
theorem row_drewN {w : World} {v : Value} {l : List Int} (h : RowAt 1 (NumAt .i64) w v l) (n : Nat) : RowAt 1 (NumAt .i64) (w.drewN n) v l := h

set_option maxHeartbeats 8000000 in
theorem lawBig {w : World} {oa : Option Addr} {cap : Nat} {l : List Int} {z : Int} (hl : 400 < l.length) (hA : Awake) :
    Calls Try.prog 3 #[.slice oa l.length cap, .int .i64 z] w fun e w' => e = .returned (.bool true) ∧ Below w.heap.size w w' := by
  have HA := hide hA
  have h1 : (400 : Int) < (l.length : Int) := by omega
  clear hA
  go_enter Try.func3, Try.ntmps3
  go_wp2_with (first
    | (go_at_call 6
       (with_reducible refine (awakeAt HA.out _).mono ?_)
       rintro e w1 ⟨rfl, hB⟩
       have HB := hide hB
       clear hB)
    | fail)
  go_ret
  exact ⟨rfl, HB.out⟩

set_option maxHeartbeats 8000000 in
theorem lawSmall {w : World} {oa : Option Addr} {cap : Nat} {l : List Int} {z : Int} (h : RowAt 1 (NumAt .i64) w (.slice oa l.length cap) l) (hcap : l.length ≤ cap) (hl : l.length ≤ 400) (hA : Awake) :
    Calls Try.prog 3 #[.slice oa l.length cap, .int .i64 z] w fun e w' => e = .returned (.bool true) ∧ Below w.heap.size w w' := by
  have HA := hide hA
  have HR := hide h
  have h1 : (l.length : Int) ≤ 400 := by omega
  clear hA h
  go_enter Try.func3, Try.ntmps3
  go_wp2_with (first
    | (go_at_call 7
       (with_reducible refine (chunksProg HR.out hcap hl).mono ?_)
       rintro e w1 ⟨va, rfl, hB, hG⟩
       have HB1 := hide hB
       have HG1 := hide hG
       obtain ⟨aa, ac, rfl⟩ := hG.form
       clear hB hG)
    | (go_at_call 8
       (with_reducible refine (chunksRef (row_below HB1.out HR.out) hcap hl).mono ?_)
       rintro e w2 ⟨vb, rfl, hB, hG⟩
       have HB2 := hide hB
       have HG2 := hide hG
       obtain ⟨ba, bc, rfl⟩ := hG.form
       clear hB hG)
    | fail)
  have hcl := count_le l.length z
  have hcp : 0 < l.length → 0 < count l.length z := count_pos
  generalize count l.length z = c at *
  have HPC := hide (pieces_length l c c)
  have hwf : ∀ m ∈ pieces l c c, ∀ x ∈ m, WfI .i64 x := by
    intro m hm x hx
    obtain ⟨k, _, rfl⟩ := List.mem_map.1 hm
    exact row_wf HR.out x (List.mem_of_mem_drop (List.mem_of_mem_take hx))
  have hpl : ∀ k, k < c → (piece l c k).length ≤ 400 := by
    intro k hk
    have e := piece_length l (c := c) (k := k) (by omega) hk
    have := cut_le (n := l.length) (c := c) (k := k + 1) (by omega) hk
    omega
  have hml : ∀ m ∈ pieces l c c, m.length ≤ 400 := by
    intro m hm
    obtain ⟨k, hk, rfl⟩ := List.mem_map.1 hm
    exact hpl k (List.mem_range.1 hk)
  have HF := hide (And.intro hwf (And.intro hpl (And.intro hml hcp)))
  have HG1' := hide (Grid.below HG1.out HB2.out)
  clear HG1 hwf hpl hml hcp
  go_loopw [7, 8] (fun v i wr => ∃ k : Nat, k ≤ c ∧ i = .int .i64 (k : Int) ∧ Go.Il.Own 3 .i64 w2.heap.size wr v (l.take (cut l.length c k)) ∧ Below w2.heap.size w2 wr) (fun _ i _ => c - (intOf i).toNat)
  case atStart => exact ⟨0, Nat.zero_le _, rfl, by rw [cut_zero]; exact Go.Il.Own.nil _ _ _ _, Below.refl _ _⟩
  case round =>
    obtain ⟨k, hk, rfl, hO, hB⟩ := hrel
    have HO := hide hO
    have HB := hide hB
    clear hO hB
    by_cases hlt : k < c
    · have hkp : k < (pieces l c c).length := by rw [HPC.out]; exact hlt
      have h0p : 0 < (pieces l c c).length := by omega
      have hk64 : (k : Int) < (((pieces l c c).length : Nat) : Int) := by omega
      obtain ⟨g1, o1, c1, e1, f1, r1⟩ := (HG1'.out.below HB.out).get (i := k) hkp HF.out.1 HF.out.2.2.1
      obtain ⟨g2, o2, c2, e2, f2, r2⟩ := (HG2.out.below HB.out).get (i := k) hkp HF.out.1 HF.out.2.2.1
      obtain ⟨g3, o3, c3, e3, f3, r3⟩ := (HG1'.out.below HB.out).get (i := 0) h0p HF.out.1 HF.out.2.2.1
      subst e1 e2
      cases e3
      have h064 : (0 : Int) < (((pieces l c c).length : Nat) : Int) := by omega
      have p1 := piece_pos l (k := k) (by omega) hcl hlt
      have p2 := piece_near l (j := k) (k := 0) (by omega) hlt (by omega)
      have p3 := piece_near l (j := 0) (k := k) (by omega) (by omega) hlt
      have p4 := HF.out.2.1 k hlt
      have p5 := HF.out.2.1 0 (by omega)
      rw [pieces_get] at f1 f2 f3 r1 r2
      have R1 := hide r1
      have R2 := hide r2
      have F1 := hide f1
      clear r1 r2 r3
      have b1 : (((piece l c k).length : Int) == 0) = false := by simp; intro h; rw [h] at p1; exact absurd p1 (Nat.lt_irrefl 0)
      have b2 : IntKind.i64.wrap (((piece l c k).length : Int) - ((piece l c 0).length : Int)) = ((piece l c k).length : Int) - ((piece l c 0).length : Int) := wrap_diff (by omega) (by omega)
      have b3 : decide ((1 : Int) < ((piece l c k).length : Int) - ((piece l c 0).length : Int)) = false := decide_eq_false (by omega)
      have b4 : IntKind.i64.wrap (((piece l c 0).length : Int) - ((piece l c k).length : Int)) = ((piece l c 0).length : Int) - ((piece l c k).length : Int) := wrap_diff (by omega) (by omega)
      have b5 : decide ((1 : Int) < ((piece l c 0).length : Int) - ((piece l c k).length : Int)) = false := decide_eq_false (by omega)
      go_wp2_with fail
      go_big_quiet (first
        | (go_at_call 9; exact says_eq rfl (intsLaw (row_drewN R1.out _) (row_drewN R2.out _))))
      have hz : w2.heap.size ≤ wr.heap.size := HB.out.size
      have hlen : (l.take (cut l.length c k)).length + (piece l c k).length ≤ 10000000 := by
        rw [List.length_take]
        omega
      clear b1 b2 b3 b4 b5 p1 p2 p3 f1 f2 f3
      have f1 := F1.out
      go_wp2_with (first
        | (at_builtin
           (refine Go.Il.wpl_pushRow EI (by decide) rfl (.tmp 74) (.tmp 78) rfl (B := w2.heap.size) (own_drewN HO.out _) (row_drewN R1.out _) (Below.refl _ _) hz rfl rfl hlen ?_
            intro v3 w3 hO3 hS3
            have HO3 : Hid (Go.Il.Own 3 .i64 w2.heap.size w3 v3 (l.take (cut l.length c (k + 1)))) := by rw [← take_next]; exact hO3
            have HB3 : Hid (Below w2.heap.size w2 w3) := HB.out.trans ((below_drewN _ _ _).trans hS3.below)
            clear hO3 hS3))
        | fail)
      exact ⟨⟨k + 1, by omega, by go_num, HO3.out, HB3.out⟩, by simp [intOf]; omega⟩
    · have : k = c := by omega
      subst this
      have hk64 : (((pieces l k k).length : Nat) : Int) ≤ (k : Int) := by rw [HPC.out]; exact Int.le_refl _
      have e : l.take (cut l.length k k) = l := by
        by_cases q : 0 < k
        · rw [cut_all q, List.take_length]
        · have : l.length = 0 := by
            have := HF.out.2.2.2
            omega
          rw [List.eq_nil_of_length_eq_zero this]
          simp
      rw [e] at HO
      have HR2 := hide (own_row HO.out (row_wf HR.out) (by omega))
      have HR3 := hide (row_below HB2.out (row_below HB1.out HR.out))
      have HR4 := hide (row_below HB.out HR3.out)
      go_wp2_with (first
        | (go_at_call 9
           (with_reducible refine (intsLaw HR2.out HR4.out).mono ?_)
           rintro e3 w3 ⟨r, rfl, hr, n, rfl⟩
           obtain rfl : r = true := hr.2 rfl
           clear hr)
        | (go_at_call 6
           (with_reducible refine (awakeAt HA.out _).mono ?_)
           rintro e4 w4 ⟨rfl, hB4⟩
           have HB4 := hide hB4
           clear hB4)
        | fail)
      go_ret
      exact ⟨rfl, (HB1.out.trans (HB2.out.mono HB1.out.size)).trans ((HB.out.mono (Nat.le_trans HB1.out.size HB2.out.size)).trans ((below_drewN _ _ _).trans (HB4.out.mono (Nat.le_trans (Nat.le_trans HB1.out.size HB2.out.size) HB.out.size))))⟩
end Go.Proofs.Ytjljdfeglikbjaa.Rc
