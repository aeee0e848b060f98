import Derived.Test.YtmgegkgelecopaaGreatDoorRkP5
import Derived.Test.YtmgegkgelecopaaGreatDoorRkT9
import Derived.Test.YtmgegkgelecopaaGreatDoorRkP10
import Derived.Test.YtmgegkgelecopaaGreatDoorRkT14
import Derived.Test.YtmgegkgelecopaaGreatDoorRkP14
import Derived.Test.YtmgegkgelecopaaGreatDoorRkQ
import Derived.Test.YtmgegkgelecopaaGreatDoorRkV
import Derived.Test.YtmgegkgelecopaaGreatDoorRkLaw
set_option maxRecDepth 100000
namespace Go.Proofs.YtmgegkgelecopaaGreatDoor.Rk
open Go Go.Ms Go.Pg Go.Rk Go.ChangeShapes Go.WideShapes Go.ChangeAt Go.RowKit Go.Deep

def sErr (f h q m r : Int) : Int := if f < 1 ∨ 14 < f then 1 else terr h q m r
def sVal (f h q m r : Int) : Fr := if sErr f h q m r ≠ 0 then (0, 0) else refOf f.toNat (countsOf h q m r)
abbrev sRes (f h q m r : Int) : Value := .tuple #[fr (sVal f h q m r), .int .i64 (sErr f h q m r)]

theorem sErr_bad {f h q m r : Int} (hf : f < 1 ∨ 14 < f) : sErr f h q m r = 1 := if_pos hf
theorem sErr_ok {f h q m r : Int} (hf : ¬ (f < 1 ∨ 14 < f)) : sErr f h q m r = terr h q m r := if_neg hf
theorem sRes_bad {f h q m r : Int} (hf : f < 1 ∨ 14 < f) : sRes f h q m r = .tuple #[fr (0, 0), .int .i64 1] := by
  unfold sRes sVal
  rw [sErr_bad hf, if_pos (by decide)]
theorem sRes_err {f h q m r : Int} (hf : ¬ (f < 1 ∨ 14 < f)) (he : terr h q m r ≠ 0) : sRes f h q m r = .tuple #[fr (0, 0), .int .i64 (terr h q m r)] := by
  unfold sRes sVal
  rw [sErr_ok hf, if_pos he]
theorem sRes_ok {f h q m r : Int} (hf : ¬ (f < 1 ∨ 14 < f)) (he : terr h q m r = 0) : sRes f h q m r = .tuple #[fr (refOf f.toNat (countsOf h q m r)), .int .i64 0] := by
  unfold sRes sVal
  rw [sErr_ok hf, he, if_neg (by decide)]

theorem scoreAll (f h q m r : Int) (w : World) : Calls Tryz.prog 14 #[.int .u8 f, tally h q m r] w fun e w' => e = .returned (sRes f h q m r) ∧ Below w.heap.size w w' := by
  by_cases hf : f < 1 ∨ 14 < f
  · rw [sRes_bad hf]
    exact scoreBad14 f h q m r hf w
  · by_cases he : terr h q m r = 0
    · rw [sRes_ok hf he]
      obtain ⟨hh, hq, hm, hr⟩ := terr_ok he
      have hs := small_of hh hq hm hr
      have hc : f = 1 ∨ f = 2 ∨ f = 3 ∨ f = 4 ∨ f = 5 ∨ f = 6 ∨ f = 7 ∨ f = 8 ∨ f = 9 ∨ f = 10 ∨ f = 11 ∨ f = 12 ∨ f = 13 ∨ f = 14 := by omega
      rcases hc with rfl | rfl | rfl | rfl | rfl | rfl | rfl | rfl | rfl | rfl | rfl | rfl | rfl | rfl
      · exact (score_ref 1 _ hs) ▸ score1 h q m r hh hq hm hr w
      · exact (score_ref 2 _ hs) ▸ score2 h q m r hh hq hm hr w
      · exact (score_ref 3 _ hs) ▸ score3 h q m r hh hq hm hr w
      · exact (score_ref 4 _ hs) ▸ score4 h q m r hh hq hm hr w
      · exact (score_ref 5 _ hs) ▸ score5 h q m r hh hq hm hr w
      · exact (score_ref 6 _ hs) ▸ score6 h q m r hh hq hm hr w
      · exact (score_ref 7 _ hs) ▸ score7 h q m r hh hq hm hr w
      · exact (score_ref 8 _ hs) ▸ score8 h q m r hh hq hm hr w
      · exact (score_ref 9 _ hs) ▸ score9 h q m r hh hq hm hr w
      · exact (score_ref 10 _ hs) ▸ score10 h q m r hh hq hm hr w
      · exact (score_ref 11 _ hs) ▸ score11 h q m r hh hq hm hr w
      · exact (score_ref 12 _ hs) ▸ score12 h q m r hh hq hm hr w
      · exact (score_ref 13 _ hs) ▸ score13 h q m r hh hq hm hr w
      · exact (score_ref 14 _ hs) ▸ score14 h q m r hh hq hm hr w
    · rw [sRes_err hf he]
      exact scoreErr14 f h q m r ⟨by omega, by omega⟩ he w

theorem refAll (f h q m r : Int) (hf : ¬ (f < 1 ∨ 14 < f)) (hh : 0 ≤ h ∧ h ≤ 64) (hq : 0 ≤ q ∧ q ≤ 64) (hm : 0 ≤ m ∧ m ≤ 64) (hr : 0 ≤ r ∧ r ≤ 64) (w : World) :
    Calls Tryz.prog 43 #[.int .u8 f, tally h q m r] w fun e w' => e = .returned (fr (refOf f.toNat (countsOf h q m r))) ∧ Below w.heap.size w w' := by
  have hc : f = 1 ∨ f = 2 ∨ f = 3 ∨ f = 4 ∨ f = 5 ∨ f = 6 ∨ f = 7 ∨ f = 8 ∨ f = 9 ∨ f = 10 ∨ f = 11 ∨ f = 12 ∨ f = 13 ∨ f = 14 := by omega
  rcases hc with rfl | rfl | rfl | rfl | rfl | rfl | rfl | rfl | rfl | rfl | rfl | rfl | rfl | rfl
  · exact ref1 h q m r hh hq hm hr w
  · exact ref2 h q m r hh hq hm hr w
  · exact ref3 h q m r hh hq hm hr w
  · exact ref4 h q m r hh hq hm hr w
  · exact ref5 h q m r hh hq hm hr w
  · exact ref6 h q m r hh hq hm hr w
  · exact ref7 h q m r hh hq hm hr w
  · exact ref8 h q m r hh hq hm hr w
  · exact ref9 h q m r hh hq hm hr w
  · exact ref10 h q m r hh hq hm hr w
  · exact ref11 h q m r hh hq hm hr w
  · exact ref12 h q m r hh hq hm hr w
  · exact ref13 h q m r hh hq hm hr w
  · exact ref14 h q m r hh hq hm hr w
end Go.Proofs.YtmgegkgelecopaaGreatDoor.Rk

set_option maxRecDepth 100000
namespace Go.Proofs.YtmgegkgelecopaaGreatDoor.Rk
open Go Go.Ms Go.Pg Go.Rk Go.ChangeShapes Go.WideShapes Go.ChangeAt Go.RowKit Go.Deep

theorem scoreBad15 (f h q m r : Int) (hf : f < 1 ∨ 14 < f) (w : World) : Calls Tryz.prog 15 #[.int .u8 f, tally h q m r] w fun e w' => e = .returned (.tuple #[fr (0, 0), .int .i64 1]) ∧ Below w.heap.size w w' := by
  by_cases h1 : f < 1
  · clear hf
    go_enter Tryz.func15, Tryz.ntmps15
    go_wp2
    exact bodyPost_ret (v := .tuple #[fr (0, 0), .int .i64 1]) (by simp [results, Tryz.results15, go_sem]) rfl ⟨rfl, two _ _ _⟩
  · have h2 : 14 < f := by omega
    clear hf
    go_enter Tryz.func15, Tryz.ntmps15
    go_wp2
    exact bodyPost_ret (v := .tuple #[fr (0, 0), .int .i64 1]) (by simp [results, Tryz.results15, go_sem]) rfl ⟨rfl, two _ _ _⟩

theorem keptM {w w1 : World} {a c : Obj} {x y : Value} {t : TypeId} (h : Below (((w.alloc a).alloc (.cells #[x, y] t)).alloc c).heap.size (((w.alloc a).alloc (.cells #[x, y] t)).alloc c) w1) : Kept w (w.alloc a) w1 (w.heap.size + 1) x y :=
  kept2 (((Below.refl _ _).alloc (Nat.le_refl _) c).trans (h.mono (by simp)))
theorem three (w : World) (a b c : Obj) : Below w.heap.size w (((w.alloc a).alloc b).alloc c) := (two w a b).alloc (by simp <;> omega) c

set_option maxHeartbeats 4000000 in
theorem scoreErr15 (f h q m r : Int) (hf : 1 ≤ f ∧ f ≤ 14) (he : terr h q m r ≠ 0) (w : World) : Calls Tryz.prog 15 #[.int .u8 f, tally h q m r] w fun e w' => e = .returned (.tuple #[fr (0, 0), .int .i64 (terr h q m r)]) ∧ Below w.heap.size w w' := by
  have HE := Lib.hid he
  obtain ⟨f1, f2⟩ := hf
  clear he
  go_enter Tryz.func15, Tryz.ntmps15
  go_wp2
  go_loop [7] (fun i => i = .int .i64 0 ∨ (Hid (te h = 0) ∧ i = .int .i64 1) ∨ (Hid (te h = 0 ∧ te q = 0) ∧ i = .int .i64 2) ∨ (Hid (te h = 0 ∧ te q = 0 ∧ te m = 0) ∧ i = .int .i64 3)) (fun i => 4 - (intOf i).toNat)
  case atStart => exact Or.inl rfl
  case round =>
    rcases hrel with rfl | ⟨T, rfl⟩ | ⟨T, rfl⟩ | ⟨T, rfl⟩
    · rcases te_cases h with ⟨a, b⟩ | ⟨a, b, c⟩ | ⟨a, b, c⟩
      · have B := Lib.hid b
        clear b
        go_wp2_with fail
        refine bodyPost_ret (v := .tuple #[fr (0, 0), .int .i64 1]) (by simp [results, Tryz.results15, go_sem]) rfl ⟨?_, three _ _ _ _⟩
        have : terr h q m r = 1 := by
          unfold terr
          simp [B.out]
        rw [this]
      · have B := Lib.hid c
        clear c
        go_wp2_with fail
        refine bodyPost_ret (v := .tuple #[fr (0, 0), .int .i64 3]) (by simp [results, Tryz.results15, go_sem]) rfl ⟨?_, three _ _ _ _⟩
        have : terr h q m r = 3 := by
          unfold terr
          simp [B.out]
        rw [this]
      · have B := Lib.hid c
        clear c
        go_wp2_with fail
        go_round
        case rel => exact Or.inr (Or.inl ⟨B, rfl⟩)
        case measure => simp [intOf]
    · rcases te_cases q with ⟨a, b⟩ | ⟨a, b, c⟩ | ⟨a, b, c⟩
      · have B := Lib.hid b
        clear b
        go_wp2_with fail
        refine bodyPost_ret (v := .tuple #[fr (0, 0), .int .i64 1]) (by simp [results, Tryz.results15, go_sem]) rfl ⟨?_, three _ _ _ _⟩
        have : terr h q m r = 1 := by
          have t := T.out
          unfold terr
          simp [show te h = 0 from t, B.out]
        rw [this]
      · have B := Lib.hid c
        clear c
        go_wp2_with fail
        refine bodyPost_ret (v := .tuple #[fr (0, 0), .int .i64 3]) (by simp [results, Tryz.results15, go_sem]) rfl ⟨?_, three _ _ _ _⟩
        have : terr h q m r = 3 := by
          have t := T.out
          unfold terr
          simp [show te h = 0 from t, B.out]
        rw [this]
      · have B := Lib.hid c
        clear c
        go_wp2_with fail
        go_round
        case rel => exact Or.inr (Or.inr (Or.inl ⟨⟨T.out, B.out⟩, rfl⟩))
        case measure => simp [intOf]
    · rcases te_cases m with ⟨a, b⟩ | ⟨a, b, c⟩ | ⟨a, b, c⟩
      · have B := Lib.hid b
        clear b
        go_wp2_with fail
        refine bodyPost_ret (v := .tuple #[fr (0, 0), .int .i64 1]) (by simp [results, Tryz.results15, go_sem]) rfl ⟨?_, three _ _ _ _⟩
        have : terr h q m r = 1 := by
          have t := T.out
          unfold terr
          simp [t.1, t.2, B.out]
        rw [this]
      · have B := Lib.hid c
        clear c
        go_wp2_with fail
        refine bodyPost_ret (v := .tuple #[fr (0, 0), .int .i64 3]) (by simp [results, Tryz.results15, go_sem]) rfl ⟨?_, three _ _ _ _⟩
        have : terr h q m r = 3 := by
          have t := T.out
          unfold terr
          simp [t.1, t.2, B.out]
        rw [this]
      · have B := Lib.hid c
        clear c
        go_wp2_with fail
        go_round
        case rel => exact Or.inr (Or.inr (Or.inr ⟨⟨T.out.1, T.out.2, B.out⟩, rfl⟩))
        case measure => simp [intOf]
    · rcases te_cases r with ⟨a, b⟩ | ⟨a, b, c⟩ | ⟨a, b, c⟩
      · have B := Lib.hid b
        clear b
        go_wp2_with fail
        refine bodyPost_ret (v := .tuple #[fr (0, 0), .int .i64 1]) (by simp [results, Tryz.results15, go_sem]) rfl ⟨?_, three _ _ _ _⟩
        have : terr h q m r = 1 := by
          have t := T.out
          unfold terr
          simp [t.1, t.2.1, t.2.2, B.out]
        rw [this]
      · have B := Lib.hid c
        clear c
        go_wp2_with fail
        refine bodyPost_ret (v := .tuple #[fr (0, 0), .int .i64 3]) (by simp [results, Tryz.results15, go_sem]) rfl ⟨?_, three _ _ _ _⟩
        have : terr h q m r = 3 := by
          have t := T.out
          unfold terr
          simp [t.1, t.2.1, t.2.2, B.out]
        rw [this]
      · exfalso
        have t := T.out
        apply HE.out
        unfold terr
        simp [t.1, t.2.1, t.2.2, c]

set_option maxHeartbeats 4000000 in
theorem scoreOk15 (f h q m r : Int) (hf : ¬ (f < 1 ∨ 14 < f)) (he : terr h q m r = 0) (w : World) : Calls Tryz.prog 15 #[.int .u8 f, tally h q m r] w fun e w' => e = .returned (.tuple #[fr (refOf f.toNat (countsOf h q m r)), .int .i64 0]) ∧ Below w.heap.size w w' := by
  obtain ⟨hh, hq, hm, hr⟩ := terr_ok he
  have K := Lib.hid (fun w' => refAll f h q m r hf hh hq hm hr w')
  obtain ⟨h1, h2⟩ := hh
  obtain ⟨q1, q2⟩ := hq
  obtain ⟨m1, m2⟩ := hm
  obtain ⟨r1, r2⟩ := hr
  have f1 : 1 ≤ f := by omega
  have f2 : f ≤ 14 := by omega
  clear he hf
  go_enter Tryz.func15, Tryz.ntmps15
  go_wp2
  go_loop [7] (fun i => i = .int .i64 0 ∨ i = .int .i64 1 ∨ i = .int .i64 2 ∨ i = .int .i64 3 ∨ i = .int .i64 4) (fun i => 4 - (intOf i).toNat)
  case atStart => exact Or.inl rfl
  case round =>
    rcases hrel with rfl | rfl | rfl | rfl | rfl
    iterate 4
      · go_wp2_with fail
        go_round
        case rel => simp
        case measure => simp [intOf]
    · go_wp2_with (first
        | (go_at_call 43; refine (K.out _).mono ?_; rintro e w1 ⟨rfl, hB⟩; obtain ⟨c0, c1, g0, g1, hz, HB⟩ := keptM hB; clear hB)
        | fail)
      refine bodyPost_ret (v := .tuple #[fr (refOf f.toNat (countsOf h q m r)), .int .i64 0]) (by simp [results, Tryz.results15, go_sem, c0, c1]) rfl ⟨rfl, (HB.out.setCell (show w.heap.size ≤ w.heap.size + 1 by omega) _).setCell (show w.heap.size ≤ w.heap.size + 1 by omega) _⟩

theorem scoreAll15 (f h q m r : Int) (w : World) : Calls Tryz.prog 15 #[.int .u8 f, tally h q m r] w fun e w' => e = .returned (sRes f h q m r) ∧ Below w.heap.size w w' := by
  by_cases hf : f < 1 ∨ 14 < f
  · rw [sRes_bad hf]
    exact scoreBad15 f h q m r hf w
  · by_cases he : terr h q m r = 0
    · rw [sRes_ok hf he]
      exact scoreOk15 f h q m r hf he w
    · rw [sRes_err hf he]
      exact scoreErr15 f h q m r ⟨by omega, by omega⟩ he w
end Go.Proofs.YtmgegkgelecopaaGreatDoor.Rk

set_option maxRecDepth 100000
namespace Go.Proofs.YtmgegkgelecopaaGreatDoor.Rk
open Go Go.Ms Go.Pg Go.Rk Go.ChangeShapes Go.WideShapes Go.ChangeAt Go.RowKit Go.Deep

structure T4 (w w' : World) (h q m r : Int) : Prop where
  c0 : w'.cell? ⟨w.heap.size, 0, none⟩ = some (.int .i64 h)
  c1 : w'.cell? ⟨w.heap.size, 1, none⟩ = some (.int .i64 q)
  c2 : w'.cell? ⟨w.heap.size, 2, none⟩ = some (.int .i64 m)
  c3 : w'.cell? ⟨w.heap.size, 3, none⟩ = some (.int .i64 r)
  lt : w.heap.size < w'.heap.size
  below : Below w.heap.size w w'

theorem T4.step {w w' w'' : World} {h q m r : Int} (t : T4 w w' h q m r) (k : Below w'.heap.size w' w'') : T4 w w'' h q m r where
  c0 := (k.cell (p := ⟨w.heap.size, 0, none⟩) t.lt).trans t.c0
  c1 := (k.cell (p := ⟨w.heap.size, 1, none⟩) t.lt).trans t.c1
  c2 := (k.cell (p := ⟨w.heap.size, 2, none⟩) t.lt).trans t.c2
  c3 := (k.cell (p := ⟨w.heap.size, 3, none⟩) t.lt).trans t.c3
  lt := Nat.lt_of_lt_of_le t.lt k.size
  below := t.below.trans (k.mono t.below.size)

theorem T4.new (w : World) (h q m r : Int) (t : TypeId) : T4 w (w.alloc (.cells #[.int .i64 h, .int .i64 q, .int .i64 m, .int .i64 r] t)) h q m r where
  c0 := by simp [go_sem]
  c1 := by simp [go_sem]
  c2 := by simp [go_sem]
  c3 := by simp [go_sem]
  lt := by simp
  below := (Below.refl _ _).alloc (Nat.le_refl _) _

set_option maxHeartbeats 4000000 in
theorem scores5 (f h q m r : Int) {x : Obj} {w : World} (h0 : w.heap[0]? = some x) (hR : Ranks x) :
    Calls Tryz.prog 5 #[.int .u8 f, tally h q m r] w fun e w' => e = .returned (.bool true) ∧ Below w.heap.size w w' := by
  have hB := T4.new w h q m r 33
  have HR := Lib.hid hR
  have H0 := Lib.hid h0
  have K14 : Hid (∀ w', Calls Tryz.prog 14 #[.int .u8 f, tally h q m r] w' fun e w'' => e = .returned (.tuple #[.agg #[.int .i64 (sVal f h q m r).1, .int .i64 (sVal f h q m r).2], .int .i64 (sErr f h q m r)]) ∧ Below w'.heap.size w' w'') := fun w' => scoreAll f h q m r w'
  have K15 : Hid (∀ w', Calls Tryz.prog 15 #[.int .u8 f, tally h q m r] w' fun e w'' => e = .returned (.tuple #[.agg #[.int .i64 (sVal f h q m r).1, .int .i64 (sVal f h q m r).2], .int .i64 (sErr f h q m r)]) ∧ Below w'.heap.size w' w'') := fun w' => scoreAll15 f h q m r w'
  generalize (sVal f h q m r).1 = N at *
  generalize (sVal f h q m r).2 = D at *
  generalize sErr f h q m r = E at *
  clear hR h0
  go_enter Tryz.func5, Tryz.ntmps5
  go_upto_region 1 with (fail)
  generalize w.alloc (.cells #[.int .i64 h, .int .i64 q, .int .i64 m, .int .i64 r] 33) = w0 at *
  obtain ⟨c0, c1, c2, c3, c4, c5⟩ := id hB
  have HT := Lib.hid hB
  clear hB c4 c5
  go_upto_region 2 with (first
    | (go_at_call 14; refine (K14.out _).mono ?_; rintro e w1 ⟨rfl, hb1⟩; have HT1 := Lib.hid (HT.out.step hb1); clear hb1 c0 c1 c2 c3)
    | fail)
  have hT2 := HT1.out.step ((Below.refl w1.heap.size w1).alloc (Nat.le_refl _) (.cells #[.int .i64 N, .int .i64 D] 23))
  have d0 := new0 w1 (.int .i64 N) (.int .i64 D) 23
  have d1 := new1 w1 (.int .i64 N) (.int .i64 D) 23
  have d2 : w1.heap.size < (w1.alloc (.cells #[.int .i64 N, .int .i64 D] 23)).heap.size := by simp
  clear HT1
  generalize w1.alloc (.cells #[.int .i64 N, .int .i64 D] 23) = w2 at *
  generalize w1.heap.size = k1 at *
  obtain ⟨c0, c1, c2, c3, c4, c5⟩ := id hT2
  have HT2 := Lib.hid hT2
  have HD := Lib.hid (And.intro d0 (And.intro d1 d2))
  clear hT2 c4 c5 d0 d1 d2
  go_upto_region 3 with (first
    | (go_at_call 15; refine (K15.out _).mono ?_; rintro e w3 ⟨rfl, hb3⟩; have HT3 := Lib.hid (HT2.out.step hb3); have HD3 := Lib.hid (And.intro ((hb3.cell (p := ⟨k1, 0, none⟩) HD.out.2.2).trans HD.out.1) (And.intro ((hb3.cell (p := ⟨k1, 1, none⟩) HD.out.2.2).trans HD.out.2.1) (Nat.lt_of_lt_of_le HD.out.2.2 hb3.size))); clear hb3 c0 c1 c2 c3)
    | fail)
  have hA : Below w3.heap.size w3 (w3.alloc (.cells #[.int .i64 N, .int .i64 D] 23)) := (Below.refl w3.heap.size w3).alloc (Nat.le_refl _) _
  have hT4 := HT3.out.step hA
  have e0 := new0 w3 (.int .i64 N) (.int .i64 D) 23
  have e1 := new1 w3 (.int .i64 N) (.int .i64 D) 23
  have d0 := (hA.cell (p := ⟨k1, 0, none⟩) HD3.out.2.2).trans HD3.out.1
  have d1 := (hA.cell (p := ⟨k1, 1, none⟩) HD3.out.2.2).trans HD3.out.2.1
  clear HT3 HT2 HD HD3 hA
  generalize w3.alloc (.cells #[.int .i64 N, .int .i64 D] 23) = w4 at *
  generalize w3.heap.size = k3 at *
  have HT4 := Lib.hid hT4
  clear hT4
  have K13 : Hid (Calls Tryz.prog 13 #[] w4 fun e w' => e = .returned (.bool true) ∧ Below w4.heap.size w4 w') :=
    HR.out w4 ((HT4.out.below.block 0 (Array.getElem?_eq_some_iff.1 H0.out).1).trans H0.out)
  clear K14 K15 HR H0
  go_wp2_with (first
    | (go_at_call 13; refine K13.out.mono ?_; rintro e w5 ⟨rfl, hb5⟩; have HB := Lib.hid (HT4.out.step hb5).below; clear hb5)
    | fail)
  go_ret
  exact ⟨rfl, HB.out⟩

theorem lawRankScores {f h q m r : Int} {x : Obj} {w : World} (h0 : w.heap[0]? = some x) (hR : Ranks x) :
    Calls Tryz.prog 5 #[.int .u8 f, tally h q m r] w fun e w' => e = .returned (.bool true) ∧ Below w.heap.size w w' := scores5 f h q m r h0 hR
end Go.Proofs.YtmgegkgelecopaaGreatDoor.Rk

