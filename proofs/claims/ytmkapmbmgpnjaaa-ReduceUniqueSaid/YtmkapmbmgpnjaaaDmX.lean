import Derived.Test.YtmkapmbmgpnjaaaDmL
import Derived.Test.YtmkapmbmgpnjaaaDmU
import Derived.Test.YtmkapmbmgpnjaaaDmV
import Derived.Test.YtmkapmbmgpnjaaaDcH
set_option maxRecDepth 100000
set_option linter.unusedSimpArgs false
set_option linter.unusedVariables false
namespace Go.Proofs.Ytmkapmbmgpnjaaa.Se
open Go Go.Ms Go.Pg Go.Bi Go.Se Go.ChangeShapes Go.WideShapes Go.ChangeAt Go.RowKit Go.Deep Go.Proofs.Ytmkapmbmgpnjaaa.Bi

/-! The law ReduceUnique. -/
def YesU (w : World) (args : Array Value) : Prop := Calls Try.prog 9 args w fun e w' => e = .returned (.bool true) ∧ Below w.heap.size w w'
set_option maxHeartbeats 8000000 in
theorem lawLongU {w : World} {v : Value} {s : List Int} {z st : Int} (hz : 12 < z) (hv : IntsW w v s) (hA : Awake) : YesU w #[.int .i64 z, .int .i64 st, v] := by
  unfold YesU
  unfold Awake at hA
  obtain ⟨ov, cv, rfl, -, -⟩ := hv
  have t1 : decide ((12 : Int) < z) = true := decide_eq_true hz
  clear hz
  go_enter Try.func9, Try.ntmps9
  go_wp2_with fail
  (with_reducible refine (hA _).mono ?_)
  rintro e w' ⟨rfl, hB⟩
  have HB := hide hB
  clear hB
  go_wp2_with fail
  go_ret
  exact ⟨rfl, HB.out⟩
set_option maxHeartbeats 8000000 in
theorem lawNoneU {w : World} {v : Value} {s : List Int} {z st : Int} {N : Nat} (hz : z ≤ 12) (hN : max z 0 = (N : Int)) (hv : IntsW w v s) (hs : ¬ IsSet s (N : Int)) (hA : Awake) : YesU w #[.int .i64 z, .int .i64 st, v] := by
  unfold YesU
  unfold Awake at hA
  have HS := hide (setRef (n := (N : Int)) hv)
  have HNS := hide hs
  obtain ⟨ov, cv, rfl, -, -⟩ := hv
  have t1 : decide ((12 : Int) < z) = false := decide_eq_false (by omega)
  have hmx : (if z < 0 then (0 : Int) else z) = (N : Int) := by split <;> omega
  clear hz hN hs
  go_enter Try.func9, Try.ntmps9
  go_wp2_with fail
  (with_reducible refine HS.out.mono ?_)
  rintro e w1 ⟨r, rfl, hr, d, rfl⟩
  obtain rfl : r = false := by cases r with
    | false => rfl
    | true => exact absurd (hr.1 rfl) HNS.out
  have HB1 := hide (belowN w.heap.size w d)
  clear hr HS
  generalize w.drewN d = w1 at *
  go_wp2_with fail
  (with_reducible refine (hA _).mono ?_)
  rintro e w' ⟨rfl, hB⟩
  have HB := hide (HB1.out.trans (hB.mono HB1.out.size))
  clear hB
  go_wp2_with fail
  go_ret
  exact ⟨rfl, HB.out⟩
--H<
set_option maxHeartbeats 16000000 in
theorem lawMainU {w : World} {v : Value} {s : List Int} {z st : Int} {N : Nat} (hz : z ≤ 12) (hN : max z 0 = (N : Int)) (hv : IntsW w v s) (hs : IsSet s (N : Int)) (hA : Awake) : YesU w #[.int .i64 z, .int .i64 st, v] := by
  unfold YesU
  unfold Awake at hA
  obtain ⟨q, hq⟩ : ∃ q : Nat, min (max st 1) 256 = (q : Int) := ⟨(min (max st 1) 256).toNat, by omega⟩
  have HS := hide (setRef (n := (N : Int)) hv)
  have HNS := hide hs
  have HNZ := hide hN
  have HQ := hide hq
  have HZ := hide hz
  have HN12 : Hid (N ≤ 12) := hide (by omega)
  have HAW := hide hA
  have HSL : Hid (s.length ≤ 100000) := hide (by
    obtain ⟨d, rfl, h1, h2⟩ := set_nat hs
    rw [List.length_map]
    have := nodup_below (nodup_of_sorted h1) h2
    omega)
  have HV := hide hv
  obtain ⟨ov, cv, rfl, -, -⟩ := hv
  have t1 : decide ((12 : Int) < z) = false := decide_eq_false (by omega)
  have hmx : (if z < 0 then (0 : Int) else z) = (N : Int) := by split <;> omega
  clear hz hN hs hq hA
  go_enter Try.func9, Try.ntmps9
  go_wp2_with fail
  (with_reducible refine HS.out.mono ?_)
  rintro e w1 ⟨r, rfl, hr, d, rfl⟩
  obtain rfl : r = true := hr.2 HNS.out
  have HB1 := hide (belowN w.heap.size w d)
  have HV1 := hide (ints_below HV.out (belowN w.heap.size w d))
  clear hr HS HV
  generalize w.drewN d = w1 at *
  obtain ⟨o1, ho1⟩ : ∃ o1, o1 = Obj.cells #[.slice ov s.length cv] 30 := ⟨_, rfl⟩
  obtain ⟨o2, ho2⟩ : ∃ o2, o2 = Obj.cells #[.slice (some ⟨w1.heap.size, 0, none⟩) 1 1, .slice none 0 0, .int .u64 0, .int .u8 0] 48 := ⟨_, rfl⟩
  obtain ⟨o3, ho3⟩ : ∃ o3, o3 = Obj.cells #[.int .u8 0, .int .u8 1, .int .u8 3] 61 := ⟨_, rfl⟩
  have hB3 := (((Below.refl w1.heap.size w1).alloc (Nat.le_refl _) o1).alloc (by simp) o2).alloc (by simp; omega) o3
  have HB3 := hide (HB1.out.trans (hB3.mono HB1.out.size))
  have HV3 := hide (ints_below HV1.out hB3)
  have HL3 : Hid ((((w1.alloc o1).alloc o2).alloc o3).heap[w1.heap.size]? = some o1) := hide (old_block (old_block (new_block w1 o1) _) _)
  have HX3 : Hid ((((w1.alloc o1).alloc o2).alloc o3).heap[w1.heap.size + 1]? = some o2) := hide (old_block (alloc_at (by simp)) _)
  have HY3 : Hid ((((w1.alloc o1).alloc o2).alloc o3).heap[w1.heap.size + 1 + 1]? = some o3) := hide (alloc_at (by simp))
  have HO3 : Hid (OrcAt (((w1.alloc o1).alloc o2).alloc o3) (.slice (some ⟨w1.heap.size, 0, none⟩) 1 1) (.slice none 0 0) (only s)) := hide ⟨⟨_, 1, rfl, by simp, fun i hi => by
      obtain rfl : i = 0 := by have : i < 1 := hi; omega
      exact ⟨w1.heap.size, 0, _, rfl, cell_of (HL3.out.trans (by rw [ho1])) 0, HV3.out⟩⟩, ⟨none, 0, rfl, by simp, fun i hi => absurd hi (Nat.not_lt_zero i)⟩, (show (0 : Nat) < 18446744073709551616 by decide), (show (0 : Nat) < 256 by decide)⟩
  have HSM : Hid (Small (only s)) := hide ⟨fun l hl => by obtain rfl := List.mem_singleton.1 hl; exact HSL.out, fun l hl => absurd hl (by simp)⟩
  clear hB3 HL3
  go_wp2_with fail
  change Code.wp _ _ _ _ (((w1.alloc (Obj.cells #[.slice ov s.length cv] 30)).alloc (Obj.cells #[.slice (some ⟨w1.heap.size, 0, none⟩) 1 1, .slice none 0 0, .int .u64 0, .int .u8 0] 48)).alloc (Obj.cells #[.int .u8 0, .int .u8 1, .int .u8 3] 61))
  rw [← ho1, ← ho2, ← ho3]
  subst ho2 ho3
  generalize ((w1.alloc o1).alloc _).alloc _ = W3 at *
  clear ho1
  go_loopw [28] (fun s28 wr => ∃ i : Nat, i ≤ 3 ∧ s28 = .int .i64 (i : Int) ∧ Hid (Below W3.heap.size W3 wr)) (fun s28 _ => 3 - (intOf s28).toNat)
  case atStart => exact ⟨0, by omega, rfl, hide (Below.refl _ _)⟩
  case round =>
    obtain ⟨i, hi, rfl, HBr⟩ := hrel
    have HXr := hide ((HBr.out.block _ (block_lt HX3.out)).trans HX3.out)
    have HYr := hide ((HBr.out.block _ (block_lt HY3.out)).trans HY3.out)
    have HOr := hide (HO3.out.old HBr.out)
    have HVr := hide (ints_below HV3.out HBr.out)
    have HBW := hide (HB3.out.trans (HBr.out.mono HB3.out.size))
    by_cases hlt : i < 3
    · have hi1 : decide ((i : Int) < 3) = true := decide_eq_true (by omega)
      have hi2 : decide (i < 3) = true := decide_eq_true hlt
      have hi3 : (i : Int) < 3 := by omega
      obtain ⟨wh, t, HCE, HAS, HLS, HTR⟩ : ∃ wh t, Hid (wr.cell? ⟨w1.heap.size + 1 + 1, i, none⟩ = some (.int .u8 wh)) ∧ Hid (Asker wh z st t) ∧ Hid (Least (ora (only s)) N t) ∧ Hid ((trace (ora (only s)) t []).length ≤ 4096) := by
        have hz := HZ.out
        have hs := HQ.out
        have hn : N ≤ 256 := by have := HN12.out; omega
        rcases (show i = 0 ∨ i = 1 ∨ i = 2 by omega) with rfl | rfl | rfl
        · exact ⟨0, listN N, hide (cell_of HYr.out 0), hide fun W an l hv hl hwf => askList (by omega) HNZ.out hv hl hwf, hide (listN_leaf hn []), hide (few HN12.out (asks_listN hn))⟩
        · exact ⟨1, countN N q (lastOf q), hide (cell_of HYr.out 1), hide fun W an l hv hl hwf => askCount (by omega) HNZ.out hs hv hl hwf, hide (countN_leaf (start_of (by omega) (by omega)) hn []), hide (few HN12.out (asks_countN N q (lastOf q)))⟩
        · exact ⟨3, changesN N, hide (cell_of HYr.out 2), hide fun W an l hv hl hwf => askChanges (by omega) HNZ.out hv hl hwf, hide (changesN_leaf hn []), hide (few HN12.out (asks_changesN hn))⟩
      have hlf := only_leaf (by have := HN12.out; omega) HNS.out HLS.out
      have HSR : Hid (Calls Try.prog 42 #[.int .u8 wh, .agg #[.slice (some ⟨w1.heap.size, 0, none⟩) 1 1, .slice none 0 0, .int .u64 0, .int .u8 0], .int .i64 z, .int .i64 st] wr fun e w' => (∃ kv pv av, e = .returned (.tuple #[questV true nilV kv pv, av, .int .i64 0]) ∧ Go.Il.Own 3 .i64 wr.heap.size w' kv s ∧ Go.Il.Own 3 .i64 wr.heap.size w' pv [] ∧ ∃ gl, Grid wr.heap.size w' av gl) ∧ Below wr.heap.size wr w') := hide (by
        refine (searchedRef HOr.out HSM.out HAS.out HTR.out (by rw [hlf]; intro q; cases q)).mono ?_
        rintro e w' ⟨hf, hB⟩
        rw [hlf] at hf
        obtain ⟨kv, pv, av, he, h1, h2, h3⟩ := hf
        exact ⟨⟨kv, pv, av, he, h1, h2, _, h3⟩, hB⟩)
      have HLT := hide hlt
      have fx := HCE.out
      have x0 := cell_of HXr.out 0
      have x1 := cell_of HXr.out 1
      have x2 := cell_of HXr.out 2
      have x3 := cell_of HXr.out 3
      clear hlt hlf
      go_wp2_with fail
      (with_reducible refine HSR.out.mono ?_)
      rintro e w5 ⟨⟨kv, pv, av, rfl, hk, hp, gl, hg⟩, hB5⟩
      obtain ⟨oav, cav, rfl⟩ := grid_form hg
      obtain ⟨ok, ck, rfl⟩ := Go.Il.Own.form hk
      obtain ⟨op, cp, rfl⟩ := Go.Il.Own.form hp
      have hA5 := (Below.refl w5.heap.size w5).alloc (Nat.le_refl _) (boxQ true nilV (.slice ok s.length ck) (.slice op ([] : List Int).length cp))
      have HQ6 := hide (new_block w5 (boxQ true nilV (.slice ok s.length ck) (.slice op ([] : List Int).length cp)))
      have HK6 := hide (ints_own (own_up hk hA5) (by have := HSL.out; omega))
      have HB6 := hide (HBr.out.trans ((hB5.trans (hA5.mono hB5.size)).mono HBr.out.size))
      have HV6 := hide (ints_below HVr.out (hB5.trans (hA5.mono hB5.size)))
      obtain ⟨q0, q1, q2, q3⟩ := q_cells HQ6.out
      simp only [List.length_nil] at *
      clear hk hp hg hA5 hB5 HSR fx x0 x1 x2 x3
      go_wp2_with fail
      (with_reducible refine (intsLaw HK6.out HV6.out).mono ?_)
      rintro e w7 ⟨r, rfl, hr, d, rfl⟩
      obtain rfl : r = true := hr.2 rfl
      have HB7 := hide (HB6.out.trans (belowN _ _ d))
      clear hr
      go_wp2_with fail
      exact ⟨⟨i + 1, by have := HLT.out; omega, by go_num, HB7⟩, by simp [intOf]; have := HLT.out; omega⟩
    · obtain rfl : i = 3 := by omega
      clear hlt
      go_wp2_with fail
      (with_reducible refine (HAW.out _).mono ?_)
      rintro e w9 ⟨rfl, hB9⟩
      have HB9 := hide (HBW.out.trans (hB9.mono HBW.out.size))
      clear hB9
      go_wp2_with fail
      go_ret
      exact ⟨rfl, HB9.out⟩
--H>
end Go.Proofs.Ytmkapmbmgpnjaaa.Se
