import Derived.Test.YtdpgcoicbagflaaBiU
set_option maxRecDepth 100000
set_option linter.unusedSimpArgs false
set_option linter.unusedVariables false
namespace Go.Proofs.Ytdpgcoicbagflaa.Bi
open Go Go.Ms Go.Pg Go.Bi Go.ChangeShapes Go.WideShapes Go.ChangeAt Go.RowKit Go.Deep

def Runs : Prop := ∀ w : World, Calls Try.prog 6 #[] w fun e w' => e = .returned (.bool true) ∧ Below w.heap.size w w'
def Yes (f : FuncId) (w : World) (args : Array Value) : Prop := Calls Try.prog f args w fun e w' => e = .returned (.bool true) ∧ Below w.heap.size w w'

structure Quest where
  d : Bool
  a : List Int
  k : List Int
  x : Int
def Holds (w : World) (q : Quest) (d : Bool) (a k : Value) (x : Int) : Prop := d = q.d ∧ IntsW w a q.a ∧ IntsW w k q.k ∧ x = q.x
def questR : Res → Quest
  | .ask v => ⟨false, upTo (among [v]) 256, [], 0⟩
  | .bad => ⟨false, [], [], 7⟩
  | .fin lo hi left => if left = [] then ⟨true, [], [(lo : Int), (hi : Int)], 0⟩ else ⟨false, [], [], 8⟩
theorem holds_old {w w' : World} {q : Quest} {d : Bool} {a k : Value} {x : Int} (h : Holds w q d a k x) (hB : Below w.heap.size w w') : Holds w' q d a k x := ⟨h.1, ints_below h.2.1 hB, ints_below h.2.2.1 hB, h.2.2.2⟩
def questOf (n : Int) (res : Res) : Quest :=
  if n < 2 then ⟨false, [], [], 1⟩ else if 256 < n then ⟨false, [], [], 3⟩ else questR res
theorem outB_quest {B : Nat} {w' : World} {n z : Int} {l : List Int} {e : Ending} (h : OutB B w' n z l e) : ∃ res, (2 ≤ n → n ≤ 256 → Bis (tries z) n.toNat l res) ∧ ∃ d oa na ca ok nk ck x, e = .returned (.tuple #[questV d (.slice oa na ca) (.slice ok nk ck) nilV, .int .i64 x]) ∧ Holds w' (questOf n res) d (.slice oa na ca) (.slice ok nk ck) x := by
  unfold OutB at h
  by_cases c1 : n < 2
  · rw [if_pos c1] at h
    refine ⟨.bad, fun h2 => by omega, _, _, _, _, _, _, _, _, h, ?_⟩
    rw [questOf, if_pos c1]
    exact ⟨rfl, ints_nil _, ints_nil _, rfl⟩
  · rw [if_neg c1] at h
    by_cases c2 : 256 < n
    · rw [if_pos c2] at h
      refine ⟨.bad, fun _ h2 => by omega, _, _, _, _, _, _, _, _, h, ?_⟩
      rw [questOf, if_neg c1, if_pos c2]
      exact ⟨rfl, ints_nil _, ints_nil _, rfl⟩
    · rw [if_neg c2] at h
      obtain ⟨res, hb, ho⟩ := h
      refine ⟨res, fun _ _ => hb, ?_⟩
      rw [questOf, if_neg c1, if_neg c2]
      cases res with
      | ask v =>
        obtain ⟨s, rfl, hO⟩ := ho
        have hi := ints_own hO (by have := upTo_length (among [v]) 256; omega)
        obtain ⟨oa, cap, rfl⟩ := Go.Il.Own.form hO
        exact ⟨_, _, _, _, _, _, _, _, rfl, rfl, hi, ints_nil _, rfl⟩
      | bad => exact ⟨_, _, _, _, _, _, _, _, ho, rfl, ints_nil _, ints_nil _, rfl⟩
      | fin lo hi left =>
        rw [Out] at ho
        by_cases hl : left = []
        · rw [if_pos hl] at ho
          obtain ⟨b, rfl, hh, -⟩ := ho
          rw [questR]
          rw [if_pos hl]
          exact ⟨_, _, _, _, _, _, _, _, rfl, rfl, ints_nil _, ints_two hh, rfl⟩
        · rw [if_neg hl] at ho
          rw [questR]
          rw [if_neg hl]
          exact ⟨_, _, _, _, _, _, _, _, ho, rfl, ints_nil _, ints_nil _, rfl⟩
theorem questOf_one {n z : Int} {l : List Int} {r s : Res} (h : 2 ≤ n → n ≤ 256 → Bis (tries z) n.toNat l r) (k : 2 ≤ n → n ≤ 256 → Bis (tries z) n.toNat l s) : questOf n r = questOf n s := by
  by_cases c1 : n < 2
  · simp [questOf, c1]
  · by_cases c2 : 256 < n
    · simp [questOf, c1, c2]
    · rw [(h (by omega) (by omega)).one (k (by omega) (by omega))]

set_option maxHeartbeats 4000000 in
theorem lawLong {w : World} {n z : Int} {oa : Option Addr} {len cap : Nat} (hl : 200 < len) (hA : Runs) : Yes 3 w #[.int .i64 n, .int .i64 z, .slice oa len cap] := by
  have t : decide ((200 : Int) < (len : Int)) = true := decide_eq_true (by omega)
  have t2 : decide (200 < len) = true := decide_eq_true hl
  clear hl
  unfold Yes
  unfold Runs at hA
  go_enter Try.func3, Try.ntmps3
  go_wp2_with fail
  (with_reducible refine (hA _).mono ?_)
  rintro e w' ⟨rfl, hB⟩
  go_wp2_with fail
  go_ret
  exact ⟨rfl, hB⟩

set_option maxHeartbeats 8000000 in
theorem lawBis {w : World} {n z : Int} {an : Value} {l : List Int} (h : Vs w w.heap.size an l) (hl : l.length ≤ 200) (hA : Runs) : Yes 3 w #[.int .i64 n, .int .i64 z, an] := by
  have HV := hide h
  have HL := hide hl
  have hRuns := hide hA
  obtain ⟨oa, cap, rfl, -, -, -⟩ := h
  have t : decide ((200 : Int) < (l.length : Int)) = false := decide_eq_false (by omega)
  have t2 : decide (200 < l.length) = false := decide_eq_false (by omega)
  clear hl hA
  unfold Yes
  go_enter Try.func3, Try.ntmps3
  go_wp2_with fail
  (with_reducible refine (bisectProg HV.out (by have := HL.out; omega)).mono ?_)
  rintro e w1 ⟨ho, hB1⟩
  obtain ⟨r1, hb1, d1, oa1, na1, ca1, ok1, nk1, ck1, x1, rfl, hh1⟩ := outB_quest ho
  have HB1 := hide hB1
  have HH1 := hide hh1
  have HBIS1 := hide hb1
  clear ho hB1 hh1 hb1
  go_wp2_with fail
  have hA1 := (Below.refl w1.heap.size w1).alloc (Nat.le_refl _) (boxQ d1 (.slice oa1 na1 ca1) (.slice ok1 nk1 ck1) nilV)
  have HB2 := hide (HB1.out.trans (hA1.mono HB1.out.size))
  have HQ2 := hide (new_block w1 (boxQ d1 (.slice oa1 na1 ca1) (.slice ok1 nk1 ck1) nilV))
  have HH2 := hide (holds_old HH1.out hA1)
  have HV2 := hide (vs_self HV.out HB2.out)
  clear hA1 HH1
  generalize w1.alloc (boxQ d1 (.slice oa1 na1 ca1) (.slice ok1 nk1 ck1) nilV) = W at *
  (with_reducible refine (bisectRef HV2.out (by have := HL.out; omega)).mono ?_)
  rintro e w2 ⟨ho, hB3⟩
  obtain ⟨r2, hb2, d2, oa2, na2, ca2, ok2, nk2, ck2, x2, rfl, hh3⟩ := outB_quest ho
  have HQ3 := hide ((hB3.block _ (block_lt HQ2.out)).trans HQ2.out)
  have HH3 := hide (holds_old HH2.out hB3)
  have HB3 := hide (HB2.out.trans (hB3.mono HB2.out.size))
  have HK3 : Hid (Holds w2 (questOf n r1) d2 (Value.slice oa2 na2 ca2) (Value.slice ok2 nk2 ck2) x2) := hide ((questOf_one HBIS1.out hb2) ▸ hh3)
  clear ho hB3 hh3 hb2 HBIS1 HQ2 HH2 HB2 HB1 HV HV2
  obtain ⟨rfl, -, -, rfl⟩ : _ ∧ _ ∧ _ ∧ _ := id ⟨HH3.out.1, trivial, trivial, HH3.out.2.2.2⟩
  obtain ⟨rfl, -, -, rfl⟩ : _ ∧ _ ∧ _ ∧ _ := id ⟨HK3.out.1, trivial, trivial, HK3.out.2.2.2⟩
  have hA3 := (Below.refl w2.heap.size w2).alloc (Nat.le_refl _) (boxQ (questOf n r1).d (.slice oa2 na2 ca2) (.slice ok2 nk2 ck2) nilV)
  have HB4 := hide (HB3.out.trans (hA3.mono HB3.out.size))
  have HQ4 := hide (old_block HQ3.out (boxQ (questOf n r1).d (.slice oa2 na2 ca2) (.slice ok2 nk2 ck2) nilV))
  have HR4 := hide (new_block w2 (boxQ (questOf n r1).d (.slice oa2 na2 ca2) (.slice ok2 nk2 ck2) nilV))
  have hh4 := holds_old HH3.out hA3
  have hk4 := holds_old HK3.out hA3
  clear hA3 HH3 HB3 HK3 HQ3
  obtain ⟨-, i1, i2, -⟩ := hh4
  obtain ⟨-, j1, j2, -⟩ := hk4
  have I1 := hide i1
  have I2 := hide i2
  have J1 := hide j1
  have J2 := hide j2
  clear i1 i2 j1 j2
  obtain ⟨q0, q1, q2, q3⟩ := q_cells HQ4.out
  obtain ⟨r0, r1', r2', r3⟩ := q_cells HR4.out
  have hxx : ((questOf n r1).x == (questOf n r1).x) = true := by simp
  generalize (questOf n r1).d = dd at *
  generalize (questOf n r1).x = xx at *
  go_wp2_with fail
  generalize w2.alloc (boxQ dd (.slice oa2 na2 ca2) (.slice ok2 nk2 ck2) nilV) = X at *
  (with_reducible refine (sameQuest I1.out I2.out (ints_nil X) J1.out J2.out (ints_nil X)).mono ?_)
  rintro e w5 ⟨rfl, hB5⟩
  have HB5 := hide (HB4.out.trans (hB5.mono HB4.out.size))
  have hrn := hRuns.out
  unfold Runs at hrn
  clear hB5 q0 q1 q2 q3 r0 r1' r2' r3
  go_wp2_with fail
  (with_reducible refine (hrn _).mono ?_)
  rintro e w6 ⟨rfl, hB6⟩
  have HB6 := hide (HB5.out.trans (hB6.mono HB5.out.size))
  clear hB6
  go_wp2_with fail
  go_ret
  exact ⟨rfl, HB6.out⟩
end Go.Proofs.Ytdpgcoicbagflaa.Bi
