import Derived.Test.YtmgegkgelecopaaGreatDoorRkB
import Derived.Lib.Hide
set_option maxRecDepth 100000
namespace Go.Proofs.YtmgegkgelecopaaGreatDoor.Rk
open Go Go.Ms Go.Pg Go.Rk Go.ChangeShapes Go.WideShapes Go.ChangeAt Go.RowKit Go.Deep

abbrev M64 (n : Int) : Prop := -9223372036854775807 ≤ n ∧ n ≤ 9223372036854775807

theorem natAbs_tmod_lt {x y : Int} (h : x ≠ 0) : (y.tmod x).natAbs < x.natAbs := by
  rw [Int.natAbs_tmod]
  exact Nat.mod_lt _ (by omega)
theorem gcd_next (x y : Int) : Int.gcd y (x.tmod y) = Int.gcd x y := by
  rw [Int.gcd_comm y, gcd_round, Int.gcd_comm]
theorem tmod_M64 {x y : Int} (h : x ≠ 0) (hx : M64 x) : M64 (y.tmod x) := by
  have := natAbs_tmod_lt (x := x) (y := y) h
  exact ⟨by omega, by omega⟩

set_option maxHeartbeats 2000000 in
theorem divisor30 (a b : Int) (ha : M64 a) (hb : M64 b) (w : World) : Calls Tryz.prog 30 #[.int .i64 a, .int .i64 b] w fun e w' => e = .returned (.int .i64 (Int.gcd a b)) ∧ w' = w := by
  go_enter Tryz.func30, Tryz.ntmps30
  go_wp2
  go_loop [0, 1] (fun u v => ∃ x y : Int, u = .int .i64 x ∧ v = .int .i64 y ∧ M64 x ∧ M64 y ∧ Hid (Int.gcd x y = Int.gcd a b)) (fun u _ => (intOf u).natAbs)
  case atStart => exact ⟨a, b, rfl, rfl, ha, hb, rfl⟩
  case round =>
    obtain ⟨x, y, rfl, rfl, hx, hy, HG⟩ := hrel
    by_cases h : x = 0
    · subst h
      obtain ⟨hy1, hy2⟩ := hy
      go_wp2
      all_goals
        go_ret
        refine ⟨?_, rfl⟩
        rw [← HG.out]
        have e : ((Int.gcd 0 y : Nat) : Int) = (y.natAbs : Int) := by rw [Int.gcd_zero_left]
        rw [e]
        first
          | (show Ending.returned (.int .i64 y) = _; have k : y = (y.natAbs : Int) := by omega
             rw [← k])
          | (show Ending.returned (.int .i64 (-y)) = _; have k : -y = (y.natAbs : Int) := by omega
             rw [← k])
    · have h0 : (x == 0) = false := by simpa using h
      have H0 := Lib.hid h
      clear h
      obtain ⟨hy1, hy2⟩ := hy
      obtain ⟨hx1, hx2⟩ := hx
      go_wp2
      go_round
      case rel => exact ⟨y.tmod x, x, rfl, rfl, tmod_M64 H0.out ⟨hx1, hx2⟩, ⟨hx1, hx2⟩, (gcd_round x y).trans HG.out⟩
      case measure => exact natAbs_tmod_lt H0.out

def minI : Int := -9223372036854775808
def frE (n d : Int) : Int := if d = 0 then 1 else if n = minI ∨ d = minI then 3 else 0
def frN (n d : Int) : Int := if frE n d ≠ 0 then 0 else (if d < 0 then -n else n).tdiv (Int.gcd n d)
def frD (n d : Int) : Int := if frE n d ≠ 0 then 0 else (if d < 0 then -d else d).tdiv (Int.gcd n d)

theorem gcd_pos {n d : Int} (h : d ≠ 0) : 0 < ((Int.gcd n d : Nat) : Int) := by
  have := Int.gcd_pos_of_ne_zero_right n h
  omega
theorem gcd_le {n d : Int} (h : d ≠ 0) : ((Int.gcd n d : Nat) : Int) ≤ (d.natAbs : Int) := by
  have : Int.gcd n d ≤ d.natAbs := Nat.gcd_le_right _ (by omega)
  omega
theorem frV_err {n d : Int} (h : frE n d ≠ 0) : frN n d = 0 ∧ frD n d = 0 := ⟨if_pos h, if_pos h⟩
theorem frV_ok {n d : Int} (h : frE n d = 0) : frN n d = (if d < 0 then -n else n).tdiv (Int.gcd n d) ∧ frD n d = (if d < 0 then -d else d).tdiv (Int.gcd n d) := ⟨if_neg (by rw [h]; decide), if_neg (by rw [h]; decide)⟩
theorem neg_quo {n g : Int} (h : M64 n) : wrap64 (-n.tdiv g) = (-n).tdiv g := by
  have : (n.tdiv g).natAbs ≤ n.natAbs := by rw [Int.natAbs_tdiv]; exact Nat.div_le_self _ _
  obtain ⟨h1, h2⟩ := h
  rw [Int.neg_tdiv]
  exact IntWalk.wrap64_in _ ⟨by omega, by omega⟩
theorem zbox (w : World) (k : Nat) : ((w.alloc (.cells #[.int .i64 0, .int .i64 0] 23)).drewN k).cell? ⟨w.heap.size, 0, none⟩ = some (.int .i64 0) ∧ ((w.alloc (.cells #[.int .i64 0, .int .i64 0] 23)).drewN k).cell? ⟨w.heap.size, 1, none⟩ = some (.int .i64 0) ∧
    ((w.alloc (.cells #[.int .i64 0, .int .i64 0] 23)).drewN k).frozen? ⟨w.heap.size, 0, none⟩ = false ∧ ((w.alloc (.cells #[.int .i64 0, .int .i64 0] 23)).drewN k).frozen? ⟨w.heap.size, 1, none⟩ = false ∧ Hid (Below w.heap.size w ((w.alloc (.cells #[.int .i64 0, .int .i64 0] 23)).drewN k)) :=
  ⟨by go_simp, by go_simp, by go_simp, by go_simp, ((Below.refl _ _).alloc (Nat.le_refl _) _).trans ⟨rfl, rfl, rfl, Nat.le_refl _, fun _ _ => rfl⟩⟩
abbrev frV (n d : Int) : Value := .tuple #[.agg #[.int .i64 (frN n d), .int .i64 (frD n d)], .int .i64 (frE n d)]

set_option maxHeartbeats 2000000 in
theorem fraction9 (n d : Int) (hn : I64 n) (hd : I64 d) (w : World) : Calls Tryz.prog 9 #[.int .i64 n, .int .i64 d] w fun e w' => e = .returned (frV n d) ∧ Below w.heap.size w w' := by
--H<
  obtain ⟨hn1, hn2⟩ := hn
  obtain ⟨hd1, hd2⟩ := hd
  by_cases h0 : d = 0
  · subst h0
    go_enter Tryz.func9, Tryz.ntmps9
    go_wp2
    refine bodyPost_ret (v := .tuple #[.agg #[.int .i64 0, .int .i64 0], .int .i64 1]) (by simp [results, Tryz.results9, go_sem]) rfl ⟨?_, (Below.refl _ _).alloc (Nat.le_refl _) _⟩
    have e : frE n 0 = 1 := if_pos rfl
    have k := frV_err (n := n) (d := 0) (by rw [e]; decide)
    show _ = Ending.returned (frV n 0)
    unfold frV
    rw [k.1, k.2, e]
  · have q0 : (d == 0) = false := by simpa using h0
    by_cases h1 : n = minI
    · have e : frE n d = 3 := by unfold frE; rw [if_neg h0, if_pos (Or.inl h1)]
      have E := Lib.hid e
      have q1 : (n == -9223372036854775808) = true := by rw [h1]; rfl
      clear h0 h1 e
      go_enter Tryz.func9, Tryz.ntmps9
      go_wp2
      refine bodyPost_ret (v := .tuple #[.agg #[.int .i64 0, .int .i64 0], .int .i64 3]) (by simp [results, Tryz.results9, go_sem]) rfl ⟨?_, (Below.refl _ _).alloc (Nat.le_refl _) _⟩
      have k := frV_err (n := n) (d := d) (by rw [E.out]; decide)
      show _ = Ending.returned (frV n d)
      unfold frV
      rw [k.1, k.2, E.out]
    · have q1 : (n == -9223372036854775808) = false := by simpa [minI] using h1
      by_cases h2 : d = minI
      · have e : frE n d = 3 := by unfold frE; rw [if_neg h0, if_pos (Or.inr h2)]
        have E := Lib.hid e
        have q2 : (d == -9223372036854775808) = true := by rw [h2]; rfl
        clear h0 h1 h2 e
        go_enter Tryz.func9, Tryz.ntmps9
        go_wp2
        refine bodyPost_ret (v := .tuple #[.agg #[.int .i64 0, .int .i64 0], .int .i64 3]) (by simp [results, Tryz.results9, go_sem]) rfl ⟨?_, (Below.refl _ _).alloc (Nat.le_refl _) _⟩
        have k := frV_err (n := n) (d := d) (by rw [E.out]; decide)
        show _ = Ending.returned (frV n d)
        unfold frV
        rw [k.1, k.2, E.out]
      · have q2 : (d == -9223372036854775808) = false := by simpa [minI] using h2
        have e : frE n d = 0 := by unfold frE; rw [if_neg h0, if_neg (by simp [h1, h2])]
        have E := Lib.hid e
        have mn : M64 n := ⟨by unfold minI at h1; omega, hn2⟩
        have md : M64 d := ⟨by unfold minI at h2; omega, hd2⟩
        have gp := gcd_pos (n := n) h0
        have H0 := Lib.hid h0
        clear h0 h1 h2 e
        obtain ⟨mn1, mn2⟩ := mn
        obtain ⟨md1, md2⟩ := md
        by_cases h3 : d < 0
        · have HG : Hid (((Int.gcd (-n) (-d) : Nat) : Int) = ((Int.gcd n d : Nat) : Int)) := by rw [Int.neg_gcd, Int.gcd_neg]; rfl
          go_enter Tryz.func9, Tryz.ntmps9
          go_wp2_with (first | (go_at_call 30; refine (divisor30 _ _ ⟨by omega, by omega⟩ ⟨by omega, by omega⟩ _).mono ?_; rintro e w' ⟨rfl, rfl⟩) | fail)
          have g0 : ((Int.gcd n d : Nat) : Int) ≠ 0 := by omega
          go_region
          go_wp2_with fail
          refine bodyPost_ret (v := .tuple #[.agg #[.int .i64 (wrap64 (-n.tdiv (Int.gcd n d))), .int .i64 (wrap64 (-d.tdiv (Int.gcd n d)))], .int .i64 0]) (by simp [results, Tryz.results9, go_sem]) rfl ⟨?_, ((Below.refl _ _).alloc (Nat.le_refl _) _).drew⟩
          have k := frV_ok (n := n) (d := d) E.out
          show _ = Ending.returned (frV n d)
          unfold frV
          rw [k.1, k.2, E.out, if_pos h3, if_pos h3, neg_quo ⟨mn1, mn2⟩, neg_quo ⟨md1, md2⟩]
        · go_enter Tryz.func9, Tryz.ntmps9
          go_wp2_with (first | (go_at_call 30; refine (divisor30 _ _ ⟨by omega, by omega⟩ ⟨by omega, by omega⟩ _).mono ?_; rintro e w' ⟨rfl, rfl⟩) | fail)
          have g0 : ((Int.gcd n d : Nat) : Int) ≠ 0 := by omega
          go_region
          go_wp2_with fail
          refine bodyPost_ret (v := .tuple #[.agg #[.int .i64 (n.tdiv (Int.gcd n d)), .int .i64 (d / (Int.gcd n d))], .int .i64 0]) (by simp [results, Tryz.results9, go_sem]) rfl ⟨?_, ((Below.refl _ _).alloc (Nat.le_refl _) _).drew⟩
          have k := frV_ok (n := n) (d := d) E.out
          show _ = Ending.returned (frV n d)
          unfold frV
          rw [k.1, k.2, E.out, if_neg (by omega), if_neg (by omega), Int.tdiv_eq_ediv_of_nonneg (a := d) (by omega)]

--H>
set_option maxHeartbeats 4000000 in
theorem fraction10 (n d : Int) (hn : I64 n) (hd : I64 d) (w : World) : Calls Tryz.prog 10 #[.int .i64 n, .int .i64 d] w fun e w' => e = .returned (frV n d) ∧ Below w.heap.size w w' := by
  obtain ⟨hn1, hn2⟩ := hn
  obtain ⟨hd1, hd2⟩ := hd
  by_cases h0 : d = 0
  · subst h0
    go_enter Tryz.func10, Tryz.ntmps10
    go_wp2
    refine bodyPost_ret (v := .tuple #[.agg #[.int .i64 0, .int .i64 0], .int .i64 1]) (by simp [results, Tryz.results10, go_sem]) rfl ⟨?_, (Below.refl _ _).alloc (Nat.le_refl _) _⟩
    have e : frE n 0 = 1 := if_pos rfl
    have k := frV_err (n := n) (d := 0) (by rw [e]; decide)
    show _ = Ending.returned (frV n 0)
    unfold frV
    rw [k.1, k.2, e]
  · have q0 : (d == 0) = false := by simpa using h0
    by_cases h1 : n = minI
    · have e : frE n d = 3 := by unfold frE; rw [if_neg h0, if_pos (Or.inl h1)]
      have E := Lib.hid e
      have q1 : (n == -9223372036854775808) = true := by rw [h1]; rfl
      clear h0 h1 e
      go_enter Tryz.func10, Tryz.ntmps10
      go_wp2
      refine bodyPost_ret (v := .tuple #[.agg #[.int .i64 0, .int .i64 0], .int .i64 3]) (by simp [results, Tryz.results10, go_sem]) rfl ⟨?_, (Below.refl _ _).alloc (Nat.le_refl _) _⟩
      have k := frV_err (n := n) (d := d) (by rw [E.out]; decide)
      show _ = Ending.returned (frV n d)
      unfold frV
      rw [k.1, k.2, E.out]
    · have q1 : (n == -9223372036854775808) = false := by simpa [minI] using h1
      by_cases h2 : d = minI
      · have e : frE n d = 3 := by unfold frE; rw [if_neg h0, if_pos (Or.inr h2)]
        have E := Lib.hid e
        have q2 : (d == -9223372036854775808) = true := by rw [h2]; rfl
        clear h0 h1 h2 e
        go_enter Tryz.func10, Tryz.ntmps10
        go_wp2
        refine bodyPost_ret (v := .tuple #[.agg #[.int .i64 0, .int .i64 0], .int .i64 3]) (by simp [results, Tryz.results10, go_sem]) rfl ⟨?_, (Below.refl _ _).alloc (Nat.le_refl _) _⟩
        have k := frV_err (n := n) (d := d) (by rw [E.out]; decide)
        show _ = Ending.returned (frV n d)
        unfold frV
        rw [k.1, k.2, E.out]
      · have q2 : (d == -9223372036854775808) = false := by simpa [minI] using h2
        have e : frE n d = 0 := by unfold frE; rw [if_neg h0, if_neg (by simp [h1, h2])]
        have E := Lib.hid e
        have mn : M64 n := ⟨by unfold minI at h1; omega, hn2⟩
        have md : M64 d := ⟨by unfold minI at h2; omega, hd2⟩
        have gp := gcd_pos (n := n) h0
        have H0 := Lib.hid h0
        clear h0 h1 h2 e
        obtain ⟨mn1, mn2⟩ := mn
        obtain ⟨md1, md2⟩ := md
        go_enter Tryz.func10, Tryz.ntmps10
        go_wp2
        all_goals
          go_loopw [6, 7] (fun u v wr => ∃ x y : Int, u = .int .i64 x ∧ v = .int .i64 y ∧ (0 ≤ x ∧ x ≤ 9223372036854775807) ∧ (0 ≤ y ∧ y ≤ 9223372036854775807) ∧ Hid (Int.gcd x y = Int.gcd n d) ∧ ∃ k, wr = (w.alloc (.cells #[.int .i64 0, .int .i64 0] 23)).drewN k) (fun _ v _ => (intOf v).natAbs)
          case atStart => exact ⟨_, _, rfl, rfl, ⟨by omega, by omega⟩, ⟨by omega, by omega⟩, by show Int.gcd _ _ = _; simp only [Int.neg_gcd, Int.gcd_neg], 0, rfl⟩
          case round =>
            obtain ⟨x, y, rfl, rfl, ⟨hx1, hx2⟩, ⟨hy1, hy2⟩, HG, k, rfl⟩ := hrel
            obtain ⟨c0, c1, f0, f1, HB⟩ := zbox w k
            have hz : ((w.alloc (.cells #[.int .i64 0, .int .i64 0] 23)).drewN k).drew = (w.alloc (.cells #[.int .i64 0, .int .i64 0] 23)).drewN (k + 1) := rfl
            have HZ := Lib.hid hz
            clear hz
            generalize (w.alloc (.cells #[.int .i64 0, .int .i64 0] 23)).drewN k = w1 at *
            by_cases hy : y = 0
            · subst hy
              have hg : x = ((Int.gcd n d : Nat) : Int) := by
                rw [← HG.out, Int.gcd_zero_right]
                omega
              subst hg
              have g0 : ((Int.gcd n d : Nat) : Int) ≠ 0 := by omega
              go_wp2_with fail
              go_region
              go_wp2_with fail
              have HB2 : Below w.heap.size w w1 := HB.out
              have k := frV_ok (n := n) (d := d) E.out
              first
                | (have hg : d < 0 := by omega
                   refine bodyPost_ret (v := .tuple #[.agg #[.int .i64 (wrap64 (-n.tdiv (Int.gcd n d))), .int .i64 (wrap64 (-d.tdiv (Int.gcd n d)))], .int .i64 0]) (by simp [results, Tryz.results10, go_sem, c0, c1]) rfl ⟨?_, (((HB2.setCell (Nat.le_refl _) _).setCell (Nat.le_refl _) _).drew)⟩
                   show _ = Ending.returned (frV n d)
                   unfold frV
                   rw [k.1, k.2, E.out, if_pos (by assumption), if_pos (by assumption), neg_quo ⟨mn1, mn2⟩, neg_quo ⟨md1, md2⟩])
                | (have hg : 0 ≤ n := by omega
                   refine bodyPost_ret (v := .tuple #[.agg #[.int .i64 (n / (Int.gcd n d)), .int .i64 (d / (Int.gcd n d))], .int .i64 0]) (by simp [results, Tryz.results10, go_sem, c0, c1]) rfl ⟨?_, (((HB2.setCell (Nat.le_refl _) _).setCell (Nat.le_refl _) _).drew)⟩
                   show _ = Ending.returned (frV n d)
                   unfold frV
                   rw [k.1, k.2, E.out, if_neg (by omega), if_neg (by omega), Int.tdiv_eq_ediv_of_nonneg (a := d) (by omega), Int.tdiv_eq_ediv_of_nonneg (a := n) (by omega)])
                | (refine bodyPost_ret (v := .tuple #[.agg #[.int .i64 (n.tdiv (Int.gcd n d)), .int .i64 (d / (Int.gcd n d))], .int .i64 0]) (by simp [results, Tryz.results10, go_sem, c0, c1]) rfl ⟨?_, (((HB2.setCell (Nat.le_refl _) _).setCell (Nat.le_refl _) _).drew)⟩
                   show _ = Ending.returned (frV n d)
                   unfold frV
                   rw [k.1, k.2, E.out, if_neg (by omega), if_neg (by omega), Int.tdiv_eq_ediv_of_nonneg (a := d) (by omega)])
            · have hy0 : (y == 0) = false := by simpa using hy
              have H9 := Lib.hid hy
              have HR := Lib.hid (gcd_next x y)
              have hp : 0 < y := by omega
              have hne : y ≠ 0 := hy
              clear hy
              go_wp2_with fail
              go_region
              go_roundw
              case rel =>
                have m1 := Int.emod_nonneg x hne
                have m2 := Int.emod_lt_of_pos x hp
                have e : Int.gcd y (x % y) = Int.gcd n d := by
                  rw [← Int.tmod_eq_emod_of_nonneg hx1]
                  exact HR.out.trans HG.out
                exact ⟨_, _, _, _, _, _, _, _, ⟨y, x % y, rfl, rfl, ⟨hy1, hy2⟩, ⟨m1, by omega⟩, e, k + 1, HZ.out⟩, rfl⟩
              case measure =>
                have m1 := Int.emod_nonneg x hne
                have m2 := Int.emod_lt_of_pos x hp
                show (x % y).natAbs < y.natAbs
                omega
end Go.Proofs.YtmgegkgelecopaaGreatDoor.Rk
