import Derived.Test.YtmgegkgelecopaaGreatDoorRkB
import Derived.Deep.RegionWith
import Derived.Deep.DeepCutAuto
import Derived.Lib.Hide
set_option maxRecDepth 100000
namespace Go.Proofs.YtmgegkgelecopaaGreatDoor.Rk
open Go Go.Ms Go.Pg Go.Rk Go.ChangeShapes Go.WideShapes Go.ChangeAt Go.RowKit Go.Deep

abbrev rat (n d : Int) : Value := .agg #[.int .i64 n, .int .i64 d]

structure Box2 (w w' : World) (b c : Nat) (n d m e : Int) : Prop where
  lb : w.heap.size ≤ b
  lc : w.heap.size ≤ c
  ub : b < w'.heap.size
  uc : c < w'.heap.size
  n : w'.cell? ⟨b, 0, none⟩ = some (.int .i64 n)
  d : w'.cell? ⟨b, 1, none⟩ = some (.int .i64 d)
  m : w'.cell? ⟨c, 0, none⟩ = some (.int .i64 m)
  e : w'.cell? ⟨c, 1, none⟩ = some (.int .i64 e)
  fn : w'.frozen? ⟨b, 0, none⟩ = false
  fd : w'.frozen? ⟨b, 1, none⟩ = false
  fm : w'.frozen? ⟨c, 0, none⟩ = false
  fe : w'.frozen? ⟨c, 1, none⟩ = false
  ne : b ≠ c
  ne' : c ≠ b
  below : Below w.heap.size w w'

theorem Box2.step {w w' w'' : World} {b c : Nat} {n d m e : Int} (h : Box2 w w' b c n d m e) (k : Below w'.heap.size w' w'') : Box2 w w'' b c n d m e where
  lb := h.lb
  lc := h.lc
  ub := Nat.lt_of_lt_of_le h.ub k.size
  uc := Nat.lt_of_lt_of_le h.uc k.size
  n := (k.cell (p := ⟨b, 0, none⟩) h.ub).trans h.n
  d := (k.cell (p := ⟨b, 1, none⟩) h.ub).trans h.d
  m := (k.cell (p := ⟨c, 0, none⟩) h.uc).trans h.m
  e := (k.cell (p := ⟨c, 1, none⟩) h.uc).trans h.e
  fn := (k.frozen (p := ⟨b, 0, none⟩) h.ub).trans h.fn
  fd := (k.frozen (p := ⟨b, 1, none⟩) h.ub).trans h.fd
  fm := (k.frozen (p := ⟨c, 0, none⟩) h.uc).trans h.fm
  fe := (k.frozen (p := ⟨c, 1, none⟩) h.uc).trans h.fe
  ne := h.ne
  ne' := h.ne'
  below := h.below.trans (k.mono h.below.size)

theorem Box2.drew {w w' : World} {b c : Nat} {n d m e : Int} (h : Box2 w w' b c n d m e) : Box2 w w'.drew b c n d m e := h.step ⟨rfl, rfl, rfl, Nat.le_refl _, fun _ _ => rfl⟩

theorem Box2.drewN {w w' : World} {b c : Nat} {n d m e : Int} (h : Box2 w w' b c n d m e) (k : Nat) : Box2 w (w'.drewN k) b c n d m e := h.step ⟨rfl, rfl, rfl, Nat.le_refl _, fun _ _ => rfl⟩

theorem Box2.new (w : World) (n d m e : Int) (t : TypeId) : Box2 w ((w.alloc (.cells #[.int .i64 n, .int .i64 d] t)).alloc (.cells #[.int .i64 m, .int .i64 e] t)) w.heap.size (w.heap.size + 1) n d m e where
  lb := Nat.le_refl _
  lc := Nat.le_succ _
  ub := by
    simp
    omega
  uc := by simp
  n := by go_simp
  d := by go_simp
  m := by go_simp
  e := by go_simp
  fn := by go_simp
  fd := by go_simp
  fm := by go_simp
  fe := by go_simp
  ne := by omega
  ne' := by omega
  below := two _ _ _

theorem Box2.put {w w' : World} {b c : Nat} {n d m e : Int} (h : Box2 w w' b c n d m e) (n' d' m' e' : Int) : Hid (Box2 w ((((w'.setCell ⟨b, 0, none⟩ (.int .i64 n')).setCell ⟨b, 1, none⟩ (.int .i64 d')).setCell ⟨c, 0, none⟩ (.int .i64 m')).setCell ⟨c, 1, none⟩ (.int .i64 e')) b c n' d' m' e') := by
  obtain ⟨h1, h2, h3, h4, n0, d0, m0, e0, f1, f2, f3, f4, g1, g2, hB⟩ := h
  exact {
    lb := h1, lc := h2, ub := by simpa using h3, uc := by simpa using h4
    n := by go_simp
    d := by go_simp
    m := by go_simp
    e := by go_simp
    fn := by go_simp
    fd := by go_simp
    fm := by go_simp
    fe := by go_simp
    ne := g1, ne' := g2
    below := (((hB.setCell h1 _).setCell h1 _).setCell h2 _).setCell h2 _ }

theorem orZeroK {w w' : World} {b c : Nat} {n d m e : Int} (h : Box2 w w' b c n d m e) (x y : Int) : Calls Tryz.prog 31 #[rat x y] w' fun r w'' => r = .returned (rat (qn x y) (qd y)) ∧ Box2 w w'' b c n d m e :=
  (orZero x y w').mono fun _ _ ⟨e, k⟩ => ⟨e, h.step k⟩

theorem hide {p : Prop} (h : p) : Hid p := h
theorem qn_i64 {n d : Int} (h : I64 n) : I64 (qn n d) := by
  unfold qn
  split
  · exact ⟨by omega, by omega⟩
  · exact h
theorem wrap_sign {s x : Int} (h : -1 ≤ s ∧ s ≤ 1) (g : -1 ≤ x ∧ x ≤ 1) : wrap64 (s * x) = s * x := by
  have hs : s = -1 ∨ s = 0 ∨ s = 1 := by omega
  have hx : x = -1 ∨ x = 0 ∨ x = 1 := by omega
  rcases hs with rfl | rfl | rfl <;> rcases hx with rfl | rfl | rfl <;> exact IntWalk.wrap64_in _ ⟨by decide, by decide⟩
theorem cmpW_range (a b c d : Int) : -1 ≤ orI (cmpI a b) (cmpI c d) ∧ orI (cmpI a b) (cmpI c d) ≤ 1 := by
  unfold orI
  split
  · exact cmpI_range _ _
  · exact cmpI_range _ _
theorem qd_i64 {d : Int} (h : I64 d) : 0 < qd d ∧ qd d ≤ 9223372036854775807 := by
  obtain ⟨h1, h2⟩ := h
  unfold qd
  split <;> omega
def hiW (x : Nat) (y : Int) : Int := ((x * y.toNat / 18446744073709551616 : Nat) : Int)
def loW (x : Nat) (y : Int) : Int := ((x * y.toNat % 18446744073709551616 : Nat) : Int)
theorem words (x z : Nat) (y u : Int) : orI (cmpI (hiW x y) (hiW z u)) (cmpI (loW x y) (loW z u)) = cmpI ((x * y.toNat : Nat) : Int) ((z * u.toNat : Nat) : Int) := cmpI_words _ _
theorem new0 (w : World) (x y : Value) (t : TypeId) : (w.alloc (.cells #[x, y] t)).cell? ⟨w.heap.size, 0, none⟩ = some x := by go_simp
theorem new1 (w : World) (x y : Value) (t : TypeId) : (w.alloc (.cells #[x, y] t)).cell? ⟨w.heap.size, 1, none⟩ = some y := by go_simp
theorem mul34' (x : Nat) (y : Int) (hx : x < 18446744073709551616) (h0 : 0 < y) (hy : y ≤ 9223372036854775807) (w : World) :
    Calls Tryz.prog 34 #[.int .u64 x, .int .u64 y] w fun e w' => e = .returned (.tuple #[.int .u64 (hiW x y), .int .u64 (loW x y)]) ∧ w' = w := by
  have h := mul34 x y.toNat hx (by omega) w
  have e : ((y.toNat : Nat) : Int) = y := by omega
  rw [e] at h
  exact h
theorem sz_lt {n : Int} (h : I64 n) : sz n < 18446744073709551616 := by
  obtain ⟨h1, h2⟩ := h
  unfold sz
  omega

set_option maxHeartbeats 2000000 in
theorem compare11 (n d m e : Int) (hn : I64 n) (hd : I64 d) (hm : I64 m) (he : I64 e) (w : World) :
    Calls Tryz.prog 11 #[rat n d, rat m e] w fun x w' => x = .returned (.int .i64 (cmpR n d m e)) ∧ Below w.heap.size w w' := by
  have hB := Box2.new w n d m e 23
  go_enter Tryz.func11, Tryz.ntmps11
  go_upto_region 1 with (fail)
  have hD := hB.drew
  generalize (w.alloc (.cells #[.int .i64 n, .int .i64 d] 23)).alloc (.cells #[.int .i64 m, .int .i64 e] 23) = w0 at *
  generalize w.heap.size + 1 = c at *
  have HB := Lib.hid hB
  obtain ⟨_, _, _, _, n0, d0, m0, e0, f1, f2, f3, f4, g1, g2, _⟩ := hB
  go_cut [] (fun wx => Hid (Box2 w wx w.heap.size c (qn n d) (qd d) (qn m e) (qd e)))
  case first =>
--H<
    go_region_with (go_at_call 31; refine (orZeroK (by assumption) _ _).mono ?_; rintro e w1 ⟨rfl, hD⟩; obtain ⟨_, _, _, _, _, _, _, _, _, _, _, _, _, _, _⟩ := id hD)
    all_goals
      go_wp2_with fail
      go_meet
      exact Box2.put (by assumption) _ _ _ _
--H>
  case rest =>
    rename_i wx
    have HX := hcut
    clear hD HB n0 d0 m0 e0 f1 f2 f3 f4 g1 g2
    obtain ⟨h1, h2, h3, h4, n1, d1, m1, e1, _, _, _, _, _, _, _⟩ := hcut
    have IN : Hid (I64 (qn n d)) := qn_i64 hn
    have IM : Hid (I64 (qn m e)) := qn_i64 hm
    have ID := qd_i64 hd
    have IE := qd_i64 he
    have HR : Hid (cmpR n d m e = cmpI (qn n d * qd e) (qn m e * qd d)) := rfl
    generalize qn n d = N at *
    generalize qn m e = M at *
    generalize qd d = D at *
    generalize qd e = E at *
    clear hn hd hm he
    go_wp2_with fail
    go_quiet (first
      | (go_at_call 33; exact Calls.quiet_of_same (sign33 _ _))
      | (go_at_call 32; exact Calls.quiet_of_same (cmp32 _ _ _)))
    obtain ⟨ID1, ID2⟩ := ID
    obtain ⟨IE1, IE2⟩ := IE
    by_cases hs : cmpI (cmpI N 0) (cmpI M 0) = 0
    · have HS := hide hs
      have HC := hide (cmpI_code (n := N) (m := M) ID1 IE1)
      have q1 : (cmpI (cmpI N 0) (cmpI M 0) != 0) = false := by simp [hs]
      clear hs
      go_wp2_with fail
      have HX2 : Hid (Box2 w (wc.drewN nq) w.heap.size c N D M E) := Box2.drewN HX.out nq
      clear h1 h2 h3 h4 n1 m1 d1 e1 HX
      generalize wc.drewN nq = wd at *
      obtain ⟨h1, h2, h3, h4, n1, d1, m1, e1, _, _, _, _, _, _, _⟩ := id HX2.out
      go_big_quiet (first
        | (go_at_call 35; exact Calls.quiet_of_same (size35 _ IN.out _))
        | (go_at_call 34; exact Calls.quiet_of_same (mul34' _ _ (sz_lt IN.out) IE1 IE2 _)))
      go_wp2_with fail
      have HX3 : Hid (Box2 w (wd.drewN nq) w.heap.size c N D M E) := Box2.drewN HX2.out nq
      clear h1 h2 h3 h4 n1 m1 d1 e1 HX2
      generalize wd.drewN nq = wf at *
      obtain ⟨h1, h2, h3, h4, n1, d1, m1, e1, _, _, _, _, _, _, _⟩ := id HX3.out
      go_big_quiet (first
        | (go_at_call 35; exact Calls.quiet_of_same (size35 _ IM.out _))
        | (go_at_call 34; exact Calls.quiet_of_same (mul34' _ _ (sz_lt IM.out) ID1 ID2 _)))
      go_wp2_with (first
        | (go_at_call 33; refine (sign33 _ _).mono ?_; rintro e w' ⟨rfl, rfl⟩)
        | (go_at_call 37; refine (cmp37 _ _ _).mono ?_; rintro e w' ⟨rfl, rfl⟩)
        | (go_at_call 36; refine (or36 (cmpI (hiW (sz N) E) (hiW (sz M) D)) (cmpI (loW (sz N) E) (loW (sz M) D)) wf.heap.size _ (new0 (wf.drewN nq) _ _ _) (new1 (wf.drewN nq) _ _ _)).mono ?_; rintro e w' ⟨rfl, rfl⟩)
        | fail)
      go_ret
      refine ⟨?_, HX3.out.below.trans ((⟨rfl, rfl, rfl, Nat.le_refl _, fun _ _ => rfl⟩ : Below w.heap.size wf (wf.drewN nq)).alloc (Nat.le_of_lt h3) _)⟩
      show Ending.returned (.int .i64 (wrap64 _)) = _
      rw [wrap_sign (cmpI_range _ _) (cmpW_range _ _ _ _), words, HR.out, ← HC.out, if_neg (fun h => h HS.out)]
    · have HC := hide (cmpI_code (n := N) (m := M) ID1 IE1)
      have HS := hide hs
      have q1 : (cmpI (cmpI N 0) (cmpI M 0) != 0) = true := by simp [hs]
      clear hs
      go_wp2_with fail
      go_ret
      refine ⟨?_, (HX.out.below).trans ⟨rfl, rfl, rfl, Nat.le_refl _, fun _ _ => rfl⟩⟩
      rw [HR.out, ← HC.out, if_pos HS.out]
      rfl
end Go.Proofs.YtmgegkgelecopaaGreatDoor.Rk
