import Derived.Test.YtmgegkgelecopaaGreatDoorRkE
set_option maxRecDepth 100000
namespace Go.Proofs.YtmgegkgelecopaaGreatDoor.Rk
open Go Go.Ms Go.Pg Go.Rk Go.ChangeShapes Go.WideShapes Go.ChangeAt Go.RowKit Go.Deep

theorem size38 (n : Int) (h : I64 n) (w : World) : Calls Tryz.prog 38 #[.int .i64 n] w fun e w' => e = .returned (.int .u64 (sz n : Int)) ∧ w' = w := by
  obtain ⟨h1, h2⟩ := h
  go_enter Tryz.func38, Tryz.ntmps38
  go_wp2
  · go_ret
    refine ⟨?_, rfl⟩
    have e : IntKind.u64.wrap (-IntKind.u64.wrap n) = (sz n : Int) := by
      rw [IntKind.wrap_u64, IntKind.wrap_u64]; unfold sz; omega
    show Ending.returned (Value.int IntKind.u64 (IntKind.u64.wrap (-IntKind.u64.wrap n))) = _
    rw [e]
  · go_ret
    refine ⟨?_, rfl⟩
    have e : n = (sz n : Int) := by unfold sz; omega
    show Ending.returned (Value.int IntKind.u64 n) = _
    rw [← e]

theorem out_pos {N M D E : Int} (hN : 0 ≤ N) (hM : 0 ≤ M) (hD : 0 < D) (hE : 0 < E) : cmpI (N * E) (M * D) = orI (cmpI (hiW (sz N) E) (hiW (sz M) D)) (cmpI (loW (sz N) E) (loW (sz M) D)) := by
  rw [words, natAbs_mul_pos hE, natAbs_mul_pos hD, if_neg (by omega), if_neg (by omega)]
theorem out_neg {N M D E : Int} (hN : N < 0) (hM : M < 0) (hD : 0 < D) (hE : 0 < E) : cmpI (N * E) (M * D) = - orI (cmpI (hiW (sz N) E) (hiW (sz M) D)) (cmpI (loW (sz N) E) (loW (sz M) D)) := by
  rw [words, natAbs_mul_pos hE, natAbs_mul_pos hD, if_pos hN, if_pos hM]
  generalize N * E = u
  generalize M * D = v
  rcases cmpI_cases u v with ⟨g, f⟩ | ⟨g, f⟩ | ⟨g, f⟩ <;> rcases cmpI_cases (-u) (-v) with ⟨k, l⟩ | ⟨k, l⟩ | ⟨k, l⟩ <;> rw [f, l] <;> omega

theorem cmpI_neg {a : Int} (h : a < 0) : cmpI a 0 = -1 := if_pos h
theorem sign_ne1 {N M : Int} (h : N < 0) (g : 0 ≤ M) : cmpI N 0 ≠ cmpI M 0 := by
  rw [cmpI_neg h]
  rcases cmpI_cases M 0 with ⟨_, e⟩ | ⟨_, e⟩ | ⟨_, e⟩ <;> omega
theorem sign_ne2 {N M : Int} (h : 0 ≤ N) (g : M < 0) : cmpI N 0 ≠ cmpI M 0 := fun e => sign_ne1 g h e.symm
theorem ret_sign1 {N M : Int} (h : N < 0) (g : 0 ≤ M) : Ending.returned (.int .i64 (-1)) = .returned (.int .i64 (cmpI (cmpI N 0) (cmpI M 0))) := by
  rw [cmpI_neg h]
  rcases cmpI_cases M 0 with ⟨_, e⟩ | ⟨_, e⟩ | ⟨_, e⟩
  · omega
  · rw [e]; rfl
  · rw [e]; rfl
theorem ret_sign2 {N M : Int} (h : 0 ≤ N) (g : M < 0) : Ending.returned (.int .i64 1) = .returned (.int .i64 (cmpI (cmpI N 0) (cmpI M 0))) := by
  rw [cmpI_neg g]
  rcases cmpI_cases N 0 with ⟨_, e⟩ | ⟨_, e⟩ | ⟨_, e⟩
  · omega
  · rw [e]; rfl
  · rw [e]; rfl
theorem q_neg {n d : Int} (h : d ≤ 0) : qn n d = 0 ∧ qd d = 1 := ⟨if_pos h, if_pos h⟩
theorem q_pos {n d : Int} (h : 0 < d) : qn n d = n ∧ qd d = d := ⟨if_neg (by omega), if_neg (by omega)⟩
theorem Box2.put1 {w w' : World} {b c : Nat} {n d m e : Int} (h : Box2 w w' b c n d m e) (n' d' : Int) : Hid (Box2 w ((w'.setCell ⟨b, 0, none⟩ (.int .i64 n')).setCell ⟨b, 1, none⟩ (.int .i64 d')) b c n' d' m e) := by
  obtain ⟨h1, h2, h3, h4, n0, d0, m0, e0, f1, f2, f3, f4, g1, g2, hB⟩ := h
  exact {
    lb := h1, lc := h2, ub := by simpa using h3, uc := by simpa using h4
    n := by go_simp
    d := by go_simp
    m := by go_simp
    e := by go_simp
    fn := by go_simp
    fd := by go_simp
    fm := by go_simp
    fe := by go_simp
    ne := g1, ne' := g2
    below := (hB.setCell h1 _).setCell h1 _ }
theorem Box2.put2 {w w' : World} {b c : Nat} {n d m e : Int} (h : Box2 w w' b c n d m e) (m' e' : Int) : Hid (Box2 w ((w'.setCell ⟨c, 0, none⟩ (.int .i64 m')).setCell ⟨c, 1, none⟩ (.int .i64 e')) b c n d m' e') := by
  obtain ⟨h1, h2, h3, h4, n0, d0, m0, e0, f1, f2, f3, f4, g1, g2, hB⟩ := h
  exact {
    lb := h1, lc := h2, ub := by simpa using h3, uc := by simpa using h4
    n := by go_simp
    d := by go_simp
    m := by go_simp
    e := by go_simp
    fn := by go_simp
    fd := by go_simp
    fm := by go_simp
    fe := by go_simp
    ne := g1, ne' := g2
    below := (hB.setCell h2 _).setCell h2 _ }

set_option maxHeartbeats 2000000 in
theorem compare12 (n d m e : Int) (hn : I64 n) (hd : I64 d) (hm : I64 m) (he : I64 e) (w : World) :
    Calls Tryz.prog 12 #[rat n d, rat m e] w fun x w' => x = .returned (.int .i64 (cmpR n d m e)) ∧ Below w.heap.size w w' := by
  have hB := Box2.new w n d m e 23
  go_enter Tryz.func12, Tryz.ntmps12
  go_upto_region 1 with (fail)
  generalize (w.alloc (.cells #[.int .i64 n, .int .i64 d] 23)).alloc (.cells #[.int .i64 m, .int .i64 e] 23) = w0 at *
  generalize w.heap.size + 1 = c at *
  have HB := Lib.hid hB
  obtain ⟨_, _, _, _, n0, d0, m0, e0, f1, f2, f3, f4, g1, g2, _⟩ := hB
  by_cases hd0 : d ≤ 0 <;> by_cases he0 : e ≤ 0 <;>
  go_upto_region 5 with (fail)
  all_goals first
    | (guard_hyp hd0 : d ≤ 0
       guard_hyp he0 : e ≤ 0
       have q1 := hd0
       have q2 := he0
       have HX : Hid (Box2 w ((((w0.setCell ⟨w.heap.size, 0, none⟩ (.int .i64 0)).setCell ⟨w.heap.size, 1, none⟩ (.int .i64 1)).setCell ⟨c, 0, none⟩ (.int .i64 0)).setCell ⟨c, 1, none⟩ (.int .i64 1)) w.heap.size c (qn n d) (qd d) (qn m e) (qd e)) := by
         rw [(q_neg (n := n) q1).1, (q_neg (n := n) q1).2, (q_neg (n := m) q2).1, (q_neg (n := m) q2).2]
         exact Box2.put HB.out 0 1 0 1
       generalize (((w0.setCell ⟨w.heap.size, 0, none⟩ (.int .i64 0)).setCell ⟨w.heap.size, 1, none⟩ (.int .i64 1)).setCell ⟨c, 0, none⟩ (.int .i64 0)).setCell ⟨c, 1, none⟩ (.int .i64 1) = wx at *)
    | (guard_hyp hd0 : d ≤ 0
       have q1 := hd0
       have q2 : 0 < e := by omega
       have HX : Hid (Box2 w ((w0.setCell ⟨w.heap.size, 0, none⟩ (.int .i64 0)).setCell ⟨w.heap.size, 1, none⟩ (.int .i64 1)) w.heap.size c (qn n d) (qd d) (qn m e) (qd e)) := by
         rw [(q_neg (n := n) q1).1, (q_neg (n := n) q1).2, (q_pos (n := m) q2).1, (q_pos (n := m) q2).2]
         exact Box2.put1 HB.out 0 1
       generalize (w0.setCell ⟨w.heap.size, 0, none⟩ (.int .i64 0)).setCell ⟨w.heap.size, 1, none⟩ (.int .i64 1) = wx at *)
    | (guard_hyp he0 : e ≤ 0
       have q1 : 0 < d := by omega
       have q2 := he0
       have HX : Hid (Box2 w ((w0.setCell ⟨c, 0, none⟩ (.int .i64 0)).setCell ⟨c, 1, none⟩ (.int .i64 1)) w.heap.size c (qn n d) (qd d) (qn m e) (qd e)) := by
         rw [(q_pos (n := n) q1).1, (q_pos (n := n) q1).2, (q_neg (n := m) q2).1, (q_neg (n := m) q2).2]
         exact Box2.put2 HB.out 0 1
       generalize (w0.setCell ⟨c, 0, none⟩ (.int .i64 0)).setCell ⟨c, 1, none⟩ (.int .i64 1) = wx at *)
    | (have q1 : 0 < d := by omega
       have q2 : 0 < e := by omega
       have HX : Hid (Box2 w w0 w.heap.size c (qn n d) (qd d) (qn m e) (qd e)) := by
         rw [(q_pos (n := n) q1).1, (q_pos (n := n) q1).2, (q_pos (n := m) q2).1, (q_pos (n := m) q2).2]
         exact HB.out
       generalize w0 = wx at *)
  all_goals
    clear hd0 he0 q1 q2 n0 d0 m0 e0 f1 f2 f3 f4 g1 g2 HB
    obtain ⟨h1, h2, h3, h4, n1, d1, m1, e1, _, _, _, _, _, _, _⟩ := id HX.out
    have IN : Hid (I64 (qn n d)) := qn_i64 hn
    have IM : Hid (I64 (qn m e)) := qn_i64 hm
    have ID := qd_i64 hd
    have IE := qd_i64 he
    have HR : Hid (cmpR n d m e = cmpI (qn n d * qd e) (qn m e * qd d)) := rfl
    generalize qn n d = N at *
    generalize qn m e = M at *
    generalize qd d = D at *
    generalize qd e = E at *
    clear hn hd hm he
    obtain ⟨ID1, ID2⟩ := ID
    obtain ⟨IE1, IE2⟩ := IE
    by_cases hN : N < 0 <;> by_cases hM : M < 0
    all_goals go_upto_region 9 with (fail)
    all_goals first
      | (go_ret
         refine ⟨?_, HX.out.below⟩
         have t := cmpI_signs (n := N) (m := M) ID1 IE1
         rw [HR.out]
         first
           | (rw [← t (sign_ne1 (by assumption) (by assumption))]
              exact ret_sign1 (by assumption) (by assumption))
           | (rw [← t (sign_ne2 (by assumption) (by assumption))]
              exact ret_sign2 (by assumption) (by assumption)))
      | skip
    all_goals
      go_big_quiet (first
        | (go_at_call 38; exact Calls.quiet_of_same (size38 _ IN.out _))
        | (go_at_call 34; exact Calls.quiet_of_same (mul34' _ _ (sz_lt IN.out) IE1 IE2 _)))
      go_wp2_with fail
      have HX3 : Hid (Box2 w (wx.drewN nq) w.heap.size c N D M E) := Box2.drewN HX.out nq
      clear h1 h2 h3 h4 n1 m1 d1 e1 HX
      generalize wx.drewN nq = wf at *
      obtain ⟨h1, h2, h3, h4, n1, d1, m1, e1, _, _, _, _, _, _, _⟩ := id HX3.out
      go_big_quiet (first
        | (go_at_call 38; exact Calls.quiet_of_same (size38 _ IM.out _))
        | (go_at_call 34; exact Calls.quiet_of_same (mul34' _ _ (sz_lt IM.out) ID1 ID2 _)))
    all_goals first
      | (have t := out_pos (N := N) (M := M) (D := D) (E := E) (by assumption) (by assumption) ID1 IE1
         have HT := Lib.hid t
         clear t)
      | (have t := out_neg (N := N) (M := M) (D := D) (E := E) (by assumption) (by assumption) ID1 IE1
         have HT := Lib.hid t
         clear t)
    all_goals
      generalize hiW (sz N) E = ha at *
      generalize hiW (sz M) D = hb at *
      generalize loW (sz N) E = la at *
      generalize loW (sz M) D = lb at *
      go_wp2_with fail
    all_goals
      go_ret
      refine ⟨?_, HX3.out.below.trans ⟨rfl, rfl, rfl, Nat.le_refl _, fun _ _ => rfl⟩⟩
      rw [HR.out, HT.out]
      rcases cmpI_cases ha hb with ⟨x1, q1⟩ | ⟨x1, q1⟩ | ⟨x1, q1⟩ <;> rcases cmpI_cases la lb with ⟨x2, q2⟩ | ⟨x2, q2⟩ | ⟨x2, q2⟩ <;> rw [q1, q2] <;> first | (exfalso; omega) | rfl
end Go.Proofs.YtmgegkgelecopaaGreatDoor.Rk
