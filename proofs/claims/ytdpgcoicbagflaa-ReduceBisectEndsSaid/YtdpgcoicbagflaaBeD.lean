import Derived.Test.YtdpgcoicbagflaaBeC
set_option maxRecDepth 100000
set_option linter.unusedSimpArgs false
set_option linter.unusedVariables false
namespace Go.Proofs.Ytdpgcoicbagflaa.Be
open Go Go.Ms Go.Pg Go.Bi Go.Be Go.ChangeShapes Go.WideShapes Go.ChangeAt Go.RowKit Go.Deep Go.Proofs.Ytdpgcoicbagflaa.Bi

theorem bisectAt {w : World} {B : Nat} {an : Value} {n : Nat} {z : Int} {l : List Int} {res : Res} (h : Go.Il.Own 33 .u8 B w an l) (hl : l.length ≤ 4096) (h2 : 2 ≤ n) (h256 : n ≤ 256) (hb : Bis (tries z) n l res) :
    Calls Try.prog 7 #[.int .i64 (n : Int), .int .i64 z, an] w fun e w' => Out w.heap.size w' l res e ∧ Below w.heap.size w w' :=
  (bisectProg (n := (n : Int)) (z := z) (vs_own h (by omega)) hl).mono fun e w' ⟨ho, hB⟩ => by
    rw [OutB, if_neg (by omega), if_neg (by omega)] at ho
    obtain ⟨res', hb', ho⟩ := ho
    rw [Int.toNat_natCast] at hb'
    rw [hb'.one hb] at ho
    exact ⟨ho, hB⟩

theorem cell_same {w w' : World} {b o : Nat} (h : w'.heap[b]? = w.heap[b]?) : w'.cell? ⟨b, o, none⟩ = w.cell? ⟨b, o, none⟩ := by simp only [World.cell?, h]
theorem EV : Go.Il.IntElem Try.prog 22 33 .u8 1 := Go.Il.IntElem.mk Try.underlying22 (by kernel_rfl)
theorem own_drew {e : TypeId} {k : IntKind} {B : Nat} {w : World} {v : Value} {l : List Int} (h : Go.Il.Own e k B w v l) : Go.Il.Own e k B w.drew v l := h
theorem own_one_cell {e : TypeId} {k : IntKind} {B : Nat} {w : World} {b cap : Nat} {x : Int} (h : Go.Il.Own e k B w (.slice (some ⟨b, 0, none⟩) 1 cap) [x]) : w.cell? ⟨b, 0, none⟩ = some (.int k x) := by
  obtain ⟨b', cap', e, _, hc⟩ := own_one h
  injection e with e
  injection e with e
  injection e with e
  subst e
  exact hc
theorem un_drew {e : TypeId} {B : Nat} {w w' : World} (h : Go.Il.Stp e B w.drew w') : Go.Il.Stp e B w w' := ((Go.Il.Stp.refl e B w).drew).trans h
theorem own_up8 {w w' : World} {B : Nat} {v : Value} {l : List Int} (h : Go.Il.Own 33 .u8 B w v l) (hB : Below w.heap.size w w') : Go.Il.Own 33 .u8 B w' v l := Bi.own_same h fun g cs _ hh => hB.block g (block_lt hh)
set_option maxHeartbeats 16000000 in
theorem lawMain {w : World} {z : Int} {kb ko cap : Nat} {ks : List Nat} (hk : Kinds w kb ko ks) (h2 : 2 ≤ ks.length) (h40 : ks.length ≤ 40) (hA : Runs) : Yes 4 w #[.slice (some ⟨kb, ko, none⟩) ks.length cap, .int .i64 z] := by
  obtain ⟨n, hn⟩ : ∃ n, n = ks.length := ⟨_, rfl⟩
  rw [← hn] at h2 h40 ⊢
  have HN := hide hn
  have H2 := hide h2
  have H40 := hide h40
  have HK0 := hide hk
  have hrun := hide hA
  have t1 : decide ((n : Int) < 2) = false := decide_eq_false (by omega)
  have t2 : decide (n < 2) = false := decide_eq_false (by omega)
  have t3 : decide ((40 : Int) < (n : Int)) = false := decide_eq_false (by omega)
  have t4 : decide (40 < n) = false := decide_eq_false (by omega)
  obtain ⟨M, hM⟩ : ∃ M, (if z < 1 then (1 : Int) else z) = M := ⟨_, rfl⟩
  have hT : (if 9 < M then (9 : Int) else M) = (tries z : Int) := by unfold tries; rw [← hM]; split <;> split <;> omega
  have HT1 := hide (tries_pos z).1
  have HT9 := hide (tries_pos z).2
  obtain ⟨T, hTz⟩ : ∃ T, T = tries z := ⟨_, rfl⟩
  rw [← hTz] at hT HT1 HT9
  have HTz := hide hTz
  have hmk := make24 n (by omega) w
  obtain ⟨N, hN⟩ : ∃ N : Nat, N = n - 1 := ⟨_, rfl⟩
  have wN : IntKind.i64.wrap ((n : Int) - 1) = (N : Int) := by rw [wrap_in (by omega) (by omega)]; omega
  have HN1 := hide hN
  have HNn : Hid (N < n) := hide (by omega)
  have iN : (N : Int) < (n : Int) := by omega
  have i0 : (0 : Int) < (n : Int) := by omega
  have w9 : IntKind.i64.wrap ((n : Int) * 9) = (n : Int) * 9 := wrap_in (by omega) (by omega)
  have hB0 : Below w.heap.size w ((w.alloc (rowN (List.replicate n 0))).alloc (boxQ false nilV nilV nilV)) := ((Below.refl _ _).alloc (Nat.le_refl _) _).alloc (by simp) _
  have HB0 := hide hB0
  have HA0 := hide (old_block (new_block w (rowN (List.replicate n 0))) (boxQ false nilV nilV nilV))
  have HQ0 : Hid (((w.alloc (rowN (List.replicate n 0))).alloc (boxQ false nilV nilV nilV)).heap[w.heap.size + 1]? = some (boxQ false nilV nilV nilV)) := hide (alloc_at (by simp))
  clear hn h2 h40 hk hA hTz hB0 hN
  unfold Yes
  go_enter Try.func4, Try.ntmps4
  go_wp2_with fail
  generalize (w.alloc (rowN (List.replicate n 0))).alloc (boxQ false nilV nilV nilV) = W0 at *
  clear hmk
  go_loopw [8] (fun s8 wr => ∃ (l : List Int) (As : List Nat) (qa : Value), Go.Il.Own 33 .u8 w.heap.size wr s8 l ∧ Below w.heap.size w wr ∧ wr.heap[w.heap.size]? = some (rowN As) ∧ wr.heap[w.heap.size + 1]? = some (boxQ false qa nilV nilV) ∧ As.length = n ∧ As.sum = l.length ∧ (∀ a ∈ As, a ≤ T) ∧ At T n (kof ks) l (fun u => As.getD u 0)) (fun s8 _ => n * 9 + 1 - lenOf s8)
  case atStart => exact ⟨[], List.replicate n 0, nilV, Go.Il.Own.nil _ _ _ _, HB0.out, HA0.out, HQ0.out, by simp, by simp, fun a ha => by rw [List.eq_of_mem_replicate ha]; omega, by
      have := At.start (n := n) (κ := kof ks) HT1.out
      have e : (fun u => (List.replicate n 0).getD u 0) = fun _ => 0 := by funext u; simp [List.getElem?_replicate]; split <;> rfl
      rw [e]; exact this⟩
  case round =>
    obtain ⟨l, As, qa, hO, hB, hAs, hQ, hAn, hsum, hAT, hat⟩ := hrel
    have HO := hide hO
    have HB := hide hB
    have HAs := hide hAs
    have HQ := hide hQ
    have HAn := hide hAn
    have HSum := hide hsum
    have HAT := hide hAT
    have HAt := hide hat
    have hlen : l.length ≤ n * 9 := by
      have := sum_le hAT
      rw [hsum, hAn] at this
      have h9 := HT9.out
      have : n * T ≤ n * 9 := Nat.mul_le_mul_left _ h9
      omega
    obtain ⟨o8, c8, rfl⟩ := Go.Il.Own.form hO
    have tl : decide ((l.length : Int) ≤ (n : Int) * 9) = true := decide_eq_true (by omega)
    have HLen := hide hlen
    have HL4 : Hid (l.length ≤ 4096) := hide (by have := H40.out; omega)
    obtain ⟨q0, q1, q2, q3⟩ := q_cells hQ
    have f0 := Bi.frozen_of hQ 0
    have f1 := Bi.frozen_of hQ 1
    have f2 := Bi.frozen_of hQ 2
    have f3 := Bi.frozen_of hQ 3
    clear hO hB hAs hQ hAn hsum hAT hat hlen
    rcases HAt.out.step HT1.out H2.out with ⟨hb, hj⟩ | ⟨lo, hi, hb, e1, e2, e3, e4, e5⟩ | ⟨v, hb, hvn, hvT, hnext⟩
    · have HBis := hide (HTz.out ▸ hb)
      clear hb
      have HJ := hide hj
      clear hj
      go_wp2_with fail
      (with_reducible refine (bisectAt HO.out HL4.out H2.out (by have := H40.out; omega) HBis.out).mono ?_)
      rintro e w1 ⟨ho, hB1⟩
      obtain rfl : e = _ := ho
      have hA1 := (Below.refl w1.heap.size w1).alloc (Nat.le_refl _) (boxQ false nilV nilV nilV)
      have HB2 := hide (HB.out.trans ((hB1.trans (hA1.mono hB1.size)).mono HB.out.size))
      have HK2 := hide (kinds_old HK0.out HB2.out)
      have k0 := kinds_zero HK2.out (by rw [← HN.out]; have := H2.out; omega)
      have kN := (HK2.out N (by rw [← HN.out]; exact HNn.out)).1
      clear hA1 hB1
      have hrn := hrun.out
      unfold Runs at hrn
      have J0 := hide (judgedProg (w := w1.alloc (boxQ false nilV nilV nilV)) (T := T) (HK2.out 0 (by rw [← HN.out]; have := H2.out; omega)).2)
      have J1 := hide (judgedProg (w := w1.alloc (boxQ false nilV nilV nilV)) (T := T) (HK2.out N (by rw [← HN.out]; exact HNn.out)).2)
      by_cases j0 : judged (kof ks 0) T = 1
      · have j0a := ne_false j0
        have jN : judged (kof ks N) T ≠ 2 := by rw [HN1.out]; exact HJ.out.resolve_left fun q => q j0
        have jNa := eq_false jN
        have jNb := ne_true jN
        rw [j0] at J0
        clear j0 jN
        generalize kof ks 0 = κ0 at *
        generalize kof ks N = κN at *
        generalize judged κN T = jj at *
        go_wp2_with fail
        (with_reducible refine J0.out.mono ?_)
        rintro e w2 ⟨rfl, rfl⟩
        go_wp2_with fail
        (with_reducible refine J1.out.mono ?_)
        rintro e w2 ⟨rfl, rfl⟩
        go_wp2_with fail
        (with_reducible refine (hrn _).mono ?_)
        rintro e w3 ⟨rfl, hB3⟩
        have HB3 := hide (HB2.out.trans (hB3.mono HB2.out.size))
        clear hB3
        go_wp2_with fail
        go_ret
        exact ⟨rfl, HB3.out⟩
      · have j0a := ne_true j0
        have j0b := eq_false j0
        clear j0
        generalize kof ks 0 = κ0 at *
        generalize judged κ0 T = jj at *
        go_wp2_with fail
        (with_reducible refine J0.out.mono ?_)
        rintro e w2 ⟨rfl, rfl⟩
        go_wp2_with fail
        (with_reducible refine (hrn _).mono ?_)
        rintro e w3 ⟨rfl, hB3⟩
        have HB3 := hide (HB2.out.trans (hB3.mono HB2.out.size))
        clear hB3
        go_wp2_with fail
        go_ret
        exact ⟨rfl, HB3.out⟩
    · have HBis := hide (HTz.out ▸ hb)
      have E1 := hide e1
      have E2 := hide e2
      have E3 := hide e3
      have E4 := hide e4
      have E5 := hide e5
      clear hb e1 e2 e3 e4 e5
      go_wp2_with fail
      (with_reducible refine (bisectAt HO.out HL4.out H2.out (by have := H40.out; omega) HBis.out).mono ?_)
      rintro e w1 ⟨ho, hB1⟩
      rw [Out, if_pos rfl] at ho
      obtain ⟨sb, rfl, hcs, hsb⟩ := ho
      have HSB := hide hsb
      have hA1 := (Below.refl w1.heap.size w1).alloc (Nat.le_refl _) (boxQ true nilV (.slice (some ⟨sb, 0, none⟩) 2 2) nilV)
      have HX1 := hide (new_block w1 (boxQ true nilV (.slice (some ⟨sb, 0, none⟩) 2 2) nilV))
      have hW := hB1.trans (hA1.mono hB1.size)
      have HB2 := hide (HB.out.trans (hW.mono HB.out.size))
      have HQ2 := hide ((hW.block _ (block_lt HQ.out)).trans HQ.out)
      have HC2 := hide ((hA1.block _ (block_lt hcs)).trans hcs)
      have HSQ : Hid (sb ≠ w.heap.size + 1) := hide (by have := block_lt HQ.out; omega)
      clear q0 q1 q2 q3 f0 f1 f2 f3 hA1 hW hB1 hcs hsb
      obtain ⟨q0, q1, q2, q3⟩ := q_cells HQ2.out
      have f0 := Bi.frozen_of HQ2.out 0
      have f1 := Bi.frozen_of HQ2.out 1
      have f2 := Bi.frozen_of HQ2.out 2
      have f3 := Bi.frozen_of HQ2.out 3
      obtain ⟨x0, x1, x2, x3⟩ := q_cells HX1.out
      go_upto_region 13 with (fail)
      have hP := putQ_block (e := true) (b := nilV) (l := .slice (some ⟨sb, 0, none⟩) 2 2) (q := nilV) HQ2.out
      have hPC := (putQ_other (w := w1.alloc (boxQ true nilV (.slice (some ⟨sb, 0, none⟩) 2 2) nilV)) (B := w.heap.size + 1) (d := true) (a := nilV) (l := .slice (some ⟨sb, 0, none⟩) 2 2) (p := nilV) HSQ.out).trans HC2.out
      have hPB := putQ_below (d := true) (a := nilV) (l := .slice (some ⟨sb, 0, none⟩) 2 2) (p := nilV) HB2.out (B := w.heap.size + 1) (by omega)
      change Code.wp _ _ _ _ (putQ (w1.alloc (boxQ true nilV (.slice (some ⟨sb, 0, none⟩) 2 2) nilV)) (w.heap.size + 1) true nilV (.slice (some ⟨sb, 0, none⟩) 2 2) nilV)
      generalize putQ (w1.alloc (boxQ true nilV (.slice (some ⟨sb, 0, none⟩) 2 2) nilV)) (w.heap.size + 1) true nilV (.slice (some ⟨sb, 0, none⟩) 2 2) nilV = X at *
      have HPB := hide hPB
      have HKX := hide (kinds_old HK0.out hPB)
      have HPX := hide hP
      have HCX := hide hPC
      clear q0 q1 q2 q3 f0 f1 f2 f3 x0 x1 x2 x3 hPB hP hPC HX1 HQ2 HC2 HB2 HO HAs HQ HB
      obtain ⟨q0, q1, q2, q3⟩ := q_cells HPX.out
      have c0 : X.cell? ⟨sb, 0, none⟩ = some (.int .i64 (lo : Int)) := cell_of HCX.out 0
      have c1 : X.cell? ⟨sb, 1, none⟩ = some (.int .i64 (hi : Int)) := cell_of HCX.out 1
      go_upto_region 20 with (fail)
      go_quiet (fail)
      have hKY : Kinds (X.drewN nq) kb ko ks := HKX.out
      have HBY : Hid (Below w.heap.size w (X.drewN nq)) := hide (HPB.out.trans (belowN _ _ _))
      generalize X.drewN nq = Y at *
      have HKY := hide hKY
      have klo := (hKY lo (by rw [← HN.out]; have := E1.out; have := E2.out; omega)).1
      have khi := (hKY hi (by rw [← HN.out]; exact E2.out)).1
      have JL := hide (fun W => judgedProg (w := W) (T := T) (hKY lo (by rw [← HN.out]; have := E1.out; have := E2.out; omega)).2)
      have JH := hide (fun W => judgedProg (w := W) (T := T) (hKY hi (by rw [← HN.out]; exact E2.out)).2)
      rw [E3.out] at JL
      rw [E4.out] at JH
      have s1 : decide ((lo : Int) < 0) = false := decide_eq_false (by omega)
      have s2 : decide ((hi : Int) ≤ (lo : Int)) = false := decide_eq_false (by have := E1.out; omega)
      have s3 : decide ((n : Int) ≤ (hi : Int)) = false := decide_eq_false (by have := E2.out; omega)
      have s2' : decide (hi ≤ lo) = false := decide_eq_false (by have := E1.out; omega)
      have s3' : decide (n ≤ hi) = false := decide_eq_false (by have := E2.out; omega)
      have ilo : (lo : Int) < (n : Int) := by have := E1.out; have := E2.out; omega
      have ihi : (hi : Int) < (n : Int) := by have := E2.out; omega
      have wlo : IntKind.i64.wrap ((lo : Int) + 1) = (lo : Int) + 1 := wrap_in (by omega) (by have := H40.out; omega)
      clear q0 q1 q2 q3 c0 c1 hKY HPX HCX HPB HKX
      go_wp2_with fail
      (with_reducible refine (JL.out _).mono ?_)
      rintro e w2 ⟨rfl, rfl⟩
      go_wp2_with fail
      (with_reducible refine (JH.out _).mono ?_)
      rintro e w2 ⟨rfl, rfl⟩
      go_wp2_with fail
      clear klo khi
      go_loopw [14] (fun s14 wy => ∃ k : Nat, lo < k ∧ k ≤ hi ∧ s14 = .int .i64 (k : Int) ∧ wy = w2) (fun s14 _ => hi - (intOf s14).toNat)
      case atStart => exact ⟨lo + 1, by omega, by have := E1.out; omega, by go_num, rfl⟩
      case round =>
        obtain ⟨k, hk1, hk2, rfl, rfl⟩ := hrel
        by_cases hlt : k < hi
        · have ik : (k : Int) < (hi : Int) := by omega
          have ikn : (k : Int) < (n : Int) := by omega
          have hkn : k < ks.length := by rw [← HN.out]; have := E2.out; omega
          have kk := (HKY.out k hkn).1
          have JK := hide (fun W => judgedProg (w := W) (T := T) (HKY.out k hkn).2)
          rw [E5.out k hk1 hlt] at JK
          have wk : IntKind.i64.wrap ((k : Int) + 1) = (k : Int) + 1 := wrap_in (by omega) (by have := H40.out; omega)
          go_wp2_with fail
          (with_reducible refine (JK.out _).mono ?_)
          rintro e w3 ⟨rfl, rfl⟩
          go_wp2_with fail
          exact ⟨⟨k + 1, by omega, by omega, by go_num, trivial⟩, by simp [intOf]; omega⟩
        · have ik : ¬ (k : Int) < (hi : Int) := by omega
          have ik2 : decide ((k : Int) < (hi : Int)) = false := decide_eq_false ik
          have ik3 : decide (k < hi) = false := decide_eq_false hlt
          clear hk1 hk2 hlt
          go_wp2_with fail
          have hz0 : IntKind.i64.wrap ((n : Int) - 1) = (n : Int) - 1 := wrap_in (by omega) (by have := H40.out; omega)
          have hrn := hrun.out
          unfold Runs at hrn
          obtain ⟨wo, rfl⟩ : ∃ wo : World, wo = wr := ⟨_, rfl⟩
          go_loopw [15, 16, 17] (fun s15 s16 s17 wy => ∃ (j f : Nat) (s : Bool) (y : Int), s15 = .int .i64 (f : Int) ∧ s16 = .bool s ∧ s17 = .int .i64 y ∧ y = (j : Int) - 1 ∧ j ≤ n ∧ Hid (Sorts n T (kof ks) j f s) ∧ wy = wo) (fun _ _ s17 _ => (intOf s17 + 1).toNat)
          case atStart => exact ⟨n, n, true, (N : Int), rfl, rfl, rfl, by have := HN1.out; have := H2.out; omega, Nat.le_refl _, hide (Sorts.start _ _ _), rfl⟩
          case round =>
            obtain ⟨j, f, s, y, rfl, rfl, rfl, hy, hj, HS, rfl⟩ := hrel
            by_cases hj0 : j = 0
            · subst hj0
              obtain rfl : y = -1 := by omega
              clear hy hj
              cases s with
              | false =>
                go_wp2_with fail
                (with_reducible refine (hrn _).mono ?_)
                rintro e w4 ⟨rfl, hB4⟩
                have HB4 := hide (HBY.out.trans (hB4.mono HBY.out.size))
                clear hB4
                go_wp2_with fail
                go_ret
                exact ⟨rfl, HB4.out⟩
              | true =>
                obtain ⟨rfl, hlo⟩ := HS.out.ends E1.out E2.out E3.out E4.out E5.out
                have w5 : IntKind.i64.wrap ((f : Int) - 1) = (lo : Int) := by have := E2.out; have := H40.out; rw [wrap_in (by omega) (by omega)]; omega
                have b1 : ((lo : Int) == (lo : Int)) = true := by simp
                have b2 : ((f : Int) == (f : Int)) = true := by simp
                clear hlo
                go_wp2_with fail
                (with_reducible refine (hrn _).mono ?_)
                rintro e w4 ⟨rfl, hB4⟩
                have HB4 := hide (HBY.out.trans (hB4.mono HBY.out.size))
                clear hB4
                go_wp2_with fail
                go_ret
                exact ⟨rfl, HB4.out⟩
            · obtain ⟨i, rfl⟩ : ∃ i, j = i + 1 := ⟨j - 1, by omega⟩
              obtain rfl : y = (i : Int) := by omega
              clear hy hj0
              have hin : i < ks.length := by rw [← HN.out]; omega
              have ii : (i : Int) < (n : Int) := by omega
              have kk := (HKY.out i hin).1
              have JI := hide (fun W => judgedProg (w := W) (T := T) (HKY.out i hin).2)
              have wi : IntKind.i64.wrap ((i : Int) - 1) = (i : Int) - 1 := wrap_in (by omega) (by have := H40.out; omega)
              have wi1 : IntKind.i64.wrap ((i : Int) + 1) = (i : Int) + 1 := wrap_in (by omega) (by have := H40.out; omega)
              have HJN := hide hj
              have hge : decide ((0 : Int) ≤ (i : Int)) = true := decide_eq_true (by omega)
              clear hj hin
              rcases judged_value (kof ks i) T with ex | ex | ex
              · rw [ex] at JI
                have HE := hide ex
                clear ex
                cases s with
                | false =>
                  go_wp2_with fail
                  (with_reducible refine (JI.out _).mono ?_)
                  rintro e w3 ⟨rfl, rfl⟩
                  go_wp2_with fail
                  exact ⟨⟨i, f, false, (i : Int) - 1, rfl, rfl, by go_num, rfl, by omega, hide HS.out.no, trivial⟩, by simp [intOf]⟩
                | true =>
                  go_wp2_with fail
                  (with_reducible refine (JI.out _).mono ?_)
                  rintro e w3 ⟨rfl, rfl⟩
                  go_wp2_with fail
                  exact ⟨⟨i, f, true, (i : Int) - 1, rfl, rfl, by go_num, rfl, by omega, hide (HS.out.passes HE.out), trivial⟩, by simp [intOf]⟩
              · rw [ex] at JI
                have HE := hide ex
                clear ex
                cases s with
                | false =>
                  go_wp2_with fail
                  (with_reducible refine (JI.out _).mono ?_)
                  rintro e w3 ⟨rfl, rfl⟩
                  go_wp2_with fail
                  exact ⟨⟨i, i, false, (i : Int) - 1, rfl, rfl, by go_num, rfl, by omega, hide (HS.out.fails HE.out), trivial⟩, by simp [intOf]⟩
                | true =>
                  by_cases hf : f = i + 1
                  · subst hf
                    have bf : (((i + 1 : Nat) : Int) == ((i : Int) + 1)) = true := by simp
                    have bf2 : ((((i : Nat) : Int) + 1) == ((i : Int) + 1)) = true := by simp
                    go_wp2_with fail
                    (with_reducible refine (JI.out _).mono ?_)
                    rintro e w3 ⟨rfl, rfl⟩
                    go_wp2_with fail
                    exact ⟨⟨i, i, true, (i : Int) - 1, rfl, rfl, by go_num, rfl, by omega, hide (by have := HS.out.fails HE.out; simpa using this), trivial⟩, by simp [intOf]⟩
                  · have bf : ((f : Int) == ((i : Int) + 1)) = false := beq_false_of_ne (by omega)
                    have HF := hide hf
                    clear hf
                    go_wp2_with fail
                    (with_reducible refine (JI.out _).mono ?_)
                    rintro e w3 ⟨rfl, rfl⟩
                    go_wp2_with fail
                    exact ⟨⟨i, i, false, (i : Int) - 1, rfl, rfl, by go_num, rfl, by omega, hide (by have := HS.out.fails HE.out; have hb : (f == i + 1) = false := beq_false_of_ne HF.out; rw [hb] at this; exact this), trivial⟩, by simp [intOf]⟩
              · rw [ex] at JI
                have HE := hide ex
                clear ex
                cases s with
                | false =>
                  go_wp2_with fail
                  (with_reducible refine (JI.out _).mono ?_)
                  rintro e w3 ⟨rfl, rfl⟩
                  go_wp2_with fail
                  exact ⟨⟨i, f, false, (i : Int) - 1, rfl, rfl, by go_num, rfl, by omega, hide HS.out.no, trivial⟩, by simp [intOf]⟩
                | true =>
                  go_wp2_with fail
                  (with_reducible refine (JI.out _).mono ?_)
                  rintro e w3 ⟨rfl, rfl⟩
                  go_wp2_with fail
                  exact ⟨⟨i, f, false, (i : Int) - 1, rfl, rfl, by go_num, rfl, by omega, hide HS.out.no, trivial⟩, by simp [intOf]⟩
    --H<
    · have HBis := hide (HTz.out ▸ hb)
      have HVn := hide hvn
      have HVT := hide hvT
      have HNext := hide hnext
      clear hb hvn hvT hnext
      go_wp2_with fail
      (with_reducible refine (bisectAt HO.out HL4.out H2.out (by have := H40.out; omega) HBis.out).mono ?_)
      rintro e w1 ⟨ho, hB1⟩
      obtain ⟨s, rfl, hs⟩ := ho
      rw [upTo_one, if_pos (by have := HVn.out; have := H40.out; omega)] at hs
      obtain ⟨sb, cs, rfl, hsb, hcs⟩ := own_one hs
      have HSO := hide hs
      have HSB := hide hsb
      have hA1 := (Below.refl w1.heap.size w1).alloc (Nat.le_refl _) (boxQ false (.slice (some ⟨sb, 0, none⟩) 1 cs) nilV nilV)
      have HX1 := hide (new_block w1 (boxQ false (.slice (some ⟨sb, 0, none⟩) 1 cs) nilV nilV))
      have hW := hB1.trans (hA1.mono hB1.size)
      have HW := hide hW
      have HB2 := hide (HB.out.trans (hW.mono HB.out.size))
      have HQ2 := hide ((hW.block _ (block_lt HQ.out)).trans HQ.out)
      have HAs2 := hide ((hW.block _ (block_lt HAs.out)).trans HAs.out)
      have HO2 := hide (own_up8 HO.out hW)
      have HC2 := hide (cell_old hA1 hcs)
      have hA9 := hA1
      clear q0 q1 q2 q3 f0 f1 f2 f3 hA1 hW hB1 hs hcs hsb
      obtain ⟨q0, q1, q2, q3⟩ := q_cells HQ2.out
      have f0 := Bi.frozen_of HQ2.out 0
      have f1 := Bi.frozen_of HQ2.out 1
      have f2 := Bi.frozen_of HQ2.out 2
      have f3 := Bi.frozen_of HQ2.out 3
      obtain ⟨x0, x1, x2, x3⟩ := q_cells HX1.out
      go_upto_region 13 with (fail)
      have hP := putQ_block (e := false) (b := .slice (some ⟨sb, 0, none⟩) 1 cs) (l := nilV) (q := nilV) HQ2.out
      have hPO : ∀ b, b ≠ w.heap.size + 1 → (putQ (w1.alloc (boxQ false (.slice (some ⟨sb, 0, none⟩) 1 cs) nilV nilV)) (w.heap.size + 1) false (.slice (some ⟨sb, 0, none⟩) 1 cs) nilV nilV).heap[b]? = (w1.alloc (boxQ false (.slice (some ⟨sb, 0, none⟩) 1 cs) nilV nilV)).heap[b]? := fun b hb => putQ_other hb
      have hPB := putQ_below (d := false) (a := .slice (some ⟨sb, 0, none⟩) 1 cs) (l := nilV) (p := nilV) HB2.out (B := w.heap.size + 1) (by omega)
      change Code.wp _ _ _ _ (putQ (w1.alloc (boxQ false (.slice (some ⟨sb, 0, none⟩) 1 cs) nilV nilV)) (w.heap.size + 1) false (.slice (some ⟨sb, 0, none⟩) 1 cs) nilV nilV)
      generalize putQ (w1.alloc (boxQ false (.slice (some ⟨sb, 0, none⟩) 1 cs) nilV nilV)) (w.heap.size + 1) false (.slice (some ⟨sb, 0, none⟩) 1 cs) nilV nilV = X at *
      have HPB := hide hPB
      have HP := hide hP
      have HAsX := hide ((hPO w.heap.size (by omega)).trans HAs2.out)
      have HOX : Hid (Go.Il.Own 33 .u8 w.heap.size X (.slice o8 l.length c8) l) := hide (Bi.own_same HO2.out fun b cs _ hh => hPO b fun e => by subst e; rw [HQ2.out] at hh; injection hh with hh; injection hh with _ ht; cases ht)
      have hqb := block_lt HQ.out
      have hcx : X.cell? ⟨sb, 0, none⟩ = some (.int .i64 (v : Int)) := (cell_same (hPO sb (by have := HSB.out; omega))).trans HC2.out
      have HKX := hide (kinds_old HK0.out hPB)
      have HSX : Hid (Go.Il.Own 3 .i64 wr.heap.size X (.slice (some ⟨sb, 0, none⟩) 1 cs) [(v : Int)]) := hide (Bi.own_same (own_up HSO.out hA9) fun b cs hb _ => hPO b (by omega))
      have hkv := (HKX.out v (by rw [← HN.out]; exact HVn.out)).1
      have HKV := hide (HKX.out v (by rw [← HN.out]; exact HVn.out)).2
      have hav := rowN_cell HAsX.out (v := v) (by rw [HAn.out]; exact HVn.out)
      have HAV := hide hav
      clear q0 q1 q2 q3 f0 f1 f2 f3 x0 x1 x2 x3 hPB hP hPO hqb hA9
      obtain ⟨q0, q1, q2, q3⟩ := q_cells HP.out
      have iv : (v : Int) < (n : Int) := by have := HVn.out; omega
      have tv0 : decide ((v : Int) < 0) = false := decide_eq_false (by omega)
      have tvn : decide ((n : Int) ≤ (v : Int)) = false := decide_eq_false (by omega)
      have tvn2 : decide (n ≤ v) = false := decide_eq_false (by omega)
      have HA9 : Hid (As.getD v 0 < 100) := hide (by have := HVT.out; have := HT9.out; omega)
      have ta : decide ((T : Int) ≤ ((As.getD v 0 : Nat) : Int)) = false := decide_eq_false (by have := HVT.out; omega)
      have ta2 : decide (T ≤ As.getD v 0) = false := decide_eq_false (by have := HVT.out; omega)
      have i1 : (0 : Int) < 1 := by omega
      generalize hA : As.getD v 0 = av at *
      generalize hK : kof ks v = kv at *
      have HK := hide hK
      have HA := hide hA
      have RP := hide (fun W => replyProg (w := W) (k := av) HKV.out)
      clear hK hA HX1 HC2 HQ2 HO2 HAs2 HB2
      go_upto_region 16 with (fail)
      have hzm : w.heap.size ≤ X.drew.heap.size := HPB.out.size
      have hl4 : l.length + [reply kv av].length ≤ 10000000 := by have := HL4.out; simp; omega
      go_region_law (first
        | (refine Go.Il.step_push EV (by decide) rfl (.tmp 108) (.tmp 124) rfl (own_drew HOX.out) _ _ [reply kv av] _ _ rfl rfl rfl rfl rfl hzm hl4 rfl ?_
           intro v2 w2 ho2 hs2)
        | (go_simp
           go_at_call 11
           (with_reducible refine (RP.out _).mono ?_)
           rintro e w' ⟨rfl, rfl⟩))
      all_goals
        obtain ⟨o2, c2, hv2⟩ := Go.Il.Own.form ho2
        subst hv2
        have HO3 := hide ho2
        have hs3 : Go.Il.Stp 33 w.heap.size X w2 := un_drew hs2
        have HB3 := hide (HPB.out.trans hs3.below)
        have HQ3 := hide (hs3.block HP.out (by decide))
        have HAs3 := hide (hs3.block HAsX.out (by decide))
        have hsx := own_one_cell (HSX.out.stp hs3 (by decide))
        clear q0 q1 q2 q3 hcx hkv hav hs2 ho2 hs3
        obtain ⟨q0, q1, q2, q3⟩ := q_cells HQ3.out
        have hav := rowN_cell HAs3.out (v := v) (by rw [HAn.out]; exact HVn.out)
        rw [HA.out] at hav
        have hfv := Bi.frozen_of HAs3.out v
        have hw1 : IntKind.i64.wrap ((av : Int) + 1) = (av : Int) + 1 := wrap_in (by omega) (by have := HA9.out; omega)
        go_wp2_with fail
        have hvl : v < As.length := by rw [HAn.out]; exact HVn.out
        have hqa : w.heap.size + 1 ≠ w.heap.size := by omega
        have hav2 : As[v] = av := by have := HA.out; simpa [hvl] using this
        refine ⟨⟨l ++ [reply kv av], As.set v (av + 1), .slice (some ⟨sb, 0, none⟩) 1 cs, ?_, HB3.out.setCell (p := ⟨w.heap.size, v, none⟩) (Nat.le_refl _) _, rowN_set HAs3.out hvl, (Below.heap_setCell _ ⟨w.heap.size, v, none⟩ _ _ hqa).trans HQ3.out, by rw [List.length_set]; exact HAn.out, ?_, ?_, ?_⟩, ?_⟩
        · have e1 : (l ++ [reply kv av]).length = l.length + 1 := by simp
          have := HO3.out
          rw [e1] at this
          exact Bi.own_same this fun b cs' _ hh => Below.heap_setCell _ ⟨w.heap.size, v, none⟩ _ _ fun e => by
            subst e
            rw [HAs3.out] at hh
            injection hh with hh
            injection hh with _ ht
            cases ht
        · have := sum_set hvl
          rw [hav2] at this
          rw [this, HSum.out]
          simp
        · intro a ha
          rcases List.mem_or_eq_of_mem_set ha with q | q
          · exact HAT.out a q
          · rw [q]; exact HVT.out
        · rw [getD_set hvl]
          exact HNext.out
        · have := HLen.out
          simp only [lenOf]
          omega
    --H>
end Go.Proofs.Ytdpgcoicbagflaa.Be
