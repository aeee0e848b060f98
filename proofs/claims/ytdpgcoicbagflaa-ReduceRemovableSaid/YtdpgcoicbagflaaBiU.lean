import Derived.Test.YtdpgcoicbagflaaBiT
set_option maxRecDepth 100000
set_option linter.unusedSimpArgs false
set_option linter.unusedVariables false
namespace Go.Proofs.Ytdpgcoicbagflaa.Bi
open Go Go.Ms Go.Pg Go.Bi Go.ChangeShapes Go.WideShapes Go.ChangeAt Go.RowKit Go.Deep

def usedOf (w : World) (g : Nat) : Nat := (intOf ((w.cell? ⟨g, 1, none⟩).getD undef)).toNat
theorem used_play {w : World} {g u : Nat} {l : List Int} {st : Bool} {x : Value} (h : Play w g l u st x) : usedOf w g = u := by
  obtain ⟨an, hb, _⟩ := h
  have e : w.cell? ⟨g, 1, none⟩ = some (.int .i64 (u : Int)) := cell_of hb 1
  simp [usedOf, e, intOf]
theorem used_less {l : List Int} {u v : Nat} {t : Nat} (ht : 1 ≤ t) {x : Int} (hu : u ≤ l.length) (hv : v ≤ l.length) (h : ver t 3 (l.drop u) = some (x, l.drop v)) : l.length - v < l.length - u := by
  have := ver_less ht h
  simp only [List.length_drop] at this
  omega
theorem play_other {w w' : World} {g u : Nat} {l : List Int} {st : Bool} {x : Value} (h : Play w g l u st x) (hB : Below g w w') (hg : w'.heap[g]? = w.heap[g]?) : Play w' g l u st x := by
  obtain ⟨an, hb, oa, cap, rfl, hc, hl, q⟩ := h
  refine ⟨_, hg.trans hb, oa, cap, rfl, hc, hl, fun i hi => ?_⟩
  obtain ⟨b, o, e, hbg, hcell⟩ := q i hi
  exact ⟨b, o, e, hbg, (hB.cell (p := ⟨b, o + i, none⟩) hbg).trans hcell⟩
theorem rowB_new (w : World) (n : Nat) : (w.alloc (rowB (List.replicate n false))).heap[w.heap.size]? = some (rowB (List.replicate n false)) := new_block w _
theorem rowB_cell {w : World} {b v : Nat} {K : List Bool} (h : w.heap[b]? = some (rowB K)) (hv : v < K.length) : w.cell? ⟨b, v, none⟩ = some (.bool (known K v)) := by
  rw [cell_of h v]
  simp [known, hv]
theorem known_none (n v : Nat) : known (List.replicate n false) v = false := by simp [known, List.getElem?_replicate]; split <;> rfl
theorem own_up {w w' : World} {B : Nat} {v : Value} {l : List Int} (h : Go.Il.Own 3 .i64 B w v l) (hB : Below w.heap.size w w') : Go.Il.Own 3 .i64 B w' v l := own_same h fun g cs _ hh => hB.block g (block_lt hh)
theorem own_put {w : World} {B g : Nat} {v : Value} {l : List Int} (h : Go.Il.Own 3 .i64 B w v l) {d d' : Bool} {a k p a' k' p' : Value} (hg : w.heap[g]? = some (boxQ d' a' k' p')) : Go.Il.Own 3 .i64 B (putQ w g d a k p) v l :=
  own_same h fun b cs _ hh => putQ_other (fun e => by subst e; rw [hg] at hh; injection hh with hh; injection hh with _ ht; cases ht)

theorem version0 {w : World} {g : Nat} {z : Int} {l : List Int} {x : Value} (h : Play w g l 0 false x) :
    Calls Try.prog 30 #[.pointer (some ⟨g, 0, none⟩), .int .i64 0, .int .i64 z] w (ToldR g 0 w l x (ver (tries z) 3 l)) := versionRef (v := 0) (u := 0) h (Nat.zero_le _) (by decide)
set_option maxHeartbeats 16000000 in
theorem bisectRef {w : World} {an : Value} {n z : Int} {l : List Int} (h : Vs w w.heap.size an l) (hl : l.length ≤ 4096) :
    Calls Try.prog 8 #[.int .i64 n, .int .i64 z, an] w fun e w' => OutB w.heap.size w' n z l e ∧ Below w.heap.size w w' := by
  have hB0 : Below w.heap.size w (w.alloc (boxQ false nilV nilV nilV)) := (Below.refl w.heap.size w).alloc (Nat.le_refl _) _
  have HB0 := hide hB0
  have HR0 := hide (new_block w (boxQ false nilV nilV nilV))
  have HS0 : Hid ((w.alloc (boxQ false nilV nilV nilV)).heap.size = w.heap.size + 1) := hide (by simp)
  have HV := hide (vs_self h hB0)
  have HL := hide hl
  have HZ := hide (tries_pos z).1
  obtain ⟨oa, cap, rfl, -, -, -⟩ := h
  clear hB0 hl
  by_cases c1 : n < 2
  · have C1 := hide c1
    have t1 : decide (n < 2) = true := decide_eq_true c1
    obtain ⟨q0, q1, q2, q3⟩ := q_cells HR0.out
    have s0 := frozen_of HR0.out 0
    have s1 := frozen_of HR0.out 1
    have s2 := frozen_of HR0.out 2
    have s3 := frozen_of HR0.out 3
    go_enter Try.func8, Try.ntmps8
    go_wp2_with fail
    refine bodyPost_ret (v := .tuple #[questV false nilV nilV nilV, .int .i64 1]) (by simp [results, Try.results8, go_sem]) rfl ?_
    exact ⟨by rw [OutB, if_pos C1.out], HB0.out⟩
  · have C1 := hide c1
    have t1 : decide (n < 2) = false := decide_eq_false c1
    have B1 := hide (beginRef HV.out HL.out)
    go_enter Try.func8, Try.ntmps8
    go_wp2_with fail
    (with_reducible refine B1.out.mono ?_)
    rintro e w1 ⟨rfl, hB1, hS1, hP1⟩
    generalize hg : (w.alloc (boxQ false nilV nilV nilV)).heap.size = g at *
    have HG : Hid (w.heap.size < g) := hide (by rw [← hg]; simp)
    have HR1 := hide ((hB1.block _ HG.out).trans HR0.out)
    have HB1 := hide (HB0.out.trans (hB1.mono (by have := HG.out; omega)))
    have HP1 := hide hP1
    clear hB1 hP1 hg HV HR0 HB0 HS0 B1 hS1
    by_cases c2 : 256 < n
    · have C2 := hide c2
      have t2 : decide (256 < n) = true := decide_eq_true c2
      clear c1
      obtain ⟨q0, q1, q2, q3⟩ := q_cells HR1.out
      have s0 := frozen_of HR1.out 0
      have s1 := frozen_of HR1.out 1
      have s2 := frozen_of HR1.out 2
      have s3 := frozen_of HR1.out 3
      go_wp2_with fail
      refine final8 (X := putQ w1 w.heap.size false nilV nilV nilV) rfl ?_
      have HP := hide (putQ_block (e := false) (b := nilV) (l := nilV) (q := nilV) HR1.out)
      have HQ := hide (putQ_below (d := false) (a := nilV) (l := nilV) (p := nilV) HB1.out (B := w.heap.size) (Nat.le_refl _))
      generalize putQ w1 w.heap.size false nilV nilV nilV = X at *
      obtain ⟨x0, x1, x2, x3⟩ := q_cells HP.out
      refine bodyPost_ret (v := .tuple #[questV false nilV nilV nilV, .int .i64 3]) (by simp [results, Try.results8, go_sem, x0, x1, x2, x3]) rfl ?_
      exact ⟨by rw [OutB, if_neg (by have := C1.out; omega : ¬ n < 2), if_pos (by have := C2.out; omega : 256 < n)], HQ.out⟩
    · have C2 := hide c2
      have t2 : decide (256 < n) = false := decide_eq_false c2
      obtain ⟨m, rfl⟩ : ∃ m : Nat, n = (m : Int) := ⟨n.toNat, by omega⟩
      have HM2 : Hid (2 ≤ m) := hide (by omega)
      have HM3 : Hid (m ≤ 256) := hide (by omega)
      obtain ⟨N, hN⟩ : ∃ N : Nat, N = m - 1 := ⟨_, rfl⟩
      have wn : IntKind.i64.wrap ((m : Int) - 1) = (N : Int) := by rw [wrap_in (by omega) (by omega)]; omega
      have HN1 := hide hN
      have HN2 : Hid (N < 256) := hide (by omega)
      have HNm : Hid (N < m) := hide (by omega)
      have HA1 : Hid (∀ r, ver (tries z) 3 l = some (1, r) → ver (tries z) 3 r = none → Bis (tries z) m l (.ask N)) := hide fun r a b => by rw [hN]; exact .ask1 a b
      have HOB : Hid (∀ e w', (∃ res, Bis (tries z) m l res ∧ Out w.heap.size w' l res e) → OutB w.heap.size w' (m : Int) z l e) := hide fun e w' hh => by rw [OutB, if_neg (by have := C1.out; omega : ¬ (m : Int) < 2), if_neg (by have := C2.out; omega : ¬ 256 < (m : Int))]; simpa using hh
      clear c1 c2 hN C1 C2
      go_wp2_with fail
      (with_reducible refine (version0 HP1.out).mono ?_)
      rintro e w2 ht
      cases hv0 : ver (tries z) 3 l with
      | none =>
        rw [hv0] at ht
        have HV0 := hide hv0
        clear hv0
        obtain ⟨rfl, hk, x', hp, ho⟩ := ht
        obtain ⟨ow, cw, hx⟩ := Go.Il.Own.form ho
        subst hx
        have HRS := hide (keeps_block hk (Nat.ne_of_lt HG.out) HR1.out)
        have HBS := hide (HB1.out.trans (hk.below.mono (Nat.le_of_lt HG.out)))
        have HPS := hide hp
        have HOS := hide (own_mono (B' := w.heap.size) (by have := HB1.out.size; omega) ho)
        have cst := play_stop hp
        clear hk hp ho
        go_wp2_with fail
        (with_reducible refine (endStop HPS.out).mono ?_)
        rintro e wE ⟨he, hBE⟩
        obtain rfl := he
        have HRE := hide ((hBE.block _ (block_lt HRS.out)).trans HRS.out)
        have HBE := hide (HBS.out.trans (hBE.mono HBS.out.size))
        have HBX := hide hBE
        clear hBE
        obtain ⟨q0, q1, q2, q3⟩ := q_cells HRE.out
        have s0 := frozen_of HRE.out 0
        have s1 := frozen_of HRE.out 1
        have s2 := frozen_of HRE.out 2
        have s3 := frozen_of HRE.out 3
        go_wp2_with fail
        refine final8 (X := putQ wE w.heap.size false (.slice ow 1 cw) nilV nilV) rfl ?_
        have HP := hide (putQ_block (e := false) (b := (.slice ow 1 cw)) (l := nilV) (q := nilV) HRE.out)
        have HQ := hide (putQ_below (d := false) (a := (.slice ow 1 cw)) (l := nilV) (p := nilV) HBE.out (B := w.heap.size) (Nat.le_refl _))
        have HOX := hide (own_put (d := false) (a := .slice ow 1 cw) (k := nilV) (p := nilV) (own_up HOS.out HBX.out) HRE.out)
        generalize putQ wE w.heap.size false (.slice ow 1 cw) nilV nilV = X at *
        obtain ⟨x0, x1, x2, x3⟩ := q_cells HP.out
        refine bodyPost_ret (v := .tuple #[questV false (.slice ow 1 cw) nilV nilV, .int .i64 0]) (by simp [results, Try.results8, go_sem, x0, x1, x2, x3]) rfl ?_
        exact ⟨HOB.out _ _ ⟨_, .ask0 HV0.out, .slice ow 1 cw, rfl, by rw [upTo_one, if_pos (by decide)]; exact HOX.out⟩, HQ.out⟩
      | some xr =>
        obtain ⟨x, r⟩ := xr
        rw [hv0] at ht
        have HV0 := hide hv0
        clear hv0
        obtain ⟨rfl, hk, u1, hu, hr, hp⟩ := ht
        have HR2 := hide (keeps_block hk (Nat.ne_of_lt HG.out) HR1.out)
        have HB2 := hide (HB1.out.trans (hk.below.mono (Nat.le_of_lt HG.out)))
        have HP2 := hide hp
        have HU2 := hide hu
        have HRU2 := hide hr
        have cst := play_stop hp
        clear hk hp hu hr
        by_cases ex : x = 1
        · subst ex
          go_wp2_with fail
          (with_reducible refine (versionRef HP2.out HU2.out HN2.out).mono ?_)
          rintro e w3 ht
          rw [← HRU2.out] at ht
          cases hv1 : ver (tries z) 3 r with
          | none =>
            rw [hv1] at ht
            have HV1 := hide hv1
            clear hv1
            obtain ⟨rfl, hk, x', hp, ho⟩ := ht
            obtain ⟨ow, cw, hx⟩ := Go.Il.Own.form ho
            subst hx
            have HRS := hide (keeps_block hk (Nat.ne_of_lt HG.out) HR2.out)
            have HBS := hide (HB2.out.trans (hk.below.mono (Nat.le_of_lt HG.out)))
            have HPS := hide hp
            have HOS := hide (own_mono (B' := w.heap.size) (by have := HB2.out.size; omega) ho)
            have cst := play_stop hp
            clear hk hp ho
            go_wp2_with fail
            (with_reducible refine (endStop HPS.out).mono ?_)
            rintro e wE ⟨he, hBE⟩
            obtain rfl := he
            have HRE := hide ((hBE.block _ (block_lt HRS.out)).trans HRS.out)
            have HBE := hide (HBS.out.trans (hBE.mono HBS.out.size))
            have HBX := hide hBE
            clear hBE
            obtain ⟨q0, q1, q2, q3⟩ := q_cells HRE.out
            have s0 := frozen_of HRE.out 0
            have s1 := frozen_of HRE.out 1
            have s2 := frozen_of HRE.out 2
            have s3 := frozen_of HRE.out 3
            go_wp2_with fail
            refine final8 (X := putQ wE w.heap.size false (.slice ow 1 cw) nilV nilV) rfl ?_
            have HP := hide (putQ_block (e := false) (b := (.slice ow 1 cw)) (l := nilV) (q := nilV) HRE.out)
            have HQ := hide (putQ_below (d := false) (a := (.slice ow 1 cw)) (l := nilV) (p := nilV) HBE.out (B := w.heap.size) (Nat.le_refl _))
            have HOX := hide (own_put (d := false) (a := .slice ow 1 cw) (k := nilV) (p := nilV) (own_up HOS.out HBX.out) HRE.out)
            generalize putQ wE w.heap.size false (.slice ow 1 cw) nilV nilV = X at *
            obtain ⟨x0, x1, x2, x3⟩ := q_cells HP.out
            refine bodyPost_ret (v := .tuple #[questV false (.slice ow 1 cw) nilV nilV, .int .i64 0]) (by simp [results, Try.results8, go_sem, x0, x1, x2, x3]) rfl ?_
            exact ⟨HOB.out _ _ ⟨_, (HA1.out _ HV0.out HV1.out), .slice ow 1 cw, rfl, by rw [upTo_one, if_pos HN2.out]; exact HOX.out⟩, HQ.out⟩
          | some ys =>
            obtain ⟨y, s⟩ := ys
            rw [hv1] at ht
            have HV1 := hide hv1
            clear hv1 cst
            obtain ⟨rfl, hk, u2, hu, hr, hp⟩ := ht
            have HR3 := hide (keeps_block hk (Nat.ne_of_lt HG.out) HR2.out)
            have HB3 := hide (HB2.out.trans (hk.below.mono (Nat.le_of_lt HG.out)))
            have HP3 := hide hp
            have HU3 := hide hu
            have HRU3 := hide hr
            have cst := play_stop hp
            clear hk hp hu hr
            by_cases ey : y = 2
            · subst ey
              clear cst
              have hmk := make71 m (by have := HM3.out; omega) w3
              have ey0 : ((2 : Int) != 2) = false := rfl
              go_wp2_with fail
              have hAK := (Below.refl w3.heap.size w3).alloc (Nat.le_refl _) (rowB (List.replicate m false))
              have HR4 := hide (old_block HR3.out (rowB (List.replicate m false)))
              have HB4 := hide (HB3.out.trans (hAK.mono HB3.out.size))
              have HP4 := hide (play_kept HP3.out hAK)
              have HK4 := hide (rowB_new w3 m)
              have HGK : Hid (g < w3.heap.size) := hide (play_lt HP3.out)
              have HGO0 : Hid (∀ res, Goes (tries z) 0 N (known (List.replicate m false)) (l.drop u2) res → Bis (tries z) m l res) := hide fun res hg => .goes HV0.out HV1.out (HN1.out ▸ (HRU3.out ▸ hg).congr fun v _ _ => (known_none m v))
              clear hmk hAK ey0
              generalize hkb : w3.heap.size = kb at *
              generalize w3.alloc (rowB (List.replicate m false)) = W4 at *
              clear hkb HP3 HR3 HB3 HP2 HR2 HB2 HP1 HR1 HB1
              go_loopw [10, 11] (fun s10 s11 wr => ∃ (lo hi u : Nat) (K : List Bool), s10 = .int .i64 (lo : Int) ∧ s11 = .int .i64 (hi : Int) ∧ lo ≤ hi ∧ hi < m ∧ K.length = m ∧ u ≤ l.length ∧ Hid (∀ res, Goes (tries z) lo hi (known K) (l.drop u) res → Bis (tries z) m l res) ∧ Below w.heap.size w wr ∧ Play wr g l u false nilV ∧ wr.heap[kb]? = some (rowB K) ∧ wr.heap[w.heap.size]? = some (boxQ false nilV nilV nilV)) (fun _ _ wr => l.length - usedOf wr g)
              case atStart => exact ⟨0, N, u2, List.replicate m false, rfl, rfl, Nat.zero_le _, HNm.out, by simp, HU3.out, HGO0, HB4.out, HP4.out, HK4.out, HR4.out⟩
              case round =>
                obtain ⟨lo, hi, u, K, rfl, rfl, hle, hhi, hKm, hu, HGO, hB, hP, hK, hR⟩ := hrel
                have HLE := hide hle
                have HHI := hide hhi
                have HKM := hide hKm
                have HU4 := hide hu
                have HB4 := hide hB
                have HP4 := hide hP
                have HK := hide hK
                have HR4 := hide hR
                have hbt := rowB_bools hK (by rw [hKm]; exact HM3.out)
                rw [hKm] at hbt
                have HBT := hide hbt
                clear hle hhi hKm hu hB hP hK hR hbt
                go_wp2_with fail
                (with_reducible refine (betweenProg HBT.out HLE.out (by rw [HKM.out]; exact HHI.out)).mono ?_)
                rintro e wA ⟨he, rfl⟩
                cases hn : near lo hi (known K) with
                | none =>
                  rw [hn] at he
                  have HNE := hide hn
                  clear hn
                  obtain rfl : e = .returned (.int .i64 (-1)) := he
                  have hAK := (Below.refl wA.heap.size wA).alloc (Nat.le_refl _) (.cells #[.int .i64 (lo : Int), .int .i64 (hi : Int)] 3)
                  have HR5 := hide (old_block HR4.out (.cells #[.int .i64 (lo : Int), .int .i64 (hi : Int)] 3))
                  have HB5 := hide (HB4.out.trans (hAK.mono HB4.out.size))
                  have HP5 := hide (play_kept HP4.out hAK)
                  have HK5 := hide (new_block wA (.cells #[.int .i64 (lo : Int), .int .i64 (hi : Int)] 3))
                  have HGW : Hid (w.heap.size < wA.heap.size) := hide (Nat.lt_trans HG.out (play_lt HP4.out))
                  clear hAK
                  by_cases hlt : u < l.length
                  · have HLT := hide hlt
                    have E1 := hide (endDone (ok := some ⟨wA.heap.size, 0, none⟩) (nk := 2) (ck := 2) HP5.out HU4.out)
                    rw [if_pos hlt] at E1
                    clear hlt
                    go_wp2_with fail
                    (with_reducible refine (E1.out).mono ?_)
                    rintro e wE ⟨he, hBE⟩
                    obtain rfl := he
                    have HRE := hide ((hBE.block _ (block_lt HR5.out)).trans HR5.out)
                    have HBE := hide (HB5.out.trans (hBE.mono HB5.out.size))
                    have HBX := hide hBE
                    clear hBE
                    obtain ⟨q0, q1, q2, q3⟩ := q_cells HRE.out
                    have s0 := frozen_of HRE.out 0
                    have s1 := frozen_of HRE.out 1
                    have s2 := frozen_of HRE.out 2
                    have s3 := frozen_of HRE.out 3
                    go_wp2_with fail
                    refine final8 (X := putQ wE w.heap.size false nilV nilV nilV) rfl ?_
                    have HP := hide (putQ_block (e := false) (b := nilV) (l := nilV) (q := nilV) HRE.out)
                    have HQ := hide (putQ_below (d := false) (a := nilV) (l := nilV) (p := nilV) HBE.out (B := w.heap.size) (Nat.le_refl _))
                    generalize putQ wE w.heap.size false nilV nilV nilV = X at *
                    obtain ⟨x0, x1, x2, x3⟩ := q_cells HP.out
                    refine bodyPost_ret (v := .tuple #[questV false nilV nilV nilV, .int .i64 8]) (by simp [results, Try.results8, go_sem, x0, x1, x2, x3]) rfl ?_
                    exact ⟨HOB.out _ _ ⟨_, HGO.out _ (.fin HNE.out), by rw [Out, if_neg (by rw [List.drop_eq_nil_iff]; have := HLT.out; omega)]⟩, HQ.out⟩
                  · have HLT := hide hlt
                    have E1 := hide (endDone (ok := some ⟨wA.heap.size, 0, none⟩) (nk := 2) (ck := 2) HP5.out HU4.out)
                    rw [if_neg hlt] at E1
                    clear hlt
                    go_wp2_with fail
                    (with_reducible refine (E1.out).mono ?_)
                    rintro e wE ⟨he, hBE⟩
                    obtain rfl := he
                    have HRE := hide ((hBE.block _ (block_lt HR5.out)).trans HR5.out)
                    have HBE := hide (HB5.out.trans (hBE.mono HB5.out.size))
                    have HBX := hide hBE
                    clear hBE
                    obtain ⟨q0, q1, q2, q3⟩ := q_cells HRE.out
                    have s0 := frozen_of HRE.out 0
                    have s1 := frozen_of HRE.out 1
                    have s2 := frozen_of HRE.out 2
                    have s3 := frozen_of HRE.out 3
                    go_wp2_with fail
                    refine final8 (X := putQ wE w.heap.size true nilV (.slice (some ⟨wA.heap.size, 0, none⟩) 2 2) nilV) rfl ?_
                    have HP := hide (putQ_block (e := true) (b := nilV) (l := (.slice (some ⟨wA.heap.size, 0, none⟩) 2 2)) (q := nilV) HRE.out)
                    have HQ := hide (putQ_below (d := true) (a := nilV) (l := (.slice (some ⟨wA.heap.size, 0, none⟩) 2 2)) (p := nilV) HBE.out (B := w.heap.size) (Nat.le_refl _))
                    have HKX := hide ((putQ_other (w := wE) (d := true) (a := nilV) (l := .slice (some ⟨wA.heap.size, 0, none⟩) 2 2) (p := nilV) (Nat.ne_of_gt HGW.out)).trans ((HBX.out.block _ (block_lt HK5.out)).trans HK5.out))
                    generalize putQ wE w.heap.size true nilV (.slice (some ⟨wA.heap.size, 0, none⟩) 2 2) nilV = X at *
                    obtain ⟨x0, x1, x2, x3⟩ := q_cells HP.out
                    refine bodyPost_ret (v := .tuple #[questV true nilV (.slice (some ⟨wA.heap.size, 0, none⟩) 2 2) nilV, .int .i64 0]) (by simp [results, Try.results8, go_sem, x0, x1, x2, x3]) rfl ?_
                    exact ⟨HOB.out _ _ ⟨_, HGO.out _ (.fin HNE.out), by rw [Out, if_pos (by rw [List.drop_eq_nil_iff]; have := HLT.out; omega)]; exact ⟨wA.heap.size, rfl, HKX.out, Nat.le_of_lt HGW.out⟩⟩, HQ.out⟩
                | some v =>
                  rw [hn] at he
                  have HNE := hide hn
                  clear hn
                  obtain rfl : e = .returned (.int .i64 (v : Int)) := he
                  have tv : decide ((v : Int) < 0) = false := decide_eq_false (by omega)
                  have HVm : Hid (v < m) := hide (by have := near_in HNE.out; have := HHI.out; omega)
                  have HV256 : Hid (v < 256) := hide (by have := HVm.out; have := HM3.out; omega)
                  go_wp2_with fail
                  (with_reducible refine (versionRef HP4.out HU4.out HV256.out).mono ?_)
                  rintro e w5 ht
                  cases hv : ver (tries z) 3 (l.drop u) with
                  | none =>
                    rw [hv] at ht
                    have HVM := hide hv
                    clear hv
                    obtain ⟨rfl, hk, x', hp, ho⟩ := ht
                    obtain ⟨ow, cw, hx⟩ := Go.Il.Own.form ho
                    subst hx
                    have HRS := hide (keeps_block hk (Nat.ne_of_lt HG.out) HR4.out)
                    have HBS := hide (HB4.out.trans (hk.below.mono (Nat.le_of_lt HG.out)))
                    have HPS := hide hp
                    have HOS := hide (own_mono (B' := w.heap.size) (by have := HB4.out.size; omega) ho)
                    have cst := play_stop hp
                    clear hk hp ho
                    go_wp2_with fail
                    (with_reducible refine (endStop HPS.out).mono ?_)
                    rintro e wE ⟨he, hBE⟩
                    obtain rfl := he
                    have HRE := hide ((hBE.block _ (block_lt HRS.out)).trans HRS.out)
                    have HBE := hide (HBS.out.trans (hBE.mono HBS.out.size))
                    have HBX := hide hBE
                    clear hBE
                    obtain ⟨q0, q1, q2, q3⟩ := q_cells HRE.out
                    have s0 := frozen_of HRE.out 0
                    have s1 := frozen_of HRE.out 1
                    have s2 := frozen_of HRE.out 2
                    have s3 := frozen_of HRE.out 3
                    go_wp2_with fail
                    refine final8 (X := putQ wE w.heap.size false (.slice ow 1 cw) nilV nilV) rfl ?_
                    have HP := hide (putQ_block (e := false) (b := (.slice ow 1 cw)) (l := nilV) (q := nilV) HRE.out)
                    have HQ := hide (putQ_below (d := false) (a := (.slice ow 1 cw)) (l := nilV) (p := nilV) HBE.out (B := w.heap.size) (Nat.le_refl _))
                    have HOX := hide (own_put (d := false) (a := .slice ow 1 cw) (k := nilV) (p := nilV) (own_up HOS.out HBX.out) HRE.out)
                    generalize putQ wE w.heap.size false (.slice ow 1 cw) nilV nilV = X at *
                    obtain ⟨x0, x1, x2, x3⟩ := q_cells HP.out
                    refine bodyPost_ret (v := .tuple #[questV false (.slice ow 1 cw) nilV nilV, .int .i64 0]) (by simp [results, Try.results8, go_sem, x0, x1, x2, x3]) rfl ?_
                    exact ⟨HOB.out _ _ ⟨_, (HGO.out _ (.ask HNE.out HVM.out)), .slice ow 1 cw, rfl, by rw [upTo_one, if_pos HV256.out]; exact HOX.out⟩, HQ.out⟩
                  | some xr =>
                    obtain ⟨x, r⟩ := xr
                    rw [hv] at ht
                    have HVM := hide hv
                    clear hv
                    obtain ⟨rfl, hk, u', hu', hr, hp⟩ := ht
                    have HR5 := hide (keeps_block hk (Nat.ne_of_lt HG.out) HR4.out)
                    have HK5 := hide (keeps_block hk (Nat.ne_of_gt HGK.out) HK.out)
                    have HB5 := hide (HB4.out.trans (hk.below.mono (Nat.le_of_lt HG.out)))
                    have HP5 := hide hp
                    have HU5 := hide hu'
                    have HRU5 := hide hr
                    have cst := play_stop hp
                    clear hk hp hu' hr tv
                    have k1 : (v : Int) < (m : Int) := by have := HVm.out; omega
                    have k2 : w5.frozen? ⟨kb, v, none⟩ = false := frozen_of HK5.out v
                    have k3 : w5.cell? ⟨kb, v, none⟩ = some (.bool (known K v)) := rowB_cell HK5.out (by rw [HKM.out]; exact HVm.out)
                    rcases ver_value HVM.out with rfl | rfl | rfl
                    · have HNEXT : Hid (∀ res, Goes (tries z) v hi (known (K.set v true)) (l.drop u') res → Bis (tries z) m l res) := hide fun res hg => HGO.out res (.pass HNE.out HVM.out (HRU5.out ▸ hg.congr fun i a b => by rw [known_set (by rw [HKM.out]; exact HVm.out)]; simp; omega))
                      go_wp2_with fail
                      refine ⟨⟨v, hi, u', K.set v true, rfl, rfl, by have := near_in HNE.out; omega, HHI.out, by rw [List.length_set]; exact HKM.out, HU5.out, HNEXT, ?_, ?_, ?_, ?_⟩, ?_⟩
                      · exact HB5.out.setCell (p := ⟨kb, v, none⟩) (by have := HG.out; have := HGK.out; show w.heap.size ≤ kb; omega) _
                      · exact play_other HP5.out ((Below.refl g w5).setCell (p := ⟨kb, v, none⟩) (Nat.le_of_lt HGK.out) _) (Below.heap_setCell _ _ _ _ (Nat.ne_of_lt HGK.out))
                      · exact rowB_set HK5.out (by rw [HKM.out]; exact HVm.out)
                      · exact (Below.heap_setCell _ ⟨kb, v, none⟩ _ _ (by have := HG.out; have := HGK.out; show w.heap.size ≠ kb; omega)).trans HR5.out
                      · rw [used_play HP4.out, used_play (play_other HP5.out ((Below.refl g w5).setCell (p := ⟨kb, v, none⟩) (Nat.le_of_lt HGK.out) (.bool true)) (Below.heap_setCell _ _ _ _ (Nat.ne_of_lt HGK.out)))]
                        exact used_less HZ.out HU4.out HU5.out (HRU5.out ▸ HVM.out)
                    · have HNEXT : Hid (∀ res, Goes (tries z) lo v (known (K.set v true)) (l.drop u') res → Bis (tries z) m l res) := hide fun res hg => HGO.out res (.fail HNE.out HVM.out (HRU5.out ▸ hg.congr fun i a b => by rw [known_set (by rw [HKM.out]; exact HVm.out)]; simp; omega))
                      go_wp2_with fail
                      refine ⟨⟨lo, v, u', K.set v true, rfl, rfl, by have := near_in HNE.out; omega, HVm.out, by rw [List.length_set]; exact HKM.out, HU5.out, HNEXT, ?_, ?_, ?_, ?_⟩, ?_⟩
                      · exact HB5.out.setCell (p := ⟨kb, v, none⟩) (by have := HG.out; have := HGK.out; show w.heap.size ≤ kb; omega) _
                      · exact play_other HP5.out ((Below.refl g w5).setCell (p := ⟨kb, v, none⟩) (Nat.le_of_lt HGK.out) _) (Below.heap_setCell _ _ _ _ (Nat.ne_of_lt HGK.out))
                      · exact rowB_set HK5.out (by rw [HKM.out]; exact HVm.out)
                      · exact (Below.heap_setCell _ ⟨kb, v, none⟩ _ _ (by have := HG.out; have := HGK.out; show w.heap.size ≠ kb; omega)).trans HR5.out
                      · rw [used_play HP4.out, used_play (play_other HP5.out ((Below.refl g w5).setCell (p := ⟨kb, v, none⟩) (Nat.le_of_lt HGK.out) (.bool true)) (Below.heap_setCell _ _ _ _ (Nat.ne_of_lt HGK.out)))]
                        exact used_less HZ.out HU4.out HU5.out (HRU5.out ▸ HVM.out)
                    · have HNEXT : Hid (∀ res, Goes (tries z) lo hi (known (K.set v true)) (l.drop u') res → Bis (tries z) m l res) := hide fun res hg => HGO.out res (.skip HNE.out HVM.out (HRU5.out ▸ hg.congr fun i a b => by rw [known_set (by rw [HKM.out]; exact HVm.out)]))
                      go_wp2_with fail
                      refine ⟨⟨lo, hi, u', K.set v true, rfl, rfl, HLE.out, HHI.out, by rw [List.length_set]; exact HKM.out, HU5.out, HNEXT, ?_, ?_, ?_, ?_⟩, ?_⟩
                      · exact HB5.out.setCell (p := ⟨kb, v, none⟩) (by have := HG.out; have := HGK.out; show w.heap.size ≤ kb; omega) _
                      · exact play_other HP5.out ((Below.refl g w5).setCell (p := ⟨kb, v, none⟩) (Nat.le_of_lt HGK.out) _) (Below.heap_setCell _ _ _ _ (Nat.ne_of_lt HGK.out))
                      · exact rowB_set HK5.out (by rw [HKM.out]; exact HVm.out)
                      · exact (Below.heap_setCell _ ⟨kb, v, none⟩ _ _ (by have := HG.out; have := HGK.out; show w.heap.size ≠ kb; omega)).trans HR5.out
                      · rw [used_play HP4.out, used_play (play_other HP5.out ((Below.refl g w5).setCell (p := ⟨kb, v, none⟩) (Nat.le_of_lt HGK.out) (.bool true)) (Below.heap_setCell _ _ _ _ (Nat.ne_of_lt HGK.out)))]
                        exact used_less HZ.out HU4.out HU5.out (HRU5.out ▸ HVM.out)
            · have ey0 : (y == (2 : Int)) = false := beq_false_of_ne ey
              have ey1 : (y != (2 : Int)) = true := by simp [bne, ey0]
              have EY := hide ey
              clear ey
              go_wp2_with fail
              (with_reducible refine (endErr HP3.out (by decide)).mono ?_)
              rintro e wE ⟨he, hBE⟩
              obtain rfl := he
              have HRE := hide ((hBE.block _ (block_lt HR3.out)).trans HR3.out)
              have HBE := hide (HB3.out.trans (hBE.mono HB3.out.size))
              have HBX := hide hBE
              clear hBE
              obtain ⟨q0, q1, q2, q3⟩ := q_cells HRE.out
              have s0 := frozen_of HRE.out 0
              have s1 := frozen_of HRE.out 1
              have s2 := frozen_of HRE.out 2
              have s3 := frozen_of HRE.out 3
              go_wp2_with fail
              refine final8 (X := putQ wE w.heap.size false nilV nilV nilV) rfl ?_
              have HP := hide (putQ_block (e := false) (b := nilV) (l := nilV) (q := nilV) HRE.out)
              have HQ := hide (putQ_below (d := false) (a := nilV) (l := nilV) (p := nilV) HBE.out (B := w.heap.size) (Nat.le_refl _))
              generalize putQ wE w.heap.size false nilV nilV nilV = X at *
              obtain ⟨x0, x1, x2, x3⟩ := q_cells HP.out
              refine bodyPost_ret (v := .tuple #[questV false nilV nilV nilV, .int .i64 7]) (by simp [results, Try.results8, go_sem, x0, x1, x2, x3]) rfl ?_
              exact ⟨HOB.out _ _ ⟨_, .bad1 HV0.out HV1.out EY.out, rfl⟩, HQ.out⟩
        · have ex0 : (x == (1 : Int)) = false := beq_false_of_ne ex
          have ex1 : (x != (1 : Int)) = true := by simp [bne, ex0]
          have EX := hide ex
          clear ex
          go_wp2_with fail
          (with_reducible refine (endErr HP2.out (by decide)).mono ?_)
          rintro e wE ⟨he, hBE⟩
          obtain rfl := he
          have HRE := hide ((hBE.block _ (block_lt HR2.out)).trans HR2.out)
          have HBE := hide (HB2.out.trans (hBE.mono HB2.out.size))
          have HBX := hide hBE
          clear hBE
          obtain ⟨q0, q1, q2, q3⟩ := q_cells HRE.out
          have s0 := frozen_of HRE.out 0
          have s1 := frozen_of HRE.out 1
          have s2 := frozen_of HRE.out 2
          have s3 := frozen_of HRE.out 3
          go_wp2_with fail
          refine final8 (X := putQ wE w.heap.size false nilV nilV nilV) rfl ?_
          have HP := hide (putQ_block (e := false) (b := nilV) (l := nilV) (q := nilV) HRE.out)
          have HQ := hide (putQ_below (d := false) (a := nilV) (l := nilV) (p := nilV) HBE.out (B := w.heap.size) (Nat.le_refl _))
          generalize putQ wE w.heap.size false nilV nilV nilV = X at *
          obtain ⟨x0, x1, x2, x3⟩ := q_cells HP.out
          refine bodyPost_ret (v := .tuple #[questV false nilV nilV nilV, .int .i64 7]) (by simp [results, Try.results8, go_sem, x0, x1, x2, x3]) rfl ?_
          exact ⟨HOB.out _ _ ⟨_, .bad0 HV0.out EX.out, rfl⟩, HQ.out⟩
end Go.Proofs.Ytdpgcoicbagflaa.Bi
