import Derived.Test.YtinllamocplgjaaNoN
import Derived.Lib.AppendZeros
import Derived.Deep.RegionWith
set_option maxRecDepth 100000
namespace Go.Proofs.Ytinllamocplgjaa.No
open Go Go.Ms Go.Pg Go.Rc Go.No Go.ChangeShapes Go.WideShapes Go.ChangeAt Go.RowKit Go.Deep Go.Shelf Go.Proofs.Ytinllamocplgjaa.Rc

theorem grown_zeros (n : Nat) (h0 : 0 < n) (hn : n ≤ 100000) (W : World) : ∃ cap Z, n ≤ cap ∧ cap ≤ maxLen ∧ Z.size = cap * 2 ∧
    (Builtin.append_ #[28, 3] 28 #[.slice none 0 0, .int .i64 n]).run Try.prog W = .ok (.slice (some ⟨W.heap.size, 0, none⟩) n cap) (W.drew.alloc (.cells Z 36)) := by
  obtain ⟨ht, i, z, hi, hz, hsz, hb, hzs, hpos⟩ := EP
  refine ⟨grownCap W n 0 36, _, grownCap_ge W n 0 36, grownCap_le_maxLen W n 0 36 (by unfold maxLen; omega), ?_, Lib.run_append_nil_zeros (P := Try.prog) W 28 3 28 36 i z .i64 .i64 ht Try.underlying3 hi hz n h0 (by omega) (by omega) (by rw [hb]; omega)⟩
  have := grownCap_ge W n 0 36
  simp only [Array.size_append, size_zeroCells, hzs]
  omega

set_option maxHeartbeats 4000000 in
theorem growProg {w : World} {n : Nat} (h0 : 0 < n) (hn : n ≤ 100000) :
    Calls Try.prog 68 #[.slice none 0 0, .int .i64 n] w fun e w' => ∃ v', e = .returned v' ∧ Below w.heap.size w w' ∧ OwnP w.heap.size w' v' [] := by
  obtain ⟨cap, Z, hc, hcm, hZ, hr⟩ := grown_zeros n h0 hn w
  have h1 : ¬ (n : Int) < 0 := by omega
  have h2 : (0 : Int) < (n : Int) := by omega
  have h3 : IntKind.i64.wrap (n : Int) = n := wrap_in (by omega) (by omega)
  have HR := hide hr
  have HZ := hide hZ
  have HC := hide hcm
  clear hr hZ hcm
  go_enter Try.func68, Try.ntmps68
  go_wp2_with (first
    | (at_builtin
       (refine Lib.wpList_append_run _ rfl _ _ _ _ rfl _ _ rfl rfl _ _ HR.out ?_))
    | fail)
  go_ret
  refine ⟨_, rfl, Below.alloc (Below.drew (Below.refl _ w)) (Nat.le_refl _) _, by simp, .inr ⟨w.heap.size, cap, Z, rfl, Nat.le_refl _, new_block w.drew _, Nat.zero_le _, HC.out, HZ.out, by simp⟩⟩

def total (rows : List (Value × List Pick)) : Nat := (rows.map (·.2.length)).sum
theorem total_take {rows : List (Value × List Pick)} {k : Nat} (h : k < rows.length) : total (rows.take (k + 1)) = total (rows.take k) + rows[k].2.length := by
  unfold total
  rw [List.take_succ_eq_append_getElem h, List.map_append, List.sum_append]
  simp
theorem total_le (rows : List (Value × List Pick)) (k : Nat) : total (rows.take k) ≤ total rows := by
  have h : total rows = total (rows.take k) + total (rows.drop k) := by
    unfold total
    rw [← List.sum_append, ← List.map_append, List.take_append_drop]
  omega
theorem flat_length (rows : List (Value × List Pick)) : (rows.flatMap (·.2)).length = total rows := by
  unfold total
  rw [List.length_flatMap]

set_option maxHeartbeats 8000000 in
theorem concatProg {w : World} {b cap : Nat} {rows : List (Value × List Pick)} (h : ∀ i (hi : i < rows.length), w.cell? ⟨b, i, none⟩ = some rows[i].1 ∧ Picks w rows[i].1 rows[i].2) (h0 : 0 < total rows) (hn : total rows ≤ 100000) (hr : rows.length ≤ 100) :
    Calls Try.prog 55 #[.slice (some ⟨b, 0, none⟩) rows.length cap] w fun e w' => ∃ v', e = .returned v' ∧ Below w.heap.size w w' ∧ OwnP w.heap.size w' v' (rows.flatMap (·.2)) := by
  have HH := hide h
  clear h
  go_enter Try.func55, Try.ntmps55
  go_wp2_with fail
  go_loopw [3, 11] (fun s i wr => ∃ k : Nat, k ≤ rows.length ∧ i = .int .i64 (k : Int) ∧ s = .int .i64 ((total (rows.take k) : Nat) : Int) ∧ ∃ n, wr = w.drewN n) (fun _ i _ => rows.length - (intOf i).toNat)
  case atStart => exact ⟨0, Nat.zero_le _, rfl, rfl, 0, rfl⟩
  case round =>
    obtain ⟨k, hk, rfl, rfl, n, rfl⟩ := hrel
    by_cases hlt : k < rows.length
    · have hi1 : (k : Int) < (rows.length : Int) := by omega
      obtain ⟨f1, f2⟩ := HH.out k hlt
      obtain ⟨oa, ca, e⟩ := f2.slice
      rw [e] at f1
      clear f2 e
      have q1 := total_take hlt
      have q2 := total_le rows (k + 1)
      have q3 : IntKind.i64.wrap (((total (rows.take k) : Nat) : Int) + ((rows[k].2.length : Nat) : Int)) = ((total (rows.take (k + 1)) : Nat) : Int) := by
        rw [wrap_in (by omega) (by omega)]
        omega
      have q4 : ¬ (((total (rows.take (k + 1)) : Nat) : Int)) < 0 := by omega
      clear q1 q2
      go_wp2_with fail
      refine ⟨⟨k + 1, by omega, by go_num, rfl, _, rfl⟩, by simp [intOf]; omega⟩
    · obtain rfl : k = rows.length := by omega
      rw [List.take_length]
      go_wp2_with (first
        | (go_at_call 68
           (with_reducible refine (growProg h0 hn).mono ?_)
           rintro e w1 ⟨u, rfl, hB1, hO1⟩
           have HB1 := hide hB1
           have HO1 := hide hO1
           clear hB1 hO1)
        | fail)
      go_loopw [6, 27] (fun v i wr => ∃ k : Nat, k ≤ rows.length ∧ i = .int .i64 (k : Int) ∧ OwnP w.heap.size wr v ((rows.take k).flatMap (·.2)) ∧ Below w.heap.size w wr) (fun _ i _ => rows.length - (intOf i).toNat)
      case atStart => exact ⟨0, Nat.zero_le _, rfl, HO1.out, (belowN _ w n).trans HB1.out⟩
      case round =>
        obtain ⟨k, hk, rfl, hO, hB⟩ := hrel
        have HO := hide hO
        have HB := hide hB
        clear hO hB
        by_cases hlt : k < rows.length
        · have hi1 : (k : Int) < (rows.length : Int) := by omega
          obtain ⟨f0, f2⟩ := HH.out k hlt
          have HF := hide f2
          obtain ⟨oa, ca, e⟩ := f2.slice
          rw [e] at f0 HF
          have f1 := cell_below HB.out f0
          clear f2 e f0
          have hz : w.heap.size ≤ wr.heap.size := HB.out.size
          have hlen : Hid (((rows.take k).flatMap (·.2)).length + rows[k].2.length ≤ 10000000) := hide (by
            have q1 := total_take hlt
            have q2 := total_le rows (k + 1)
            rw [flat_length]
            omega)
          have HT : Hid ((rows.take (k + 1)).flatMap (·.2) = (rows.take k).flatMap (·.2) ++ rows[k].2) := hide (by rw [List.take_succ_eq_append_getElem hlt, List.flatMap_append]; simp)
          go_wp2_with (first
            | (at_builtin
               (refine wpl_pushP rfl (.tmp 31) (.tmp 32) rfl HO.out HF.out HB.out hz rfl rfl hlen.out ?_
                intro v1 w2 ho1 hb1
                have HO2 := hide ho1
                have HB2 := hide (HB.out.trans hb1)
                clear ho1 hb1))
            | fail)
          refine ⟨⟨k + 1, by omega, by go_num, ?_, HB2.out⟩, by simp [intOf]; omega⟩
          rw [HT.out]
          exact HO2.out
        · obtain rfl : k = rows.length := by omega
          rw [List.take_length] at HO
          go_wp2_with fail
          go_ret
          exact ⟨_, rfl, HB.out, HO.out⟩

theorem laterFrom_spec (l : List Pick) (t : Int) : ∀ (n i : Nat) (k : Int), laterFrom l t n i = k → k ≠ -1 → ∃ j : Nat, k = j ∧ i ≤ j ∧ j < l.length ∧ ∃ h : j < l.length, l[j].1 = t
  | 0, _, k, h, hk => absurd h.symm hk
  | n + 1, i, k, h, hk => by
    unfold laterFrom at h
    split at h
    · rename_i p hp
      have hi := (List.getElem?_eq_some_iff.1 hp)
      split at h
      · rename_i q
        exact ⟨i, h.symm, Nat.le_refl _, hi.1, hi.1, by rw [hi.2]; exact q⟩
      · obtain ⟨j, h1, h2, h3⟩ := laterFrom_spec l t n (i + 1) k h hk
        exact ⟨j, h1, by omega, h3⟩
    · exact absurd h.symm hk
theorem next_of {m : List Pick} {a : Nat} (ha : a < m.length) (h : gone m a = false) : ∃ n : Nat, later m a = n ∧ a < n ∧ ∃ hn : n < m.length, m[n].1 = m[a].1 := by
  have h1 : (a : Int) < later m a := by
    unfold gone at h
    simpa using h
  obtain ⟨j, e, h2, h3, h4, h5⟩ := laterFrom_spec m ((m[a]?).getD (0, 0)).1 (m.length - (a + 1)) (a + 1) (later m a) rfl (by omega)
  rw [List.getElem?_eq_getElem ha] at h5
  exact ⟨j, e, by omega, h4, by simpa using h5⟩
theorem sub_row {w : World} {b o : Nat} {m : List Pick} (h : ∀ i (hi : i < m.length), ∃ b' o', some (⟨b, o, none⟩ : Addr) = some ⟨b', o', none⟩ ∧ PairAt .i64 .i64 w b' (o' + i * 2) m[i]) (i j c : Nat) (hj : j ≤ m.length) (hm : m.length ≤ 100000) {n : Nat} (hn : n = j - i) :
    Picks w (.slice (some ⟨b, o + i * 2, none⟩) n c) ((m.take j).drop i) := by
  have e : ((m.take j).drop i).length = j - i := by simp; omega
  refine ⟨_, c, by rw [e, hn], by omega, fun k hk => ⟨b, o + i * 2, rfl, ?_⟩⟩
  have hk2 : i + k < m.length := by omega
  obtain ⟨b', o', e', hP⟩ := h (i + k) hk2
  cases e'
  have eg : ((m.take j).drop i)[k] = m[i + k] := by simp
  rw [eg, show o + i * 2 + k * 2 = o + (i + k) * 2 by omega]
  exact hP

theorem own_picks {B : Nat} {w : World} {v : Value} {l : List Pick} (h : OwnP B w v l) (h0 : err 65536 l = 0) (hl : l.length ≤ 100000) : Picks w v l :=
  h.row (fun p hp => by
    have := err_elem h0 p hp
    simp only [Bad] at this
    exact ⟨wf_small (by omega) (by omega), wf_small (by omega) (by omega)⟩) (by omega)
theorem fourProg {w W : World} {g : Nat} (hg : W.heap.size = g) (hB : Below w.heap.size w W) {v1 v2 v3 v4 : Value} {l1 l2 l3 l4 : List Pick} (p1 : Picks w v1 l1) (p2 : Picks w v2 l2) (p3 : Picks w v3 l3) (p4 : Picks w v4 l4) (h0 : 0 < (l1 ++ l2 ++ l3 ++ l4).length) (hn : (l1 ++ l2 ++ l3 ++ l4).length ≤ 100000) :
    Calls Try.prog 55 #[.slice (some ⟨g, 0, none⟩) 4 4] (W.alloc (.cells #[v1, v2, v3, v4] 28)) fun e w' => ∃ v', e = .returned v' ∧ Below w.heap.size w w' ∧ OwnP w.heap.size w' v' (l1 ++ l2 ++ l3 ++ l4) := by
  subst hg
  have hW : Below w.heap.size w (W.alloc (.cells #[v1, v2, v3, v4] 28)) := hB.alloc hB.size _
  have hc : ∀ i, (W.alloc (.cells #[v1, v2, v3, v4] 28)).cell? ⟨W.heap.size, i, none⟩ = (#[v1, v2, v3, v4] : Array Value)[i]? := fun i => cell_of (new_block W _) i
  have ht : total [(v1, l1), (v2, l2), (v3, l3), (v4, l4)] = (l1 ++ l2 ++ l3 ++ l4).length := by simp [total]
  refine (concatProg (b := W.heap.size) (cap := 4) (rows := [(v1, l1), (v2, l2), (v3, l3), (v4, l4)]) (fun i hi => ?_) (by omega) (by omega) (by simp)).mono ?_
  · match i, hi with
    | 0, _ => exact ⟨hc 0, picks_below p1 hW⟩
    | 1, _ => exact ⟨hc 1, picks_below p2 hW⟩
    | 2, _ => exact ⟨hc 2, picks_below p3 hW⟩
    | 3, _ => exact ⟨hc 3, picks_below p4 hW⟩
  · rintro e w' ⟨v', rfl, hb, ho⟩
    refine ⟨v', rfl, hW.trans (hb.mono hW.size), ?_⟩
    have := own_base ho hW.size
    unfold OwnP
    simpa using this
theorem moved_four {m : List Pick} {a n a1 n1 : Nat} (ea : a1 = a + 1) (en : n1 = n + 1) : moved m a n = (m.take a1).drop 0 ++ (m.take n1).drop n ++ (m.take n).drop a1 ++ (m.take m.length).drop n1 := by
  subst ea en
  unfold moved
  have e : (m.take (n + 1)).drop n = (m.drop n).take 1 := by
    rw [List.drop_take]
    congr 1
    omega
  rw [List.drop_zero, List.take_length, e]

set_option maxHeartbeats 8000000 in
theorem joinedProg {w : World} {oa : Option Addr} {cap : Nat} {m : List Pick} {a n : Nat} (h : Picks w (.slice oa m.length cap) m) (hcap : m.length ≤ cap) (hl : m.length ≤ 100000) (h0 : err 65536 m = 0) (ha : a < m.length) (hg : later m a = n) (han : a < n) (hn : n < m.length) :
    Calls Try.prog 35 #[.slice oa m.length cap, .int .i64 a] w fun e w' => ∃ v', e = .returned v' ∧ Below w.heap.size w w' ∧ OwnP w.heap.size w' v' (norm (moved m a n)) := by
  have HL := hide (laterProg h a ha)
  have hc : ∀ i (h : i < m.length), ∃ b o, oa = some ⟨b, o, none⟩ ∧ PairAt .i64 .i64 w b (o + i * 2) m[i] := by
    obtain ⟨oa', ca', e, _, hc⟩ := h
    cases e
    exact hc
  obtain ⟨b, o, rfl, hx0⟩ := hc 0 (by omega)
  clear hx0
  have HC := hide hc
  have HG := hide hg
  have HZ := hide h0
  obtain ⟨a1, ea⟩ : ∃ a1, a1 = a + 1 := ⟨_, rfl⟩
  obtain ⟨n1, en⟩ : ∃ n1, n1 = n + 1 := ⟨_, rfl⟩
  have w1 : IntKind.i64.wrap ((a : Int) + 1) = (a1 : Int) := by rw [wrap_in (by omega) (by omega)]; omega
  have w2 : IntKind.i64.wrap ((n : Int) + 1) = (n1 : Int) := by rw [wrap_in (by omega) (by omega)]; omega
  have t1 : a1 ≤ cap := by omega
  have t2 : n ≤ n1 := by omega
  have t3 : n1 ≤ cap := by omega
  have t4 : a1 ≤ n := by omega
  have t5 : n ≤ cap := by omega
  have t6 : n1 ≤ m.length := by omega
  have t7 : ¬ cap = n := by omega
  have t8 : ¬ cap = a1 := by omega
  have EA := hide ea
  have EN := hide en
  have HLN := hide hl
  have HAN := hide han
  have HNN := hide hn
  clear hc h hg h0 ea en hl han hn ha
  have HM : Hid (err 65536 ((m.take a1).drop 0 ++ (m.take n1).drop n ++ (m.take n).drop a1 ++ (m.take m.length).drop n1) = 0 ∧ 0 < ((m.take a1).drop 0 ++ (m.take n1).drop n ++ (m.take n).drop a1 ++ (m.take m.length).drop n1).length ∧
      ((m.take a1).drop 0 ++ (m.take n1).drop n ++ (m.take n).drop a1 ++ (m.take m.length).drop n1).length ≤ 100000) := hide (by
    rw [← moved_four EA.out EN.out, moved_length HAN.out HNN.out]
    exact ⟨moved_err HAN.out HNN.out HZ.out, by have := HNN.out; omega, HLN.out⟩)
  have R1 : Hid (Picks w (.slice (some ⟨b, o, none⟩) a1 cap) ((m.take a1).drop 0)) := hide (by simpa using sub_row HC.out 0 a1 cap (by omega) HLN.out (n := a1) (by omega))
  have R2 := hide (sub_row HC.out n n1 (cap - n) (by omega) HLN.out (n := n1 - n) rfl)
  have R3 := hide (sub_row HC.out a1 n (cap - a1) (by omega) HLN.out (n := n - a1) rfl)
  have HD : Hid (∀ k, (w.drewN k).heap.size = w.heap.size) := hide fun _ => rfl
  by_cases t9 : cap = n1
  · have R4 : Hid (Picks w (.slice (some ⟨b, o, none⟩) 0 0) ((m.take m.length).drop n1)) := hide (by
      have e : (m.take m.length).drop n1 = [] := by rw [List.take_length]; exact List.drop_of_length_le (by omega)
      rw [e]
      exact ⟨_, _, rfl, Nat.zero_le _, fun i hi => absurd hi (Nat.not_lt_zero i)⟩)
    subst t9
    go_enter Try.func35, Try.ntmps35
    go_wp2_with (first
      | (go_at_call 54
         (with_reducible refine HL.out.mono ?_)
         rintro e w3 ⟨he, nd, rfl⟩
         rw [HG.out] at he
         subst he)
      | fail)
    go_region_with (first
      | (go_at_call 55
         (with_reducible refine (fourProg (HD.out _) (belowN _ w _) R1.out R2.out R3.out R4.out HM.out.2.1 HM.out.2.2).mono ?_)
         rintro e w4 ⟨u, rfl, hB4, hO4⟩
         have HB4 := hide hB4
         have HO4 := hide hO4
         clear hB4 hO4)
      | (go_at_call 30
         (with_reducible refine (mergedProg (own_picks HO4.out HM.out.1 HM.out.2.2) HM.out.2.2 HM.out.1).mono ?_)
         rintro e w5 ⟨u5, rfl, hB5, hO5⟩
         have HB5 := hide hB5
         have HO5 := hide hO5
         clear hB5 hO5)
      | fail)
    all_goals
      go_wp2_with fail
      go_ret
      refine ⟨_, rfl, HB4.out.trans (HB5.out.mono HB4.out.size), ?_⟩
      rw [moved_four EA.out EN.out]
      exact own_base HO5.out HB4.out.size
  · have R4 := hide (sub_row HC.out n1 m.length (cap - n1) (Nat.le_refl _) HLN.out (n := m.length - n1) rfl)
    go_enter Try.func35, Try.ntmps35
    go_wp2_with (first
      | (go_at_call 54
         (with_reducible refine HL.out.mono ?_)
         rintro e w3 ⟨he, nd, rfl⟩
         rw [HG.out] at he
         subst he)
      | fail)
    go_region_with (first
      | (go_at_call 55
         (with_reducible refine (fourProg (HD.out _) (belowN _ w _) R1.out R2.out R3.out R4.out HM.out.2.1 HM.out.2.2).mono ?_)
         rintro e w4 ⟨u, rfl, hB4, hO4⟩
         have HB4 := hide hB4
         have HO4 := hide hO4
         clear hB4 hO4)
      | (go_at_call 30
         (with_reducible refine (mergedProg (own_picks HO4.out HM.out.1 HM.out.2.2) HM.out.2.2 HM.out.1).mono ?_)
         rintro e w5 ⟨u5, rfl, hB5, hO5⟩
         have HB5 := hide hB5
         have HO5 := hide hO5
         clear hB5 hO5)
      | fail)
    all_goals
      go_wp2_with fail
      go_ret
      refine ⟨_, rfl, HB4.out.trans (HB5.out.mono HB4.out.size), ?_⟩
      rw [moved_four EA.out EN.out]
      exact own_base HO5.out HB4.out.size
end Go.Proofs.Ytinllamocplgjaa.No
