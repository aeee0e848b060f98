import Derived.Test.YtinllamocplgjaaNoE
set_option maxRecDepth 100000
namespace Go.Proofs.Ytinllamocplgjaa.No
open Go Go.Ms Go.Pg Go.Rc Go.No Go.ChangeShapes Go.WideShapes Go.ChangeAt Go.RowKit Go.Deep Go.Proofs.Ytinllamocplgjaa.Rc

theorem OwnP.alloc {B : Nat} {w : World} {v : Value} {l : List Pick} (h : OwnP B w v l) (o : Obj) : OwnP B (w.alloc o) v l := World.ownsRow.alloc h o
theorem err_take_zero : ∀ {l : List Pick} {s : Int} (k : Nat), err s l = 0 → err s (l.take k) = 0
  | [], _, k, h => by simpa using h
  | p :: l, s, 0, _ => by simp [err]
  | p :: l, s, k + 1, h => by
    simp only [List.take_succ_cons, err] at h ⊢
    split at h
    · cases h
    · rename_i hb
      split at h
      · cases h
      · rename_i hs
        rw [if_neg hb, if_neg hs]
        exact err_take_zero k h
theorem err_elem : ∀ {l : List Pick} {s : Int}, err s l = 0 → ∀ p ∈ l, ¬ Bad p ∧ p.2 ≤ s
  | [], _, _, p, hp => by simp at hp
  | q :: l, s, h, p, hp => by
    simp only [err] at h
    split at h
    · cases h
    · rename_i hb
      split at h
      · cases h
      · rename_i hs
        rcases List.mem_cons.1 hp with rfl | hp
        · exact ⟨hb, by omega⟩
        · have := err_elem h p hp
          simp only [Bad] at hb
          exact ⟨this.1, by omega⟩

set_option maxHeartbeats 8000000 in
theorem mergedProg {w : World} {v : Value} {l : List Pick} (h : Picks w v l) (hl : l.length ≤ 100000) (h0 : err 65536 l = 0) :
    Calls Try.prog 30 #[v] w fun e w' => ∃ v', e = .returned v' ∧ Below w.heap.size w w' ∧ OwnP w.heap.size w' v' (norm l) := by
  obtain ⟨oa, ca, rfl, hla, hc⟩ := h
  have HC := hide hc
  have HZ := hide h0
  clear hc h0
  go_enter Try.func30, Try.ntmps30
  go_wp2_with fail
  go_loopw [3, 9] (fun v i wr => ∃ k : Nat, k ≤ l.length ∧ i = .int .i64 (k : Int) ∧ OwnP w.heap.size wr v (norm (l.take k)) ∧ Below w.heap.size w wr) (fun _ i _ => l.length - (intOf i).toNat)
  case atStart => exact ⟨0, Nat.zero_le _, rfl, OwnP.nil _ _, Below.refl _ _⟩
  case round =>
    obtain ⟨k, hk, rfl, hO, hB⟩ := hrel
    have HB := hide hB
    by_cases hlt : k < l.length
    · have hi1 : (k : Int) < (l.length : Int) := by omega
      obtain ⟨b1, o1, rfl, f0, f0'⟩ := pick_cell HC.out hlt
      have f1 := cell_below HB.out f0
      have f2 := cell_below HB.out f0'
      have hbx : w.heap.size ≤ wr.heap.size := HB.out.size
      have HO := hide (hO.alloc (.cells #[.int .i64 l[k].1, .int .i64 l[k].2] 36))
      have HB1 := hide (HB.out.alloc hbx (.cells #[.int .i64 l[k].1, .int .i64 l[k].2] 36))
      have HM : Hid (norm (l.take (k + 1)) = put (norm (l.take k)) l[k]) := hide (by rw [take_snoc hlt, norm_snoc])
      have HE := hide (err_take_zero k HZ.out)
      have HS := hide (sum_bound _ _ (by omega) HE.out)
      have HK := hide (And.intro (norm_sum (l.take k)) (norm_pos HE.out))
      have HP := hide (err_elem HZ.out l[k] (List.getElem_mem hlt))
      have hln : (norm (l.take k)).length ≤ 100000 := Nat.le_trans (norm_length _) (by rw [List.length_take]; omega)
      clear f0 f0' hO hB
      generalize hm : norm (l.take k) = m at *
      clear hm
      rcases List.eq_nil_or_concat m with rfl | ⟨m', q, rfl⟩
      · obtain ⟨oa2, cap2, rfl⟩ := OwnP.form HO.out
        have hz : IntKind.i64.wrap ((0 : Int) - 1) = -1 := by decide
        have hb2 := HB1.out.size
        have HL7 : Hid (([] : List Pick).length ≤ 10000000) := hide (by simp)
        go_wp2_with fail
        go_big_quiet (fail)
        go_wp2_with (first
          | (at_builtin
             (refine Go.Il.wpl_pushS EP (by decide) rfl (.tmp 38) (.tmp 40) rfl (OwnP.drewN HO.out _) _ #[.int .i64 l[k].1, .int .i64 l[k].2] rfl rfl rfl one_pc (by simp) (by omega) HL7.out ?_
              intro v1 w1 h1 hg
              have HP2 := hide (OwnP.pushed (OwnP.drewN HO.out _) hb2 h1 hg)
              clear h1 hg))
          | fail)
        refine ⟨⟨k + 1, by omega, by go_num, ?_, HB1.out.trans ((belowN _ _ _).trans HP2.out.2)⟩, by simp [intOf]; omega⟩
        rw [HM.out]
        exact HP2.out.1
      · rw [List.concat_eq_append] at HO HM hln HK
        have HL := hide (last_le HK.out.2)
        have hsum : Hid (No.sum (m' ++ [q]) = No.sum (l.take k)) := hide HK.out.1
        have HL7 : Hid ((m' ++ [q]).length ≤ 10000000) := hide (by omega)
        have hlen : (m' ++ [q]).length = m'.length + 1 := by simp
        have hb2 := HB1.out.size
        rw [hlen] at hln
        obtain ⟨oa2, cap2, rfl⟩ := OwnP.form HO.out
        rw [hlen] at HO ⊢
        obtain ⟨g, rfl, hgB, hgw, c1, c2, c3⟩ := OwnP.get HO.out (i := m'.length) (by simp)
        have eq1 : (m' ++ [q])[m'.length]'(by simp) = q := by simp
        rw [eq1] at c1 c2
        clear eq1 hlen HK
        have k1 : IntKind.i64.wrap (((m'.length + 1 : Nat) : Int) - 1) = (m'.length : Int) := by
          rw [wrap_in (by omega) (by omega)]
          omega
        have k2 : IntKind.i64.wrap ((m'.length : Int) + 1 - 1) = (m'.length : Int) := by
          rw [wrap_in (by omega) (by omega)]
          omega
        have k3 : IntKind.i64.wrap (m'.length : Int) = (m'.length : Int) := wrap_in (by omega) (by omega)
        have k4 : (m'.length : Int) < ((m'.length + 1 : Nat) : Int) := by omega
        have k5 : decide ((0 : Int) ≤ (m'.length : Int)) = true := decide_eq_true (by omega)
        have k7 : (m'.length : Int) < (m'.length : Int) + 1 := by omega
        by_cases ht : q.1 = l[k].1
        · have ht' : (q.1 == l[k].1) = true := by simpa using ht
          have hw2 : IntKind.i64.wrap (q.2 + l[k].2) = q.2 + l[k].2 := by
            have a1 := HL.out
            rw [hsum.out] at a1
            have a2 := HS.out
            have a3 := HP.out
            simp only [Bad] at a3
            exact wrap_in (by omega) (by omega)
          have HTT := hide ht
          clear ht
          go_wp2_with fail
          go_big_quiet (fail)
          go_wp2_with fail
          go_region
          all_goals
            have HT2 := hide (OwnP.stored (c := q.2 + l[k].2) (OwnP.drewN HO.out nq))
            go_wp2
            refine ⟨⟨k + 1, by omega, by go_num, ?_, ?_⟩, by simp [intOf]; omega⟩
            · rw [HM.out, put_same HTT.out]
              exact HT2.out
            · exact HB1.out.trans (((belowN _ _ _).drew).setCell (p := ⟨g, m'.length * 2 + 1, none⟩) hgB _)
        · have ht' : (q.1 == l[k].1) = false := by simpa using ht
          have HTT := hide ht
          clear ht
          go_wp2_with fail
          go_big_quiet (fail)
          go_wp2_with (first
            | (at_builtin
               (refine Go.Il.wpl_pushS EP (by decide) rfl (.tmp 38) (.tmp 40) rfl (OwnP.drewN HO.out _) _ #[.int .i64 l[k].1, .int .i64 l[k].2] rfl rfl rfl one_pc (by simp) (by omega) HL7.out ?_
                intro v1 w1 h1 hg
                have HP2 := hide (OwnP.pushed (OwnP.drewN HO.out _) hb2 h1 hg)
                clear h1 hg))
            | fail)
          refine ⟨⟨k + 1, by omega, by go_num, ?_, HB1.out.trans ((belowN _ _ _).trans HP2.out.2)⟩, by simp [intOf]; omega⟩
          rw [HM.out, put_other HTT.out]
          exact HP2.out.1
    · obtain rfl : k = l.length := by omega
      rw [List.take_length] at hO
      have HO := hide hO
      clear hO hB
      go_wp2_with fail
      go_ret
      exact ⟨_, rfl, HB.out, HO.out⟩
end Go.Proofs.Ytinllamocplgjaa.No
