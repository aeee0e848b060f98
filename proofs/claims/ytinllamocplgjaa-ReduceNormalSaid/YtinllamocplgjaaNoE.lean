import Derived.Test.YtinllamocplgjaaNoD
set_option maxRecDepth 100000
namespace Go.Proofs.Ytinllamocplgjaa.No
open Go Go.Ms Go.Pg Go.Rc Go.No Go.ChangeShapes Go.WideShapes Go.ChangeAt Go.RowKit Go.Deep Go.Proofs.Ytinllamocplgjaa.Rc

theorem wrap_in {z : Int} (h0 : -1000000 ≤ z) (h : z ≤ 1000000) : IntKind.i64.wrap z = z := by
  simp [IntKind.wrap, IntKind.signed, IntKind.bits]
  omega
theorem sum_bound : ∀ (l : List Pick) (s : Int), 0 ≤ s → err s l = 0 → 0 ≤ No.sum l ∧ No.sum l ≤ s
  | [], s, h, _ => by simp [No.sum]; exact h
  | p :: l, s, h, h0 => by
    simp only [err] at h0
    split at h0
    · cases h0
    · rename_i hb
      split at h0
      · cases h0
      · rename_i hs
        have := sum_bound l (s - p.2) (by omega) h0
        simp only [Bad] at hb
        simp only [No.sum, List.map_cons, List.sum_cons] at this ⊢
        omega
theorem err_whole {s : Int} {l : List Pick} {k : Nat} (h : err s (l.take k) ≠ 0) : err s l = err s (l.take k) := by
  have := err_more (l.take k) (l.drop k) h
  rwa [List.take_append_drop] at this

theorem err_bad {l : List Pick} {k : Nat} {p : Pick} {t : Int} (h : err 65536 (l.take (k + 1)) = (if Bad p then 1 else if t < p.2 then 3 else 0)) (hb : Bad p) : err 65536 l = 1 := by
  rw [if_pos hb] at h
  rw [err_whole (k := k + 1) (by rw [h]; decide), h]
theorem err_much {l : List Pick} {k : Nat} {p : Pick} {t : Int} (h : err 65536 (l.take (k + 1)) = (if Bad p then 1 else if t < p.2 then 3 else 0)) (hb : ¬ Bad p) (ht : t < p.2) : err 65536 l = 3 := by
  rw [if_neg hb, if_pos ht] at h
  rw [err_whole (k := k + 1) (by rw [h]; decide), h]
theorem take_snoc {l : List Pick} {k : Nat} (h : k < l.length) : l.take (k + 1) = l.take k ++ [l[k]] := by
  rw [List.take_succ_eq_append_getElem h]

theorem OwnP.drewN {B : Nat} {w : World} {v : Value} {l : List Pick} (h : OwnP B w v l) (n : Nat) : OwnP B (w.drewN n) v l := h
theorem belowN (B : Nat) (w : World) (n : Nat) : Below B w (w.drewN n) := ⟨rfl, rfl, rfl, Nat.le_refl _, fun _ _ => rfl⟩
theorem OwnP.pushed {B : Nat} {w w1 : World} {v v1 : Value} {l : List Pick} {p : Pick} (h : OwnP B w v l) (hB : B ≤ w.heap.size) (h1 : w1.ownsRow B 36 2 v1 (l.length + 1) (l.flatMap pc ++ pc p)) (hg : (w.alloc (.cells #[.int .i64 p.1, .int .i64 p.2] 36)).grownBy w1 v.ownBlock) :
    OwnP B w1 v1 (l ++ [p]) ∧ Below B w w1 := by
  refine ⟨?_, ((Below.refl B w).alloc hB _).grown hg (by simp; omega) fun k hk => (h.lt k hk).1⟩
  unfold OwnP
  rw [List.flatMap_append, List.length_append]
  simpa [pc] using h1
theorem one_pc {p : Pick} : ∀ u ∈ (#[Value.int .i64 p.1, .int .i64 p.2] : Array Value).toList, u.oneCell' = true := by
  intro u hu
  simp at hu
  rcases hu with rfl | rfl <;> rfl

def Normal (w : World) (l : List Pick) (e : Ending) (w' : World) : Prop :=
  ∃ v', e = .returned (.tuple #[v', .int .i64 (err 65536 l)]) ∧ Below w.heap.size w w' ∧ (err 65536 l = 0 → OwnP w.heap.size w' v' (norm l)) ∧ (err 65536 l ≠ 0 → v' = .slice none 0 0)

set_option maxHeartbeats 8000000 in
theorem normalRef {w : World} {v : Value} {l : List Pick} (h : Picks w v l) (hl : l.length ≤ 100000) : Calls Try.prog 11 #[v] w (Normal w l) := by
  obtain ⟨oa, ca, rfl, hla, hc⟩ := h
  have HC := hide hc
  clear hc
  go_enter Try.func11, Try.ntmps11
  go_wp2_with fail
  go_loopw [4, 5, 6] (fun s v i wr => ∃ k : Nat, k ≤ l.length ∧ i = .int .i64 (k : Int) ∧ s = .int .i64 (No.sum (l.take k)) ∧ err 65536 (l.take k) = 0 ∧ OwnP w.heap.size wr v (norm (l.take k)) ∧ Below w.heap.size w wr) (fun _ _ i _ => l.length - (intOf i).toNat)
  case atStart => exact ⟨0, Nat.zero_le _, rfl, rfl, rfl, OwnP.nil _ _, Below.refl _ _⟩
  case round =>
    obtain ⟨k, hk, rfl, rfl, h0, hO, hB⟩ := hrel
    have HE := hide h0
    have HO := hide hO
    have HB := hide hB
    clear h0 hO hB
    by_cases hlt : k < l.length
    · have hi1 : (k : Int) < (l.length : Int) := by omega
      obtain ⟨b1, o1, rfl, f0, f0'⟩ := pick_cell HC.out hlt
      have f1 := cell_below HB.out f0
      have f2 := cell_below HB.out f0'
      clear f0 f0'
      have HT := hide (err_take hlt HE.out)
      have HS := hide (sum_bound _ _ (by omega) HE.out)
      have eP : (l[k]?.getD (0, 0)) = l[k] := by simp [List.getElem?_eq_getElem hlt]
      rw [eP] at HT
      clear eP
      by_cases hb1 : l[k].1 < 0
      · have HX := hide (err_bad HT.out (.inl hb1))
        go_wp2_with fail
        go_ret2
        exact ⟨.slice none 0 0, by rw [HX.out]; rfl, HB.out, fun q => absurd (HX.out.symm.trans q) (by decide), fun _ => rfl⟩
      · by_cases hb2 : 8 ≤ l[k].1
        · have hb1' : 0 ≤ l[k].1 := by omega
          have HX := hide (err_bad HT.out (.inr (.inl hb2)))
          go_wp2_with fail
          go_ret2
          exact ⟨.slice none 0 0, by rw [HX.out]; rfl, HB.out, fun q => absurd (HX.out.symm.trans q) (by decide), fun _ => rfl⟩
        · by_cases hb3 : l[k].2 < 1
          · have hb1' : 0 ≤ l[k].1 := by omega
            have hb2' : l[k].1 < 8 := by omega
            have HX := hide (err_bad HT.out (.inr (.inr hb3)))
            go_wp2_with fail
            go_ret2
            exact ⟨.slice none 0 0, by rw [HX.out]; rfl, HB.out, fun q => absurd (HX.out.symm.trans q) (by decide), fun _ => rfl⟩
          · have hb1' : 0 ≤ l[k].1 := by omega
            have hb2' : l[k].1 < 8 := by omega
            have hb3' : 1 ≤ l[k].2 := by omega
            have HN : Hid (¬ Bad l[k]) := hide (by unfold Bad; omega)
            have hw0 : IntKind.i64.wrap (65536 - No.sum (l.take k)) = 65536 - No.sum (l.take k) := by
              have := HS.out
              exact wrap_in (by omega) (by omega)
            by_cases hs : 65536 - No.sum (l.take k) < l[k].2
            · have HX := hide (err_much HT.out HN.out hs)
              go_wp2_with fail
              go_ret2
              exact ⟨.slice none 0 0, by rw [HX.out]; rfl, HB.out, fun q => absurd (HX.out.symm.trans q) (by decide), fun _ => rfl⟩
            · have hs' : l[k].2 ≤ 65536 - No.sum (l.take k) := by omega
              have H0 : Hid (err 65536 (l.take (k + 1)) = 0) := hide (by have q := HT.out; rw [if_neg HN.out, if_neg hs] at q; exact q)
              have hw1 : IntKind.i64.wrap (No.sum (l.take k) + l[k].2) = No.sum (l.take k) + l[k].2 := by
                have := HS.out
                exact wrap_in (by omega) (by omega)
              have HQ : Hid (No.sum (l.take (k + 1)) = No.sum (l.take k) + l[k].2) := hide (by rw [take_snoc hlt, sum_snoc])
              have HM : Hid (norm (l.take (k + 1)) = put (norm (l.take k)) l[k]) := hide (by rw [take_snoc hlt, norm_snoc])
              have hbx : w.heap.size ≤ wr.heap.size := HB.out.size
              have hln : (norm (l.take k)).length ≤ 100000 := Nat.le_trans (norm_length _) (by rw [List.length_take]; omega)
              clear hb1 hb2 hb3 hs
              have HK := hide (And.intro (norm_sum (l.take k)) (norm_pos HE.out))
              generalize hm : norm (l.take k) = m at *
              clear hm
              rcases List.eq_nil_or_concat m with rfl | ⟨m', q, rfl⟩
              · have hz : decide ((0 : Int) < 0) = false := rfl
                obtain ⟨oa2, cap2, rfl⟩ := OwnP.form HO.out
                go_wp2_with fail
                go_big_quiet (fail)
                go_wp2_with (first
                  | (at_builtin
                     (refine Go.Il.wpl_pushS EP (by decide) rfl (.tmp 86) (.tmp 91) rfl (OwnP.drewN HO.out _) _ #[.int .i64 l[k].1, .int .i64 l[k].2] rfl rfl rfl one_pc rfl hbx (by omega) ?_
                      intro v1 w1 h1 hg
                      have HP := hide (OwnP.pushed (OwnP.drewN HO.out _) hbx h1 hg)
                      clear h1 hg))
                  | fail)
                refine ⟨⟨k + 1, by omega, by go_num, by rw [HQ.out], H0.out, ?_, HB.out.trans ((belowN _ _ _).trans HP.out.2)⟩, by simp [intOf]; omega⟩
                rw [HM.out]
                exact HP.out.1
              · rw [List.concat_eq_append] at HO HM hln HK
                have HL := hide (last_le HK.out.2)
                have hsum : Hid (No.sum (m' ++ [q]) = No.sum (l.take k)) := hide HK.out.1
                have HL7 : Hid ((m' ++ [q]).length ≤ 10000000) := hide (by omega)
                have hlen : (m' ++ [q]).length = m'.length + 1 := by simp
                rw [hlen] at hln
                obtain ⟨oa2, cap2, rfl⟩ := OwnP.form HO.out
                rw [hlen] at HO ⊢
                obtain ⟨g, rfl, hgB, hgw, c1, c2, c3⟩ := OwnP.get HO.out (i := m'.length) (by simp)
                have eq1 : (m' ++ [q])[m'.length]'(by simp) = q := by simp
                rw [eq1] at c1 c2
                clear eq1 hlen HK
                have k1 : IntKind.i64.wrap (((m'.length + 1 : Nat) : Int) - 1) = (m'.length : Int) := by
                  rw [wrap_in (by omega) (by omega)]
                  omega
                have k2 : IntKind.i64.wrap ((m'.length : Int) + 1 - 1) = (m'.length : Int) := by
                  rw [wrap_in (by omega) (by omega)]
                  omega
                have k3 : IntKind.i64.wrap (m'.length : Int) = (m'.length : Int) := wrap_in (by omega) (by omega)
                have k4 : (m'.length : Int) < ((m'.length + 1 : Nat) : Int) := by omega
                have k5 : decide ((0 : Int) < ((m'.length + 1 : Nat) : Int)) = true := decide_eq_true (by omega)
                have k6 : decide ((0 : Int) < (m'.length : Int) + 1) = true := decide_eq_true (by omega)
                have k7 : (m'.length : Int) < (m'.length : Int) + 1 := by omega
                by_cases ht : q.1 = l[k].1
                · have ht' : (q.1 == l[k].1) = true := by simpa using ht
                  have hw2 : IntKind.i64.wrap (q.2 + l[k].2) = q.2 + l[k].2 := by
                    have := HL.out
                    rw [hsum.out] at this
                    have := HS.out
                    exact wrap_in (by omega) (by omega)
                  have HTT := hide ht
                  clear ht
                  go_wp2_with fail
                  go_big_quiet (fail)
                  go_wp2_with fail
                  go_region
                  all_goals
                    have HT2 := hide (OwnP.stored (c := q.2 + l[k].2) (OwnP.drewN HO.out nq))
                    go_wp2
                    refine ⟨⟨k + 1, by omega, by go_num, by rw [HQ.out], H0.out, ?_, ?_⟩, by simp [intOf]; omega⟩
                    · rw [HM.out, put_same HTT.out]
                      exact HT2.out
                    · exact HB.out.trans (((belowN _ _ _).drew).setCell (p := ⟨g, m'.length * 2 + 1, none⟩) hgB _)
                · have ht' : (q.1 == l[k].1) = false := by simpa using ht
                  have HTT := hide ht
                  clear ht
                  go_wp2_with fail
                  go_big_quiet (fail)
                  go_wp2_with (first
                    | (at_builtin
                       (refine Go.Il.wpl_pushS EP (by decide) rfl (.tmp 86) (.tmp 91) rfl (OwnP.drewN HO.out _) _ #[.int .i64 l[k].1, .int .i64 l[k].2] rfl rfl rfl one_pc rfl hbx HL7.out ?_
                        intro v1 w1 h1 hg
                        have HP := hide (OwnP.pushed (OwnP.drewN HO.out _) hbx h1 hg)
                        clear h1 hg))
                    | fail)
                  refine ⟨⟨k + 1, by omega, by go_num, by rw [HQ.out], H0.out, ?_, HB.out.trans ((belowN _ _ _).trans HP.out.2)⟩, by simp [intOf]; omega⟩
                  rw [HM.out, put_other HTT.out]
                  exact HP.out.1
    · obtain rfl : k = l.length := by omega
      rw [List.take_length] at HO HE
      go_wp2_with fail
      go_ret2
      exact ⟨_, by rw [HE.out]; rfl, HB.out, fun _ => HO.out, fun q => absurd HE.out q⟩
end Go.Proofs.Ytinllamocplgjaa.No
