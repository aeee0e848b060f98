import Derived.Test.YtdpgcoicbagflaaBiD
set_option maxRecDepth 100000
set_option linter.unusedSimpArgs false
set_option linter.unusedVariables false
namespace Go.Proofs.Ytdpgcoicbagflaa.Bi
open Go Go.Ms Go.Pg Go.Bi Go.ChangeShapes Go.WideShapes Go.ChangeAt Go.RowKit Go.Deep

def Told (g v : Nat) (w : World) : Option (Int × List Int) → Ending → World → Prop
  | none, e, w' => ∃ a b c d, e = asks4 a b c d ∧ Sp (among [v]) a b c d ∧ Keeps g w w'
  | some (x, r), e, w' => e = .returned (.int .u8 x) ∧ Keeps g w w' ∧ Box w' g 117 r

theorem box_kept {w w' : World} {g : Nat} {l : List Int} (h : Box w g 117 l) (hB : Below w.heap.size w w') : Box w' g 117 l := by
  obtain ⟨tx, an, told, hb, hv⟩ := h
  have hg := block_lt hb
  exact ⟨tx, an, told, (hB.block g hg).trans hb, vs_kept (Keeps.of_below hg hB) (Nat.le_refl _) hv⟩
theorem box_lt {w : World} {g : Nat} {l : List Int} (h : Box w g 117 l) : g < w.heap.size := by
  obtain ⟨tx, an, told, hb, hv⟩ := h
  exact block_lt hb
theorem ver_cons2 {t : Nat} {v : Int} {l : List Int} : ver (t + 1) v (2 :: l) = some (2, l) := by simp [ver]
theorem ver_cons1 {t : Nat} {v : Int} {l : List Int} : ver (t + 1) v (1 :: l) = ver t 1 l := by simp [ver]
theorem ver_cons {t : Nat} {v x : Int} {l : List Int} (h2 : x ≠ 2) (h1 : x ≠ 1) : ver (t + 1) v (x :: l) = ver t v l := by simp [ver, h1, h2]
theorem nats_one {w : World} {B v : Nat} (hc : w.cell? ⟨B, 0, none⟩ = some (.int .i64 (v : Int))) : Nats w (.slice (some ⟨B, 0, none⟩) 1 1) [v] :=
  ⟨_, _, rfl, by simp, fun i hi => by
    obtain rfl : i = 0 := by simpa using hi
    exact ⟨B, 0, rfl, by simpa using hc⟩⟩

set_option maxHeartbeats 8000000 in
theorem verdictProg {w : World} {g v : Nat} {z : Int} {l : List Int} (h : Box w g 117 l) (hv : v < 256) :
    Calls Try.prog 25 #[.pointer (some ⟨g, 0, none⟩), .int .i64 (v : Int), .int .i64 z] w (Told g v w (ver (tries z) 3 l)) := by
  have HB0 := hide h
  have HV := hide hv
  obtain ⟨M, hM⟩ : ∃ M, (if z < 1 then (1 : Int) else z) = M := ⟨_, rfl⟩
  have hT : (if 9 < M then (9 : Int) else M) = (tries z : Int) := by unfold tries; rw [← hM]; split <;> split <;> omega
  have h9 := (tries_pos z).2
  generalize tries z = T at *
  clear h hv
  go_enter Try.func25, Try.ntmps25
  go_wp2_with fail
  go_loopw [7, 11] (fun s i wr => ∃ (k : Nat) (x : Int) (m : List Int), k ≤ T ∧ s = .int .u8 x ∧ i = .int .i64 (k : Int) ∧ Hid (ver (T - k) x m = ver T 3 l) ∧ Keeps g w wr ∧ Box wr g 117 m) (fun _ i _ => T - (intOf i).toNat)
  case atStart => exact ⟨0, 3, l, Nat.zero_le _, rfl, rfl, hide rfl, Keeps.refl g w, HB0.out⟩
  case round =>
    obtain ⟨k, x, m, hk, rfl, rfl, hr, hK, hb⟩ := hrel
    have HK := hide hK
    have HB := hide hb
    clear hK hb
    by_cases hlt : k < T
    · have hi : (k : Int) < (T : Int) := by omega
      have hw : IntKind.i64.wrap ((k : Int) + 1) = (k : Int) + 1 := wrap_in (by omega) (by omega)
      obtain ⟨j, hj⟩ : ∃ j, T - k = j + 1 := ⟨T - k - 1, by omega⟩
      rw [hj] at hr
      have HR := hide hr.out
      clear hr
      have hsz : g < wr.heap.size := box_lt HB.out
      cases m with
      | nil =>
        go_wp2_with (first
          | (go_at_call 28
             (with_reducible refine (setOfProg (xs := [v]) (nats_one (B := wr.heap.size) (v := v) (by simp)) (by intro n hn; rw [List.mem_singleton] at hn; rw [hn]; exact HV.out)).mono ?_)
             rintro e w1 ⟨a, b, c, d, rfl, hp, hB1⟩
             have HP := hide hp
             have hB1' := ((Below.refl wr.heap.size wr).alloc (Nat.le_refl _) _).trans (hB1.mono (by simp))
             have HB1 := hide hB1'
             have HX1 := hide (box_kept HB.out hB1')
             clear hp hB1 hB1')
          | (go_at_call 55
             (with_reducible refine (answerNone HX1.out).mono ?_)
             rintro e w2 ⟨rfl, hB2⟩
             unfold asks4
             have HB2 := hide hB2
             clear hB2)
          | fail)
        refine ⟨rfl, ?_⟩
        rw [← HR.out]
        exact ⟨a, b, c, d, rfl, HP.out, HK.out.trans (Keeps.of_below hsz (HB1.out.trans (HB2.out.mono HB1.out.size)))⟩
      | cons y m =>
        by_cases y2 : y = 2
        · subst y2
          rw [ver_cons2] at HR
          go_wp2_with (first
            | (go_at_call 28
               (with_reducible refine (setOfProg (xs := [v]) (nats_one (B := wr.heap.size) (v := v) (by simp)) (by intro n hn; rw [List.mem_singleton] at hn; rw [hn]; exact HV.out)).mono ?_)
               rintro e w1 ⟨a, b, c, d, rfl, hp, hB1⟩
               have hB1' := ((Below.refl wr.heap.size wr).alloc (Nat.le_refl _) _).trans (hB1.mono (by simp))
               have HB1 := hide hB1'
               have HX1 := hide (box_kept HB.out hB1')
               clear hp hB1 hB1')
            | (go_at_call 55
               (with_reducible refine (answerSome HX1.out).mono ?_)
               rintro e w2 ⟨rfl, hK2, hX2⟩
               have HK2 := hide hK2
               have HX2 := hide hX2
               clear hK2 hX2)
            | fail)
          go_ret
          rw [← HR.out]
          exact ⟨rfl, HK.out.trans ((Keeps.of_below hsz HB1.out).trans HK2.out), HX2.out⟩
        · by_cases y1 : y = 1
          · subst y1
            rw [ver_cons1] at HR
            go_wp2_with (first
              | (go_at_call 28
                 (with_reducible refine (setOfProg (xs := [v]) (nats_one (B := wr.heap.size) (v := v) (by simp)) (by intro n hn; rw [List.mem_singleton] at hn; rw [hn]; exact HV.out)).mono ?_)
                 rintro e w1 ⟨a, b, c, d, rfl, hp, hB1⟩
                 have hB1' := ((Below.refl wr.heap.size wr).alloc (Nat.le_refl _) _).trans (hB1.mono (by simp))
                 have HB1 := hide hB1'
                 have HX1 := hide (box_kept HB.out hB1')
                 clear hp hB1 hB1')
              | (go_at_call 55
                 (with_reducible refine (answerSome HX1.out).mono ?_)
                 rintro e w2 ⟨rfl, hK2, hX2⟩
                 have HK2 := hide hK2
                 have HX2 := hide hX2
                 clear hK2 hX2)
              | fail)
            exact ⟨⟨k + 1, 1, m, by omega, rfl, by go_num, hide (by rw [← HR.out, show T - (k + 1) = j by omega]), HK.out.trans ((Keeps.of_below hsz HB1.out).trans HK2.out), HX2.out⟩, by simp [intOf]; omega⟩
          · rw [ver_cons y2 y1] at HR
            go_wp2_with (first
              | (go_at_call 28
                 (with_reducible refine (setOfProg (xs := [v]) (nats_one (B := wr.heap.size) (v := v) (by simp)) (by intro n hn; rw [List.mem_singleton] at hn; rw [hn]; exact HV.out)).mono ?_)
                 rintro e w1 ⟨a, b, c, d, rfl, hp, hB1⟩
                 have hB1' := ((Below.refl wr.heap.size wr).alloc (Nat.le_refl _) _).trans (hB1.mono (by simp))
                 have HB1 := hide hB1'
                 have HX1 := hide (box_kept HB.out hB1')
                 clear hp hB1 hB1')
              | (go_at_call 55
                 (with_reducible refine (answerSome HX1.out).mono ?_)
                 rintro e w2 ⟨rfl, hK2, hX2⟩
                 have HK2 := hide hK2
                 have HX2 := hide hX2
                 clear hK2 hX2)
              | fail)
            exact ⟨⟨k + 1, x, m, by omega, rfl, by go_num, hide (by rw [← HR.out, show T - (k + 1) = j by omega]), HK.out.trans ((Keeps.of_below hsz HB1.out).trans HK2.out), HX2.out⟩, by simp [intOf]; omega⟩
    · obtain rfl : k = T := by omega
      rw [Nat.sub_self] at hr
      have HR := hide hr.out
      clear hr
      go_wp2_with fail
      go_ret
      rw [← HR.out]
      exact ⟨rfl, HK.out, HB.out⟩
end Go.Proofs.Ytdpgcoicbagflaa.Bi
