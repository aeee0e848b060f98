import Derived.Test.YtdpgcoicbagflaaBiO
set_option maxRecDepth 100000
set_option linter.unusedSimpArgs false
set_option linter.unusedVariables false
namespace Go.Proofs.Ytdpgcoicbagflaa.Bi
open Go Go.Ms Go.Pg Go.Bi Go.ChangeShapes Go.WideShapes Go.ChangeAt Go.RowKit Go.Deep

theorem play_kept {w w' : World} {g u : Nat} {l : List Int} {st : Bool} {x : Value} (h : Play w g l u st x) (hB : Below w.heap.size w w') : Play w' g l u st x := by
  obtain ⟨an, hb, hv⟩ := h
  have hg := block_lt hb
  exact ⟨an, (hB.block g hg).trans hb, vs_kept (Keeps.of_below hg hB) (Nat.le_refl _) hv⟩
theorem play_lt {w : World} {g u : Nat} {l : List Int} {st : Bool} {x : Value} (h : Play w g l u st x) : g < w.heap.size := by
  obtain ⟨an, hb, _⟩ := h
  exact block_lt hb
theorem play_stop {w : World} {g u : Nat} {l : List Int} {st : Bool} {x : Value} (h : Play w g l u st x) : w.cell? ⟨g, 4, none⟩ = some (.bool st) := by
  obtain ⟨an, hb, _⟩ := h
  exact cell_of hb 4
def ToldR (g v : Nat) (w : World) (l : List Int) (x : Value) : Option (Int × List Int) → Ending → World → Prop
  | none, e, w' => e = .returned (.int .u8 0) ∧ Keeps g w w' ∧ ∃ x', Play w' g l l.length true x' ∧ Go.Il.Own 3 .i64 w.heap.size w' x' [(v : Int)]
  | some (y, r), e, w' => e = .returned (.int .u8 y) ∧ Keeps g w w' ∧ ∃ u, u ≤ l.length ∧ r = l.drop u ∧ Play w' g l u false x
theorem drop_next {l : List Int} {u : Nat} (h : u < l.length) : l.drop u = l[u] :: l.drop (u + 1) := List.drop_eq_getElem_cons h

set_option maxHeartbeats 8000000 in
theorem versionRef {w : World} {g v u : Nat} {z : Int} {l : List Int} {x : Value} (h : Play w g l u false x) (hu : u ≤ l.length) (hv : v < 256) :
    Calls Try.prog 30 #[.pointer (some ⟨g, 0, none⟩), .int .i64 (v : Int), .int .i64 z] w (ToldR g v w l x (ver (tries z) 3 (l.drop u))) := by
  have HP0 := hide h
  have HV := hide hv
  have HU0 := hide hu
  obtain ⟨M, hM⟩ : ∃ M, (if z < 1 then (1 : Int) else z) = M := ⟨_, rfl⟩
  have hT : (if 9 < M then (9 : Int) else M) = (tries z : Int) := by unfold tries; rw [← hM]; split <;> split <;> omega
  have h9 := (tries_pos z).2
  generalize tries z = T at *
  clear h hv hu
  go_enter Try.func30, Try.ntmps30
  go_wp2_with fail
  go_loopw [7, 8] (fun s i wr => ∃ (k : Nat) (y : Int) (n : Nat), k ≤ T ∧ s = .int .u8 y ∧ i = .int .i64 (k : Int) ∧ Hid (ver (T - k) y (l.drop n) = ver T 3 (l.drop u)) ∧ Hid (n ≤ l.length) ∧ Keeps g w wr ∧ Play wr g l n false x) (fun _ i _ => T - (intOf i).toNat)
  case atStart => exact ⟨0, 3, u, Nat.zero_le _, rfl, rfl, hide rfl, hide HU0.out, Keeps.refl g w, HP0.out⟩
  case round =>
    obtain ⟨k, y, n, hk, rfl, rfl, hr, HN, hK, hb⟩ := hrel
    have HK := hide hK
    have HB := hide hb
    clear hK hb
    by_cases hlt : k < T
    · have hi : (k : Int) < (T : Int) := by omega
      have hw : IntKind.i64.wrap ((k : Int) + 1) = (k : Int) + 1 := wrap_in (by omega) (by omega)
      obtain ⟨j, hj⟩ : ∃ j, T - k = j + 1 := ⟨T - k - 1, by omega⟩
      rw [hj] at hr
      have HJ : Hid (T - (k + 1) = j) := hide (by omega)
      have HR := hide hr.out
      have hsz := play_lt HB.out
      have HA := hide ((Below.refl wr.heap.size wr).alloc (Nat.le_refl _) (.cells #[.int .i64 (v : Int)] 3))
      have HPA := hide (play_kept HB.out HA.out)
      have HCB := hide (new_block wr (.cells #[.int .i64 (v : Int)] 3))
      clear hr hj
      by_cases hn : n < l.length
      · obtain ⟨a, ha⟩ : ∃ a, l[n] = a := ⟨_, rfl⟩
        rw [drop_next hn, ha] at HR
        have HNN := hide hn
        have HAA : Hid (∀ h, l[n]'h = a) := hide fun _ => ha
        clear hn ha
        go_wp2_with fail
        (with_reducible refine (nextSome (c := .slice (some ⟨wr.heap.size, 0, none⟩) 1 1) HPA.out HNN.out).mono ?_)
        rintro e w2 ⟨he, hk2, hp2⟩
        rw [HAA.out HNN.out] at he
        subst he
        have st := play_stop hp2
        have HK2 := hide (HK.out.trans ((Keeps.of_below hsz HA.out).trans hk2))
        have HP2 := hide hp2
        clear hk2 hp2
        by_cases a2 : a = 2
        · subst a2
          rw [ver_cons2] at HR
          have ec : counts 2 = 2 := rfl
          go_wp2_with fail
          go_ret
          rw [← HR.out]
          exact ⟨rfl, HK2.out, n + 1, HNN.out, rfl, HP2.out⟩
        · by_cases a1 : a = 1
          · subst a1
            rw [ver_cons1] at HR
            have ec : counts 1 = 1 := rfl
            go_wp2_with fail
            exact ⟨⟨k + 1, 1, n + 1, by omega, rfl, by go_num, hide (by rw [HJ.out, ← HR.out]), hide HNN.out, HK2.out, HP2.out⟩, by simp [intOf]; omega⟩
          · rw [ver_cons a2 a1] at HR
            have ec : counts a = 3 := by rw [counts, if_neg a1, if_neg a2]
            clear a1 a2
            go_wp2_with fail
            exact ⟨⟨k + 1, y, n + 1, by omega, rfl, by go_num, hide (by rw [HJ.out, ← HR.out]), hide HNN.out, HK2.out, HP2.out⟩, by simp [intOf]; omega⟩
      · obtain rfl : n = l.length := by have := HN.out; omega
        rw [List.drop_length] at HR
        clear hn
        go_wp2_with fail
        (with_reducible refine (nextNone HPA.out HV.out HCB.out).mono ?_)
        rintro e w2 ⟨rfl, hk2, x', hp2, ho2⟩
        have st := play_stop hp2
        have HK2 := hide (HK.out.trans ((Keeps.of_below hsz HA.out).trans hk2))
        have HP2 := hide hp2
        have HO2 := hide (own_mono (B' := w.heap.size) (by have := HK.out.below.size; simp; omega) ho2)
        clear hk2 hp2 ho2
        go_wp2_with fail
        go_ret
        rw [← HR.out]
        exact ⟨rfl, HK2.out, x', HP2.out, HO2.out⟩
    · obtain rfl : k = T := by omega
      rw [Nat.sub_self] at hr
      have HR := hide hr.out
      clear hr
      go_wp2_with fail
      go_ret
      rw [← HR.out]
      exact ⟨rfl, HK.out, n, HN.out, rfl, HB.out⟩
end Go.Proofs.Ytdpgcoicbagflaa.Bi
