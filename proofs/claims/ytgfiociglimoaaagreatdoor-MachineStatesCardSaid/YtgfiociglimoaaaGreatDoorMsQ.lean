import Derived.Test.YtgfiociglimoaaaGreatDoorMsP
set_option maxRecDepth 100000
namespace Go.Proofs.YtgfiociglimoaaaGreatDoor.Ms
open Go Go.Ms Go.Il Go.Pg Go.ChangeShapes Go.WideShapes Go.ChangeAt Go.RowKit Go.Deep

def Weighed (w : World) (n : Nat) (e : Ending) (w' : World) : Prop := ∃ r : Bool, e = .returned (.bool r) ∧ (r = false → n < 9000) ∧ Below w.heap.size w w'

theorem box_cell (w : World) (c : Array Value) (t : TypeId) (j : Nat) : (w.alloc (.cells c t (0, 0))).cell? ⟨w.heap.size, j, none⟩ = c[j]? := cell_of (new_block w _) j

set_option maxHeartbeats 40000000 in
theorem great {s : St} {cells : List Value} {w : World} (h : StAt w cells s) : Calls Tryz.prog 4 #[.agg cells.toArray] w (Weighed w (parts s)) := by
  obtain ⟨vt, vo, l', rfl, ht, ho, _, _, _, vu, rfl, hu, _⟩ := h
  obtain ⟨ta, tc, rfl, htl, ht⟩ := ht
  obtain ⟨oa, oc, rfl, hol, ho⟩ := ho
  obtain ⟨ua, uc, rfl, hul, hu⟩ := hu
  have HT := hide ht
  have HO := hide ho
  clear ht ho hu
  have hparts : parts s = s.threads.length + s.objects.length + s.outcome.out.length + sumOf partsTh s.threads + sumOf partsOb s.objects := rfl
  generalize hn0 : s.threads.length + s.objects.length + s.outcome.out.length = n0 at *
  have HP := hide hparts
  clear hparts
  go_enter Tryz.func4, Tryz.ntmps4
  go_wp2_with fail
  have G0 := box_cell w #[.slice ta s.threads.length tc, .slice oa s.objects.length oc, .int .i64 s.inputs, .int .i64 s.clocks, .int .i64 s.frames, .int .u8 s.outcome.fin, .int .u8 s.outcome.fault, .int .i64 s.outcome.line, .int .u8 s.outcome.vk, .int .i64 s.outcome.vn, .slice ua s.outcome.out.length uc, .int .i64 s.outcome.steps] 33 0
  have G1 := box_cell w #[.slice ta s.threads.length tc, .slice oa s.objects.length oc, .int .i64 s.inputs, .int .i64 s.clocks, .int .i64 s.frames, .int .u8 s.outcome.fin, .int .u8 s.outcome.fault, .int .i64 s.outcome.line, .int .u8 s.outcome.vk, .int .i64 s.outcome.vn, .slice ua s.outcome.out.length uc, .int .i64 s.outcome.steps] 33 1
  have BB : Hid (Below w.heap.size w (w.alloc (.cells #[.slice ta s.threads.length tc, .slice oa s.objects.length oc, .int .i64 s.inputs, .int .i64 s.clocks, .int .i64 s.frames, .int .u8 s.outcome.fin, .int .u8 s.outcome.fault, .int .i64 s.outcome.line, .int .u8 s.outcome.vk, .int .i64 s.outcome.vn, .slice ua s.outcome.out.length uc, .int .i64 s.outcome.steps] 33))) := one _ _
  generalize w.alloc (.cells #[.slice ta s.threads.length tc, .slice oa s.objects.length oc, .int .i64 s.inputs, .int .i64 s.clocks, .int .i64 s.frames, .int .u8 s.outcome.fin, .int .u8 s.outcome.fault, .int .i64 s.outcome.line, .int .u8 s.outcome.vk, .int .i64 s.outcome.vn, .slice ua s.outcome.out.length uc, .int .i64 s.outcome.steps] 33) = w1 at *
  go_loopw [3, 4] (fun u i wr => ∃ (k : Nat) (x : Int), k ≤ s.threads.length ∧ i = .int .i64 (k : Int) ∧ u = .int .i64 x ∧ 0 ≤ x ∧ x ≤ 1000000000000000 ∧ (x < 9000 → x = n0 + sumOf partsTh (s.threads.take k)) ∧ ∃ q, wr = w1.drewN q) (fun _ i _ => s.threads.length - (intOf i).toNat)
  case atStart => exact ⟨0, _, by omega, rfl, rfl, by omega, by omega, fun _ => by simp [sumOf_nil, ← hn0], 0, rfl⟩
  case round =>
    obtain ⟨k, x, hk, rfl, rfl, hx0, hx1, hI, q0, rfl⟩ := hrel
    have HI := hide hI
    clear hI
    by_cases hlt : k < s.threads.length
    · by_cases hx : x < 9000
      · have h64 : (k : Int) < (s.threads.length : Int) := by omega
        obtain ⟨b, o, rfl, hP⟩ := HT.out k hlt
        obtain ⟨vf, c1, c2, c3, hr, _⟩ := thr_now BB.out hP
        obtain ⟨fa, fc, rfl, hfl, hr⟩ := hr
        have HR := hide hr
        clear hP c2 c3 hr
        go_wp2_with fail
        go_loopw [3, 5] (fun u i wr => ∃ (j : Nat) (y : Int), j ≤ s.threads[k].frames.length ∧ i = .int .i64 (j : Int) ∧ u = .int .i64 y ∧ 0 ≤ y ∧ y ≤ 1000000000000000 ∧ (y < 9000 → y = x + s.threads[k].frames.length + sumOf partsFr (s.threads[k].frames.take j)) ∧ ∃ q, wr = w1.drewN q) (fun _ i _ => s.threads[k].frames.length - (intOf i).toNat)
        case atStart => exact ⟨0, _, by omega, rfl, rfl, by omega, by omega, fun _ => by simp [sumOf_nil], _, rfl⟩
        case round =>
          obtain ⟨j, y, hj, rfl, rfl, hy0, hy1, hI2, q2, rfl⟩ := hrel
          have HI2 := hide hI2
          clear hI2
          by_cases hj2 : j < s.threads[k].frames.length
          · by_cases hy : y < 9000
            · have h65 : (j : Int) < (s.threads[k].frames.length : Int) := by omega
              obtain ⟨fb, fo, rfl, hQ⟩ := HR.out j hj2
              obtain ⟨vr, vt, e0, e1, e2, e3, e4, hr1, hr2⟩ := fr_now BB.out hQ
              obtain ⟨ra, rc, rfl, hrl, _⟩ := hr1
              obtain ⟨ya, yc, rfl, hyl, _⟩ := hr2
              clear hQ e0 e1 e2
              go_wp2_with fail
              go_quiet (fail)
              go_wp2_with fail
              have hfs : partsFr s.threads[k].frames[j] = s.threads[k].frames[j].regs.length + s.threads[k].frames[j].tries.length := rfl
              refine ⟨⟨j + 1, _, by omega, by go_num, rfl, by omega, by omega, fun _ => ?_, _, rfl⟩, by simp [intOf]; omega⟩
              have e := HI2.out hy
              rw [sumOf_take _ _ j hj2]
              omega
            · go_wp2_with fail
              exact ⟨⟨k + 1, y, by omega, by go_num, rfl, hy0, hy1, fun h => absurd h hy, _, rfl⟩, by simp [intOf]; omega⟩
          · go_wp2_with fail
            refine ⟨⟨k + 1, y, by omega, by go_num, rfl, hy0, hy1, fun h => ?_, _, rfl⟩, by simp [intOf]; omega⟩
            have e := HI2.out h
            have e2 := HI.out hx
            rw [List.take_of_length_le (by omega)] at e
            rw [sumOf_take _ _ k hlt]
            have : partsTh s.threads[k] = s.threads[k].frames.length + sumOf partsFr s.threads[k].frames := rfl
            omega
      · have HE : Hid (x < 9000 → (x : Int) = n0 + sumOf partsTh s.threads) := fun h => absurd h hx
        go_wp2_with fail
        go_loopw [3, 6] (fun u i wr => ∃ (m : Nat) (y : Int), m ≤ s.objects.length ∧ i = .int .i64 (m : Int) ∧ u = .int .i64 y ∧ 0 ≤ y ∧ y ≤ 1000000000000000 ∧ (y < 9000 → y = n0 + sumOf partsTh s.threads + sumOf partsOb (s.objects.take m)) ∧ ∃ q, wr = w1.drewN q) (fun _ i _ => s.objects.length - (intOf i).toNat)
        case atStart => exact ⟨0, x, by omega, rfl, rfl, by omega, by omega, fun h => by have := HE.out h; simp [sumOf_nil]; omega, _, rfl⟩
        case round =>
          obtain ⟨m, x2, hm, rfl, rfl, hx20, hx21, hI2, q2, rfl⟩ := hrel
          have HI2 : Hid (x2 < 9000 → (x2 : Int) = n0 + sumOf partsTh s.threads + sumOf partsOb s.objects ∨ m < s.objects.length) := fun h => by
            by_cases q : m < s.objects.length
            · exact .inr q
            · have e := hI2 h
              rw [List.take_of_length_le (by omega)] at e
              exact .inl e
          have HJ := hide hI2
          clear hI2
          by_cases hlt2 : m < s.objects.length
          · by_cases hx2 : x2 < 9000
            · have h65 : (m : Int) < (s.objects.length : Int) := by omega
              obtain ⟨b, o, rfl, hP⟩ := HO.out m hlt2
              obtain ⟨vc, hc1, hc2, hc3, hr⟩ := ob_now BB.out hP
              obtain ⟨va, vd, rfl, hvl, _⟩ := hr
              clear hc1 hc3 hP
              go_wp2_with fail
              refine ⟨⟨m + 1, _, by omega, by go_num, rfl, by omega, by omega, fun _ => ?_, _, rfl⟩, by simp [intOf]; omega⟩
              have e := HJ.out hx2
              rw [sumOf_take _ _ m hlt2]
              have : partsOb s.objects[m] = s.objects[m].cells.length := rfl
              omega
            · have HI2 : Hid (x2 < 9000 → (x2 : Int) = n0 + sumOf partsTh s.threads + sumOf partsOb s.objects) := fun h => absurd h hx2
              go_wp2_with fail
              go_ret
              exact ⟨_, rfl, fun hr => by
                have hr2 : x2 < 9000 := by first | (simp at hr; omega) | simp at hr
                have h1 := HI2.out hr2
                rw [HP.out]
                omega, BB.out.trans ((drewN_below _ _).mono BB.out.size)⟩
          · have HI2 : Hid (x2 < 9000 → (x2 : Int) = n0 + sumOf partsTh s.threads + sumOf partsOb s.objects) := fun h => (HI2.out h).resolve_right hlt2
            go_wp2_with fail
            go_ret
            exact ⟨_, rfl, fun hr => by
              have hr2 : x2 < 9000 := by first | (simp at hr; omega) | simp at hr
              have h1 := HI2.out hr2
              rw [HP.out]
              omega, BB.out.trans ((drewN_below _ _).mono BB.out.size)⟩
    · have HE : Hid (x < 9000 → (x : Int) = n0 + sumOf partsTh s.threads) := fun h => by
        have := HI.out h
        rw [List.take_of_length_le (by omega)] at this
        exact this
      go_wp2_with fail
      go_loopw [3, 6] (fun u i wr => ∃ (m : Nat) (y : Int), m ≤ s.objects.length ∧ i = .int .i64 (m : Int) ∧ u = .int .i64 y ∧ 0 ≤ y ∧ y ≤ 1000000000000000 ∧ (y < 9000 → y = n0 + sumOf partsTh s.threads + sumOf partsOb (s.objects.take m)) ∧ ∃ q, wr = w1.drewN q) (fun _ i _ => s.objects.length - (intOf i).toNat)
      case atStart => exact ⟨0, x, by omega, rfl, rfl, by omega, by omega, fun h => by have := HE.out h; simp [sumOf_nil]; omega, _, rfl⟩
      case round =>
        obtain ⟨m, x2, hm, rfl, rfl, hx20, hx21, hI2, q2, rfl⟩ := hrel
        have HI2 : Hid (x2 < 9000 → (x2 : Int) = n0 + sumOf partsTh s.threads + sumOf partsOb s.objects ∨ m < s.objects.length) := fun h => by
          by_cases q : m < s.objects.length
          · exact .inr q
          · have e := hI2 h
            rw [List.take_of_length_le (by omega)] at e
            exact .inl e
        have HJ := hide hI2
        clear hI2
        by_cases hlt2 : m < s.objects.length
        · by_cases hx2 : x2 < 9000
          · have h65 : (m : Int) < (s.objects.length : Int) := by omega
            obtain ⟨b, o, rfl, hP⟩ := HO.out m hlt2
            obtain ⟨vc, hc1, hc2, hc3, hr⟩ := ob_now BB.out hP
            obtain ⟨va, vd, rfl, hvl, _⟩ := hr
            clear hc1 hc3 hP
            go_wp2_with fail
            refine ⟨⟨m + 1, _, by omega, by go_num, rfl, by omega, by omega, fun _ => ?_, _, rfl⟩, by simp [intOf]; omega⟩
            have e := HJ.out hx2
            rw [sumOf_take _ _ m hlt2]
            have : partsOb s.objects[m] = s.objects[m].cells.length := rfl
            omega
          · have HI2 : Hid (x2 < 9000 → (x2 : Int) = n0 + sumOf partsTh s.threads + sumOf partsOb s.objects) := fun h => absurd h hx2
            go_wp2_with fail
            go_ret
            exact ⟨_, rfl, fun hr => by
              have hr2 : x2 < 9000 := by first | (simp at hr; omega) | simp at hr
              have h1 := HI2.out hr2
              rw [HP.out]
              omega, BB.out.trans ((drewN_below _ _).mono BB.out.size)⟩
        · have HI2 : Hid (x2 < 9000 → (x2 : Int) = n0 + sumOf partsTh s.threads + sumOf partsOb s.objects) := fun h => (HI2.out h).resolve_right hlt2
          go_wp2_with fail
          go_ret
          exact ⟨_, rfl, fun hr => by
            have hr2 : x2 < 9000 := by first | (simp at hr; omega) | simp at hr
            have h1 := HI2.out hr2
            rw [HP.out]
            omega, BB.out.trans ((drewN_below _ _).mono BB.out.size)⟩
end Go.Proofs.YtgfiociglimoaaaGreatDoor.Ms
