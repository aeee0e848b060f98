import Derived.Test.YtdfjjmibhnniiaaGreatDoorLeW
set_option maxRecDepth 100000
set_option linter.unusedSimpArgs false
set_option linter.unusedVariables false
namespace Go.Proofs.YtdfjjmibhnniiaaGreatDoor.Le
open Go Go.Ms Go.Pg Go.Le Go.ChangeShapes Go.WideShapes Go.ChangeAt Go.RowKit Go.Deep

def Learns (o : Obj) : Prop := ∀ w : World, w.heap[5]? = some o → Calls Tryz.prog 9 #[] w fun e w' => e = .returned (.bool true) ∧ Below w.heap.size w w'
theorem Learns.at {o : Obj} (h : Learns o) {w w' : World} (h0 : w.heap[5]? = some o) (hB : Below w.heap.size w w') : Calls Tryz.prog 9 #[] w' fun e w'' => e = .returned (.bool true) ∧ Below w'.heap.size w' w'' :=
  h w' ((hB.block 5 (Array.getElem?_eq_some_iff.1 h0).1).trans h0)
def SeenC (w0 w : World) (xb xo : Nat) (x : Inv) (xs : Value) : Prop :=
  w.cell? ⟨xb, xo, none⟩ = some (.int .u8 x.k) ∧ w.cell? ⟨xb, xo + 1, none⟩ = some (.int .i64 x.a) ∧ w.cell? ⟨xb, xo + 2, none⟩ = some (.int .i64 x.b) ∧ w.cell? ⟨xb, xo + 3, none⟩ = some (.int .i64 x.K) ∧
  w.cell? ⟨xb, xo + 4, none⟩ = some (.int .i64 x.M) ∧ w.cell? ⟨xb, xo + 5, none⟩ = some xs ∧ IntsW w xs x.set ∧ Below w0.heap.size w0 w
theorem SeenC.step {w0 w w' : World} {xb xo : Nat} {x : Inv} {xs : Value} (h : SeenC w0 w xb xo x xs) (hB : Below w.heap.size w w') : SeenC w0 w' xb xo x xs := by
  obtain ⟨h0, h1, h2, h3, h4, h5, h7, h9⟩ := h
  exact ⟨cell_below hB h0, cell_below hB h1, cell_below hB h2, cell_below hB h3, cell_below hB h4, cell_below hB h5, intsW_below h7 hB, below_up h9 hB⟩
theorem SeenC.all {w0 w : World} {xb xo : Nat} {x : Inv} {xs : Value} (h : SeenC w0 w xb xo x xs) :
    w.cell? ⟨xb, xo, none⟩ = some (.int .u8 x.k) ∧ w.cell? ⟨xb, xo + 1, none⟩ = some (.int .i64 x.a) ∧ w.cell? ⟨xb, xo + 2, none⟩ = some (.int .i64 x.b) ∧ w.cell? ⟨xb, xo + 3, none⟩ = some (.int .i64 x.K) ∧
    w.cell? ⟨xb, xo + 4, none⟩ = some (.int .i64 x.M) ∧ w.cell? ⟨xb, xo + 5, none⟩ = some xs ∧ Hid (SeenC w0 w xb xo x xs) :=
  ⟨h.1, h.2.1, h.2.2.1, h.2.2.2.1, h.2.2.2.2.1, h.2.2.2.2.2.1, h⟩
theorem seenCDrew {w0 w : World} {xb xo : Nat} {x : Inv} {xs : Value} (h : SeenC w0 w xb xo x xs) : SeenC w0 w.drew xb xo x xs := h.step ((Below.refl _ _).drew)
theorem seenCStep {w0 w w' : World} {xb xo : Nat} {x : Inv} {xs : Value} (h : Hid (SeenC w0 w xb xo x xs)) (hB : Below w.heap.size w w') : SeenC w0 w' xb xo x xs := h.out.step hB
theorem seenCX {w0 w : World} {xb xo : Nat} {x : Inv} {xs : Value} (h : Hid (SeenC w0 w xb xo x xs)) : IntsW w xs x.set := h.out.2.2.2.2.2.2.1
theorem seenCB {w0 w : World} {xb xo : Nat} {x : Inv} {xs : Value} (h : Hid (SeenC w0 w xb xo x xs)) : Below w0.heap.size w0 w := h.out.2.2.2.2.2.2.2
theorem checkProg_at {w : World} {x : Inv} {s : Value} {n : Int} (hs : IntsW w s x.set) : Calls Tryz.prog 10 #[.agg #[.int .u8 x.k, .int .i64 x.a, .int .i64 x.b, .int .i64 x.K, .int .i64 x.M, s], .int .i64 n] w fun e w' => e = .returned (.int .i64 (err x n)) ∧ Below w.heap.size w w' := checkProg hs

set_option maxHeartbeats 8000000 in
theorem lawLearnClaims {w : World} {v r : Value} {l : List Inv} {rows : List (List Int)} {z : Int} {o : Obj} (hl : Claims w v l) (hr : Rows2 w r rows) (h0 : w.heap[5]? = some o) (hA : Learns o) : Calls Tryz.prog 3 #[v, r, .int .i64 z] w fun e w' => e = .returned (.bool true) ∧ Below w.heap.size w w' := by
  obtain ⟨oa, ca, rfl, hla, _⟩ := id hl
  obtain ⟨ob, cb, rfl, hlb, _⟩ := id hr
  have HL := hide hl
  have HR := hide hr
  have HA : Hid (∀ w', Below w.heap.size w w' → Calls Tryz.prog 9 #[] w' fun e w'' => e = .returned (.bool true) ∧ Below w'.heap.size w' w'') := hide fun w' hB => hA.at h0 hB
  clear hl hr h0 hA
  go_enter Tryz.func3, Tryz.ntmps3
  go_wp2_with (first
    | (go_at_call 8
       with_reducible refine (wideRef HL.out HR.out).mono ?_
       rintro e _ ⟨b, rfl, nb, rfl⟩)
    | (go_at_call 9
       with_reducible refine (HA.out _ (belowN _ _ _)).mono ?_
       rintro e w9 ⟨rfl, hB9⟩
       have B9 := hide (below_up (belowN _ w _) hB9)
       clear hB9)
    | fail)
  · go_ret
    exact ⟨rfl, B9.out⟩
  obtain rfl : b = false := by assumption
  go_loopw [7] (fun i wr => ∃ j : Nat, j ≤ l.length ∧ i = .int .i64 (j : Int) ∧ Below w.heap.size w wr) (fun i _ => l.length - (intOf i).toNat)
  case atStart => exact ⟨0, Nat.zero_le _, rfl, belowN _ _ _⟩
  case round =>
    obtain ⟨j, hj, rfl, hB⟩ := hrel
    have HB := hide hB
    clear hB
    by_cases hjl : j < l.length
    · have hj1 : (j : Int) < (l.length : Int) := by omega
      obtain ⟨xb, xo, xs, xc, rfl, c0, c1, c2, c3, c4, c5, hI1⟩ := claim_cell (HL.out.step HB.out) hjl
      have N1 : Hid (SeenC wr wr xb (xo + j * 6) l[j] (.slice xs l[j].set.length xc)) := hide ⟨c0, c1, c2, c3, c4, c5, hI1, Below.refl _ _⟩
      clear c0 c1 c2 c3 c4 c5 hI1
      go_wp2_with fail
      go_region_held3 (fun w' => w'.cell? ⟨xb, xo + j * 6, none⟩ = some (.int .u8 l[j].k) ∧ w'.cell? ⟨xb, xo + j * 6 + 1, none⟩ = some (.int .i64 l[j].a) ∧ w'.cell? ⟨xb, xo + j * 6 + 2, none⟩ = some (.int .i64 l[j].b) ∧ w'.cell? ⟨xb, xo + j * 6 + 3, none⟩ = some (.int .i64 l[j].K) ∧ w'.cell? ⟨xb, xo + j * 6 + 4, none⟩ = some (.int .i64 l[j].M) ∧ w'.cell? ⟨xb, xo + j * 6 + 5, none⟩ = some (.slice xs l[j].set.length xc) ∧ Hid (SeenC wr w' xb (xo + j * 6) l[j] (.slice xs l[j].set.length xc)))
        (first | assumption | (with_reducible exact (seenCDrew N1.out).all) | (with_reducible exact HS8.out.all))
        (first
          | (go_at_call 10; with_reducible refine (checkProg_at (x := l[j]) (n := z) (seenCX (w0 := wr) (by first | assumption | exact hide (seenCDrew N1.out)))).mono ?_; rintro e w8 ⟨rfl, hB⟩; have HS8 : Hid (SeenC wr w8 xb (xo + j * 6) l[j] (.slice xs l[j].set.length xc)) := hide (seenCStep (by first | assumption | exact hide (seenCDrew N1.out)) hB); clear hB)
          | (go_at_call 11; with_reducible refine (check_at (x := l[j]) (n := z) (seenCX (w0 := wr) (by first | assumption | exact hide (seenCDrew N1.out)))).mono ?_; rintro e w8 ⟨rfl, hB⟩; have HS8 : Hid (SeenC wr w8 xb (xo + j * 6) l[j] (.slice xs l[j].set.length xc)) := hide (seenCStep (by first | assumption | exact hide (seenCDrew N1.out)) hB); clear hB))
      all_goals
        have B8 := hide (below_up HB.out (seenCB HS8))
        clear HS8
        go_wp2_with fail
        obtain ⟨wo, rfl⟩ : ∃ wo : World, wo = w8 := ⟨_, rfl⟩
        go_loopw [8] (fun i wr => ∃ k : Nat, k ≤ rows.length ∧ i = .int .i64 (k : Int) ∧ Below wo.heap.size wo wr) (fun i _ => rows.length - (intOf i).toNat)
        case atStart => exact ⟨0, Nat.zero_le _, rfl, Below.refl _ _⟩
        case round =>
          obtain ⟨k, hk, rfl, hB2⟩ := hrel
          have HB2 := hide hB2
          clear hB2
          by_cases hlt : k < rows.length
          · have hi1 : (k : Int) < (rows.length : Int) := by omega
            obtain ⟨rb, ro, rs, rc, rfl, f1, hR1⟩ := row_cell (HR.out.step (below_up B8.out HB2.out)) hlt
            obtain ⟨xb', xo', xs', xc', e1, c0, c1, c2, c3, c4, c5, hI1⟩ := claim_cell (HL.out.step (below_up B8.out HB2.out)) hjl
            obtain ⟨rfl, rfl⟩ : xb = xb' ∧ xo = xo' := by simpa using e1
            clear e1
            have N2 : Hid (Seen wo wr xb (xo + j * 6) rb (ro + k) l[j] (.slice xs' l[j].set.length xc') rows[k] (.slice rs rows[k].length rc)) := hide ⟨c0, c1, c2, c3, c4, c5, f1, hI1, hR1, HB2.out⟩
            clear f1 c0 c1 c2 c3 c4 c5 hI1 hR1
            go_wp2_with fail
            by_cases he : rowErr l[j] rows[k] = 0
            · have HE := hide he
              clear he
              by_cases hh : Holds l[j] rows[k]
              · have HH := hide hh
                clear hh
                go_region_held3 (fun w' => w'.cell? ⟨xb, xo + j * 6, none⟩ = some (.int .u8 l[j].k) ∧ w'.cell? ⟨xb, xo + j * 6 + 1, none⟩ = some (.int .i64 l[j].a) ∧ w'.cell? ⟨xb, xo + j * 6 + 2, none⟩ = some (.int .i64 l[j].b) ∧ w'.cell? ⟨xb, xo + j * 6 + 3, none⟩ = some (.int .i64 l[j].K) ∧ w'.cell? ⟨xb, xo + j * 6 + 4, none⟩ = some (.int .i64 l[j].M) ∧ w'.cell? ⟨xb, xo + j * 6 + 5, none⟩ = some (.slice xs' l[j].set.length xc') ∧ w'.cell? ⟨rb, ro + k, none⟩ = some (.slice rs rows[k].length rc) ∧ Hid (Seen wo w' xb (xo + j * 6) rb (ro + k) l[j] (.slice xs' l[j].set.length xc') rows[k] (.slice rs rows[k].length rc)))
                  (first | assumption | (with_reducible exact (seenDrew N2.out).all) | (with_reducible exact HS8.out.all))
                  (first
                    | (go_at_call 12; with_reducible refine (rowProg_at (x := l[j]) (row := rows[k]) (seenX (w0 := wo) (rb := rb) (by first | assumption | exact hide (seenDrew N2.out))) (seenR (w0 := wo) (rb := rb) (by first | assumption | exact hide (seenDrew N2.out)))).mono ?_; intro e w8 h8; obtain ⟨rfl, hB⟩ := answers_yes h8 HE.out HH.out; have HS8 := hide (seenStep (hide (seenDrew N2.out)) hB); clear h8 hB))
                go_wp2_with fail
                go_region_held3 (fun w' => w'.cell? ⟨xb, xo + j * 6, none⟩ = some (.int .u8 l[j].k) ∧ w'.cell? ⟨xb, xo + j * 6 + 1, none⟩ = some (.int .i64 l[j].a) ∧ w'.cell? ⟨xb, xo + j * 6 + 2, none⟩ = some (.int .i64 l[j].b) ∧ w'.cell? ⟨xb, xo + j * 6 + 3, none⟩ = some (.int .i64 l[j].K) ∧ w'.cell? ⟨xb, xo + j * 6 + 4, none⟩ = some (.int .i64 l[j].M) ∧ w'.cell? ⟨xb, xo + j * 6 + 5, none⟩ = some (.slice xs' l[j].set.length xc') ∧ w'.cell? ⟨rb, ro + k, none⟩ = some (.slice rs rows[k].length rc) ∧ Hid (Seen wo w' xb (xo + j * 6) rb (ro + k) l[j] (.slice xs' l[j].set.length xc') rows[k] (.slice rs rows[k].length rc)))
                  (first | assumption | (with_reducible exact (seenDrew HS8.out).all) | (with_reducible exact HS9.out.all))
                  (first
                    | (go_at_call 13; with_reducible refine (rowRef_at (x := l[j]) (row := rows[k]) (seenX (w0 := wo) (rb := rb) (by first | assumption | exact hide (seenDrew HS8.out))) (seenR (w0 := wo) (rb := rb) (by first | assumption | exact hide (seenDrew HS8.out)))).mono ?_; intro e w9 h8; obtain ⟨rfl, hB⟩ := answers_yes h8 HE.out HH.out; have HS9 := hide (seenStep (hide (seenDrew HS8.out)) hB); clear h8 hB))
                go_wp2_with fail
                go_roundw
                case rel => exact ⟨k + 1, by omega, by go_num, seenB HS9⟩
                case measure => simp [intOf]; omega
              · have HH := hide hh
                clear hh
                go_region_held3 (fun w' => w'.cell? ⟨xb, xo + j * 6, none⟩ = some (.int .u8 l[j].k) ∧ w'.cell? ⟨xb, xo + j * 6 + 1, none⟩ = some (.int .i64 l[j].a) ∧ w'.cell? ⟨xb, xo + j * 6 + 2, none⟩ = some (.int .i64 l[j].b) ∧ w'.cell? ⟨xb, xo + j * 6 + 3, none⟩ = some (.int .i64 l[j].K) ∧ w'.cell? ⟨xb, xo + j * 6 + 4, none⟩ = some (.int .i64 l[j].M) ∧ w'.cell? ⟨xb, xo + j * 6 + 5, none⟩ = some (.slice xs' l[j].set.length xc') ∧ w'.cell? ⟨rb, ro + k, none⟩ = some (.slice rs rows[k].length rc) ∧ Hid (Seen wo w' xb (xo + j * 6) rb (ro + k) l[j] (.slice xs' l[j].set.length xc') rows[k] (.slice rs rows[k].length rc)))
                  (first | assumption | (with_reducible exact (seenDrew N2.out).all) | (with_reducible exact HS8.out.all))
                  (first
                    | (go_at_call 12; with_reducible refine (rowProg_at (x := l[j]) (row := rows[k]) (seenX (w0 := wo) (rb := rb) (by first | assumption | exact hide (seenDrew N2.out))) (seenR (w0 := wo) (rb := rb) (by first | assumption | exact hide (seenDrew N2.out)))).mono ?_; intro e w8 h8; obtain ⟨rfl, hB⟩ := answers_no h8 HE.out HH.out; have HS8 := hide (seenStep (hide (seenDrew N2.out)) hB); clear h8 hB))
                go_wp2_with fail
                go_region_held3 (fun w' => w'.cell? ⟨xb, xo + j * 6, none⟩ = some (.int .u8 l[j].k) ∧ w'.cell? ⟨xb, xo + j * 6 + 1, none⟩ = some (.int .i64 l[j].a) ∧ w'.cell? ⟨xb, xo + j * 6 + 2, none⟩ = some (.int .i64 l[j].b) ∧ w'.cell? ⟨xb, xo + j * 6 + 3, none⟩ = some (.int .i64 l[j].K) ∧ w'.cell? ⟨xb, xo + j * 6 + 4, none⟩ = some (.int .i64 l[j].M) ∧ w'.cell? ⟨xb, xo + j * 6 + 5, none⟩ = some (.slice xs' l[j].set.length xc') ∧ w'.cell? ⟨rb, ro + k, none⟩ = some (.slice rs rows[k].length rc) ∧ Hid (Seen wo w' xb (xo + j * 6) rb (ro + k) l[j] (.slice xs' l[j].set.length xc') rows[k] (.slice rs rows[k].length rc)))
                  (first | assumption | (with_reducible exact (seenDrew HS8.out).all) | (with_reducible exact HS9.out.all))
                  (first
                    | (go_at_call 13; with_reducible refine (rowRef_at (x := l[j]) (row := rows[k]) (seenX (w0 := wo) (rb := rb) (by first | assumption | exact hide (seenDrew HS8.out))) (seenR (w0 := wo) (rb := rb) (by first | assumption | exact hide (seenDrew HS8.out)))).mono ?_; intro e w9 h8; obtain ⟨rfl, hB⟩ := answers_no h8 HE.out HH.out; have HS9 := hide (seenStep (hide (seenDrew HS8.out)) hB); clear h8 hB))
                go_wp2_with fail
                go_roundw
                case rel => exact ⟨k + 1, by omega, by go_num, seenB HS9⟩
                case measure => simp [intOf]; omega
            · have HE := hide he
              clear he
              go_region_held3 (fun w' => w'.cell? ⟨xb, xo + j * 6, none⟩ = some (.int .u8 l[j].k) ∧ w'.cell? ⟨xb, xo + j * 6 + 1, none⟩ = some (.int .i64 l[j].a) ∧ w'.cell? ⟨xb, xo + j * 6 + 2, none⟩ = some (.int .i64 l[j].b) ∧ w'.cell? ⟨xb, xo + j * 6 + 3, none⟩ = some (.int .i64 l[j].K) ∧ w'.cell? ⟨xb, xo + j * 6 + 4, none⟩ = some (.int .i64 l[j].M) ∧ w'.cell? ⟨xb, xo + j * 6 + 5, none⟩ = some (.slice xs' l[j].set.length xc') ∧ w'.cell? ⟨rb, ro + k, none⟩ = some (.slice rs rows[k].length rc) ∧ Hid (Seen wo w' xb (xo + j * 6) rb (ro + k) l[j] (.slice xs' l[j].set.length xc') rows[k] (.slice rs rows[k].length rc)))
                (first | assumption | (with_reducible exact (seenDrew N2.out).all) | (with_reducible exact HS8.out.all))
                (first
                  | (go_at_call 12; with_reducible refine (rowProg_at (x := l[j]) (row := rows[k]) (seenX (w0 := wo) (rb := rb) (by first | assumption | exact hide (seenDrew N2.out))) (seenR (w0 := wo) (rb := rb) (by first | assumption | exact hide (seenDrew N2.out)))).mono ?_; intro e w8 h8; obtain ⟨rfl, hB⟩ := answers_bad h8 HE.out; have HS8 := hide (seenStep (hide (seenDrew N2.out)) hB); clear h8 hB))
              go_wp2_with fail
              go_region_held3 (fun w' => w'.cell? ⟨xb, xo + j * 6, none⟩ = some (.int .u8 l[j].k) ∧ w'.cell? ⟨xb, xo + j * 6 + 1, none⟩ = some (.int .i64 l[j].a) ∧ w'.cell? ⟨xb, xo + j * 6 + 2, none⟩ = some (.int .i64 l[j].b) ∧ w'.cell? ⟨xb, xo + j * 6 + 3, none⟩ = some (.int .i64 l[j].K) ∧ w'.cell? ⟨xb, xo + j * 6 + 4, none⟩ = some (.int .i64 l[j].M) ∧ w'.cell? ⟨xb, xo + j * 6 + 5, none⟩ = some (.slice xs' l[j].set.length xc') ∧ w'.cell? ⟨rb, ro + k, none⟩ = some (.slice rs rows[k].length rc) ∧ Hid (Seen wo w' xb (xo + j * 6) rb (ro + k) l[j] (.slice xs' l[j].set.length xc') rows[k] (.slice rs rows[k].length rc)))
                (first | assumption | (with_reducible exact (seenDrew HS8.out).all) | (with_reducible exact HS9.out.all))
                (first
                  | (go_at_call 13; with_reducible refine (rowRef_at (x := l[j]) (row := rows[k]) (seenX (w0 := wo) (rb := rb) (by first | assumption | exact hide (seenDrew HS8.out))) (seenR (w0 := wo) (rb := rb) (by first | assumption | exact hide (seenDrew HS8.out)))).mono ?_; intro e w9 h8; obtain ⟨rfl, hB⟩ := answers_bad h8 HE.out; have HS9 := hide (seenStep (hide (seenDrew HS8.out)) hB); clear h8 hB))
              go_wp2_with fail
              go_roundw
              case rel => exact ⟨k + 1, by omega, by go_num, seenB HS9⟩
              case measure => simp [intOf]; omega
          · have B9 := hide (below_up B8.out HB2.out)
            go_wp2_with fail
            go_roundw
            case rel => exact ⟨j + 1, by omega, by go_num, B9.out⟩
            case measure => simp [intOf]; omega
    · have V14 : Hid (Calls Tryz.prog 14 #[.slice oa l.length ca, .slice ob rows.length cb] wr (Firsts l rows wr)) := hide (firstProg (HL.out.step HB.out) (HR.out.step HB.out))
      have V15 : Hid (∀ w', Below wr.heap.size wr w' → Calls Tryz.prog 15 #[.slice oa l.length ca, .slice ob rows.length cb] w' (Firsts l rows w')) := hide fun w' q => firstRef (HL.out.step (below_up HB.out q)) (HR.out.step (below_up HB.out q))
      unfold Firsts at V14 V15
      generalize (first l rows).1 = f1 at V14 V15
      generalize (first l rows).2.1 = f2 at V14 V15
      generalize (first l rows).2.2 = f3 at V14 V15
      go_wp2_with (first
        | (go_at_call 14
           with_reducible refine V14.out.mono ?_
           rintro e w2 ⟨rfl, hB2⟩
           have B2 := hide hB2
           clear hB2)
        | (go_at_call 15
           with_reducible refine (V15.out _ B2.out).mono ?_
           rintro e w3 ⟨rfl, hB3⟩
           have B3 := hide (below_up (below_up HB.out B2.out) hB3)
           clear hB3)
        | (go_at_call 9
           with_reducible refine (HA.out _ B3.out).mono ?_
           rintro e w4 ⟨rfl, hB4⟩
           have B4 := hide (below_up B3.out hB4)
           clear hB4)
        | fail)
      go_ret
      exact ⟨rfl, B4.out⟩
end Go.Proofs.YtdfjjmibhnniiaaGreatDoor.Le
