import Derived.Test.YtdfjjmibhnniiaaGreatDoorLeH
import Derived.Test.YtdfjjmibhnniiaaGreatDoorLeU
import Derived.Deep.RegionHeld3
set_option maxRecDepth 100000
set_option linter.unusedSimpArgs false
set_option linter.unusedVariables false
namespace Go.Proofs.YtdfjjmibhnniiaaGreatDoor.Le
open Go Go.Ms Go.Pg Go.Le Go.ChangeShapes Go.WideShapes Go.ChangeAt Go.RowKit Go.Deep

def InvAt (w : World) (b p : Nat) (x : Inv) : Prop := NumAt .u8 w b p x.k ∧ NumAt .i64 w b (p + 1) x.a ∧ NumAt .i64 w b (p + 2) x.b ∧ NumAt .i64 w b (p + 3) x.K ∧ NumAt .i64 w b (p + 4) x.M ∧ ∃ v, w.cell? ⟨b, p + 5, none⟩ = some v ∧ Ints w v x.set
def ListAt (w : World) (b p : Nat) (x : List Int) : Prop := ∃ v, w.cell? ⟨b, p, none⟩ = some v ∧ Ints w v x
theorem InvAt.keeps : Keeps InvAt := fun hB _ _ _ ⟨h1, h2, h3, h4, h5, v, h6, h7⟩ =>
  ⟨NumAt.keeps _ hB _ _ _ h1, NumAt.keeps _ hB _ _ _ h2, NumAt.keeps _ hB _ _ _ h3, NumAt.keeps _ hB _ _ _ h4, NumAt.keeps _ hB _ _ _ h5, v, cell_below hB h6, ints_below h7 hB⟩
theorem ListAt.keeps : Keeps ListAt := fun hB _ _ _ ⟨v, h6, h7⟩ => ⟨v, cell_below hB h6, ints_below h7 hB⟩
abbrev Claims (w : World) (v : Value) (l : List Inv) : Prop := RowAt 6 InvAt w v l
abbrev Rows2 (w : World) (v : Value) (l : List (List Int)) : Prop := RowAt 1 ListAt w v l
theorem Claims.step {w w' : World} {v : Value} {l : List Inv} (h : Claims w v l) (hB : Below w.heap.size w w') : Claims w' v l := h.below InvAt.keeps hB
theorem Rows2.step {w w' : World} {v : Value} {l : List (List Int)} (h : Rows2 w v l) (hB : Below w.heap.size w w') : Rows2 w' v l := h.below ListAt.keeps hB

theorem claim_cell {w : World} {oa : Option Addr} {n cap i : Nat} {l : List Inv} (h : Claims w (.slice oa n cap) l) (hi : i < l.length) :
    ∃ b o os cs, oa = some ⟨b, o, none⟩ ∧ w.cell? ⟨b, o + i * 6, none⟩ = some (.int .u8 l[i].k) ∧ w.cell? ⟨b, o + i * 6 + 1, none⟩ = some (.int .i64 l[i].a) ∧ w.cell? ⟨b, o + i * 6 + 2, none⟩ = some (.int .i64 l[i].b) ∧
      w.cell? ⟨b, o + i * 6 + 3, none⟩ = some (.int .i64 l[i].K) ∧ w.cell? ⟨b, o + i * 6 + 4, none⟩ = some (.int .i64 l[i].M) ∧ w.cell? ⟨b, o + i * 6 + 5, none⟩ = some (.slice os l[i].set.length cs) ∧ IntsW w (.slice os l[i].set.length cs) l[i].set := by
  obtain ⟨oa', cap', e, hl, hc⟩ := h
  obtain ⟨rfl, _, _⟩ : oa = oa' ∧ n = l.length ∧ cap = cap' := by simpa using e
  obtain ⟨b, o, e, h1, h2, h3, h4, h5, v, h6, h7⟩ := hc i hi
  obtain ⟨os, cs, rfl, h8, h9⟩ := h7
  exact ⟨b, o, os, cs, e, h1.1, h2.1, h3.1, h4.1, h5.1, h6, os, cs, rfl, by omega, h9⟩
theorem row_cell {w : World} {oa : Option Addr} {n cap i : Nat} {l : List (List Int)} (h : Rows2 w (.slice oa n cap) l) (hi : i < l.length) :
    ∃ b o os cs, oa = some ⟨b, o, none⟩ ∧ w.cell? ⟨b, o + i, none⟩ = some (.slice os l[i].length cs) ∧ IntsW w (.slice os l[i].length cs) l[i] := by
  obtain ⟨oa', cap', e, hl, hc⟩ := h
  obtain ⟨rfl, _, _⟩ : oa = oa' ∧ n = l.length ∧ cap = cap' := by simpa using e
  obtain ⟨b, o, e, v, h6, h7⟩ := hc i hi
  obtain ⟨os, cs, rfl, h8, h9⟩ := h7
  exact ⟨b, o, os, cs, e, by simpa using h6, os, cs, rfl, by omega, h9⟩

open Classical in
noncomputable def rowScan (row : List Int) (i : Int) : List Inv → Int → Option (Int × Int × Int)
  | [], _ => none
  | x :: l, j => if rowErr x row = 0 then (if Holds x row then rowScan row i l (j + 1) else some (i, j, 0)) else some (0, 0, rowErr x row)
noncomputable def allScan (l : List Inv) : List (List Int) → Int → Option (Int × Int × Int)
  | [], _ => none
  | r :: rs, i => match rowScan r i l 0 with
    | some z => some z
    | none => allScan l rs (i + 1)
noncomputable def first (l : List Inv) (rows : List (List Int)) : Int × Int × Int := (allScan l rows 0).getD (-1, -1, 0)

theorem rowScan_end {row : List Int} {i : Int} {l : List Inv} {j : Nat} (h : ¬ j < l.length) : rowScan row i (l.drop j) (j : Int) = none := by
  rw [List.drop_eq_nil_of_le (by omega)]
  rfl
theorem rowScan_bad {row : List Int} {i : Int} {l : List Inv} {j : Nat} (h : j < l.length) (he : ¬ rowErr l[j] row = 0) : rowScan row i (l.drop j) (j : Int) = some (0, 0, rowErr l[j] row) := by
  rw [List.drop_eq_getElem_cons h]
  unfold rowScan
  rw [if_neg he]
theorem rowScan_no {row : List Int} {i : Int} {l : List Inv} {j : Nat} (h : j < l.length) (he : rowErr l[j] row = 0) (hh : ¬ Holds l[j] row) : rowScan row i (l.drop j) (j : Int) = some (i, (j : Int), 0) := by
  rw [List.drop_eq_getElem_cons h]
  unfold rowScan
  rw [if_pos he, if_neg hh]
theorem rowScan_yes {row : List Int} {i : Int} {l : List Inv} {j : Nat} (h : j < l.length) (he : rowErr l[j] row = 0) (hh : Holds l[j] row) : rowScan row i (l.drop j) (j : Int) = rowScan row i (l.drop (j + 1)) ((j + 1 : Nat) : Int) := by
  rw [List.drop_eq_getElem_cons h]
  conv => lhs; unfold rowScan
  rw [if_pos he, if_pos hh]
  rfl
theorem allScan_end {l : List Inv} {rows : List (List Int)} {i : Nat} (h : ¬ i < rows.length) : allScan l (rows.drop i) (i : Int) = none := by
  rw [List.drop_eq_nil_of_le (by omega)]
  rfl
theorem allScan_some {l : List Inv} {rows : List (List Int)} {i : Nat} {z : Int × Int × Int} (h : i < rows.length) (hz : rowScan rows[i] (i : Int) l 0 = some z) : allScan l (rows.drop i) (i : Int) = some z := by
  rw [List.drop_eq_getElem_cons h]
  unfold allScan
  rw [hz]
theorem allScan_none {l : List Inv} {rows : List (List Int)} {i : Nat} (h : i < rows.length) (hz : rowScan rows[i] (i : Int) l 0 = none) : allScan l (rows.drop i) (i : Int) = allScan l (rows.drop (i + 1)) ((i + 1 : Nat) : Int) := by
  rw [List.drop_eq_getElem_cons h]
  conv => lhs; unfold allScan
  rw [hz]
  rfl
theorem first_some {l : List Inv} {rows : List (List Int)} {z : Int × Int × Int} (h : allScan l rows 0 = some z) : first l rows = z := by
  unfold first
  rw [h]
  rfl
theorem first_none {l : List Inv} {rows : List (List Int)} (h : allScan l rows 0 = none) : first l rows = (-1, -1, 0) := by
  unfold first
  rw [h]
  rfl
theorem answers_at {x : Inv} {row : List Int} {w w' : World} {e : Ending} (h : Answers x row w e w') :
    (rowErr x row = 0 ∧ Holds x row ∧ e = .returned (.tuple #[.bool true, .int .i64 0]) ∨ rowErr x row = 0 ∧ ¬ Holds x row ∧ e = .returned (.tuple #[.bool false, .int .i64 0]) ∨ ¬ rowErr x row = 0 ∧ e = .returned (.tuple #[.bool false, .int .i64 (rowErr x row)])) ∧ Below w.heap.size w w' := by
  obtain ⟨r, rfl, h1, hB⟩ := h
  refine ⟨?_, hB⟩
  by_cases he : rowErr x row = 0
  · rw [if_pos he] at h1
    rw [he]
    cases r with
    | true => exact .inl ⟨rfl, h1.1 rfl, rfl⟩
    | false => exact .inr (.inl ⟨rfl, fun q => Bool.noConfusion (h1.2 q), rfl⟩)
  · rw [if_neg he] at h1
    exact .inr (.inr ⟨he, by rw [h1]⟩)
end Go.Proofs.YtdfjjmibhnniiaaGreatDoor.Le

set_option maxRecDepth 100000
set_option linter.unusedSimpArgs false
set_option linter.unusedVariables false
namespace Go.Proofs.YtdfjjmibhnniiaaGreatDoor.Le
open Go Go.Ms Go.Pg Go.Le Go.ChangeShapes Go.WideShapes Go.ChangeAt Go.RowKit Go.Deep

def Firsts (l : List Inv) (rows : List (List Int)) (w : World) (e : Ending) (w' : World) : Prop :=
  e = .returned (.tuple #[.int .i64 (first l rows).1, .int .i64 (first l rows).2.1, .int .i64 (first l rows).2.2]) ∧ Below w.heap.size w w'
theorem rowProg_at {w : World} {x : Inv} {s t : Value} {row : List Int} (hs : IntsW w s x.set) (ht : IntsW w t row) : Calls Tryz.prog 12 #[.agg #[.int .u8 x.k, .int .i64 x.a, .int .i64 x.b, .int .i64 x.K, .int .i64 x.M, s], t] w (Answers x row w) := rowProg hs ht
theorem rowRef_at {w : World} {x : Inv} {s t : Value} {row : List Int} (hs : IntsW w s x.set) (ht : IntsW w t row) : Calls Tryz.prog 13 #[.agg #[.int .u8 x.k, .int .i64 x.a, .int .i64 x.b, .int .i64 x.K, .int .i64 x.M, s], t] w (Answers x row w) := rowRef hs ht
theorem answers_bad {x : Inv} {row : List Int} {w w' : World} {e : Ending} (h : Answers x row w e w') (he : ¬ rowErr x row = 0) : e = .returned (.tuple #[.bool false, .int .i64 (rowErr x row)]) ∧ Below w.heap.size w w' := by
  obtain ⟨h1, hB⟩ := answers_at h
  refine ⟨?_, hB⟩
  rcases h1 with ⟨q, _⟩ | ⟨q, _⟩ | ⟨_, q⟩
  · exact absurd q he
  · exact absurd q he
  · exact q
theorem answers_no {x : Inv} {row : List Int} {w w' : World} {e : Ending} (h : Answers x row w e w') (he : rowErr x row = 0) (hh : ¬ Holds x row) : e = .returned (.tuple #[.bool false, .int .i64 0]) ∧ Below w.heap.size w w' := by
  obtain ⟨h1, hB⟩ := answers_at h
  refine ⟨?_, hB⟩
  rcases h1 with ⟨_, q, _⟩ | ⟨_, _, q⟩ | ⟨q, _⟩
  · exact absurd q hh
  · exact q
  · exact absurd he q
theorem answers_yes {x : Inv} {row : List Int} {w w' : World} {e : Ending} (h : Answers x row w e w') (he : rowErr x row = 0) (hh : Holds x row) : e = .returned (.tuple #[.bool true, .int .i64 0]) ∧ Below w.heap.size w w' := by
  obtain ⟨h1, hB⟩ := answers_at h
  refine ⟨?_, hB⟩
  rcases h1 with ⟨_, _, q⟩ | ⟨_, q, _⟩ | ⟨q, _⟩
  · exact q
  · exact absurd hh q
  · exact absurd he q

set_option maxHeartbeats 8000000 in
theorem firstProg {w : World} {v r : Value} {l : List Inv} {rows : List (List Int)} (hl : Claims w v l) (hr : Rows2 w r rows) : Calls Tryz.prog 14 #[v, r] w (Firsts l rows w) := by
  obtain ⟨oa, ca, rfl, hla, _⟩ := id hl
  obtain ⟨ob, cb, rfl, hlb, _⟩ := id hr
  have HL := hide hl
  have HR := hide hr
  clear hl hr
  go_enter Tryz.func14, Tryz.ntmps14
  go_wp2_with fail
  go_loopw [15] (fun i wr => ∃ k : Nat, k ≤ rows.length ∧ i = .int .i64 (k : Int) ∧ allScan l rows 0 = allScan l (rows.drop k) (k : Int) ∧ Below w.heap.size w wr) (fun i _ => rows.length - (intOf i).toNat)
  case atStart => exact ⟨0, Nat.zero_le _, rfl, rfl, Below.refl _ _⟩
  case round =>
    obtain ⟨k, hk, rfl, hs, hB⟩ := hrel
    have HS := hide hs
    have HB := hide hB
    clear hs hB
    obtain ⟨wo, rfl⟩ : ∃ wo : World, wo = wr := ⟨_, rfl⟩
    by_cases hlt : k < rows.length
    · have hi1 : (k : Int) < (rows.length : Int) := by omega
      obtain ⟨rb, ro, rs, rc, rfl, f1, hR1⟩ := row_cell (HR.out.step HB.out) hlt
      have R1 := hide hR1
      clear hR1
      go_wp2_with fail
      go_loopw [22] (fun i wr => ∃ j : Nat, j ≤ l.length ∧ i = .int .i64 (j : Int) ∧ rowScan rows[k] (k : Int) l 0 = rowScan rows[k] (k : Int) (l.drop j) (j : Int) ∧ Below wo.heap.size wo wr) (fun i _ => l.length - (intOf i).toNat)
      case atStart => exact ⟨0, Nat.zero_le _, rfl, rfl, Below.refl _ _⟩
      case round =>
        obtain ⟨j, hj, rfl, ht, hB2⟩ := hrel
        have HT := hide ht
        have HB2 := hide hB2
        clear ht hB2 f1
        by_cases hjl : j < l.length
        · have hj1 : (j : Int) < (l.length : Int) := by omega
          obtain ⟨xb, xo, xs, xc, rfl, c0, c1, c2, c3, c4, c5, hI1⟩ := claim_cell (HL.out.step (below_up HB.out HB2.out)) hjl
          have I1 := hide hI1
          have R2 := hide (intsW_below R1.out HB2.out)
          clear hI1
          go_upto_region 7 with fail
          obtain ⟨b1, b3⟩ := one_box wr l[j] (.slice xs l[j].set.length xc) 31
          unfold cInv at b1 b3
          generalize wr.alloc (.cells #[.int .u8 l[j].k, .int .i64 l[j].a, .int .i64 l[j].b, .int .i64 l[j].K, .int .i64 l[j].M, .slice xs l[j].set.length xc] 31) = w7 at *
          have I7 := hide (intsW_below I1.out b3)
          have R7 := hide (intsW_below R2.out b3)
          have B7 : Hid (Below wo.heap.size wo w7) := hide (below_up HB2.out b3)
          clear c0 c1 c2 c3 c4 c5 b3 I1 R2
          obtain ⟨p0, p1, p2, p3, p4, p5⟩ := b1
          by_cases he : rowErr l[j] rows[k] = 0
          · have HE := hide he
            clear he
            by_cases hh : Holds l[j] rows[k]
            · have HH := hide hh
              clear hh
              go_wp2_with (first
                | (go_at_call 12
                   with_reducible refine (rowProg_at I7.out R7.out).mono ?_
                   intro e w8 h8
                   obtain ⟨rfl, hB⟩ := answers_yes h8 HE.out HH.out
                   have B8 := hide (below_up B7.out hB)
                   clear h8 hB p0 p1 p2 p3 p4 p5)
                | fail)
              go_roundw
              case rel => exact ⟨j + 1, by omega, by go_num, HT.out.trans (rowScan_yes hjl HE.out HH.out), B8.out⟩
              case measure => simp [intOf]; omega
            · have HH := hide hh
              clear hh
              go_wp2_with (first
                | (go_at_call 12
                   with_reducible refine (rowProg_at I7.out R7.out).mono ?_
                   intro e w8 h8
                   obtain ⟨rfl, hB⟩ := answers_no h8 HE.out HH.out
                   have B8 := hide (below_up B7.out hB)
                   clear h8 hB p0 p1 p2 p3 p4 p5)
                | fail)
              have F : Hid (first l rows = ((k : Int), (j : Int), 0)) := hide (first_some (HS.out.trans (allScan_some hlt (HT.out.trans (rowScan_no hjl HE.out HH.out)))))
              refine bodyPost_ret (v := .tuple #[.int .i64 (k : Int), .int .i64 (j : Int), .int .i64 0]) (by simp [results, Tryz.results14, go_sem]) rfl ?_
              exact ⟨by rw [F.out], below_up HB.out B8.out⟩
          · have HE := hide he
            have ee : (rowErr l[j] rows[k] != 0) = true := by simpa using he
            clear he
            go_wp2_with (first
              | (go_at_call 12
                 with_reducible refine (rowProg_at I7.out R7.out).mono ?_
                 intro e w8 h8
                 obtain ⟨rfl, hB⟩ := answers_bad h8 HE.out
                 have B8 := hide (below_up B7.out hB)
                 clear h8 hB p0 p1 p2 p3 p4 p5)
              | fail)
            have F : Hid (first l rows = (0, 0, rowErr l[j] rows[k])) := hide (first_some (HS.out.trans (allScan_some hlt (HT.out.trans (rowScan_bad hjl HE.out)))))
            refine bodyPost_ret (v := .tuple #[.int .i64 0, .int .i64 0, .int .i64 (rowErr l[j] rows[k])]) (by simp [results, Tryz.results14, go_sem]) rfl ?_
            exact ⟨by rw [F.out], below_up HB.out B8.out⟩
        · have B9 := hide (below_up HB.out HB2.out)
          have HN := hide (HT.out.trans (rowScan_end hjl))
          go_wp2_with fail
          go_roundw
          case rel => exact ⟨k + 1, by omega, by go_num, HS.out.trans (allScan_none hlt HN.out), B9.out⟩
          case measure => simp [intOf]; omega
    · have F : Hid (first l rows = (-1, -1, 0)) := hide (first_none (HS.out.trans (allScan_end hlt)))
      go_wp2_with fail
      refine bodyPost_ret (v := .tuple #[.int .i64 (-1), .int .i64 (-1), .int .i64 0]) (by simp [results, Tryz.results14, go_sem]) rfl ?_
      exact ⟨by rw [F.out], HB.out⟩

def Seen (w0 w : World) (xb xo rb ro : Nat) (x : Inv) (xs : Value) (row : List Int) (rs : Value) : Prop :=
  w.cell? ⟨xb, xo, none⟩ = some (.int .u8 x.k) ∧ w.cell? ⟨xb, xo + 1, none⟩ = some (.int .i64 x.a) ∧ w.cell? ⟨xb, xo + 2, none⟩ = some (.int .i64 x.b) ∧ w.cell? ⟨xb, xo + 3, none⟩ = some (.int .i64 x.K) ∧
  w.cell? ⟨xb, xo + 4, none⟩ = some (.int .i64 x.M) ∧ w.cell? ⟨xb, xo + 5, none⟩ = some xs ∧ w.cell? ⟨rb, ro, none⟩ = some rs ∧ IntsW w xs x.set ∧ IntsW w rs row ∧ Below w0.heap.size w0 w
theorem Seen.step {w0 w w' : World} {xb xo rb ro : Nat} {x : Inv} {xs rs : Value} {row : List Int} (h : Seen w0 w xb xo rb ro x xs row rs) (hB : Below w.heap.size w w') : Seen w0 w' xb xo rb ro x xs row rs := by
  obtain ⟨h0, h1, h2, h3, h4, h5, h6, h7, h8, h9⟩ := h
  exact ⟨cell_below hB h0, cell_below hB h1, cell_below hB h2, cell_below hB h3, cell_below hB h4, cell_below hB h5, cell_below hB h6, intsW_below h7 hB, intsW_below h8 hB, below_up h9 hB⟩
theorem Seen.all {w0 w : World} {xb xo rb ro : Nat} {x : Inv} {xs rs : Value} {row : List Int} (h : Seen w0 w xb xo rb ro x xs row rs) :
    w.cell? ⟨xb, xo, none⟩ = some (.int .u8 x.k) ∧ w.cell? ⟨xb, xo + 1, none⟩ = some (.int .i64 x.a) ∧ w.cell? ⟨xb, xo + 2, none⟩ = some (.int .i64 x.b) ∧ w.cell? ⟨xb, xo + 3, none⟩ = some (.int .i64 x.K) ∧
    w.cell? ⟨xb, xo + 4, none⟩ = some (.int .i64 x.M) ∧ w.cell? ⟨xb, xo + 5, none⟩ = some xs ∧ w.cell? ⟨rb, ro, none⟩ = some rs ∧ Hid (Seen w0 w xb xo rb ro x xs row rs) :=
  ⟨h.1, h.2.1, h.2.2.1, h.2.2.2.1, h.2.2.2.2.1, h.2.2.2.2.2.1, h.2.2.2.2.2.2.1, h⟩
theorem seenDrew {w0 w : World} {xb xo rb ro : Nat} {x : Inv} {xs rs : Value} {row : List Int} (h : Seen w0 w xb xo rb ro x xs row rs) : Seen w0 w.drew xb xo rb ro x xs row rs := h.step ((Below.refl _ _).drew)
theorem seenStep {w0 w w' : World} {xb xo rb ro : Nat} {x : Inv} {xs rs : Value} {row : List Int} (h : Hid (Seen w0 w xb xo rb ro x xs row rs)) (hB : Below w.heap.size w w') : Seen w0 w' xb xo rb ro x xs row rs := h.out.step hB
theorem seenX {w0 w : World} {xb xo rb ro : Nat} {x : Inv} {xs rs : Value} {row : List Int} (h : Hid (Seen w0 w xb xo rb ro x xs row rs)) : IntsW w xs x.set := h.out.2.2.2.2.2.2.2.1
theorem seenR {w0 w : World} {xb xo rb ro : Nat} {x : Inv} {xs rs : Value} {row : List Int} (h : Hid (Seen w0 w xb xo rb ro x xs row rs)) : IntsW w rs row := h.out.2.2.2.2.2.2.2.2.1
theorem seenB {w0 w : World} {xb xo rb ro : Nat} {x : Inv} {xs rs : Value} {row : List Int} (h : Hid (Seen w0 w xb xo rb ro x xs row rs)) : Below w0.heap.size w0 w := h.out.2.2.2.2.2.2.2.2.2

set_option maxHeartbeats 8000000 in
theorem firstRef {w : World} {v r : Value} {l : List Inv} {rows : List (List Int)} (hl : Claims w v l) (hr : Rows2 w r rows) : Calls Tryz.prog 15 #[v, r] w (Firsts l rows w) := by
  obtain ⟨oa, ca, rfl, hla, _⟩ := id hl
  obtain ⟨ob, cb, rfl, hlb, _⟩ := id hr
  have HL := hide hl
  have HR := hide hr
  clear hl hr
  go_enter Tryz.func15, Tryz.ntmps15
  go_wp2_with fail
  go_loopw [7] (fun i wr => ∃ k : Nat, k ≤ rows.length ∧ i = .int .i64 (k : Int) ∧ allScan l rows 0 = allScan l (rows.drop k) (k : Int) ∧ Below w.heap.size w wr) (fun i _ => rows.length - (intOf i).toNat)
  case atStart => exact ⟨0, Nat.zero_le _, rfl, rfl, Below.refl _ _⟩
  case round =>
    obtain ⟨k, hk, rfl, hs, hB⟩ := hrel
    have HS := hide hs
    have HB := hide hB
    clear hs hB
    obtain ⟨wo, rfl⟩ : ∃ wo : World, wo = wr := ⟨_, rfl⟩
    by_cases hlt : k < rows.length
    · have hi1 : (k : Int) < (rows.length : Int) := by omega
      go_wp2_with fail
      go_loopw [8] (fun i wr => ∃ j : Nat, j ≤ l.length ∧ i = .int .i64 (j : Int) ∧ rowScan rows[k] (k : Int) l 0 = rowScan rows[k] (k : Int) (l.drop j) (j : Int) ∧ Below wo.heap.size wo wr) (fun i _ => l.length - (intOf i).toNat)
      case atStart => exact ⟨0, Nat.zero_le _, rfl, rfl, Below.refl _ _⟩
      case round =>
        obtain ⟨j, hj, rfl, ht, hB2⟩ := hrel
        have HT := hide ht
        have HB2 := hide hB2
        clear ht hB2
        by_cases hjl : j < l.length
        · have hj1 : (j : Int) < (l.length : Int) := by omega
          obtain ⟨rb, ro, rs, rc, rfl, f1, hR1⟩ := row_cell (HR.out.step (below_up HB.out HB2.out)) hlt
          obtain ⟨xb, xo, xs, xc, rfl, c0, c1, c2, c3, c4, c5, hI1⟩ := claim_cell (HL.out.step (below_up HB.out HB2.out)) hjl
          have N1 : Hid (Seen wo wr xb (xo + j * 6) rb (ro + k) l[j] (.slice xs l[j].set.length xc) rows[k] (.slice rs rows[k].length rc)) := hide ⟨c0, c1, c2, c3, c4, c5, f1, hI1, hR1, HB2.out⟩
          clear f1 c0 c1 c2 c3 c4 c5 hI1 hR1
          go_wp2_with fail
          by_cases he : rowErr l[j] rows[k] = 0
          · have HE := hide he
            clear he
            by_cases hh : Holds l[j] rows[k]
            · have HH := hide hh
              clear hh
              go_region_held3 (fun w' => w'.cell? ⟨xb, xo + j * 6, none⟩ = some (.int .u8 l[j].k) ∧ w'.cell? ⟨xb, xo + j * 6 + 1, none⟩ = some (.int .i64 l[j].a) ∧ w'.cell? ⟨xb, xo + j * 6 + 2, none⟩ = some (.int .i64 l[j].b) ∧ w'.cell? ⟨xb, xo + j * 6 + 3, none⟩ = some (.int .i64 l[j].K) ∧ w'.cell? ⟨xb, xo + j * 6 + 4, none⟩ = some (.int .i64 l[j].M) ∧ w'.cell? ⟨xb, xo + j * 6 + 5, none⟩ = some (.slice xs l[j].set.length xc) ∧ w'.cell? ⟨rb, ro + k, none⟩ = some (.slice rs rows[k].length rc) ∧ Hid (Seen wo w' xb (xo + j * 6) rb (ro + k) l[j] (.slice xs l[j].set.length xc) rows[k] (.slice rs rows[k].length rc)))
                (first | assumption | (with_reducible exact (seenDrew N1.out).all) | (with_reducible exact HS8.out.all))
                (first
                  | (go_at_call 13; with_reducible refine (rowRef_at (x := l[j]) (row := rows[k]) (seenX (w0 := wo) (rb := rb) (by first | assumption | exact hide (seenDrew N1.out))) (seenR (w0 := wo) (rb := rb) (by first | assumption | exact hide (seenDrew N1.out)))).mono ?_; intro e w8 h8; obtain ⟨rfl, hB⟩ := answers_yes h8 HE.out HH.out; have HS8 := hide (seenStep (hide (seenDrew N1.out)) hB); clear h8 hB))
              go_wp2_with fail
              go_roundw
              case rel => exact ⟨j + 1, by omega, by go_num, HT.out.trans (rowScan_yes hjl HE.out HH.out), seenB HS8⟩
              case measure => simp [intOf]; omega
            · have HH := hide hh
              clear hh
              go_region_held3 (fun w' => w'.cell? ⟨xb, xo + j * 6, none⟩ = some (.int .u8 l[j].k) ∧ w'.cell? ⟨xb, xo + j * 6 + 1, none⟩ = some (.int .i64 l[j].a) ∧ w'.cell? ⟨xb, xo + j * 6 + 2, none⟩ = some (.int .i64 l[j].b) ∧ w'.cell? ⟨xb, xo + j * 6 + 3, none⟩ = some (.int .i64 l[j].K) ∧ w'.cell? ⟨xb, xo + j * 6 + 4, none⟩ = some (.int .i64 l[j].M) ∧ w'.cell? ⟨xb, xo + j * 6 + 5, none⟩ = some (.slice xs l[j].set.length xc) ∧ w'.cell? ⟨rb, ro + k, none⟩ = some (.slice rs rows[k].length rc) ∧ Hid (Seen wo w' xb (xo + j * 6) rb (ro + k) l[j] (.slice xs l[j].set.length xc) rows[k] (.slice rs rows[k].length rc)))
                (first | assumption | (with_reducible exact (seenDrew N1.out).all) | (with_reducible exact HS8.out.all))
                (first
                  | (go_at_call 13; with_reducible refine (rowRef_at (x := l[j]) (row := rows[k]) (seenX (w0 := wo) (rb := rb) (by first | assumption | exact hide (seenDrew N1.out))) (seenR (w0 := wo) (rb := rb) (by first | assumption | exact hide (seenDrew N1.out)))).mono ?_; intro e w8 h8; obtain ⟨rfl, hB⟩ := answers_no h8 HE.out HH.out; have HS8 := hide (seenStep (hide (seenDrew N1.out)) hB); clear h8 hB))
              go_wp2_with fail
              have F : Hid (first l rows = ((k : Int), (j : Int), 0)) := hide (first_some (HS.out.trans (allScan_some hlt (HT.out.trans (rowScan_no hjl HE.out HH.out)))))
              refine bodyPost_ret (v := .tuple #[.int .i64 (k : Int), .int .i64 (j : Int), .int .i64 0]) (by simp [results, Tryz.results15, go_sem]) rfl ?_
              exact ⟨by rw [F.out], below_up HB.out (seenB HS8)⟩
          · have HE := hide he
            have ee : (rowErr l[j] rows[k] != 0) = true := by simpa using he
            clear he
            go_region_held3 (fun w' => w'.cell? ⟨xb, xo + j * 6, none⟩ = some (.int .u8 l[j].k) ∧ w'.cell? ⟨xb, xo + j * 6 + 1, none⟩ = some (.int .i64 l[j].a) ∧ w'.cell? ⟨xb, xo + j * 6 + 2, none⟩ = some (.int .i64 l[j].b) ∧ w'.cell? ⟨xb, xo + j * 6 + 3, none⟩ = some (.int .i64 l[j].K) ∧ w'.cell? ⟨xb, xo + j * 6 + 4, none⟩ = some (.int .i64 l[j].M) ∧ w'.cell? ⟨xb, xo + j * 6 + 5, none⟩ = some (.slice xs l[j].set.length xc) ∧ w'.cell? ⟨rb, ro + k, none⟩ = some (.slice rs rows[k].length rc) ∧ Hid (Seen wo w' xb (xo + j * 6) rb (ro + k) l[j] (.slice xs l[j].set.length xc) rows[k] (.slice rs rows[k].length rc)))
              (first | assumption | (with_reducible exact (seenDrew N1.out).all) | (with_reducible exact HS8.out.all))
              (first
                | (go_at_call 13; with_reducible refine (rowRef_at (x := l[j]) (row := rows[k]) (seenX (w0 := wo) (rb := rb) (by first | assumption | exact hide (seenDrew N1.out))) (seenR (w0 := wo) (rb := rb) (by first | assumption | exact hide (seenDrew N1.out)))).mono ?_; intro e w8 h8; obtain ⟨rfl, hB⟩ := answers_bad h8 HE.out; have HS8 := hide (seenStep (hide (seenDrew N1.out)) hB); clear h8 hB))
            go_wp2_with fail
            have F : Hid (first l rows = (0, 0, rowErr l[j] rows[k])) := hide (first_some (HS.out.trans (allScan_some hlt (HT.out.trans (rowScan_bad hjl HE.out)))))
            refine bodyPost_ret (v := .tuple #[.int .i64 0, .int .i64 0, .int .i64 (rowErr l[j] rows[k])]) (by simp [results, Tryz.results15, go_sem]) rfl ?_
            exact ⟨by rw [F.out], below_up HB.out (seenB HS8)⟩
        · have B9 := hide (below_up HB.out HB2.out)
          have HN := hide (HT.out.trans (rowScan_end hjl))
          go_wp2_with fail
          go_roundw
          case rel => exact ⟨k + 1, by omega, by go_num, HS.out.trans (allScan_none hlt HN.out), B9.out⟩
          case measure => simp [intOf]; omega
    · have F : Hid (first l rows = (-1, -1, 0)) := hide (first_none (HS.out.trans (allScan_end hlt)))
      go_wp2_with fail
      refine bodyPost_ret (v := .tuple #[.int .i64 (-1), .int .i64 (-1), .int .i64 0]) (by simp [results, Tryz.results15, go_sem]) rfl ?_
      exact ⟨by rw [F.out], HB.out⟩

def SomeBool (w : World) (e : Ending) (w' : World) : Prop := ∃ b, e = .returned (.bool b) ∧ ∃ n, w' = w.drewN n

set_option maxHeartbeats 8000000 in
theorem wideRef {w : World} {v r : Value} {l : List Inv} {rows : List (List Int)} (hl : Claims w v l) (hr : Rows2 w r rows) : Calls Tryz.prog 8 #[v, r, .slice none 0 0] w (SomeBool w) := by
  obtain ⟨oa, ca, rfl, hla, _⟩ := id hl
  obtain ⟨ob, cb, rfl, hlb, _⟩ := id hr
  have HL := hide hl
  have HR := hide hr
  clear hl hr
  by_cases h40 : (40 : Int) < (l.length : Int)
  · go_enter Tryz.func8, Tryz.ntmps8
    go_wp2_with fail
    go_ret
    exact ⟨_, rfl, 0, rfl⟩
  by_cases r40 : (40 : Int) < (rows.length : Int)
  · go_enter Tryz.func8, Tryz.ntmps8
    go_wp2_with fail
    go_ret
    exact ⟨_, rfl, 0, rfl⟩
  go_enter Tryz.func8, Tryz.ntmps8
  go_wp2_with fail
  go_loopw [7] (fun i wr => ∃ j : Nat, j ≤ l.length ∧ i = .int .i64 (j : Int) ∧ ∃ n, wr = w.drewN n) (fun i _ => l.length - (intOf i).toNat)
  case atStart => exact ⟨0, Nat.zero_le _, rfl, 0, rfl⟩
  case round =>
    obtain ⟨j, hj, rfl, nj, rfl⟩ := hrel
    by_cases hjl : j < l.length
    · have hj1 : (j : Int) < (l.length : Int) := by omega
      obtain ⟨xb, xo, xs, xc, rfl, c0, c1, c2, c3, c4, c5, hI1⟩ := claim_cell HL.out hjl
      clear hI1
      by_cases h20 : (20 : Int) < (l[j].set.length : Int)
      · go_wp2_with fail
        go_ret
        exact ⟨_, rfl, _, rfl⟩
      · go_wp2_with fail
        go_roundw
        case rel => exact ⟨j + 1, by omega, by go_num, _, rfl⟩
        case measure => simp [intOf]; omega
    · go_wp2_with fail
      go_loopw [8] (fun i wr => ∃ k : Nat, k ≤ rows.length ∧ i = .int .i64 (k : Int) ∧ ∃ n, wr = w.drewN n) (fun i _ => rows.length - (intOf i).toNat)
      case atStart => exact ⟨0, Nat.zero_le _, rfl, _, rfl⟩
      case round =>
        obtain ⟨k, hk, rfl, nk, rfl⟩ := hrel
        by_cases hlt : k < rows.length
        · have hi1 : (k : Int) < (rows.length : Int) := by omega
          obtain ⟨rb, ro, rs, rc, rfl, f1, hR1⟩ := row_cell HR.out hlt
          clear hR1
          by_cases h20 : (20 : Int) < (rows[k].length : Int)
          · go_wp2_with fail
            go_ret
            exact ⟨_, rfl, _, rfl⟩
          · go_wp2_with fail
            go_roundw
            case rel => exact ⟨k + 1, by omega, by go_num, _, rfl⟩
            case measure => simp [intOf]; omega
        · go_wp2_with fail
          go_loopw [9] (fun i wr => i = .int .i64 0 ∧ ∃ n, wr = w.drewN n) (fun i _ => 0)
          case atStart => exact ⟨rfl, _, rfl⟩
          case round =>
            obtain ⟨rfl, nz, rfl⟩ := hrel
            go_wp2_with fail
            go_ret
            exact ⟨_, rfl, _, rfl⟩
end Go.Proofs.YtdfjjmibhnniiaaGreatDoor.Le

