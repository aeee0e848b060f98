import Derived.Test.YtmkapmbmgpnjaaaGiF
import Derived.Test.YtmkapmbmgpnjaaaIlB
import Derived.Defers
import Derived.Recover
set_option maxRecDepth 100000
set_option linter.unusedSimpArgs false
set_option linter.unusedVariables false
namespace Go.Proofs.Ytmkapmbmgpnjaaa.Bi
open Go Go.Ms Go.Pg Go.Bi Go.ChangeShapes Go.WideShapes Go.ChangeAt Go.RowKit Go.Deep

abbrev nilV : Value := .slice none 0 0
abbrev questV (d : Bool) (a k p : Value) : Value := .agg #[.bool d, a, k, p]
abbrev boxQ (d : Bool) (a k p : Value) : Obj := .cells #[.bool d, a, k, p] 36 (0, 0)
def putQ (w : World) (B : Nat) (d : Bool) (a k p : Value) : World := (((w.setCell ⟨B, 0, none⟩ (.bool d)).setCell ⟨B, 1, none⟩ a).setCell ⟨B, 2, none⟩ k).setCell ⟨B, 3, none⟩ p
theorem putQ_block {w : World} {B : Nat} {d e : Bool} {a b k l p q : Value} (h : w.heap[B]? = some (boxQ d a k p)) : (putQ w B e b l q).heap[B]? = some (boxQ e b l q) := by
  have h0 := heap_setCell_same _ B 0 _ 36 (.bool e) h
  have h1 := heap_setCell_same _ B 1 _ 36 b h0
  have h2 := heap_setCell_same _ B 2 _ 36 l h1
  have h3 := heap_setCell_same _ B 3 _ 36 q h2
  refine h3.trans ?_
  simp [boxQ]
theorem putQ_other {w : World} {B k : Nat} {d : Bool} {a l p : Value} (h : k ≠ B) : (putQ w B d a l p).heap[k]? = w.heap[k]? := by
  unfold putQ
  rw [Below.heap_setCell _ _ _ _ h, Below.heap_setCell _ _ _ _ h, Below.heap_setCell _ _ _ _ h, Below.heap_setCell _ _ _ _ h]
theorem putQ_below {C B : Nat} {d : Bool} {a l p : Value} {w0 w : World} (h : Below C w0 w) (hB : C ≤ B) : Below C w0 (putQ w B d a l p) :=
  (((h.setCell (p := ⟨B, 0, none⟩) hB _).setCell (p := ⟨B, 1, none⟩) hB _).setCell (p := ⟨B, 2, none⟩) hB _).setCell (p := ⟨B, 3, none⟩) hB _
theorem putQ_size {w : World} {B : Nat} {d : Bool} {a l p : Value} : (putQ w B d a l p).heap.size = w.heap.size := by simp [putQ]
theorem q_cells {w : World} {B : Nat} {d : Bool} {a k p : Value} (h : w.heap[B]? = some (boxQ d a k p)) : w.cell? ⟨B, 0, none⟩ = some (.bool d) ∧ w.cell? ⟨B, 1, none⟩ = some a ∧ w.cell? ⟨B, 2, none⟩ = some k ∧ w.cell? ⟨B, 3, none⟩ = some p :=
  ⟨cell_of h 0, cell_of h 1, cell_of h 2, cell_of h 3⟩

def lenOf : Value → Nat
  | .slice _ n _ => n
  | _ => 0
def leftOf (w : World) (g : Nat) : Nat := lenOf ((w.cell? ⟨g, 1, none⟩).getD undef)
theorem left_box {w : World} {g : Nat} {l : List Int} (h : Box w g 204 l) : leftOf w g = l.length := by
  obtain ⟨tx, an, told, hb, oa, cap, rfl, _⟩ := h
  have e : w.cell? ⟨g, 1, none⟩ = some (.slice oa l.length cap) := cell_of hb 1
  simp [leftOf, lenOf, e]
theorem keeps_old {g : Nat} {w0 w w' : World} (h : Keeps g w0 w) (hg : g < w0.heap.size) (hB : Below w.heap.size w w') : Keeps g w0 w' := h.trans (Keeps.of_below (Nat.lt_of_lt_of_le hg h.below.size) hB)
theorem keeps_new {g : Nat} {w w' : World} (hg : g < w.heap.size) (hB : Below w.heap.size w w') : Keeps g w w' := Keeps.of_below hg hB
theorem keeps_cell {g : Nat} {w w' : World} (h : Keeps g w w') {b : Nat} (hb : b < g) {v : Value} (hc : w.cell? ⟨b, 0, none⟩ = some v) : w'.cell? ⟨b, 0, none⟩ = some v := (h.below.cell (p := ⟨b, 0, none⟩) hb).trans hc
theorem keeps_block {g : Nat} {w w' : World} (h : Keeps g w w') {b : Nat} {o : Obj} (hb : b ≠ g) (hc : w.heap[b]? = some o) : w'.heap[b]? = some o := (h.kept b (by have := Array.getElem?_eq_some_iff.1 hc; exact this.1) hb).trans hc

theorem box_put {g : Nat} {w : World} {l : List Int} (h : Box w g 204 l) {B : Nat} {d : Bool} {a k p : Value} (hB : g < B) : Box (putQ w B d a k p) g 204 l := by
  obtain ⟨tx, an, told, hb, oa, cap, rfl, hc, hl, q⟩ := h
  refine ⟨tx, _, told, (putQ_other (by omega)).trans hb, oa, cap, rfl, hc, hl, fun i hi => ?_⟩
  obtain ⟨b, o, e, hbg, hcell⟩ := q i hi
  exact ⟨b, o, e, hbg, ((putQ_below (Below.refl g w) (Nat.le_of_lt hB)).cell (p := ⟨b, o + i, none⟩) hbg).trans hcell⟩
theorem belowN (B : Nat) (w : World) (n : Nat) : Below B w (w.drewN n) := ⟨rfl, rfl, rfl, Nat.le_refl _, fun _ _ => rfl⟩
theorem box_putV {g : Nat} {w : World} {l : List Int} (h : Box w g 204 l) {B a b c d : Nat} (hB : g < B) : Box (putV w B a b c d) g 204 l := by
  obtain ⟨tx, an, told, hb, oa, cap, rfl, hc, hl, q⟩ := h
  refine ⟨tx, _, told, (putV_other (by omega)).trans hb, oa, cap, rfl, hc, hl, fun i hi => ?_⟩
  obtain ⟨b, o, e, hbg, hcell⟩ := q i hi
  exact ⟨b, o, e, hbg, ((putV_below (Below.refl g w) (Nat.le_of_lt hB)).cell (p := ⟨b, o + i, none⟩) hbg).trans hcell⟩
theorem keeps_putV {g : Nat} {w0 w : World} (hg : g < w0.heap.size) (h : Keeps g w0 w) {B a b c d : Nat} (hB : w0.heap.size ≤ B) : Keeps g w0 (putV w B a b c d) :=
  ⟨putV_below h.below (by omega), fun b hb hbg => (putV_other (by omega)).trans (h.kept b hb hbg)⟩
theorem Sp.one {p : Nat → Bool} {a b c d e f g h v : Nat} (hs : Sp p a b c d) (hp : Sp (among [v]) e f g h) : Sp (fun i => p i || i == v) (a ||| e) (b ||| f) (c ||| g) (d ||| h) :=
  (hs.or hp).congr fun k _ => by
    have : among [v] k = (k == v) := by rw [Bool.eq_iff_iff, beq_iff_eq]; simp [among]
    rw [this]
def Ends (g : Nat) (w : World) : Res → Ending → World → Prop
  | .ask v, e, w' => ∃ a b c d, e = asks4 a b c d ∧ Sp (among [v]) a b c d ∧ Keeps g w w'
  | .bad, e, w' => e = .returned (.tuple #[questV false nilV nilV nilV, .int .i64 7]) ∧ Keeps g w w'
  | .fin low high left, e, w' => ∃ B, e = .returned (.tuple #[questV true nilV (.slice (some ⟨B, 0, none⟩) 2 2) nilV, .int .i64 0]) ∧ w'.heap[B]? = some (.cells #[.int .i64 (low : Int), .int .i64 (high : Int)] 3 (0, 0)) ∧ w.heap.size ≤ B ∧ Keeps g w w' ∧ Box w' g 204 left

theorem verdict0 {w : World} {g : Nat} {z : Int} {l : List Int} (h : Box w g 204 l) :
    Calls Try.prog 80 #[.pointer (some ⟨g, 0, none⟩), .int .i64 0, .int .i64 z] w (Told g 0 w (ver (tries z) 3 l)) := verdictProg (v := 0) h (by decide)
theorem keeps_put {g : Nat} {w0 w : World} (hg : g < w0.heap.size) (h : Keeps g w0 w) {B : Nat} {d : Bool} {a l p : Value} (hB : w0.heap.size ≤ B) : Keeps g w0 (putQ w B d a l p) :=
  ⟨putQ_below h.below (by omega), fun b hb hbg => (putQ_other (by omega)).trans (h.kept b hb hbg)⟩
set_option maxHeartbeats 8000000 in
theorem throughProg {w : World} {g bn bt n : Nat} {z : Int} {l : List Int} (h : Box w g 204 l) (hn : w.cell? ⟨bn, 0, none⟩ = some (.int .i64 (n : Int))) (ht : w.cell? ⟨bt, 0, none⟩ = some (.int .i64 z)) (hbn : bn < g) (hbt : bt < g) (h2 : 2 ≤ n) (h256 : n ≤ 256) :
    Calls Try.prog 134 #[.pointer (some ⟨g, 0, none⟩), .pointer (some ⟨bn, 0, none⟩), .pointer (some ⟨bt, 0, none⟩)] w fun e w' => ∃ res, Bis (tries z) n l res ∧ Ends g w res e w' := by
  have hg := box_lt h
  have HX := hide h
  have HG := hide hg
  have HBN := hide hbn
  have HBT := hide hbt
  have HN := hide hn
  have HT := hide ht
  have H256 := hide h256
  have h2' := hide h2
  have hbns : bn < w.heap.size := by omega
  have hbts : bt < w.heap.size := by omega
  obtain ⟨N, hN⟩ : ∃ N : Nat, N = n - 1 := ⟨_, rfl⟩
  have wn : IntKind.i64.wrap ((n : Int) - 1) = (N : Int) := by rw [wrap_in (by omega) (by omega)]; omega
  have HN1 := hide hN
  have HN2 : Hid (N < 256) := hide (by omega)
  have HT1 := hide (tries_pos z).1
  clear h hg hbn hbt h256 hN
  go_enter Try.func134, Try.ntmps134
  go_wp2_with fail
  go_region
  have hB0 : Below w.heap.size w (w.alloc (boxQ false nilV nilV nilV)).drew := Below.drew ((Below.refl w.heap.size w).alloc (Nat.le_refl _) _)
  have HK0 := hide (keeps_new HG.out hB0)
  have HX0 := hide (box_kept HX.out hB0)
  have HR0 : Hid ((w.alloc (boxQ false nilV nilV nilV)).drew.heap[w.heap.size]? = some (boxQ false nilV nilV nilV)) := hide (new_block w _)
  have HRG : Hid (w.heap.size ≠ g) := hide (by have := HG.out; omega)
  clear hB0
  generalize (w.alloc (boxQ false nilV nilV nilV)).drew = W at *
  have c1 := keeps_cell HK0.out HBN.out HN.out
  have c2 := keeps_cell HK0.out HBT.out HT.out
  cases hv0 : ver (tries z) 3 l with
  | none =>
    have HV0 := hide hv0
    clear hv0
    go_wp2_with fail
    (with_reducible refine (verdict0 HX0.out).mono ?_)
    rintro e w1 ht1
    rw [HV0.out] at ht1
    obtain ⟨a, b, c, d, rfl, hp, hk⟩ := ht1
    unfold asks4
    have HP := hide hp
    have HK1 := hide (HK0.out.trans hk)
    clear hp hk
    go_wp2_with fail
    refine ⟨rfl, _, .ask0 HV0.out, ?_⟩
    exact ⟨a, b, c, d, rfl, HP.out, HK1.out⟩
  | some xr =>
    obtain ⟨x, r⟩ := xr
    have HV0 := hide hv0
    clear hv0
    by_cases ex : x = 1
    · subst ex
      cases hv1 : ver (tries z) 3 r with
      | none =>
        have HV1 := hide hv1
        clear hv1
        go_wp2_with fail
        (with_reducible refine (verdict0 HX0.out).mono ?_)
        rintro e w1 ht1
        rw [HV0.out] at ht1
        obtain ⟨rfl, hk, hx⟩ := ht1
        have d1 := keeps_cell hk HBN.out c1
        have d2 := keeps_cell hk HBT.out c2
        have HR1 := hide (keeps_block hk HRG.out HR0.out)
        have HK1 := hide (HK0.out.trans hk)
        have HX1 := hide hx
        clear c1 c2 hk hx
        have c1 := d1
        have c2 := d2
        clear d1 d2
        go_wp2_with fail
        (with_reducible refine (verdictProg HX1.out HN2.out).mono ?_)
        rintro e w2 ht2
        rw [HV1.out] at ht2
        obtain ⟨a, b, c, d, rfl, hp, hk⟩ := ht2
        unfold asks4
        have HP := hide hp
        have HK2 := hide (HK1.out.trans hk)
        clear hp hk
        go_wp2_with fail
        refine ⟨rfl, _, .ask1 HV0.out HV1.out, ?_⟩
        rw [← HN1.out]
        exact ⟨a, b, c, d, rfl, HP.out, HK2.out⟩
      | some ys =>
        obtain ⟨y, s⟩ := ys
        have HV1 := hide hv1
        clear hv1
        by_cases ey : y = 2
        · subst ey
          go_wp2_with fail
          (with_reducible refine (verdict0 HX0.out).mono ?_)
          rintro e w1 ht1
          rw [HV0.out] at ht1
          obtain ⟨rfl, hk, hx⟩ := ht1
          have d1 := keeps_cell hk HBN.out c1
          have d2 := keeps_cell hk HBT.out c2
          have HR1 := hide (keeps_block hk HRG.out HR0.out)
          have HK1 := hide (HK0.out.trans hk)
          have HX1 := hide hx
          clear c1 c2 hk hx
          have c1 := d1
          have c2 := d2
          clear d1 d2
          go_wp2_with fail
          (with_reducible refine (verdictProg HX1.out HN2.out).mono ?_)
          rintro e w2 ht2
          rw [HV1.out] at ht2
          obtain ⟨rfl, hk, hx⟩ := ht2
          have d1 := keeps_cell hk HBN.out c1
          have d2 := keeps_cell hk HBT.out c2
          have HR2 := hide (keeps_block hk HRG.out HR1.out)
          have HK2 := hide (HK1.out.trans hk)
          have HX2 := hide hx
          clear c1 c2 hk hx
          have c1 := d1
          have c2 := d2
          clear d1 d2
          go_wp2_with fail
          have hgU : g < w2.heap.size := Nat.lt_of_lt_of_le HG.out HK2.out.below.size
          have HRU : Hid (w.heap.size ≠ w2.heap.size) := hide (Nat.ne_of_lt (block_lt HR2.out))
          have HUG : Hid (w2.heap.size ≠ g) := hide (Nat.ne_of_gt hgU)
          have HWU : Hid (w.heap.size ≤ w2.heap.size) := hide HK2.out.below.size
          have hB3 : Below w2.heap.size w2 (w2.alloc (boxV 0 0 0 0)) := (Below.refl _ _).alloc (Nat.le_refl _) _
          have HK3 := hide (keeps_old HK2.out HG.out hB3)
          have HX3 := hide (box_kept HX2.out hB3)
          have HGO0 : Hid (∀ res, Goes (tries z) 0 N (fun _ => false) s res → Bis (tries z) n l res) := hide fun res hg => .goes HV0.out HV1.out (HN1.out ▸ hg)
          clear hB3 hgU
          go_loopw [6, 7] (fun s6 s7 wr => ∃ (lo hi : Nat) (p : Nat → Bool) (a b c d : Nat) (m : List Int), s6 = .int .i64 (lo : Int) ∧ s7 = .int .i64 (hi : Int) ∧ lo ≤ hi ∧ hi < 256 ∧ Hid (Sp p a b c d) ∧ Hid (∀ res, Goes (tries z) lo hi p m res → Bis (tries z) n l res) ∧ Keeps g w wr ∧ Box wr g 204 m ∧ wr.heap[w.heap.size]? = some (boxQ false nilV nilV nilV) ∧ wr.heap[w2.heap.size]? = some (boxV a b c d)) (fun _ _ wr => leftOf wr g)
          case atStart => exact ⟨0, N, fun _ => false, 0, 0, 0, 0, s, rfl, rfl, Nat.zero_le _, HN2.out, hide Sp.zero, HGO0, HK3.out, HX3.out, old_block HR2.out _, new_block w2 _⟩
          case round =>
            obtain ⟨lo, hi, p, a, b, c, d, m, rfl, rfl, hle, hhi, HS, HGO, hK, hX, hR, hU⟩ := hrel
            have HLE := hide hle
            have HHI := hide hhi
            have HK := hide hK
            have HXr := hide hX
            have HR := hide hR
            have HU := hide hU
            clear hle hhi hK hX hR hU c1 c2
            obtain ⟨q0, q1, q2, q3⟩ := box_cells HU.out
            have c2 := keeps_cell HK.out HBT.out HT.out
            go_wp2_with fail
            (with_reducible refine (nearestProg HS.out HLE.out HHI.out).mono ?_)
            rintro e wA ⟨he, hBA⟩
            have HKA := hide (keeps_old HK.out HG.out hBA)
            have HXA := hide (box_kept HXr.out hBA)
            have HRA := hide ((hBA.block _ (block_lt HR.out)).trans HR.out)
            have HUA := hide ((hBA.block _ (block_lt HU.out)).trans HU.out)
            clear q0 q1 q2 q3 c2 hBA
            have c2 := keeps_cell HKA.out HBT.out HT.out
            cases hn : near lo hi p with
            | none =>
              rw [hn] at he
              have HNE := hide hn
              clear hn
              obtain rfl := he
              obtain ⟨x0, x1, x2, x3⟩ := q_cells HRA.out
              have s0 := frozen_of HRA.out 0
              have s1 := frozen_of HRA.out 1
              have s2 := frozen_of HRA.out 2
              have s3 := frozen_of HRA.out 3
              have hbR := block_lt HRA.out
              go_wp2_with fail
              refine final8 (X := (putQ wA w.heap.size true nilV (.slice (some ⟨wA.heap.size, 0, none⟩) 2 2) nilV).alloc (.cells #[.int .i64 (lo : Int), .int .i64 (hi : Int)] 3)) rfl ?_
              have HP := hide (putQ_block (e := true) (b := nilV) (l := .slice (some ⟨wA.heap.size, 0, none⟩) 2 2) (q := nilV) HRA.out)
              have HQ := hide (keeps_put HG.out HKA.out (d := true) (a := nilV) (l := .slice (some ⟨wA.heap.size, 0, none⟩) 2 2) (p := nilV) (Nat.le_refl _))
              have HXQ := hide (box_put HXA.out HG.out (d := true) (a := nilV) (k := .slice (some ⟨wA.heap.size, 0, none⟩) 2 2) (p := nilV))
              have HZ : Hid ((putQ wA w.heap.size true nilV (.slice (some ⟨wA.heap.size, 0, none⟩) 2 2) nilV).heap.size = wA.heap.size) := hide putQ_size
              have hws : w.heap.size ≤ wA.heap.size := HKA.out.below.size
              generalize putQ wA w.heap.size true nilV (.slice (some ⟨wA.heap.size, 0, none⟩) 2 2) nilV = X at *
              have hB := (Below.refl X.heap.size X).alloc (Nat.le_refl _) (.cells #[.int .i64 (lo : Int), .int .i64 (hi : Int)] 3)
              obtain ⟨y0, y1, y2, y3⟩ := q_cells (old_block HP.out (.cells #[.int .i64 (lo : Int), .int .i64 (hi : Int)] 3))
              have HKX := hide (keeps_old HQ.out HG.out hB)
              have HXX := hide (box_kept HXQ.out hB)
              have HLH : Hid ((X.alloc (.cells #[.int .i64 (lo : Int), .int .i64 (hi : Int)] 3)).heap[wA.heap.size]? = some (.cells #[.int .i64 (lo : Int), .int .i64 (hi : Int)] 3 (0, 0))) := hide (alloc_at HZ.out)
              clear hB
              generalize X.alloc (.cells #[.int .i64 (lo : Int), .int .i64 (hi : Int)] 3) = Y at *
              refine bodyPost_ret (v := .tuple #[questV true nilV (.slice (some ⟨wA.heap.size, 0, none⟩) 2 2) nilV, .int .i64 0]) (by simp [results, Try.results134, go_sem, y0, y1, y2, y3]) rfl ?_
              exact ⟨_, HGO.out _ (.fin HNE.out), wA.heap.size, rfl, HLH.out, hws, HKX.out, HXX.out⟩
            | some v =>
              rw [hn] at he
              have HNE := hide hn
              clear hn
              obtain rfl := he
              have HV : Hid (v < 256) := hide (by have := near_in HNE.out; have := HHI.out; omega)
              go_wp2_with fail
              (with_reducible refine (verdictProg HXA.out HV.out).mono ?_)
              rintro e wB ht
              cases hv : ver (tries z) 3 m with
              | none =>
                rw [hv] at ht
                have HVM := hide hv
                clear hv
                obtain ⟨a', b', c', d', rfl, hp, hk⟩ := ht
                unfold asks4
                have HP := hide hp
                have HKB := hide (HKA.out.trans hk)
                clear hp hk
                go_wp2_with fail
                refine ⟨rfl, _, HGO.out _ (.ask HNE.out HVM.out), ?_⟩
                exact ⟨a', b', c', d', rfl, HP.out, HKB.out⟩
              | some xr =>
                obtain ⟨x, rr⟩ := xr
                rw [hv] at ht
                have HVM := hide hv
                clear hv
                obtain ⟨rfl, hk, hx⟩ := ht
                have HRB := hide (keeps_block hk HRG.out HRA.out)
                have HUB := hide (keeps_block hk HUG.out HUA.out)
                have HKB := hide (HKA.out.trans hk)
                have HXB := hide hx
                clear hk hx c2
                rcases ver_value HVM.out with rfl | rfl | rfl
                · go_wp2_with fail
                  refine ⟨⟨v, hi, p, a, b, c, d, rr, rfl, rfl, by have := near_in HNE.out; omega, HHI.out, HS, hide fun res hg => HGO.out res (.pass HNE.out HVM.out hg), HKB.out, HXB.out, HRB.out, HUB.out⟩, ?_⟩
                  rw [left_box HXB.out, left_box HXr.out]
                  exact ver_less HT1.out HVM.out
                · go_wp2_with fail
                  refine ⟨⟨lo, v, p, a, b, c, d, rr, rfl, rfl, by have := near_in HNE.out; omega, HV.out, HS, hide fun res hg => HGO.out res (.fail HNE.out HVM.out hg), HKB.out, HXB.out, HRB.out, HUB.out⟩, ?_⟩
                  rw [left_box HXB.out, left_box HXr.out]
                  exact ver_less HT1.out HVM.out
                · obtain ⟨q0, q1, q2, q3⟩ := box_cells HUB.out
                  have hbU := block_lt HUB.out
                  go_wp2_with fail
                  go_region_with (first
                    | (go_at_call 77
                       (with_reducible refine (setOfProg (xs := [v]) (nats_one (B := wB.heap.size) (v := v) (by simp)) (by intro k hk; rw [List.mem_singleton] at hk; rw [hk]; exact HV.out)).mono ?_)
                       rintro e wC ⟨e0, f0, g0, h0, rfl, hp, hBC⟩
                       have HP := hide hp
                       have HBC := hide ((Below.drew ((Below.refl wB.heap.size wB).alloc (Nat.le_refl _) (.cells #[.int .i64 (v : Int)] 3))).trans (hBC.mono (by simp)))
                       have HUC := hide ((HBC.out.block _ hbU).trans HUB.out)
                       clear q0 q1 q2 q3 hp hBC
                       obtain ⟨q0, q1, q2, q3⟩ := box_cells HUC.out
                       have hbC := block_lt HUC.out)
                    | (go_at_call 81
                       (with_reducible refine (withSet HS.out HP.out).mono ?_)
                       rintro e wD ⟨rfl, hBD⟩
                       have HBD := hide (HBC.out.trans (hBD.mono HBC.out.size))
                       have HUD := hide ((HBD.out.block _ hbU).trans HUB.out)
                       clear q0 q1 q2 q3 hBD
                       obtain ⟨q0, q1, q2, q3⟩ := box_cells HUD.out
                       have r0 := frozen_of HUD.out 0
                       have r1 := frozen_of HUD.out 1
                       have r2 := frozen_of HUD.out 2
                       have r3 := frozen_of HUD.out 3)
                    | fail)
                  all_goals
                    go_wp2_with fail
                    have HKD := hide (keeps_putV HG.out (keeps_old HKB.out HG.out HBD.out) HWU.out (a := a ||| e0) (b := b ||| f0) (c := c ||| g0) (d := d ||| h0))
                    have HXD := hide (box_putV (box_kept HXB.out HBD.out) (Nat.lt_of_lt_of_le HG.out HWU.out) (a := a ||| e0) (b := b ||| f0) (c := c ||| g0) (d := d ||| h0))
                    have HRD := hide ((putV_other (a := a ||| e0) (b := b ||| f0) (c := c ||| g0) (d := d ||| h0) HRU.out).trans ((HBD.out.block _ (block_lt HRB.out)).trans HRB.out))
                    have HUX := hide (putV_block (e := a ||| e0) (f := b ||| f0) (g := c ||| g0) (h := d ||| h0) HUD.out)
                    have hm := left_box HXD.out
                    refine ⟨⟨lo, hi, fun i => p i || i == v, a ||| e0, b ||| f0, c ||| g0, d ||| h0, rr, rfl, rfl, HLE.out, HHI.out, hide (HS.out.one HP.out), hide fun res hg => HGO.out res (.skip HNE.out HVM.out hg), HKD.out, HXD.out, HRD.out, HUX.out⟩, ?_⟩
                    exact Nat.lt_of_le_of_lt (Nat.le_of_eq hm) (by rw [left_box HXr.out]; exact ver_less HT1.out HVM.out)
        · have ey0 : (y == (2 : Int)) = false := beq_false_of_ne ey
          have EY := hide ey
          clear ey
          go_wp2_with fail
          (with_reducible refine (verdict0 HX0.out).mono ?_)
          rintro e w1 ht1
          rw [HV0.out] at ht1
          obtain ⟨rfl, hk, hx⟩ := ht1
          have d1 := keeps_cell hk HBN.out c1
          have d2 := keeps_cell hk HBT.out c2
          have HR1 := hide (keeps_block hk HRG.out HR0.out)
          have HK1 := hide (HK0.out.trans hk)
          have HX1 := hide hx
          clear c1 c2 hk hx
          have c1 := d1
          have c2 := d2
          clear d1 d2
          go_wp2_with fail
          (with_reducible refine (verdictProg HX1.out HN2.out).mono ?_)
          rintro e w2 ht2
          rw [HV1.out] at ht2
          obtain ⟨rfl, hk, hx⟩ := ht2
          have d1 := keeps_cell hk HBN.out c1
          have d2 := keeps_cell hk HBT.out c2
          have HR2 := hide (keeps_block hk HRG.out HR1.out)
          have HK2 := hide (HK1.out.trans hk)
          have HX2 := hide hx
          clear c1 c2 hk hx
          have c1 := d1
          have c2 := d2
          clear d1 d2
          have s0 := frozen_of HR2.out 0
          have s1 := frozen_of HR2.out 1
          have s2 := frozen_of HR2.out 2
          have s3 := frozen_of HR2.out 3
          obtain ⟨q0, q1, q2, q3⟩ := q_cells HR2.out
          go_wp2_with fail
          refine final8 (X := putQ w2 w.heap.size false nilV nilV nilV) rfl ?_
          have HP := hide (putQ_block (e := false) (b := nilV) (l := nilV) (q := nilV) HR2.out)
          have HQ := hide (keeps_put HG.out HK2.out (d := false) (a := nilV) (l := nilV) (p := nilV) (Nat.le_refl _))
          generalize putQ w2 w.heap.size false nilV nilV nilV = X at *
          obtain ⟨x0, x1, x2, x3⟩ := q_cells HP.out
          refine bodyPost_ret (v := .tuple #[questV false nilV nilV nilV, .int .i64 7]) (by simp [results, Try.results134, go_sem, x0, x1, x2, x3]) rfl ?_
          exact ⟨_, .bad1 HV0.out HV1.out EY.out, rfl, HQ.out⟩
    · have ex0 : (x == (1 : Int)) = false := beq_false_of_ne ex
      have EX := hide ex
      clear ex
      go_wp2_with fail
      (with_reducible refine (verdict0 HX0.out).mono ?_)
      rintro e w1 ht1
      rw [HV0.out] at ht1
      obtain ⟨rfl, hk, hx⟩ := ht1
      have d1 := keeps_cell hk HBN.out c1
      have d2 := keeps_cell hk HBT.out c2
      have HR1 := hide (keeps_block hk HRG.out HR0.out)
      have HK1 := hide (HK0.out.trans hk)
      have HX1 := hide hx
      clear c1 c2 hk hx
      have c1 := d1
      have c2 := d2
      clear d1 d2
      have s0 := frozen_of HR1.out 0
      have s1 := frozen_of HR1.out 1
      have s2 := frozen_of HR1.out 2
      have s3 := frozen_of HR1.out 3
      obtain ⟨q0, q1, q2, q3⟩ := q_cells HR1.out
      go_wp2_with fail
      refine final8 (X := putQ w1 w.heap.size false nilV nilV nilV) rfl ?_
      have HP := hide (putQ_block (e := false) (b := nilV) (l := nilV) (q := nilV) HR1.out)
      have HQ := hide (keeps_put HG.out HK1.out (d := false) (a := nilV) (l := nilV) (p := nilV) (Nat.le_refl _))
      generalize putQ w1 w.heap.size false nilV nilV nilV = X at *
      obtain ⟨x0, x1, x2, x3⟩ := q_cells HP.out
      refine bodyPost_ret (v := .tuple #[questV false nilV nilV nilV, .int .i64 7]) (by simp [results, Try.results134, go_sem, x0, x1, x2, x3]) rfl ?_
      exact ⟨_, .bad0 HV0.out EX.out, rfl, HQ.out⟩
end Go.Proofs.Ytmkapmbmgpnjaaa.Bi

set_option maxRecDepth 100000
set_option linter.unusedSimpArgs false
set_option linter.unusedVariables false
namespace Go.Proofs.Ytmkapmbmgpnjaaa.Bi
open Go Go.Ms Go.Pg Go.Bi Go.ChangeShapes Go.WideShapes Go.ChangeAt Go.RowKit Go.Deep

theorem EI : Go.Il.IntElem Try.prog 30 3 .i64 8 := Go.Il.IntElem.mk Try.underlying30 (by kernel_rfl)
theorem own_same {w w' : World} {B : Nat} {e : TypeId} {size : Nat} {v : Value} {n : Nat} {xs : List Value} (h : w.ownsRow B e size v n xs) (k : ∀ (g : Nat) cs, B ≤ g → w.heap[g]? = some (Obj.cells cs e (0, 0)) → w'.heap[g]? = w.heap[g]?) : w'.ownsRow B e size v n xs := by
  refine ⟨h.1, ?_⟩
  rcases h.2 with h2 | ⟨g, cap, cur, rfl, hb, hh, r⟩
  · exact .inl h2
  · exact .inr ⟨g, cap, cur, rfl, hb, (k g _ hb hh).trans hh, r⟩
theorem own_kept1 {w w' : World} {B : Nat} {v : Value} {l : List Int} (h : Go.Il.Own 3 .i64 B w v l) (hb : Below w.heap.size w w') : Go.Il.Own 3 .i64 B w' v l := own_same h fun g _ _ hh => hb.block g (block_lt hh)

theorem own_mono {w : World} {B B' : Nat} {v : Value} {l : List Int} (hB : B' ≤ B) (h : Go.Il.Own 3 .i64 B w v l) : Go.Il.Own 3 .i64 B' w v l := by
  refine ⟨h.1, ?_⟩
  rcases h.2 with h2 | ⟨g, cap, cur, hv, hb, hh, r⟩
  · exact .inl h2
  · exact .inr ⟨g, cap, cur, hv, Nat.le_trans hB hb, hh, r⟩
theorem own_putQ {w : World} {B C : Nat} {v : Value} {l : List Int} {d e : Bool} {a k p a' l' p' : Value} (h : Go.Il.Own 3 .i64 B w v l) (hq : w.heap[C]? = some (boxQ e a' l' p')) : Go.Il.Own 3 .i64 B (putQ w C d a k p) v l :=
  own_same h fun g cs _ hh => putQ_other (fun e => by subst e; rw [hq] at hh; injection hh with hh; injection hh with _ ht; cases ht)

def upTo (p : Nat → Bool) (k : Nat) : List Int := ((List.range k).filter p).map Int.ofNat
theorem upTo_succ (p : Nat → Bool) (k : Nat) : upTo p (k + 1) = upTo p k ++ if p k = true then [(k : Int)] else [] := by
  unfold upTo
  rw [List.range_succ, List.filter_append, List.map_append]
  by_cases h : p k = true <;> simp [h]
theorem upTo_length (p : Nat → Bool) (k : Nat) : (upTo p k).length ≤ k := by
  unfold upTo
  rw [List.length_map]
  have := List.length_filter_le p (List.range k)
  simpa using this
theorem upTo_one {v : Nat} : ∀ k, upTo (among [v]) k = if v < k then [(v : Int)] else []
  | 0 => rfl
  | k + 1 => by
    rw [upTo_succ, upTo_one k]
    by_cases h : v = k
    · subst h; simp [among]
    · have hk : among [v] k = false := by simp [among]; omega
      rw [hk]
      by_cases h2 : v < k
      · simp [h2, Nat.lt_succ_of_lt h2]
      · have : ¬ v < k + 1 := by omega
        simp [h2, this]

set_option maxHeartbeats 8000000 in
theorem listProg {w : World} {p : Nat → Bool} {a b c d : Nat} (hs : Sp p a b c d) : Calls Try.prog 79 #[setV a b c d] w fun e w' => ∃ v', e = .returned v' ∧ Below w.heap.size w w' ∧ Go.Il.Own 3 .i64 w.heap.size w' v' (upTo p 256) := by
  have HX := hide hs
  clear hs
  go_enter Try.func79, Try.ntmps79
  go_wp2_with fail
  go_loopw [3, 5] (fun r i wr => ∃ k : Nat, k ≤ 256 ∧ i = .int .i64 (k : Int) ∧ Below w.heap.size w wr ∧ wr.heap[w.heap.size]? = some (boxV a b c d) ∧ Go.Il.Own 3 .i64 w.heap.size wr r (upTo p k)) (fun _ i _ => 256 - (intOf i).toNat)
  case atStart => exact ⟨0, Nat.zero_le _, rfl, (Below.refl _ w).alloc (Nat.le_refl _) _, new_block w _, Go.Il.Own.nil _ _ _ _⟩
  case round =>
    obtain ⟨k, hk, rfl, hB, hb0, hO⟩ := hrel
    have HB := hide hB
    have H0 := hide hb0
    have HO := hide hO
    clear hB hb0 hO
    obtain ⟨q1, q2, q3, q4⟩ := box_cells H0.out
    have hz : w.heap.size ≤ wr.heap.size := HB.out.size
    have hbl : w.heap.size < wr.heap.size := block_lt H0.out
    by_cases hlt : k < 256
    · have hi : (k : Int) < 256 := by omega
      have hi2 : decide (k < 256) = true := decide_eq_true hlt
      have hw : IntKind.i64.wrap ((k : Int) + 1) = (k : Int) + 1 := wrap_in (by omega) (by omega)
      have HT := hide (upTo_succ p k)
      have hul := upTo_length p k
      cases hb : p k with
      | true =>
        rw [hb, if_pos rfl] at HT
        have HBT := hide hb
        clear hb
        go_wp2_with (first
          | (go_at_call 73
             (with_reducible refine (hasSet HX.out hlt).mono ?_)
             rintro e w1 ⟨he, hB1⟩
             rw [HBT.out] at he
             subst he
             have HB1 := hide hB1
             have HO1 := hide (own_kept1 HO.out hB1)
             have hz1 : w.heap.size ≤ w1.heap.size := Nat.le_trans hz hB1.size
             have H01 := hide ((hB1.block _ hbl).trans H0.out)
             clear hB1)
          | (at_builtin
             (refine Go.Il.wpl_push EI (by decide) rfl (.tmp 11) (.tmp 13) rfl HO1.out _ _ [(k : Int)] _ _ rfl rfl rfl rfl rfl hz1 (by simp; omega) ?_
              intro v2 w2 ho2 hs2
              have HO2 := hide ho2
              have HS2 := hide hs2
              clear ho2 hs2))
          | fail)
        refine ⟨⟨k + 1, by omega, by go_num, HB.out.trans ((HB1.out.mono hz).trans HS2.out.below), Go.Il.Stp.block HS2.out H01.out (by decide), ?_⟩, by simp [intOf]; omega⟩
        rw [HT.out]
        exact HO2.out
      | false =>
        rw [hb] at HT
        simp only [Bool.false_eq_true, if_false, List.append_nil] at HT
        have HBT := hide hb
        clear hb
        go_wp2_with (first
          | (go_at_call 73
             (with_reducible refine (hasSet HX.out hlt).mono ?_)
             rintro e w1 ⟨he, hB1⟩
             rw [HBT.out] at he
             subst he
             have HB1 := hide hB1
             have HO1 := hide (own_kept1 HO.out hB1)
             have H01 := hide ((hB1.block _ hbl).trans H0.out)
             clear hB1)
          | fail)
        refine ⟨⟨k + 1, by omega, by go_num, HB.out.trans (HB1.out.mono hz), H01.out, ?_⟩, by simp [intOf]; omega⟩
        rw [HT.out]
        exact HO1.out
    · obtain rfl : k = 256 := by omega
      go_wp2_with fail
      go_ret
      exact ⟨_, rfl, HB.out, HO.out⟩

set_option maxHeartbeats 8000000 in
theorem askProg {w : World} {p : Nat → Bool} {a b c d : Nat} (hs : Sp p a b c d) : Calls Try.prog 138 #[setV a b c d] w fun e w' => ∃ v', e = .returned (questV false v' nilV nilV) ∧ Below w.heap.size w w' ∧ Go.Il.Own 3 .i64 w.heap.size w' v' (upTo p 256) := by
  have HX := hide hs
  clear hs
  go_enter Try.func138, Try.ntmps138
  go_wp2_with fail
  (with_reducible refine (listProg HX.out).mono ?_)
  rintro e w1 ⟨v', rfl, hB1, hO⟩
  have hBw := (((Below.refl w.heap.size w).alloc (Nat.le_refl _) (boxV a b c d)).alloc (by simp) (boxQ false nilV nilV nilV)).trans (hB1.mono (by simp; omega))
  have HB := hide hBw
  have H1 : Hid (w1.heap[w.heap.size + 1]? = some (boxQ false nilV nilV nilV)) := hide ((hB1.block _ (by simp)).trans (alloc_at (by simp)))
  have HO := hide (own_mono (B' := w.heap.size) (by simp; omega) hO)
  clear hB1 hO hBw
  obtain ⟨oa, cap, hv⟩ := Go.Il.Own.form HO.out
  obtain ⟨L, hL⟩ : ∃ L, L = (upTo p 256).length := ⟨_, rfl⟩
  rw [← hL] at hv
  subst hv
  clear hL
  obtain ⟨q0, q1, q2, q3⟩ := q_cells H1.out
  have s0 := frozen_of H1.out 0
  have s1 := frozen_of H1.out 1
  have s2 := frozen_of H1.out 2
  have s3 := frozen_of H1.out 3
  go_wp2_with fail
  refine final8 (X := putQ w1 (w.heap.size + 1) false (.slice oa L cap) nilV nilV) rfl ?_
  have HP := hide (putQ_block (e := false) (b := .slice oa L cap) (l := nilV) (q := nilV) H1.out)
  have HQ := hide (putQ_below (d := false) (a := .slice oa L cap) (l := nilV) (p := nilV) HB.out (B := w.heap.size + 1) (by omega))
  have HOX := hide (own_putQ (d := false) (a := .slice oa L cap) (k := nilV) (p := nilV) HO.out H1.out)
  generalize putQ w1 (w.heap.size + 1) false (.slice oa L cap) nilV nilV = X at *
  obtain ⟨x0, x1, x2, x3⟩ := q_cells HP.out
  refine bodyPost_ret (v := questV false (.slice oa L cap) nilV nilV) (by simp [results, Try.results138, go_sem, x0, x1, x2, x3]) rfl ?_
  exact ⟨_, rfl, HQ.out, HOX.out⟩
end Go.Proofs.Ytmkapmbmgpnjaaa.Bi

set_option maxRecDepth 100000
set_option linter.unusedSimpArgs false
set_option linter.unusedVariables false
namespace Go.Proofs.Ytmkapmbmgpnjaaa.Bi
open Go Go.Ms Go.Pg Go.Bi Go.ChangeShapes Go.WideShapes Go.ChangeAt Go.RowKit Go.Deep

theorem assertNo (w : World) : (Instr.typeAssert .nilIface 20 201 true).run Try.prog w = .ok (.tuple #[.agg #[.int .u64 0, .int .u64 0, .int .u64 0, .int .u64 0], .bool false]) w := by
  simp [Instr.typeAssert, run_underlying Try.underlying201, go_sem, Result.andThen]
theorem assertIs (v : Value) (w : World) : (Instr.typeAssert (.iface 201 v) 20 201 true).run Try.prog w = .ok (.tuple #[v, .bool true]) w := by
  simp [Instr.typeAssert, run_underlying Try.underlying201, go_sem, Result.andThen]

section
variable {P : Program} {ops : Array Oper} {Q : Exit → Act → List Frame → World → Prop} {i : Nat} {rest : List Nat} {o : Oper} {a : Act} {cs : List Frame} {w w' : World} {v : Value}
theorem stepS_value (ho : ops[i]? = some o) (hw : Region.wanted o (yielded ops a.tmps) = true) (hr : (execOp a.eval o).run P w = .ok (.value v) w') (k : wpOpsS P ops Q rest (a.put o.dst v) cs w') : wpOpsS P ops Q (i :: rest) a cs w := by
  simp only [wpOpsS, ho, hw, hr, if_true]
  exact k
theorem stepS_skip (ho : ops[i]? = some o) (hw : Region.wanted o (yielded ops a.tmps) = true) (hr : (execOp a.eval o).run P w = .ok .skip w') (k : wpOpsS P ops Q rest (a.put o.dst undef) cs w') : wpOpsS P ops Q (i :: rest) a cs w := by
  simp only [wpOpsS, ho, hw, hr, if_true]
  exact k
theorem stepS_none (ho : ops[i]? = some o) (hw : Region.wanted o (yielded ops a.tmps) = true) (hr : (execOp a.eval o).run P w = .ok .recover w') (hn : recoverD cs = none) (k : wpOpsS P ops Q rest (a.put o.dst .nilIface) cs w') : wpOpsS P ops Q (i :: rest) a cs w := by
  simp only [wpOpsS, ho, hw, hr, if_true, hn]
  exact k
theorem stepS_some {cs' : List Frame} (ho : ops[i]? = some o) (hw : Region.wanted o (yielded ops a.tmps) = true) (hr : (execOp a.eval o).run P w = .ok .recover w') (hn : recoverD cs = some (v, cs')) (k : wpOpsS P ops Q rest (a.put o.dst v) cs' w') : wpOpsS P ops Q (i :: rest) a cs w := by
  simp only [wpOpsS, ho, hw, hr, if_true, hn]
  exact k
end
theorem cell_lt {w : World} {b o : Nat} {v : Value} (hc : w.cell? ⟨b, o, none⟩ = some v) : b < w.heap.size := by
  by_cases q : b < w.heap.size
  · exact q
  · simp [World.cell?, Array.getElem?_eq_none (Nat.le_of_not_lt q)] at hc
set_option maxHeartbeats 400000 in
theorem catchIdle {w : World} {pa pq pe : Nat} :
    CallsD Try.prog 160 #[.pointer (some ⟨pa, 0, none⟩), .pointer (some ⟨pq, 0, none⟩), .pointer (some ⟨pe, 0, none⟩)] .returning w fun e u' w' => e = .returned (.tuple #[]) ∧ u' = .returning ∧ Below w.heap.size w w' := by
  refine callsD_of_wpS Try.func160 rfl fun c₀ cs hu => ?_
  apply wpS_seq
  apply wpS_region
  generalize hQ : (Exit.thenS _ _ : Exit → Act → List Frame → World → Prop) = Q
  simp [wpOpsS, go_sem, recoverD, hu, Try.ntmps160, assertNo]
  rw [← hQ]
  clear hQ
  show Code.wpS _ _ _ _ _ _
  apply wpS_seq
  apply wpS_region
  generalize hQ : (Exit.thenS _ _ : Exit → Act → List Frame → World → Prop) = Q
  simp [wpOpsS, go_sem, Array.replicate]
  rw [← hQ]
  clear hQ
  show Code.wpS _ _ _ _ _ _
  refine wpS_cond (t := false) (by simp [Act.eval, Array.replicate]) ?_
  simp only [Bool.false_eq_true, if_false]
  refine wpS_of_wp (wp_skip ?_)
  cases c₀
  simp_all [bodyPostS, results, Try.results160, go_sem]
  exact (Below.refl w.heap.size w).alloc (Nat.le_refl _) _

set_option maxHeartbeats 4000000 in
theorem catchAsk {w : World} {pa pq pe a b c d : Nat} {p : Nat → Bool} {older : List PanicEntry} {e0 : Value} (hs : Sp p a b c d)
    (ha : w.cell? ⟨pa, 0, none⟩ = some (.func (.func 138) #[] #[])) (hq : w.heap[pq]? = some (boxQ false nilV nilV nilV)) (he : w.heap[pe]? = some (.cells #[e0] 27 (0, 0))) (hpp : pq ≤ pe) :
    CallsD Try.prog 160 #[.pointer (some ⟨pa, 0, none⟩), .pointer (some ⟨pq, 0, none⟩), .pointer (some ⟨pe, 0, none⟩)] (.panicking ({ v := .iface 201 (setV a b c d), recovered := false } :: older)) w fun e u' w' =>
      e = .returned (.tuple #[]) ∧ u' = .panicking ({ v := .iface 201 (setV a b c d), recovered := true } :: older) ∧ Below pq w w' ∧
      ∃ v', w'.heap[pq]? = some (boxQ false v' nilV nilV) ∧ w'.heap[pe]? = some (.cells #[.int .i64 0] 27 (0, 0)) ∧ Go.Il.Own 3 .i64 w.heap.size w' v' (upTo p 256) := by
  refine callsD_of_wpS Try.func160 rfl fun c₀ cs hu => ?_
  apply wpS_seq
  apply wpS_region
  generalize hQ : (Exit.thenS _ _ : Exit → Act → List Frame → World → Prop) = Q
  simp [wpOpsS, go_sem, recoverD, hu, Try.ntmps160, assertIs]
  rw [← hQ]
  clear hQ
  show Code.wpS _ _ _ _ _ _
  apply wpS_seq
  apply wpS_region
  generalize hQ : (Exit.thenS _ _ : Exit → Act → List Frame → World → Prop) = Q
  simp [wpOpsS, go_sem, Array.replicate]
  rw [← hQ]
  clear hQ
  show Code.wpS _ _ _ _ _ _
  refine wpS_cond (t := true) (by simp [Act.eval, Array.replicate]) ?_
  simp only [if_true]
  refine wpS_of_wp ?_
  clear Q
  have hpa := cell_lt ha
  have hpq := block_lt hq
  have hpe := block_lt he
  have HS := hide hs
  have HQ0 := hide hq
  have HE0 := hide he
  have HU := hide hu
  clear hs hq he hu
  go_wp2_with fail
  (with_reducible refine (askProg HS.out).mono ?_)
  rintro e w1 ⟨v', rfl, hB1, hO⟩
  have HB := hide (((Below.refl w.heap.size w).alloc (Nat.le_refl _) (.cells #[.int .u64 (a : Int), .int .u64 (b : Int), .int .u64 (c : Int), .int .u64 (d : Int)] 201)).trans (hB1.mono (by simp)))
  have HO := hide (own_mono (B' := w.heap.size) (by simp) hO)
  clear hB1 hO
  have HQ1 := hide ((HB.out.block _ hpq).trans HQ0.out)
  have HE1 := hide ((HB.out.block _ hpe).trans HE0.out)
  clear ha
  obtain ⟨q0, q1, q2, q3⟩ := q_cells HQ1.out
  have s0 := frozen_of HQ1.out 0
  have s1 := frozen_of HQ1.out 1
  have s2 := frozen_of HQ1.out 2
  have s3 := frozen_of HQ1.out 3
  have z0 : w1.cell? ⟨pe, 0, none⟩ = some e0 := cell_of HE1.out 0
  have z1 := frozen_of HE1.out 0
  have hne : ¬ pe = pq := by
    rintro rfl
    have := HE0.out.symm.trans HQ0.out
    injection this with this
    injection this with _ ht
    cases ht
  have hne' : ¬ pq = pe := fun e => hne e.symm
  obtain ⟨oa, cap, hv⟩ := Go.Il.Own.form HO.out
  obtain ⟨L, hL⟩ : ∃ L, L = (upTo p 256).length := ⟨_, rfl⟩
  rw [← hL] at hv
  subst hv
  clear hL
  go_wp2_with fail
  have HX := hide (putQ_block (e := false) (b := .slice oa L cap) (l := nilV) (q := nilV) HQ1.out)
  have HP := hide (((putQ_other (d := false) (a := .slice oa L cap) (l := nilV) (p := nilV) hne).trans HE1.out))
  have HOX := hide (own_putQ (d := false) (a := .slice oa L cap) (k := nilV) (p := nilV) HO.out HQ1.out)
  have HBX := hide (putQ_below (d := false) (a := .slice oa L cap) (l := nilV) (p := nilV) (HB.out.mono (Nat.le_of_lt hpq)) (Nat.le_refl pq))
  refine ⟨rfl, _, rfl, .tuple #[], by simp [results, Try.results160, go_sem], rfl, rfl, ?_, .slice oa L cap, ?_, ?_, ?_⟩
  · exact HBX.out.setCell (p := ⟨pe, 0, none⟩) hpp _
  · exact (Below.heap_setCell _ ⟨pe, 0, none⟩ _ pq hne').trans HX.out
  · exact (heap_setCell_same _ pe 0 _ 27 (.int .i64 0) HP.out).trans (by simp)
  · exact own_same HOX.out fun g cs _ hh => Below.heap_setCell _ ⟨pe, 0, none⟩ _ g (fun e => by subst e; rw [HP.out] at hh; injection hh with hh; injection hh with _ ht; cases ht)
end Go.Proofs.Ytmkapmbmgpnjaaa.Bi

set_option maxRecDepth 100000
set_option linter.unusedSimpArgs false
set_option linter.unusedVariables false
namespace Go.Proofs.Ytmkapmbmgpnjaaa.Bi
open Go Go.Ms Go.Pg Go.Bi Go.ChangeShapes Go.WideShapes Go.ChangeAt Go.RowKit Go.Deep

def Out (B : Nat) (w' : World) (l : List Int) : Res → Ending → Prop
  | .ask v, e => ∃ s, e = .returned (.tuple #[questV false s nilV nilV, .int .i64 0]) ∧ Go.Il.Own 3 .i64 B w' s (upTo (among [v]) 256)
  | .bad, e => e = .returned (.tuple #[questV false nilV nilV nilV, .int .i64 7])
  | .fin low high left, e => if left = [] then ∃ b, e = .returned (.tuple #[questV true nilV (.slice (some ⟨b, 0, none⟩) 2 2) nilV, .int .i64 0]) ∧ w'.heap[b]? = some (.cells #[.int .i64 (low : Int), .int .i64 (high : Int)] 3 (0, 0)) ∧ B ≤ b
      else e = .returned (.tuple #[questV false nilV nilV nilV, .int .i64 8])

theorem vs_wide {w w' : World} {g : Nat} {v : Value} {l : List Int} (h : Vs w w.heap.size v l) (hB : Below w.heap.size w w') (hg : w.heap.size ≤ g) : Vs w' g v l := by
  obtain ⟨oa, cap, rfl, hc, hl, q⟩ := h
  refine ⟨oa, cap, rfl, hc, hl, fun i hi => ?_⟩
  obtain ⟨b, o, e, hb, hx⟩ := q i hi
  exact ⟨b, o, e, by omega, (hB.cell (p := ⟨b, o + i, none⟩) hb).trans hx⟩

theorem six (w : World) (o0 o1 o2 o3 o4 o5 : Obj) :
    let W := (((((w.alloc o0).alloc o1).alloc o2).alloc o3).alloc o4).alloc o5
    W.heap[w.heap.size]? = some o0 ∧ W.heap[w.heap.size + 1]? = some o1 ∧ W.heap[w.heap.size + 1 + 1]? = some o2 ∧ W.heap[w.heap.size + 1 + 1 + 1]? = some o3 ∧ W.heap[w.heap.size + 1 + 1 + 1 + 1 + 1]? = some o5 ∧ Below w.heap.size w W ∧ W.heap.size = w.heap.size + 6 := by
  refine ⟨?_, ?_, ?_, ?_, ?_, ?_, ?_⟩
  · exact old_block (old_block (old_block (old_block (old_block (new_block w _) _) _) _) _) _
  · exact old_block (old_block (old_block (old_block (alloc_at (by simp)) _) _) _) _
  · exact old_block (old_block (old_block (alloc_at (by simp)) _) _) _
  · exact old_block (old_block (alloc_at (by simp)) _) _
  · exact alloc_at (by simp)
  · exact ((((((Below.refl w.heap.size w).alloc (Nat.le_refl _) _).alloc (by simp) _).alloc (by simp; omega) _).alloc (by simp; omega) _).alloc (by simp; omega) _).alloc (by simp; omega) _
  · simp

theorem putQE {w0 w : World} {S : Nat} {d d' : Bool} {a k p a' k' p' e0 e : Value} {on : Obj} (hq : w.heap[S + 1]? = some (boxQ d' a' k' p')) (he : w.heap[S + 1 + 1]? = some (.cells #[e0] 27 (0, 0))) (hn : w.heap[S + 1 + 1 + 1]? = some on) (hB : Below S w0 w) :
    let X := (putQ w (S + 1) d a k p).setCell ⟨S + 1 + 1, 0, none⟩ e
    X.heap[S + 1]? = some (boxQ d a k p) ∧ X.heap[S + 1 + 1]? = some (.cells #[e] 27 (0, 0)) ∧ X.heap[S + 1 + 1 + 1]? = some on ∧ Below S w0 X := by
  refine ⟨?_, ?_, ?_, ?_⟩
  · exact (Below.heap_setCell _ ⟨S + 1 + 1, 0, none⟩ _ (S + 1) (by simp)).trans (putQ_block hq)
  · exact (heap_setCell_same _ (S + 1 + 1) 0 _ 27 e ((putQ_other (by omega)).trans he)).trans (by simp)
  · exact (Below.heap_setCell _ ⟨S + 1 + 1, 0, none⟩ _ (S + 1 + 1 + 1) (by simp)).trans ((putQ_other (by omega)).trans hn)
  · exact (putQ_below hB (by omega)).setCell (p := ⟨S + 1 + 1, 0, none⟩) (by simp; omega) _

set_option maxHeartbeats 8000000 in
theorem replayProg {w : World} {an : Value} {bn bt n : Nat} {z : Int} {l : List Int} (h : Vs w w.heap.size an l) (hl : l.length ≤ 4096) (hn : w.cell? ⟨bn, 0, none⟩ = some (.int .i64 (n : Int))) (ht : w.cell? ⟨bt, 0, none⟩ = some (.int .i64 z)) (h2 : 2 ≤ n) (h256 : n ≤ 256) :
    Calls Try.prog 136 #[an, .func (.func 137) #[] #[], .func (.func 138) #[] #[], .func (.func 134) #[] #[.pointer (some ⟨bn, 0, none⟩), .pointer (some ⟨bt, 0, none⟩)]] w fun e w' => ∃ res, Bis (tries z) n l res ∧ Out w.heap.size w' l res e ∧ Below w.heap.size w w' := by
  have hbn := cell_lt hn
  have hbt := cell_lt ht
  have HV := hide h
  have HN := hide hn
  have HT := hide ht
  have H2 := hide h2
  have H256 := hide h256
  obtain ⟨oa, cap, rfl, -, -, -⟩ := h
  have tl : decide ((4096 : Int) < (l.length : Int)) = false := decide_eq_false (by omega)
  have tl2 : decide (4096 < l.length) = false := decide_eq_false (by omega)
  have hmf : ∀ (fn : Fn) (first cap : Array Value) (w : World), (Instr.makeFunc fn first cap).run Try.prog w = .ok (.func fn first cap) w := fun _ _ _ _ => rfl
  have hmm : ∀ (w : World), (Instr.makeMap 188 none).run Try.prog w = .ok (.map (some w.heap.size)) (w.alloc (.map #[] 0)) := fun _ => rfl
  clear hn ht h2 h256
  go_enter_defers Try.func136, Try.ntmps136
  go_wp2_with fail
  obtain ⟨k0, k1, k2, k3, k5, kB, kS⟩ := six w (.cells #[.func (.func 138) #[] #[]] 171) (boxQ false nilV nilV nilV) (.cells #[.int .i64 0] 27) (boxQ false nilV nilV nilV) (.map #[] 0) (.cells #[.func (.func 137) #[] #[], .slice oa l.length cap, .map (some (w.heap.size + 1 + 1 + 1 + 1))] 204)
  generalize ((((((w.alloc (.cells #[.func (.func 138) #[] #[]] 171)).alloc (boxQ false nilV nilV nilV)).alloc (.cells #[.int .i64 0] 27)).alloc (boxQ false nilV nilV nilV)).alloc (.map #[] 0)).alloc (.cells #[.func (.func 137) #[] #[], .slice oa l.length cap, .map (some (w.heap.size + 1 + 1 + 1 + 1))] 204)) = W at *
  have HB := hide kB
  have HX : Hid (Box W (w.heap.size + 1 + 1 + 1 + 1 + 1) 204 l) := hide ⟨_, _, _, k5, vs_wide HV.out kB (by omega)⟩
  have hnW : W.cell? ⟨bn, 0, none⟩ = some (.int .i64 (n : Int)) := (kB.cell (p := ⟨bn, 0, none⟩) hbn).trans HN.out
  have htW : W.cell? ⟨bt, 0, none⟩ = some (.int .i64 z) := (kB.cell (p := ⟨bt, 0, none⟩) hbt).trans HT.out
  have HNW := hide hnW
  have HTW := hide htW
  have K0 := hide k0
  have K1 := hide k1
  have K2 := hide k2
  have K3 := hide k3
  have KS := hide kS
  clear k0 k1 k2 k3 k5 kB kS hnW htW
  (with_reducible refine (throughProg HX.out HNW.out HTW.out (by omega) (by omega) H2.out H256.out).mono ?_)
  rintro e w1 ⟨res, hbis, hE⟩
  have HBIS := hide hbis
  clear hbis
  cases res with
  | ask v =>
    obtain ⟨a, b, c, d, rfl, hp, hk⟩ := hE
    unfold asks4
    have HP := hide hp
    have K0' := hide (keeps_block hk (by omega) K0.out)
    have K1' := hide (keeps_block hk (by omega) K1.out)
    have K2' := hide (keeps_block hk (by omega) K2.out)
    have HB1 := hide (HB.out.trans (hk.below.mono (by omega)))
    clear hp hk
    go_wp2_with fail
    have hsz := HB1.out.size
    have c0 : w1.cell? ⟨w.heap.size, 0, none⟩ = some (.func (.func 138) #[] #[]) := cell_of K0'.out 0
    refine leaves_cons (f := 160) (args := #[.pointer (some ⟨w.heap.size, 0, none⟩), .pointer (some ⟨w.heap.size + 1, 0, none⟩), .pointer (some ⟨w.heap.size + 1 + 1, 0, none⟩)]) (by simp) (by simp [go_sem]) ?_
    refine (catchAsk HP.out c0 K1'.out K2'.out (by omega)).mono ?_
    rintro e u' w2 ⟨rfl, rfl, hB2, v', hq2, he2, hO2⟩
    have HO2 := hide (own_mono (B' := w.heap.size) hsz hO2)
    have HB2 := hide (HB1.out.trans (hB2.mono (by omega)))
    clear hO2 hB2
    obtain ⟨x0, x1, x2, x3⟩ := q_cells hq2
    have y0 : w2.cell? ⟨w.heap.size + 1 + 1, 0, none⟩ = some (.int .i64 0) := cell_of he2 0
    obtain ⟨oa', cap', hv'⟩ := Go.Il.Own.form HO2.out
    subst hv'
    simp [Leaves, settle, results, Try.results136, go_sem, x0, x1, x2, x3, y0]
    exact ⟨_, HBIS.out, ⟨_, rfl, HO2.out⟩, HB2.out⟩
  | bad =>
    obtain ⟨rfl, hk⟩ := hE
    have J0 := hide (keeps_block hk (by omega) K0.out)
    have J1 := hide (keeps_block hk (by omega) K1.out)
    have J2 := hide (keeps_block hk (by omega) K2.out)
    have J3 := hide (keeps_block hk (by omega) K3.out)
    have JB := hide (HB.out.trans (hk.below.mono (by omega)))
    clear hk
    obtain ⟨q0, q1, q2, q3⟩ := q_cells J1.out
    obtain ⟨r0, r1, r2, r3⟩ := q_cells J3.out
    have s0 := frozen_of J1.out 0
    have s1 := frozen_of J1.out 1
    have s2 := frozen_of J1.out 2
    have s3 := frozen_of J1.out 3
    have z0 := cell_of J2.out 0
    simp at z0
    have z1 := frozen_of J2.out 0
    go_wp2_with fail
    obtain ⟨j1, j2, j3, jB⟩ := putQE (d := false) (a := nilV) (k := nilV) (p := nilV) (e := .int .i64 7) J1.out J2.out J3.out JB.out
    clear q0 q1 q2 q3 r0 r1 r2 r3 s0 s1 s2 s3 z0 z1 J0 J1 J2 J3 JB
    change Code.wp _ _ _ _ ((putQ w1 (w.heap.size + 1) false nilV nilV nilV).setCell ⟨w.heap.size + 1 + 1, 0, none⟩ (.int .i64 7))
    generalize ((putQ w1 (w.heap.size + 1) false nilV nilV nilV).setCell ⟨w.heap.size + 1 + 1, 0, none⟩ (.int .i64 7)) = X at *
    have J1 := hide j1
    have J2 := hide j2
    have J3 := hide j3
    have JB := hide jB
    clear j1 j2 j3 jB
    obtain ⟨q0, q1, q2, q3⟩ := q_cells J1.out
    obtain ⟨r0, r1, r2, r3⟩ := q_cells J3.out
    have s0 := frozen_of J1.out 0
    have s1 := frozen_of J1.out 1
    have s2 := frozen_of J1.out 2
    have s3 := frozen_of J1.out 3
    have z0 := cell_of J2.out 0
    simp at z0
    have z1 := frozen_of J2.out 0
    go_region
    all_goals
      go_wp2_with fail
      obtain ⟨k1, k2, k3, kB⟩ := putQE (d := false) (a := nilV) (k := nilV) (p := nilV) (e := .int .i64 7) J1.out J2.out J3.out JB.out
      clear q0 q1 q2 q3 r0 r1 r2 r3 s0 s1 s2 s3 z0 z1 J1 J2 J3 JB
      change bodyPostD _ _ _ _ _ ((putQ X (w.heap.size + 1) false nilV nilV nilV).setCell ⟨w.heap.size + 1 + 1, 0, none⟩ (.int .i64 7)).drew
      generalize hX : (putQ X (w.heap.size + 1) false nilV nilV nilV).setCell ⟨w.heap.size + 1 + 1, 0, none⟩ (.int .i64 7) = Y at *
      have J1 := hide k1
      have J2 := hide k2
      have JB := hide kB
      clear k1 k2 k3 kB
      have JBD := Below.drew JB.out
      refine leaves_cons (f := 160) (args := #[.pointer (some ⟨w.heap.size, 0, none⟩), .pointer (some ⟨w.heap.size + 1, 0, none⟩), .pointer (some ⟨w.heap.size + 1 + 1, 0, none⟩)]) (by simp) (by simp [go_sem]) ?_
      refine catchIdle.mono ?_
      rintro e u' w3 ⟨rfl, rfl, hB3⟩
      have HB3 := hide hB3
      have n1 := (hB3.block _ (block_lt J1.out)).trans J1.out
      have n2 := (hB3.block _ (block_lt J2.out)).trans J2.out
      clear hB3
      obtain ⟨x0, x1, x2, x3⟩ := q_cells n1
      have y0 := cell_of n2 0
      simp at y0
      simp [Leaves, settle, results, Try.results136, go_sem, x0, x1, x2, x3, y0]
      have HBE := hide (JBD.trans (HB3.out.mono JB.out.size))
      exact ⟨_, HBIS.out, rfl, HBE.out⟩
  | fin lo hi left =>
    obtain ⟨b, rfl, hlh, hbw, hk, hbox⟩ := hE
    have J0 := hide (keeps_block hk (by omega) K0.out)
    have J1 := hide (keeps_block hk (by omega) K1.out)
    have J2 := hide (keeps_block hk (by omega) K2.out)
    have J3 := hide (keeps_block hk (by omega) K3.out)
    have JB := hide (HB.out.trans (hk.below.mono (by omega)))
    have HLH := hide hlh
    have hbS : w.heap.size + 6 ≤ b := by rw [← KS.out]; exact hbw
    obtain ⟨tx3, an3, told3, hb3, oa3, cap3, rfl, hc3, hl3, -⟩ := hbox
    have HG3 := hide hb3
    have g1 := cell_of hb3 1
    simp at g1
    clear hk hlh hbw hb3
    obtain ⟨q0, q1, q2, q3⟩ := q_cells J1.out
    obtain ⟨r0, r1, r2, r3⟩ := q_cells J3.out
    have s0 := frozen_of J1.out 0
    have s1 := frozen_of J1.out 1
    have s2 := frozen_of J1.out 2
    have s3 := frozen_of J1.out 3
    have z0 := cell_of J2.out 0
    simp at z0
    have z1 := frozen_of J2.out 0
    cases left with
    | nil =>
      simp only [List.length_nil] at g1 HG3
      clear hc3 hl3
      go_wp2_with fail
      obtain ⟨j1, j2, j3, jB⟩ := putQE (d := true) (a := nilV) (k := (.slice (some ⟨b, 0, none⟩) 2 2)) (p := nilV) (e := .int .i64 0) J1.out J2.out J3.out JB.out
      obtain ⟨k1, k2, k3, kB⟩ := putQE (d := true) (a := nilV) (k := (.slice (some ⟨b, 0, none⟩) 2 2)) (p := nilV) (e := .int .i64 0) j1 j2 j3 jB
      have hlx : ((putQ ((putQ w1 (w.heap.size + 1) true nilV (.slice (some ⟨b, 0, none⟩) 2 2) nilV).setCell ⟨w.heap.size + 1 + 1, 0, none⟩ (.int .i64 0)) (w.heap.size + 1) true nilV (.slice (some ⟨b, 0, none⟩) 2 2) nilV).setCell ⟨w.heap.size + 1 + 1, 0, none⟩ (.int .i64 0)).heap[b]? = some (.cells #[.int .i64 (lo : Int), .int .i64 (hi : Int)] 3 (0, 0)) :=
        (Below.heap_setCell _ ⟨w.heap.size + 1 + 1, 0, none⟩ _ b (by simp; omega)).trans ((putQ_other (by omega)).trans ((Below.heap_setCell _ ⟨w.heap.size + 1 + 1, 0, none⟩ _ b (by simp; omega)).trans ((putQ_other (by omega)).trans HLH.out)))
      change bodyPostD _ _ _ _ _ ((putQ ((putQ w1 (w.heap.size + 1) true nilV (.slice (some ⟨b, 0, none⟩) 2 2) nilV).setCell ⟨w.heap.size + 1 + 1, 0, none⟩ (.int .i64 0)) (w.heap.size + 1) true nilV (.slice (some ⟨b, 0, none⟩) 2 2) nilV).setCell ⟨w.heap.size + 1 + 1, 0, none⟩ (.int .i64 0))
      clear q0 q1 q2 q3 r0 r1 r2 r3 s0 s1 s2 s3 z0 z1 g1 HG3 J0 J1 J2 J3 JB j1 j2 j3 jB HLH
      generalize ((putQ ((putQ w1 (w.heap.size + 1) true nilV (.slice (some ⟨b, 0, none⟩) 2 2) nilV).setCell ⟨w.heap.size + 1 + 1, 0, none⟩ (.int .i64 0)) (w.heap.size + 1) true nilV (.slice (some ⟨b, 0, none⟩) 2 2) nilV).setCell ⟨w.heap.size + 1 + 1, 0, none⟩ (.int .i64 0)) = Y at *
      have J1 := hide k1
      have J2 := hide k2
      have JB := hide kB
      have HLX := hide hlx
      clear k1 k2 k3 kB hlx
      have JBD := JB.out
      refine leaves_cons (f := 160) (args := #[.pointer (some ⟨w.heap.size, 0, none⟩), .pointer (some ⟨w.heap.size + 1, 0, none⟩), .pointer (some ⟨w.heap.size + 1 + 1, 0, none⟩)]) (by simp) (by simp [go_sem]) ?_
      refine catchIdle.mono ?_
      rintro e u' w3 ⟨rfl, rfl, hB3⟩
      have HB3 := hide hB3
      have n1 := (hB3.block _ (block_lt J1.out)).trans J1.out
      have n2 := (hB3.block _ (block_lt J2.out)).trans J2.out
      clear hB3
      obtain ⟨x0, x1, x2, x3⟩ := q_cells n1
      have y0 := cell_of n2 0
      simp at y0
      simp [Leaves, settle, results, Try.results136, go_sem, x0, x1, x2, x3, y0]
      have HBE := hide (JBD.trans (HB3.out.mono JB.out.size))
      refine ⟨_, HBIS.out, ?_, HBE.out⟩
      rw [Out, if_pos rfl]
      exact ⟨b, rfl, (HB3.out.block _ (block_lt HLX.out)).trans HLX.out, by omega⟩
    | cons y rr =>
      simp only [List.length_cons] at g1 HG3
      clear hc3 hl3
      go_wp2_with fail
      obtain ⟨j1, j2, j3, jB⟩ := putQE (d := true) (a := nilV) (k := (.slice (some ⟨b, 0, none⟩) 2 2)) (p := nilV) (e := .int .i64 0) J1.out J2.out J3.out JB.out
      obtain ⟨k1, k2, k3, kB⟩ := putQE (d := false) (a := nilV) (k := nilV) (p := nilV) (e := .int .i64 8) j1 j2 j3 jB
      have hlx : ((putQ ((putQ w1 (w.heap.size + 1) true nilV (.slice (some ⟨b, 0, none⟩) 2 2) nilV).setCell ⟨w.heap.size + 1 + 1, 0, none⟩ (.int .i64 0)) (w.heap.size + 1) false nilV nilV nilV).setCell ⟨w.heap.size + 1 + 1, 0, none⟩ (.int .i64 8)).heap[b]? = some (.cells #[.int .i64 (lo : Int), .int .i64 (hi : Int)] 3 (0, 0)) :=
        (Below.heap_setCell _ ⟨w.heap.size + 1 + 1, 0, none⟩ _ b (by simp; omega)).trans ((putQ_other (by omega)).trans ((Below.heap_setCell _ ⟨w.heap.size + 1 + 1, 0, none⟩ _ b (by simp; omega)).trans ((putQ_other (by omega)).trans HLH.out)))
      change bodyPostD _ _ _ _ _ ((putQ ((putQ w1 (w.heap.size + 1) true nilV (.slice (some ⟨b, 0, none⟩) 2 2) nilV).setCell ⟨w.heap.size + 1 + 1, 0, none⟩ (.int .i64 0)) (w.heap.size + 1) false nilV nilV nilV).setCell ⟨w.heap.size + 1 + 1, 0, none⟩ (.int .i64 8))
      clear q0 q1 q2 q3 r0 r1 r2 r3 s0 s1 s2 s3 z0 z1 g1 HG3 J0 J1 J2 J3 JB j1 j2 j3 jB HLH
      generalize ((putQ ((putQ w1 (w.heap.size + 1) true nilV (.slice (some ⟨b, 0, none⟩) 2 2) nilV).setCell ⟨w.heap.size + 1 + 1, 0, none⟩ (.int .i64 0)) (w.heap.size + 1) false nilV nilV nilV).setCell ⟨w.heap.size + 1 + 1, 0, none⟩ (.int .i64 8)) = Y at *
      have J1 := hide k1
      have J2 := hide k2
      have JB := hide kB
      have HLX := hide hlx
      clear k1 k2 k3 kB hlx
      have JBD := JB.out
      refine leaves_cons (f := 160) (args := #[.pointer (some ⟨w.heap.size, 0, none⟩), .pointer (some ⟨w.heap.size + 1, 0, none⟩), .pointer (some ⟨w.heap.size + 1 + 1, 0, none⟩)]) (by simp) (by simp [go_sem]) ?_
      refine catchIdle.mono ?_
      rintro e u' w3 ⟨rfl, rfl, hB3⟩
      have HB3 := hide hB3
      have n1 := (hB3.block _ (block_lt J1.out)).trans J1.out
      have n2 := (hB3.block _ (block_lt J2.out)).trans J2.out
      clear hB3
      obtain ⟨x0, x1, x2, x3⟩ := q_cells n1
      have y0 := cell_of n2 0
      simp at y0
      simp [Leaves, settle, results, Try.results136, go_sem, x0, x1, x2, x3, y0]
      have HBE := hide (JBD.trans (HB3.out.mono JB.out.size))
      refine ⟨_, HBIS.out, ?_, HBE.out⟩
      rw [Out, if_neg (by simp)]
end Go.Proofs.Ytmkapmbmgpnjaaa.Bi

set_option maxRecDepth 100000
set_option linter.unusedSimpArgs false
set_option linter.unusedVariables false
namespace Go.Proofs.Ytmkapmbmgpnjaaa.Bi
open Go Go.Ms Go.Pg Go.Bi Go.ChangeShapes Go.WideShapes Go.ChangeAt Go.RowKit Go.Deep

theorem vs_self {w w' : World} {v : Value} {l : List Int} (h : Vs w w.heap.size v l) (hB : Below w.heap.size w w') : Vs w' w'.heap.size v l := vs_wide h hB hB.size

theorem out_form {B : Nat} {w' : World} {l : List Int} {res : Res} {e : Ending} (h : Out B w' l res e) : ∃ d oa na ca ok nk ck x, e = .returned (.tuple #[questV d (.slice oa na ca) (.slice ok nk ck) nilV, .int .i64 x]) ∧
    ∀ w'' : World, (∀ (b : Nat) cs, w'.heap[b]? = some (Obj.cells cs 3 (0, 0)) → w''.heap[b]? = w'.heap[b]?) → Out B w'' l res e := by
  cases res with
  | ask v =>
    obtain ⟨s, rfl, hO⟩ := h
    obtain ⟨oa, cap, rfl⟩ := Go.Il.Own.form hO
    exact ⟨_, _, _, _, _, _, _, _, rfl, fun w'' hk => ⟨_, rfl, own_same hO fun g cs _ hh => hk g cs hh⟩⟩
  | bad =>
    obtain rfl := h
    exact ⟨_, _, _, _, _, _, _, _, rfl, fun w'' hk => rfl⟩
  | fin lo hi left =>
    rw [Out] at h
    by_cases hl : left = []
    · rw [if_pos hl] at h
      obtain ⟨b, rfl, hh, hb⟩ := h
      refine ⟨_, _, _, _, _, _, _, _, rfl, fun w'' hk => ?_⟩
      rw [Out, if_pos hl]
      exact ⟨b, rfl, (hk b _ hh).trans hh, hb⟩
    · rw [if_neg hl] at h
      obtain rfl := h
      refine ⟨_, _, _, _, _, _, _, _, rfl, fun w'' hk => ?_⟩
      rw [Out, if_neg hl]
theorem out_low {B B' : Nat} {w' : World} {l : List Int} {res : Res} {e : Ending} (hB : B' ≤ B) (h : Out B w' l res e) : Out B' w' l res e := by
  cases res with
  | ask v => obtain ⟨s, rfl, hO⟩ := h; exact ⟨s, rfl, own_mono hB hO⟩
  | bad => exact h
  | fin lo hi left =>
    rw [Out] at h ⊢
    by_cases hl : left = []
    · rw [if_pos hl] at h ⊢
      obtain ⟨b, rfl, hh, hb⟩ := h
      exact ⟨b, rfl, hh, Nat.le_trans hB hb⟩
    · rw [if_neg hl] at h ⊢
      exact h

set_option maxHeartbeats 8000000 in
theorem searchProg {w : World} {an : Value} {bn bt n : Nat} {z : Int} {l : List Int} (h : Vs w w.heap.size an l) (hl : l.length ≤ 4096) (hn : w.cell? ⟨bn, 0, none⟩ = some (.int .i64 (n : Int))) (ht : w.cell? ⟨bt, 0, none⟩ = some (.int .i64 z)) (h2 : 2 ≤ n) (h256 : n ≤ 256) :
    Calls Try.prog 74 #[an, .func (.func 134) #[] #[.pointer (some ⟨bn, 0, none⟩), .pointer (some ⟨bt, 0, none⟩)]] w fun e w' => ∃ res, Bis (tries z) n l res ∧ Out w.heap.size w' l res e ∧ Below w.heap.size w w' := by
  have hB0 : Below w.heap.size w (w.alloc (boxQ false nilV nilV nilV)) := (Below.refl _ _).alloc (Nat.le_refl _) _
  have HB0 := hide hB0
  have HV := hide (vs_self h hB0)
  have HN := hide (cell_old hB0 hn)
  have HT := hide (cell_old hB0 ht)
  have H2 := hide h2
  have H256 := hide h256
  have HL := hide hl
  have H1 := hide (new_block w (boxQ false nilV nilV nilV))
  obtain ⟨oa, cap, rfl, -, -, -⟩ := h
  clear hB0 hn ht h2 h256 hl
  go_enter Try.func74, Try.ntmps74
  go_wp2_with fail
  (with_reducible refine (replayProg HV.out HL.out HN.out HT.out H2.out H256.out).mono ?_)
  rintro e w1 ⟨res, hbis, ho, hB⟩
  have HBIS := hide hbis
  obtain ⟨d, oa1, na, ca, ok, nk, ck, x, rfl, hkeep⟩ := out_form ho
  have HKP := hide hkeep
  have HB1 := hide (HB0.out.trans (hB.mono (by simp)))
  have HR := hide ((hB.block _ (block_lt H1.out)).trans H1.out)
  clear hbis ho hkeep hB
  obtain ⟨q0, q1, q2, q3⟩ := q_cells HR.out
  have s0 := frozen_of HR.out 0
  have s1 := frozen_of HR.out 1
  have s2 := frozen_of HR.out 2
  have s3 := frozen_of HR.out 3
  go_wp2_with fail
  refine final8 (X := putQ w1 w.heap.size d (.slice oa1 na ca) (.slice ok nk ck) nilV) rfl ?_
  have HP := hide (putQ_block (e := d) (b := .slice oa1 na ca) (l := .slice ok nk ck) (q := nilV) HR.out)
  have HQ := hide (putQ_below (d := d) (a := .slice oa1 na ca) (l := .slice ok nk ck) (p := nilV) HB1.out (B := w.heap.size) (Nat.le_refl _))
  have HO := hide (out_low (B' := w.heap.size) (by simp) (HKP.out (putQ w1 w.heap.size d (.slice oa1 na ca) (.slice ok nk ck) nilV) fun b cs hh => putQ_other (fun e => by subst e; rw [HR.out] at hh; injection hh with hh; injection hh with _ ht; cases ht)))
  clear HKP
  generalize putQ w1 w.heap.size d (.slice oa1 na ca) (.slice ok nk ck) nilV = X at *
  obtain ⟨x0, x1, x2, x3⟩ := q_cells HP.out
  refine bodyPost_ret (v := .tuple #[questV d (.slice oa1 na ca) (.slice ok nk ck) nilV, .int .i64 x]) (by simp [results, Try.results74, go_sem, x0, x1, x2, x3]) rfl ?_
  exact ⟨res, HBIS.out, HO.out, HQ.out⟩
end Go.Proofs.Ytmkapmbmgpnjaaa.Bi

set_option maxRecDepth 100000
set_option linter.unusedSimpArgs false
set_option linter.unusedVariables false
namespace Go.Proofs.Ytmkapmbmgpnjaaa.Bi
open Go Go.Ms Go.Pg Go.Bi Go.ChangeShapes Go.WideShapes Go.ChangeAt Go.RowKit Go.Deep

def OutB (B : Nat) (w' : World) (n z : Int) (l : List Int) (e : Ending) : Prop :=
  if n < 2 then e = .returned (.tuple #[questV false nilV nilV nilV, .int .i64 1])
  else if 256 < n then e = .returned (.tuple #[questV false nilV nilV nilV, .int .i64 3])
  else ∃ res, Bis (tries z) n.toNat l res ∧ Out B w' l res e

theorem three (w : World) (o0 o1 o2 : Obj) :
    let W := ((w.alloc o0).alloc o1).alloc o2
    W.heap[w.heap.size]? = some o0 ∧ W.heap[w.heap.size + 1]? = some o1 ∧ W.heap[w.heap.size + 1 + 1]? = some o2 ∧ Below w.heap.size w W ∧ W.heap.size = w.heap.size + 3 := by
  refine ⟨?_, ?_, ?_, ?_, ?_⟩
  · exact old_block (old_block (new_block w _) _) _
  · exact old_block (alloc_at (by simp)) _
  · exact alloc_at (by simp)
  · exact (((Below.refl w.heap.size w).alloc (Nat.le_refl _) _).alloc (by simp) _).alloc (by simp; omega) _
  · simp

set_option maxHeartbeats 8000000 in
theorem bisectProg {w : World} {an : Value} {n z : Int} {l : List Int} (h : Vs w w.heap.size an l) (hl : l.length ≤ 4096) :
    Calls Try.prog 67 #[.int .i64 n, .int .i64 z, an] w fun e w' => OutB w.heap.size w' n z l e ∧ Below w.heap.size w w' := by
  have HV := hide h
  have HL := hide hl
  have hmf : ∀ (fn : Fn) (first cap : Array Value) (w : World), (Instr.makeFunc fn first cap).run Try.prog w = .ok (.func fn first cap) w := fun _ _ _ _ => rfl
  obtain ⟨oa, cap, rfl, -, -, -⟩ := h
  clear hl
  obtain ⟨k0, k1, k2, kB, kS⟩ := three w (.cells #[.int .i64 n] 3) (.cells #[.int .i64 z] 3) (boxQ false nilV nilV nilV)
  have K0 := hide k0
  have K1 := hide k1
  have K2 := hide k2
  have KB := hide kB
  have KS := hide kS
  clear k0 k1 k2 kB kS
  by_cases c1 : n < 2
  · have C1 := hide c1
    have t1 : decide (n < 2) = true := decide_eq_true c1
    go_enter Try.func67, Try.ntmps67
    go_wp2_with fail
    refine bodyPost_ret (v := .tuple #[questV false nilV nilV nilV, .int .i64 1]) (by simp [results, Try.results67, go_sem]) rfl ?_
    exact ⟨by rw [OutB, if_pos C1.out], KB.out⟩
  · have C1 := hide c1
    have t1 : decide (n < 2) = false := decide_eq_false c1
    by_cases c2 : 256 < n
    · have C2 := hide c2
      have t2 : decide (256 < n) = true := decide_eq_true c2
      clear c1
      go_enter Try.func67, Try.ntmps67
      go_wp2_with fail
      refine bodyPost_ret (v := .tuple #[questV false nilV nilV nilV, .int .i64 3]) (by simp [results, Try.results67, go_sem]) rfl ?_
      exact ⟨by rw [OutB, if_neg (by have := C1.out; omega : ¬ n < 2), if_pos (by have := C2.out; omega : 256 < n)], KB.out⟩
    · have C2 := hide c2
      have t2 : decide (256 < n) = false := decide_eq_false c2
      have hm : ((n.toNat : Nat) : Int) = n := by omega
      have hm2 : 2 ≤ n.toNat := by omega
      have hm3 : n.toNat ≤ 256 := by omega
      have HM := hide hm
      have HM2 := hide hm2
      have HM3 := hide hm3
      clear c1 c2 hm hm2 hm3
      go_enter Try.func67, Try.ntmps67
      go_wp2_with fail
      generalize ((w.alloc (.cells #[.int .i64 n] 3)).alloc (.cells #[.int .i64 z] 3)).alloc (boxQ false nilV nilV nilV) = W at *
      have hvW := vs_self HV.out KB.out
      have hnW : W.cell? ⟨w.heap.size, 0, none⟩ = some (.int .i64 ((n.toNat : Nat) : Int)) := by rw [HM.out]; exact cell_of K0.out 0
      have hzW : W.cell? ⟨w.heap.size + 1, 0, none⟩ = some (.int .i64 z) := cell_of K1.out 0
      (with_reducible refine (searchProg hvW HL.out hnW hzW HM2.out HM3.out).mono ?_)
      rintro e w1 ⟨res, hbis, ho, hB⟩
      have HBIS := hide hbis
      obtain ⟨d, oa1, na, ca, ok, nk, ck, x, rfl, hkeep⟩ := out_form ho
      have HKP := hide hkeep
      have HB1 := hide (KB.out.trans (hB.mono (by rw [KS.out]; omega)))
      have HR := hide ((hB.block _ (block_lt K2.out)).trans K2.out)
      have hws : w.heap.size ≤ W.heap.size := by rw [KS.out]; omega
      clear hbis ho hkeep hB hvW hnW hzW
      obtain ⟨q0, q1, q2, q3⟩ := q_cells HR.out
      have s0 := frozen_of HR.out 0
      have s1 := frozen_of HR.out 1
      have s2 := frozen_of HR.out 2
      have s3 := frozen_of HR.out 3
      go_wp2_with fail
      refine final8 (X := putQ w1 (w.heap.size + 1 + 1) d (.slice oa1 na ca) (.slice ok nk ck) nilV) rfl ?_
      have HP := hide (putQ_block (e := d) (b := .slice oa1 na ca) (l := .slice ok nk ck) (q := nilV) HR.out)
      have HQ := hide (putQ_below (d := d) (a := .slice oa1 na ca) (l := .slice ok nk ck) (p := nilV) HB1.out (B := w.heap.size + 1 + 1) (by omega))
      have HO := hide (out_low hws (HKP.out (putQ w1 (w.heap.size + 1 + 1) d (.slice oa1 na ca) (.slice ok nk ck) nilV) fun b cs hh => putQ_other (fun e => by subst e; rw [HR.out] at hh; injection hh with hh; injection hh with _ ht; cases ht)))
      clear HKP
      generalize putQ w1 (w.heap.size + 1 + 1) d (.slice oa1 na ca) (.slice ok nk ck) nilV = X at *
      obtain ⟨x0, x1, x2, x3⟩ := q_cells HP.out
      refine bodyPost_ret (v := .tuple #[questV d (.slice oa1 na ca) (.slice ok nk ck) nilV, .int .i64 x]) (by simp [results, Try.results67, go_sem, x0, x1, x2, x3]) rfl ?_
      refine ⟨?_, HQ.out⟩
      rw [OutB, if_neg (by have := C1.out; omega : ¬ n < 2), if_neg (by have := C2.out; omega : ¬ 256 < n)]
      exact ⟨res, HBIS.out, HO.out⟩
end Go.Proofs.Ytmkapmbmgpnjaaa.Bi

