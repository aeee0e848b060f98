import Derived.Test.YtdpgcoicbagflaaBiF
set_option maxRecDepth 100000
set_option linter.unusedSimpArgs false
set_option linter.unusedVariables false
namespace Go.Proofs.Ytdpgcoicbagflaa.Bi
open Go Go.Ms Go.Pg Go.Bi Go.ChangeShapes Go.WideShapes Go.ChangeAt Go.RowKit Go.Deep

abbrev nilV : Value := .slice none 0 0
abbrev questV (d : Bool) (a k p : Value) : Value := .agg #[.bool d, a, k, p]
abbrev boxQ (d : Bool) (a k p : Value) : Obj := .cells #[.bool d, a, k, p] 26 (0, 0)
def putQ (w : World) (B : Nat) (d : Bool) (a k p : Value) : World := (((w.setCell ⟨B, 0, none⟩ (.bool d)).setCell ⟨B, 1, none⟩ a).setCell ⟨B, 2, none⟩ k).setCell ⟨B, 3, none⟩ p
theorem putQ_block {w : World} {B : Nat} {d e : Bool} {a b k l p q : Value} (h : w.heap[B]? = some (boxQ d a k p)) : (putQ w B e b l q).heap[B]? = some (boxQ e b l q) := by
  have h0 := heap_setCell_same _ B 0 _ 26 (.bool e) h
  have h1 := heap_setCell_same _ B 1 _ 26 b h0
  have h2 := heap_setCell_same _ B 2 _ 26 l h1
  have h3 := heap_setCell_same _ B 3 _ 26 q h2
  refine h3.trans ?_
  simp [boxQ]
theorem putQ_other {w : World} {B k : Nat} {d : Bool} {a l p : Value} (h : k ≠ B) : (putQ w B d a l p).heap[k]? = w.heap[k]? := by
  unfold putQ
  rw [Below.heap_setCell _ _ _ _ h, Below.heap_setCell _ _ _ _ h, Below.heap_setCell _ _ _ _ h, Below.heap_setCell _ _ _ _ h]
theorem putQ_below {C B : Nat} {d : Bool} {a l p : Value} {w0 w : World} (h : Below C w0 w) (hB : C ≤ B) : Below C w0 (putQ w B d a l p) :=
  (((h.setCell (p := ⟨B, 0, none⟩) hB _).setCell (p := ⟨B, 1, none⟩) hB _).setCell (p := ⟨B, 2, none⟩) hB _).setCell (p := ⟨B, 3, none⟩) hB _
theorem putQ_size {w : World} {B : Nat} {d : Bool} {a l p : Value} : (putQ w B d a l p).heap.size = w.heap.size := by simp [putQ]
theorem q_cells {w : World} {B : Nat} {d : Bool} {a k p : Value} (h : w.heap[B]? = some (boxQ d a k p)) : w.cell? ⟨B, 0, none⟩ = some (.bool d) ∧ w.cell? ⟨B, 1, none⟩ = some a ∧ w.cell? ⟨B, 2, none⟩ = some k ∧ w.cell? ⟨B, 3, none⟩ = some p :=
  ⟨cell_of h 0, cell_of h 1, cell_of h 2, cell_of h 3⟩

def lenOf : Value → Nat
  | .slice _ n _ => n
  | _ => 0
def leftOf (w : World) (g : Nat) : Nat := lenOf ((w.cell? ⟨g, 1, none⟩).getD undef)
theorem left_box {w : World} {g : Nat} {l : List Int} (h : Box w g 117 l) : leftOf w g = l.length := by
  obtain ⟨tx, an, told, hb, oa, cap, rfl, _⟩ := h
  have e : w.cell? ⟨g, 1, none⟩ = some (.slice oa l.length cap) := cell_of hb 1
  simp [leftOf, lenOf, e]
theorem keeps_old {g : Nat} {w0 w w' : World} (h : Keeps g w0 w) (hg : g < w0.heap.size) (hB : Below w.heap.size w w') : Keeps g w0 w' := h.trans (Keeps.of_below (Nat.lt_of_lt_of_le hg h.below.size) hB)
theorem keeps_new {g : Nat} {w w' : World} (hg : g < w.heap.size) (hB : Below w.heap.size w w') : Keeps g w w' := Keeps.of_below hg hB
theorem keeps_cell {g : Nat} {w w' : World} (h : Keeps g w w') {b : Nat} (hb : b < g) {v : Value} (hc : w.cell? ⟨b, 0, none⟩ = some v) : w'.cell? ⟨b, 0, none⟩ = some v := (h.below.cell (p := ⟨b, 0, none⟩) hb).trans hc
theorem keeps_block {g : Nat} {w w' : World} (h : Keeps g w w') {b : Nat} {o : Obj} (hb : b ≠ g) (hc : w.heap[b]? = some o) : w'.heap[b]? = some o := (h.kept b (by have := Array.getElem?_eq_some_iff.1 hc; exact this.1) hb).trans hc

theorem box_put {g : Nat} {w : World} {l : List Int} (h : Box w g 117 l) {B : Nat} {d : Bool} {a k p : Value} (hB : g < B) : Box (putQ w B d a k p) g 117 l := by
  obtain ⟨tx, an, told, hb, oa, cap, rfl, hc, hl, q⟩ := h
  refine ⟨tx, _, told, (putQ_other (by omega)).trans hb, oa, cap, rfl, hc, hl, fun i hi => ?_⟩
  obtain ⟨b, o, e, hbg, hcell⟩ := q i hi
  exact ⟨b, o, e, hbg, ((putQ_below (Below.refl g w) (Nat.le_of_lt hB)).cell (p := ⟨b, o + i, none⟩) hbg).trans hcell⟩
theorem belowN (B : Nat) (w : World) (n : Nat) : Below B w (w.drewN n) := ⟨rfl, rfl, rfl, Nat.le_refl _, fun _ _ => rfl⟩
theorem box_putV {g : Nat} {w : World} {l : List Int} (h : Box w g 117 l) {B a b c d : Nat} (hB : g < B) : Box (putV w B a b c d) g 117 l := by
  obtain ⟨tx, an, told, hb, oa, cap, rfl, hc, hl, q⟩ := h
  refine ⟨tx, _, told, (putV_other (by omega)).trans hb, oa, cap, rfl, hc, hl, fun i hi => ?_⟩
  obtain ⟨b, o, e, hbg, hcell⟩ := q i hi
  exact ⟨b, o, e, hbg, ((putV_below (Below.refl g w) (Nat.le_of_lt hB)).cell (p := ⟨b, o + i, none⟩) hbg).trans hcell⟩
theorem keeps_putV {g : Nat} {w0 w : World} (hg : g < w0.heap.size) (h : Keeps g w0 w) {B a b c d : Nat} (hB : w0.heap.size ≤ B) : Keeps g w0 (putV w B a b c d) :=
  ⟨putV_below h.below (by omega), fun b hb hbg => (putV_other (by omega)).trans (h.kept b hb hbg)⟩
theorem Sp.one {p : Nat → Bool} {a b c d e f g h v : Nat} (hs : Sp p a b c d) (hp : Sp (among [v]) e f g h) : Sp (fun i => p i || i == v) (a ||| e) (b ||| f) (c ||| g) (d ||| h) :=
  (hs.or hp).congr fun k _ => by
    have : among [v] k = (k == v) := by rw [Bool.eq_iff_iff, beq_iff_eq]; simp [among]
    rw [this]
def Ends (g : Nat) (w : World) : Res → Ending → World → Prop
  | .ask v, e, w' => ∃ a b c d, e = asks4 a b c d ∧ Sp (among [v]) a b c d ∧ Keeps g w w'
  | .bad, e, w' => e = .returned (.tuple #[questV false nilV nilV nilV, .int .i64 7]) ∧ Keeps g w w'
  | .fin low high left, e, w' => ∃ B, e = .returned (.tuple #[questV true nilV (.slice (some ⟨B, 0, none⟩) 2 2) nilV, .int .i64 0]) ∧ w'.heap[B]? = some (.cells #[.int .i64 (low : Int), .int .i64 (high : Int)] 3 (0, 0)) ∧ w.heap.size ≤ B ∧ Keeps g w w' ∧ Box w' g 117 left

theorem verdict0 {w : World} {g : Nat} {z : Int} {l : List Int} (h : Box w g 117 l) :
    Calls Try.prog 25 #[.pointer (some ⟨g, 0, none⟩), .int .i64 0, .int .i64 z] w (Told g 0 w (ver (tries z) 3 l)) := verdictProg (v := 0) h (by decide)
theorem keeps_put {g : Nat} {w0 w : World} (hg : g < w0.heap.size) (h : Keeps g w0 w) {B : Nat} {d : Bool} {a l p : Value} (hB : w0.heap.size ≤ B) : Keeps g w0 (putQ w B d a l p) :=
  ⟨putQ_below h.below (by omega), fun b hb hbg => (putQ_other (by omega)).trans (h.kept b hb hbg)⟩
set_option maxHeartbeats 8000000 in
theorem throughProg {w : World} {g bn bt n : Nat} {z : Int} {l : List Int} (h : Box w g 117 l) (hn : w.cell? ⟨bn, 0, none⟩ = some (.int .i64 (n : Int))) (ht : w.cell? ⟨bt, 0, none⟩ = some (.int .i64 z)) (hbn : bn < g) (hbt : bt < g) (h2 : 2 ≤ n) (h256 : n ≤ 256) :
    Calls Try.prog 24 #[.pointer (some ⟨g, 0, none⟩), .pointer (some ⟨bn, 0, none⟩), .pointer (some ⟨bt, 0, none⟩)] w fun e w' => ∃ res, Bis (tries z) n l res ∧ Ends g w res e w' := by
  have hg := box_lt h
  have HX := hide h
  have HG := hide hg
  have HBN := hide hbn
  have HBT := hide hbt
  have HN := hide hn
  have HT := hide ht
  have H256 := hide h256
  have h2' := hide h2
  have hbns : bn < w.heap.size := by omega
  have hbts : bt < w.heap.size := by omega
  obtain ⟨N, hN⟩ : ∃ N : Nat, N = n - 1 := ⟨_, rfl⟩
  have wn : IntKind.i64.wrap ((n : Int) - 1) = (N : Int) := by rw [wrap_in (by omega) (by omega)]; omega
  have HN1 := hide hN
  have HN2 : Hid (N < 256) := hide (by omega)
  have HT1 := hide (tries_pos z).1
  clear h hg hbn hbt h256 hN
  go_enter Try.func24, Try.ntmps24
  go_wp2_with fail
  go_region
  have hB0 : Below w.heap.size w (w.alloc (boxQ false nilV nilV nilV)).drew := Below.drew ((Below.refl w.heap.size w).alloc (Nat.le_refl _) _)
  have HK0 := hide (keeps_new HG.out hB0)
  have HX0 := hide (box_kept HX.out hB0)
  have HR0 : Hid ((w.alloc (boxQ false nilV nilV nilV)).drew.heap[w.heap.size]? = some (boxQ false nilV nilV nilV)) := hide (new_block w _)
  have HRG : Hid (w.heap.size ≠ g) := hide (by have := HG.out; omega)
  clear hB0
  generalize (w.alloc (boxQ false nilV nilV nilV)).drew = W at *
  have c1 := keeps_cell HK0.out HBN.out HN.out
  have c2 := keeps_cell HK0.out HBT.out HT.out
  cases hv0 : ver (tries z) 3 l with
  | none =>
    have HV0 := hide hv0
    clear hv0
    go_wp2_with fail
    (with_reducible refine (verdict0 HX0.out).mono ?_)
    rintro e w1 ht1
    rw [HV0.out] at ht1
    obtain ⟨a, b, c, d, rfl, hp, hk⟩ := ht1
    unfold asks4
    have HP := hide hp
    have HK1 := hide (HK0.out.trans hk)
    clear hp hk
    go_wp2_with fail
    refine ⟨rfl, _, .ask0 HV0.out, ?_⟩
    exact ⟨a, b, c, d, rfl, HP.out, HK1.out⟩
  | some xr =>
    obtain ⟨x, r⟩ := xr
    have HV0 := hide hv0
    clear hv0
    by_cases ex : x = 1
    · subst ex
      cases hv1 : ver (tries z) 3 r with
      | none =>
        have HV1 := hide hv1
        clear hv1
        go_wp2_with fail
        (with_reducible refine (verdict0 HX0.out).mono ?_)
        rintro e w1 ht1
        rw [HV0.out] at ht1
        obtain ⟨rfl, hk, hx⟩ := ht1
        have d1 := keeps_cell hk HBN.out c1
        have d2 := keeps_cell hk HBT.out c2
        have HR1 := hide (keeps_block hk HRG.out HR0.out)
        have HK1 := hide (HK0.out.trans hk)
        have HX1 := hide hx
        clear c1 c2 hk hx
        have c1 := d1
        have c2 := d2
        clear d1 d2
        go_wp2_with fail
        (with_reducible refine (verdictProg HX1.out HN2.out).mono ?_)
        rintro e w2 ht2
        rw [HV1.out] at ht2
        obtain ⟨a, b, c, d, rfl, hp, hk⟩ := ht2
        unfold asks4
        have HP := hide hp
        have HK2 := hide (HK1.out.trans hk)
        clear hp hk
        go_wp2_with fail
        refine ⟨rfl, _, .ask1 HV0.out HV1.out, ?_⟩
        rw [← HN1.out]
        exact ⟨a, b, c, d, rfl, HP.out, HK2.out⟩
      | some ys =>
        obtain ⟨y, s⟩ := ys
        have HV1 := hide hv1
        clear hv1
        by_cases ey : y = 2
        · subst ey
          go_wp2_with fail
          (with_reducible refine (verdict0 HX0.out).mono ?_)
          rintro e w1 ht1
          rw [HV0.out] at ht1
          obtain ⟨rfl, hk, hx⟩ := ht1
          have d1 := keeps_cell hk HBN.out c1
          have d2 := keeps_cell hk HBT.out c2
          have HR1 := hide (keeps_block hk HRG.out HR0.out)
          have HK1 := hide (HK0.out.trans hk)
          have HX1 := hide hx
          clear c1 c2 hk hx
          have c1 := d1
          have c2 := d2
          clear d1 d2
          go_wp2_with fail
          (with_reducible refine (verdictProg HX1.out HN2.out).mono ?_)
          rintro e w2 ht2
          rw [HV1.out] at ht2
          obtain ⟨rfl, hk, hx⟩ := ht2
          have d1 := keeps_cell hk HBN.out c1
          have d2 := keeps_cell hk HBT.out c2
          have HR2 := hide (keeps_block hk HRG.out HR1.out)
          have HK2 := hide (HK1.out.trans hk)
          have HX2 := hide hx
          clear c1 c2 hk hx
          have c1 := d1
          have c2 := d2
          clear d1 d2
          go_wp2_with fail
          have hgU : g < w2.heap.size := Nat.lt_of_lt_of_le HG.out HK2.out.below.size
          have HRU : Hid (w.heap.size ≠ w2.heap.size) := hide (Nat.ne_of_lt (block_lt HR2.out))
          have HUG : Hid (w2.heap.size ≠ g) := hide (Nat.ne_of_gt hgU)
          have HWU : Hid (w.heap.size ≤ w2.heap.size) := hide HK2.out.below.size
          have hB3 : Below w2.heap.size w2 (w2.alloc (boxV 0 0 0 0)) := (Below.refl _ _).alloc (Nat.le_refl _) _
          have HK3 := hide (keeps_old HK2.out HG.out hB3)
          have HX3 := hide (box_kept HX2.out hB3)
          have HGO0 : Hid (∀ res, Goes (tries z) 0 N (fun _ => false) s res → Bis (tries z) n l res) := hide fun res hg => .goes HV0.out HV1.out (HN1.out ▸ hg)
          clear hB3 hgU
          go_loopw [6, 7] (fun s6 s7 wr => ∃ (lo hi : Nat) (p : Nat → Bool) (a b c d : Nat) (m : List Int), s6 = .int .i64 (lo : Int) ∧ s7 = .int .i64 (hi : Int) ∧ lo ≤ hi ∧ hi < 256 ∧ Hid (Sp p a b c d) ∧ Hid (∀ res, Goes (tries z) lo hi p m res → Bis (tries z) n l res) ∧ Keeps g w wr ∧ Box wr g 117 m ∧ wr.heap[w.heap.size]? = some (boxQ false nilV nilV nilV) ∧ wr.heap[w2.heap.size]? = some (boxV a b c d)) (fun _ _ wr => leftOf wr g)
          case atStart => exact ⟨0, N, fun _ => false, 0, 0, 0, 0, s, rfl, rfl, Nat.zero_le _, HN2.out, hide Sp.zero, HGO0, HK3.out, HX3.out, old_block HR2.out _, new_block w2 _⟩
          case round =>
            obtain ⟨lo, hi, p, a, b, c, d, m, rfl, rfl, hle, hhi, HS, HGO, hK, hX, hR, hU⟩ := hrel
            have HLE := hide hle
            have HHI := hide hhi
            have HK := hide hK
            have HXr := hide hX
            have HR := hide hR
            have HU := hide hU
            clear hle hhi hK hX hR hU c1 c2
            obtain ⟨q0, q1, q2, q3⟩ := box_cells HU.out
            have c2 := keeps_cell HK.out HBT.out HT.out
            go_wp2_with fail
            (with_reducible refine (nearestProg HS.out HLE.out HHI.out).mono ?_)
            rintro e wA ⟨he, hBA⟩
            have HKA := hide (keeps_old HK.out HG.out hBA)
            have HXA := hide (box_kept HXr.out hBA)
            have HRA := hide ((hBA.block _ (block_lt HR.out)).trans HR.out)
            have HUA := hide ((hBA.block _ (block_lt HU.out)).trans HU.out)
            clear q0 q1 q2 q3 c2 hBA
            have c2 := keeps_cell HKA.out HBT.out HT.out
            cases hn : near lo hi p with
            | none =>
              rw [hn] at he
              have HNE := hide hn
              clear hn
              obtain rfl := he
              obtain ⟨x0, x1, x2, x3⟩ := q_cells HRA.out
              have s0 := frozen_of HRA.out 0
              have s1 := frozen_of HRA.out 1
              have s2 := frozen_of HRA.out 2
              have s3 := frozen_of HRA.out 3
              have hbR := block_lt HRA.out
              go_wp2_with fail
              refine final8 (X := (putQ wA w.heap.size true nilV (.slice (some ⟨wA.heap.size, 0, none⟩) 2 2) nilV).alloc (.cells #[.int .i64 (lo : Int), .int .i64 (hi : Int)] 3)) rfl ?_
              have HP := hide (putQ_block (e := true) (b := nilV) (l := .slice (some ⟨wA.heap.size, 0, none⟩) 2 2) (q := nilV) HRA.out)
              have HQ := hide (keeps_put HG.out HKA.out (d := true) (a := nilV) (l := .slice (some ⟨wA.heap.size, 0, none⟩) 2 2) (p := nilV) (Nat.le_refl _))
              have HXQ := hide (box_put HXA.out HG.out (d := true) (a := nilV) (k := .slice (some ⟨wA.heap.size, 0, none⟩) 2 2) (p := nilV))
              have HZ : Hid ((putQ wA w.heap.size true nilV (.slice (some ⟨wA.heap.size, 0, none⟩) 2 2) nilV).heap.size = wA.heap.size) := hide putQ_size
              have hws : w.heap.size ≤ wA.heap.size := HKA.out.below.size
              generalize putQ wA w.heap.size true nilV (.slice (some ⟨wA.heap.size, 0, none⟩) 2 2) nilV = X at *
              have hB := (Below.refl X.heap.size X).alloc (Nat.le_refl _) (.cells #[.int .i64 (lo : Int), .int .i64 (hi : Int)] 3)
              obtain ⟨y0, y1, y2, y3⟩ := q_cells (old_block HP.out (.cells #[.int .i64 (lo : Int), .int .i64 (hi : Int)] 3))
              have HKX := hide (keeps_old HQ.out HG.out hB)
              have HXX := hide (box_kept HXQ.out hB)
              have HLH : Hid ((X.alloc (.cells #[.int .i64 (lo : Int), .int .i64 (hi : Int)] 3)).heap[wA.heap.size]? = some (.cells #[.int .i64 (lo : Int), .int .i64 (hi : Int)] 3 (0, 0))) := hide (alloc_at HZ.out)
              clear hB
              generalize X.alloc (.cells #[.int .i64 (lo : Int), .int .i64 (hi : Int)] 3) = Y at *
              refine bodyPost_ret (v := .tuple #[questV true nilV (.slice (some ⟨wA.heap.size, 0, none⟩) 2 2) nilV, .int .i64 0]) (by simp [results, Try.results24, go_sem, y0, y1, y2, y3]) rfl ?_
              exact ⟨_, HGO.out _ (.fin HNE.out), wA.heap.size, rfl, HLH.out, hws, HKX.out, HXX.out⟩
            | some v =>
              rw [hn] at he
              have HNE := hide hn
              clear hn
              obtain rfl := he
              have HV : Hid (v < 256) := hide (by have := near_in HNE.out; have := HHI.out; omega)
              go_wp2_with fail
              (with_reducible refine (verdictProg HXA.out HV.out).mono ?_)
              rintro e wB ht
              cases hv : ver (tries z) 3 m with
              | none =>
                rw [hv] at ht
                have HVM := hide hv
                clear hv
                obtain ⟨a', b', c', d', rfl, hp, hk⟩ := ht
                unfold asks4
                have HP := hide hp
                have HKB := hide (HKA.out.trans hk)
                clear hp hk
                go_wp2_with fail
                refine ⟨rfl, _, HGO.out _ (.ask HNE.out HVM.out), ?_⟩
                exact ⟨a', b', c', d', rfl, HP.out, HKB.out⟩
              | some xr =>
                obtain ⟨x, rr⟩ := xr
                rw [hv] at ht
                have HVM := hide hv
                clear hv
                obtain ⟨rfl, hk, hx⟩ := ht
                have HRB := hide (keeps_block hk HRG.out HRA.out)
                have HUB := hide (keeps_block hk HUG.out HUA.out)
                have HKB := hide (HKA.out.trans hk)
                have HXB := hide hx
                clear hk hx c2
                rcases ver_value HVM.out with rfl | rfl | rfl
                · go_wp2_with fail
                  refine ⟨⟨v, hi, p, a, b, c, d, rr, rfl, rfl, by have := near_in HNE.out; omega, HHI.out, HS, hide fun res hg => HGO.out res (.pass HNE.out HVM.out hg), HKB.out, HXB.out, HRB.out, HUB.out⟩, ?_⟩
                  rw [left_box HXB.out, left_box HXr.out]
                  exact ver_less HT1.out HVM.out
                · go_wp2_with fail
                  refine ⟨⟨lo, v, p, a, b, c, d, rr, rfl, rfl, by have := near_in HNE.out; omega, HV.out, HS, hide fun res hg => HGO.out res (.fail HNE.out HVM.out hg), HKB.out, HXB.out, HRB.out, HUB.out⟩, ?_⟩
                  rw [left_box HXB.out, left_box HXr.out]
                  exact ver_less HT1.out HVM.out
                · obtain ⟨q0, q1, q2, q3⟩ := box_cells HUB.out
                  have hbU := block_lt HUB.out
                  go_wp2_with fail
                  go_region_with (first
                    | (go_at_call 28
                       (with_reducible refine (setOfProg (xs := [v]) (nats_one (B := wB.heap.size) (v := v) (by simp)) (by intro k hk; rw [List.mem_singleton] at hk; rw [hk]; exact HV.out)).mono ?_)
                       rintro e wC ⟨e0, f0, g0, h0, rfl, hp, hBC⟩
                       have HP := hide hp
                       have HBC := hide ((Below.drew ((Below.refl wB.heap.size wB).alloc (Nat.le_refl _) (.cells #[.int .i64 (v : Int)] 3))).trans (hBC.mono (by simp)))
                       have HUC := hide ((HBC.out.block _ hbU).trans HUB.out)
                       clear q0 q1 q2 q3 hp hBC
                       obtain ⟨q0, q1, q2, q3⟩ := box_cells HUC.out
                       have hbC := block_lt HUC.out)
                    | (go_at_call 27
                       (with_reducible refine (withSet HS.out HP.out).mono ?_)
                       rintro e wD ⟨rfl, hBD⟩
                       have HBD := hide (HBC.out.trans (hBD.mono HBC.out.size))
                       have HUD := hide ((HBD.out.block _ hbU).trans HUB.out)
                       clear q0 q1 q2 q3 hBD
                       obtain ⟨q0, q1, q2, q3⟩ := box_cells HUD.out
                       have r0 := frozen_of HUD.out 0
                       have r1 := frozen_of HUD.out 1
                       have r2 := frozen_of HUD.out 2
                       have r3 := frozen_of HUD.out 3)
                    | fail)
                  all_goals
                    go_wp2_with fail
                    have HKD := hide (keeps_putV HG.out (keeps_old HKB.out HG.out HBD.out) HWU.out (a := a ||| e0) (b := b ||| f0) (c := c ||| g0) (d := d ||| h0))
                    have HXD := hide (box_putV (box_kept HXB.out HBD.out) (Nat.lt_of_lt_of_le HG.out HWU.out) (a := a ||| e0) (b := b ||| f0) (c := c ||| g0) (d := d ||| h0))
                    have HRD := hide ((putV_other (a := a ||| e0) (b := b ||| f0) (c := c ||| g0) (d := d ||| h0) HRU.out).trans ((HBD.out.block _ (block_lt HRB.out)).trans HRB.out))
                    have HUX := hide (putV_block (e := a ||| e0) (f := b ||| f0) (g := c ||| g0) (h := d ||| h0) HUD.out)
                    have hm := left_box HXD.out
                    refine ⟨⟨lo, hi, fun i => p i || i == v, a ||| e0, b ||| f0, c ||| g0, d ||| h0, rr, rfl, rfl, HLE.out, HHI.out, hide (HS.out.one HP.out), hide fun res hg => HGO.out res (.skip HNE.out HVM.out hg), HKD.out, HXD.out, HRD.out, HUX.out⟩, ?_⟩
                    exact Nat.lt_of_le_of_lt (Nat.le_of_eq hm) (by rw [left_box HXr.out]; exact ver_less HT1.out HVM.out)
        · have ey0 : (y == (2 : Int)) = false := beq_false_of_ne ey
          have EY := hide ey
          clear ey
          go_wp2_with fail
          (with_reducible refine (verdict0 HX0.out).mono ?_)
          rintro e w1 ht1
          rw [HV0.out] at ht1
          obtain ⟨rfl, hk, hx⟩ := ht1
          have d1 := keeps_cell hk HBN.out c1
          have d2 := keeps_cell hk HBT.out c2
          have HR1 := hide (keeps_block hk HRG.out HR0.out)
          have HK1 := hide (HK0.out.trans hk)
          have HX1 := hide hx
          clear c1 c2 hk hx
          have c1 := d1
          have c2 := d2
          clear d1 d2
          go_wp2_with fail
          (with_reducible refine (verdictProg HX1.out HN2.out).mono ?_)
          rintro e w2 ht2
          rw [HV1.out] at ht2
          obtain ⟨rfl, hk, hx⟩ := ht2
          have d1 := keeps_cell hk HBN.out c1
          have d2 := keeps_cell hk HBT.out c2
          have HR2 := hide (keeps_block hk HRG.out HR1.out)
          have HK2 := hide (HK1.out.trans hk)
          have HX2 := hide hx
          clear c1 c2 hk hx
          have c1 := d1
          have c2 := d2
          clear d1 d2
          have s0 := frozen_of HR2.out 0
          have s1 := frozen_of HR2.out 1
          have s2 := frozen_of HR2.out 2
          have s3 := frozen_of HR2.out 3
          obtain ⟨q0, q1, q2, q3⟩ := q_cells HR2.out
          go_wp2_with fail
          refine final8 (X := putQ w2 w.heap.size false nilV nilV nilV) rfl ?_
          have HP := hide (putQ_block (e := false) (b := nilV) (l := nilV) (q := nilV) HR2.out)
          have HQ := hide (keeps_put HG.out HK2.out (d := false) (a := nilV) (l := nilV) (p := nilV) (Nat.le_refl _))
          generalize putQ w2 w.heap.size false nilV nilV nilV = X at *
          obtain ⟨x0, x1, x2, x3⟩ := q_cells HP.out
          refine bodyPost_ret (v := .tuple #[questV false nilV nilV nilV, .int .i64 7]) (by simp [results, Try.results24, go_sem, x0, x1, x2, x3]) rfl ?_
          exact ⟨_, .bad1 HV0.out HV1.out EY.out, rfl, HQ.out⟩
    · have ex0 : (x == (1 : Int)) = false := beq_false_of_ne ex
      have EX := hide ex
      clear ex
      go_wp2_with fail
      (with_reducible refine (verdict0 HX0.out).mono ?_)
      rintro e w1 ht1
      rw [HV0.out] at ht1
      obtain ⟨rfl, hk, hx⟩ := ht1
      have d1 := keeps_cell hk HBN.out c1
      have d2 := keeps_cell hk HBT.out c2
      have HR1 := hide (keeps_block hk HRG.out HR0.out)
      have HK1 := hide (HK0.out.trans hk)
      have HX1 := hide hx
      clear c1 c2 hk hx
      have c1 := d1
      have c2 := d2
      clear d1 d2
      have s0 := frozen_of HR1.out 0
      have s1 := frozen_of HR1.out 1
      have s2 := frozen_of HR1.out 2
      have s3 := frozen_of HR1.out 3
      obtain ⟨q0, q1, q2, q3⟩ := q_cells HR1.out
      go_wp2_with fail
      refine final8 (X := putQ w1 w.heap.size false nilV nilV nilV) rfl ?_
      have HP := hide (putQ_block (e := false) (b := nilV) (l := nilV) (q := nilV) HR1.out)
      have HQ := hide (keeps_put HG.out HK1.out (d := false) (a := nilV) (l := nilV) (p := nilV) (Nat.le_refl _))
      generalize putQ w1 w.heap.size false nilV nilV nilV = X at *
      obtain ⟨x0, x1, x2, x3⟩ := q_cells HP.out
      refine bodyPost_ret (v := .tuple #[questV false nilV nilV nilV, .int .i64 7]) (by simp [results, Try.results24, go_sem, x0, x1, x2, x3]) rfl ?_
      exact ⟨_, .bad0 HV0.out EX.out, rfl, HQ.out⟩
end Go.Proofs.Ytdpgcoicbagflaa.Bi
