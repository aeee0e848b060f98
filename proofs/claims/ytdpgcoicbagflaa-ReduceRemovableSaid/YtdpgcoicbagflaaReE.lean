import Derived.Test.YtdpgcoicbagflaaOrF
set_option maxRecDepth 100000
set_option linter.unusedSimpArgs false
set_option linter.unusedVariables false
namespace Go.Proofs.Ytdpgcoicbagflaa.Se
open Go Go.Ms Go.Pg Go.Bi Go.Se Go.ChangeShapes Go.WideShapes Go.ChangeAt Go.RowKit Go.Deep Go.Proofs.Ytdpgcoicbagflaa.Bi

abbrev ofN (xs : List Nat) : List Int := xs.map fun n : Nat => (n : Int)
theorem NatsM.ints {w : World} {m : Nat} {v : Value} {xs : List Nat} (h : NatsM w m v xs) : IntsW w v (ofN xs) := by
  obtain ⟨oa, cap, rfl, hl, hc⟩ := h
  refine ⟨oa, cap, by simp, by simpa using hl, fun i hi => ?_⟩
  obtain ⟨b, o, e, _, hx⟩ := hc i (by simpa using hi)
  exact ⟨b, o, e, by simpa using hx⟩
theorem natsM_up {w w' : World} {m m' : Nat} {v : Value} {xs : List Nat} (h : NatsM w m v xs) (hm : m ≤ m') (hw : m ≤ w.heap.size) (hB : Below w.heap.size w w') : NatsM w' m' v xs := by
  obtain ⟨oa, cap, rfl, hl, hc⟩ := h
  exact ⟨oa, cap, rfl, hl, fun i hi => by
    obtain ⟨b, o, e, hb, hx⟩ := hc i hi
    exact ⟨b, o, e, by omega, (hB.cell (p := ⟨b, o + i, none⟩) (by show b < w.heap.size; omega)).trans hx⟩⟩
theorem enters37 (args : Array Value) (W : World) : (callFunc 37 args).run Try.prog W = .ok (.enter 37 args) W := by
  simp [callFunc, go_sem, Try.func37]
  rfl
theorem pairwise_of {xs : List Nat} (h : IsSet (ofN xs) 256) : xs.Pairwise (· < ·) ∧ ∀ n ∈ xs, n < 256 := by
  have step : ∀ i, (hi : i + 1 < xs.length) → xs[i] < xs[i + 1] := fun i hi => by
    have := (h (i + 1) (by simpa using hi) (by simpa using hi)).2 i (by simp; omega) rfl
    simp at this
    exact this
  have far : ∀ d i, (hi : i + (d + 1) < xs.length) → xs[i] < xs[i + (d + 1)] := fun d => by
    induction d with
    | zero => intro i hi; exact step i hi
    | succ d ih =>
      intro i hi
      have h1 := ih i (by omega)
      have h2 := step (i + (d + 1)) (by omega)
      exact Nat.lt_trans h1 h2
  refine ⟨List.pairwise_iff_getElem.2 fun i j hi hj hij => ?_, fun n hn => ?_⟩
  · obtain ⟨d, rfl⟩ : ∃ d, j = i + (d + 1) := ⟨j - i - 1, by omega⟩
    exact far d i hj
  · obtain ⟨i, hi, rfl⟩ := List.getElem_of_mem hn
    have := (h i (by simpa using hi) (by simpa using hi)).1
    simp at this
    omega
set_option maxHeartbeats 8000000 in
theorem removableProg {w : World} {v an : Value} {xs : List Nat} {l : List Int} (hv : NatsM w w.heap.size v xs) (hset : IsSet (ofN xs) 256) (ha : Vs w w.heap.size an l) (hl : l.length ≤ 4096) (hwf : ∀ x ∈ l, 0 ≤ x ∧ x < 256) :
    Calls Try.prog 15 #[v, an] w fun e w' => ∃ res, res = rem xs xs l ∧ Gives w.heap.size w' res e ∧ Below w.heap.size w w' := by
  obtain ⟨hd, hx⟩ := pairwise_of hset
  have hB0 := ((Below.refl w.heap.size w).alloc (Nat.le_refl _) (.cells #[v] 24)).alloc (by simp) (boxQ false nilV nilV nilV)
  have HB0 := hide hB0
  have HV := hide (hv.keep hB0)
  have HVA := hide (vs_self ha hB0)
  have HBX : Hid (((w.alloc (.cells #[v] 24)).alloc (boxQ false nilV nilV nilV)).heap[w.heap.size]? = some (.cells #[v] 24 (0, 0))) := hide (old_block (new_block w _) _)
  have HR0 : Hid (((w.alloc (.cells #[v] 24)).alloc (boxQ false nilV nilV nilV)).heap[w.heap.size + 1]? = some (boxQ false nilV nilV nilV)) := hide (alloc_at (by simp))
  have hsz : ((w.alloc (.cells #[v] 24)).alloc (boxQ false nilV nilV nilV)).heap.size = w.heap.size + 2 := by simp
  have HSZ := hide hsz
  have x0 : ((w.alloc (.cells #[v] 24)).alloc (boxQ false nilV nilV nilV)).cell? ⟨w.heap.size, 0, none⟩ = some v := cell_of HBX.out 0
  have HIS := hide (isSetProg (HV.out.ints) hset)
  have HX := hide hx
  have HD := hide hd
  have HL := hide hl
  have HWF := hide hwf
  have hmf : ∀ (fn : Fn) (first cap : Array Value) (w : World), (Instr.makeFunc fn first cap).run Try.prog w = .ok (.func fn first cap) w := fun _ _ _ _ => rfl
  obtain ⟨oa, cap, rfl, -, -⟩ := hv
  obtain ⟨oan, capn, rfl, -, -, -⟩ := ha
  clear hB0 hl hwf hx hd hset hsz
  go_enter Try.func15, Try.ntmps15
  go_wp2_with fail
  (with_reducible refine HIS.out.mono ?_)
  rintro e w1 ⟨rfl, d, rfl⟩
  clear HIS
  generalize (w.alloc (.cells #[.slice oa xs.length cap] 24)).alloc (boxQ false nilV nilV nilV) = W at *
  have HSR := hide (searchS (w := W.drewN d) (fn := 37) (caps := #[.pointer (some ⟨w.heap.size, 0, none⟩)]) (R := fun res => res = rem xs xs l) HVA.out HL.out HWF.out enters37 fun g m W2 hW2 hm hs => by
    have hxW : W2.cell? ⟨w.heap.size, 0, none⟩ = some (.slice oa xs.length cap) := cell_old hW2 x0
    have hz : W.heap.size = w.heap.size + 2 := HSZ.out
    have hm2 : W.heap.size < m := hm
    exact removable1 hs hxW (by omega) (natsM_up (w := W.drewN d) HV.out (by omega) (by show w.heap.size ≤ W.heap.size; omega) hW2) HX.out HD.out (by have := hs.gt; have := hs.lt; show W.heap.size + 1 ≤ _; omega))
  go_wp2_with fail
  (with_reducible refine HSR.out.mono ?_)
  rintro e w1 ⟨res, hres, ho, hB⟩
  have HRES := hide hres
  obtain ⟨dd, oa1, na, ca, ok, nk, ck, op, np, cp, x, rfl, hkeep⟩ := gives_form ho
  have HKP := hide hkeep
  have hBd : Below W.heap.size W w1 := (belowN W.heap.size W d).trans hB
  have HB1 := hide (HB0.out.trans (hBd.mono HB0.out.size))
  have HR := hide ((hBd.block _ (block_lt HR0.out)).trans HR0.out)
  have hws : w.heap.size ≤ (W.drewN d).heap.size := HB0.out.size
  clear hres ho hkeep hB hBd x0
  obtain ⟨q0, q1, q2, q3⟩ := q_cells HR.out
  have s0 := Bi.frozen_of HR.out 0
  have s1 := Bi.frozen_of HR.out 1
  have s2 := Bi.frozen_of HR.out 2
  have s3 := Bi.frozen_of HR.out 3
  go_wp2_with fail
  refine final8 (X := putQ w1 (w.heap.size + 1) dd (.slice oa1 na ca) (.slice ok nk ck) (.slice op np cp)) rfl ?_
  have HP := hide (putQ_block (e := dd) (b := .slice oa1 na ca) (l := .slice ok nk ck) (q := .slice op np cp) HR.out)
  have HQ := hide (putQ_below (d := dd) (a := .slice oa1 na ca) (l := .slice ok nk ck) (p := .slice op np cp) HB1.out (B := w.heap.size + 1) (by omega))
  have HO := hide (gives_low hws (HKP.out (putQ w1 (w.heap.size + 1) dd (.slice oa1 na ca) (.slice ok nk ck) (.slice op np cp)) fun b cs hh => putQ_other (fun e => by subst e; rw [HR.out] at hh; injection hh with hh; injection hh with _ ht; cases ht)))
  clear HKP
  generalize putQ w1 (w.heap.size + 1) dd (.slice oa1 na ca) (.slice ok nk ck) (.slice op np cp) = X at *
  obtain ⟨x0, x1, x2, x3⟩ := q_cells HP.out
  refine bodyPost_ret (v := .tuple #[questV dd (.slice oa1 na ca) (.slice ok nk ck) (.slice op np cp), .int .i64 x]) (by simp [results, Try.results15, go_sem, x0, x1, x2, x3]) rfl ?_
  exact ⟨res, HRES.out, HO.out, HQ.out⟩
end Go.Proofs.Ytdpgcoicbagflaa.Se

set_option maxRecDepth 100000
set_option linter.unusedSimpArgs false
set_option linter.unusedVariables false
namespace Go.Proofs.Ytdpgcoicbagflaa.Se
open Go Go.Ms Go.Pg Go.Bi Go.Se Go.ChangeShapes Go.WideShapes Go.ChangeAt Go.RowKit Go.Deep Go.Proofs.Ytdpgcoicbagflaa.Bi

def Awake : Prop := ∀ w : World, Calls Try.prog 14 #[] w fun e w' => e = .returned (.bool true) ∧ Below w.heap.size w w'
theorem EV : Go.Il.IntElem Try.prog 22 33 .u8 1 := Go.Il.IntElem.mk Try.underlying22 (by kernel_rfl)
theorem vs_own {w : World} {B : Nat} {v : Value} {l : List Int} (h : Go.Il.Own 33 .u8 B w v l) (hl : l.length ≤ 5000) : Vs w w.heap.size v l := by
  obtain ⟨oa, cap, rfl, hc⟩ := h.at
  rcases h.2 with ⟨e, h0⟩ | ⟨g, cap', cur, e, hb, hh, hnc, hcap, hr⟩
  · injection e with e1 e2 e3
    refine ⟨oa, cap, rfl, by omega, hl, fun i hi => by omega⟩
  · injection e with e1 e2 e3
    subst e1 e3
    refine ⟨_, _, rfl, hnc, hl, fun i hi => ?_⟩
    obtain ⟨g', e, hcell⟩ := hc i hi
    injection e with e
    injection e with e _
    subst e
    exact ⟨g, 0, rfl, block_lt hh, by simpa using hcell⟩
theorem own_up8 {w w' : World} {B : Nat} {v : Value} {l : List Int} (h : Go.Il.Own 33 .u8 B w v l) (hB : Below w.heap.size w w') : Go.Il.Own 33 .u8 B w' v l := Bi.own_same h fun g cs _ hh => hB.block g (block_lt hh)

theorem rem_skip {all : List Nat} : ∀ (l : List Int) (xs : List Nat) (r : List Int), (∀ a ∈ l, a ≠ 2) → l.length ≤ xs.length → rem all xs (l ++ r) = rem all (xs.drop l.length) r
  | [], xs, r, _, _ => by simp
  | a :: l, [], r, _, h => by simp at h
  | a :: l, x :: xs, r, ha, h => by
    have h1 := ha a (by simp)
    show rem all (x :: xs) (a :: (l ++ r)) = _
    simp only [rem, if_neg h1]
    rw [rem_skip l xs r (fun b hb => ha b (by simp [hb])) (by simpa using h)]
    simp
theorem sorted_ext : ∀ {l m : List Nat}, l.Pairwise (· < ·) → m.Pairwise (· < ·) → (∀ x, x ∈ l ↔ x ∈ m) → l = m
  | [], [], _, _, _ => rfl
  | [], b :: m, _, _, h => absurd ((h b).2 (by simp)) (by simp)
  | a :: l, [], _, _, h => absurd ((h a).1 (by simp)) (by simp)
  | a :: l, b :: m, hl, hm, h => by
    rw [List.pairwise_cons] at hl hm
    have hab : a = b := by
      have h1 := (h a).1 (by simp)
      have h2 := (h b).2 (by simp)
      rcases List.mem_cons.1 h1 with e | e
      · exact e
      · rcases List.mem_cons.1 h2 with f | f
        · exact f.symm
        · have := hm.1 a e; have := hl.1 b f; omega
    subst hab
    have := sorted_ext hl.2 hm.2 fun x => by
      have hx := h x
      simp only [List.mem_cons] at hx
      constructor
      · intro q
        have := hl.1 x q
        rcases hx.1 (.inr q) with e | e
        · omega
        · exact e
      · intro q
        have := hm.1 x q
        rcases hx.2 (.inr q) with e | e
        · omega
        · exact e
    rw [this]
theorem lacks_list {xs : List Nat} (hx : ∀ n ∈ xs, n < 256) (hd : xs.Pairwise (· < ·)) (x : Nat) : upTo (lacks xs x) 256 = minus (ofN xs) [(x : Int)] := by
  have e : (List.range 256).filter (lacks xs x) = xs.filter fun n => !decide (n = x) := by
    refine sorted_ext (List.Pairwise.filter _ List.pairwise_lt_range) (List.Pairwise.filter _ hd) fun n => ?_
    simp only [List.mem_filter, List.mem_range, lacks, among, List.mem_singleton, Bool.and_eq_true, decide_eq_true_eq, Bool.not_eq_true', decide_eq_false_iff_not]
    exact ⟨fun q => q.2, fun q => ⟨hx n q.1, q⟩⟩
  unfold upTo
  rw [e]
  unfold minus ofN
  rw [List.filter_map]
  congr 1
  apply List.filter_congr
  intro n _
  simp [Function.comp]
  omega
theorem intsSame17 {w : World} {s t : Value} {l : List Int} (hs : IntsW w s l) (ht : IntsW w t l) : Calls Try.prog 17 #[s, t] w fun e w' => e = .returned (.bool true) ∧ ∃ n, w' = w.drewN n := by
  have H := hide (intsSame hs ht)
  obtain ⟨os, cs, rfl, -, -⟩ := hs
  obtain ⟨ot, ct, rfl, -, -⟩ := ht
  go_enter Try.func17, Try.ntmps17
  go_wp2_with fail
  (with_reducible refine H.out.mono ?_)
  rintro e w1 ⟨rfl, n, rfl⟩
  go_wp2_with fail
  go_ret
  exact ⟨rfl, _, rfl⟩

set_option maxHeartbeats 4000000 in
theorem lawLong {w : World} {sn sb : Value} {o : Orc} {oa : Option Addr} {n cap : Nat} (h : 12 < n) (hA : Awake) : Calls Try.prog 5 #[orcV sn sb o, .slice oa n cap] w fun e w' => e = .returned (.bool true) ∧ Below w.heap.size w w' := by
  unfold Awake at hA
  have t1 : decide ((12 : Int) < (n : Int)) = true := decide_eq_true (by omega)
  have t2 : decide (12 < n) = true := decide_eq_true h
  clear h
  go_enter Try.func5, Try.ntmps5
  go_wp2_with fail
  (with_reducible refine (hA _).mono ?_)
  rintro e w' ⟨rfl, hB⟩
  go_wp2_with fail
  go_ret
  exact ⟨rfl, ((Below.refl _ _).alloc (Nat.le_refl _) _).trans (hB.mono (by simp))⟩
end Go.Proofs.Ytdpgcoicbagflaa.Se

set_option maxRecDepth 100000
set_option linter.unusedSimpArgs false
set_option linter.unusedVariables false
namespace Go.Proofs.Ytdpgcoicbagflaa.Se
open Go Go.Ms Go.Pg Go.Bi Go.Se Go.ChangeShapes Go.WideShapes Go.ChangeAt Go.RowKit Go.Deep Go.Proofs.Ytdpgcoicbagflaa.Bi

abbrev boxO (sn sb : Value) (o : Orc) : Obj := .cells #[sn, sb, .int .u64 (o.salt : Int), .int .u8 (o.loose : Int)] 39
def YesR (w : World) (args : Array Value) : Prop := Calls Try.prog 5 args w fun e w' => e = .returned (.bool true) ∧ Below w.heap.size w w'

set_option maxHeartbeats 8000000 in
theorem lawGreat {w : World} {sn sb : Value} {o : Orc} {oa : Option Addr} {n cap : Nat} (h : n ≤ 12) (ho : OrcAt w sn sb o) (hg : great o = true) (hA : Awake) : YesR w #[orcV sn sb o, .slice oa n cap] := by
  unfold YesR
  unfold Awake at hA
  have t1 : decide ((12 : Int) < (n : Int)) = false := decide_eq_false (by omega)
  have t2 : decide (12 < n) = false := decide_eq_false (by omega)
  have hB0 := (Below.refl w.heap.size w).alloc (Nat.le_refl _) (boxO sn sb o)
  have HB0 := hide hB0
  have HG := hide (greatRef (ho.old hB0))
  rw [hg] at HG
  have HX := hide (new_block w (boxO sn sb o))
  have x0 : (w.alloc (boxO sn sb o)).cell? ⟨w.heap.size, 0, none⟩ = some sn := cell_of HX.out 0
  have x1 : (w.alloc (boxO sn sb o)).cell? ⟨w.heap.size, 1, none⟩ = some sb := cell_of HX.out 1
  have x2 : (w.alloc (boxO sn sb o)).cell? ⟨w.heap.size, 2, none⟩ = some (.int .u64 (o.salt : Int)) := cell_of HX.out 2
  have x3 : (w.alloc (boxO sn sb o)).cell? ⟨w.heap.size, 3, none⟩ = some (.int .u8 (o.loose : Int)) := cell_of HX.out 3
  clear hB0 ho hg h
  go_enter Try.func5, Try.ntmps5
  go_wp2_with fail
  (with_reducible refine HG.out.mono ?_)
  rintro e w1 ⟨rfl, hB1⟩
  have HB1 := hide (HB0.out.trans (hB1.mono HB0.out.size))
  clear hB1
  go_wp2_with fail
  (with_reducible refine (hA _).mono ?_)
  rintro e w' ⟨rfl, hB⟩
  have HB2 := hide (HB1.out.trans (hB.mono HB1.out.size))
  clear hB
  go_wp2_with fail
  go_ret
  exact ⟨rfl, HB2.out⟩

set_option maxHeartbeats 8000000 in
theorem lawNot {w : World} {sn sb : Value} {o : Orc} {v : Value} {l : List Int} (h : l.length ≤ 12) (ho : OrcAt w sn sb o) (hg : great o = false) (hl : IntsW w v l) (hn : ¬ IsSet l 256) (hA : Awake) : YesR w #[orcV sn sb o, v] := by
  unfold YesR
  unfold Awake at hA
  have hB0 := (Below.refl w.heap.size w).alloc (Nat.le_refl _) (boxO sn sb o)
  have HB0 := hide hB0
  have HG := hide (greatRef (ho.old hB0))
  rw [hg] at HG
  have HL := hide (ints_below hl hB0)
  have HN := hide hn
  have HX := hide (new_block w (boxO sn sb o))
  have x0 : (w.alloc (boxO sn sb o)).cell? ⟨w.heap.size, 0, none⟩ = some sn := cell_of HX.out 0
  have x1 : (w.alloc (boxO sn sb o)).cell? ⟨w.heap.size, 1, none⟩ = some sb := cell_of HX.out 1
  have x2 : (w.alloc (boxO sn sb o)).cell? ⟨w.heap.size, 2, none⟩ = some (.int .u64 (o.salt : Int)) := cell_of HX.out 2
  have x3 : (w.alloc (boxO sn sb o)).cell? ⟨w.heap.size, 3, none⟩ = some (.int .u8 (o.loose : Int)) := cell_of HX.out 3
  obtain ⟨oa, cap, rfl, -, -⟩ := hl
  have t1 : decide ((12 : Int) < (l.length : Int)) = false := decide_eq_false (by omega)
  have t2 : decide (12 < l.length) = false := decide_eq_false (by omega)
  clear hB0 ho hg hn h
  go_enter Try.func5, Try.ntmps5
  go_wp2_with fail
  (with_reducible refine HG.out.mono ?_)
  rintro e w1 ⟨rfl, hB1⟩
  have HB1 := hide (HB0.out.trans (hB1.mono HB0.out.size))
  have HL1 := hide (ints_below HL.out hB1)
  clear hB1
  go_wp2_with fail
  (with_reducible refine (setRef HL1.out).mono ?_)
  rintro e w2 ⟨r, rfl, hr, d, rfl⟩
  obtain rfl : r = false := by
    cases r with
    | false => rfl
    | true => exact absurd (hr.1 rfl) HN.out
  clear hr
  go_wp2_with fail
  (with_reducible refine (hA _).mono ?_)
  rintro e w' ⟨rfl, hB⟩
  have HB2 := hide ((HB1.out.trans (belowN _ _ d)).trans (hB.mono (by exact HB1.out.size)))
  clear hB
  go_wp2_with fail
  go_ret
  exact ⟨rfl, HB2.out⟩
end Go.Proofs.Ytdpgcoicbagflaa.Se

