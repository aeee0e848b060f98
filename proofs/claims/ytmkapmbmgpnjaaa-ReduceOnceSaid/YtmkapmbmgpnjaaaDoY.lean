import Derived.Test.YtmkapmbmgpnjaaaDmL
import Derived.Test.YtmkapmbmgpnjaaaDmT
import Derived.Test.YtmkapmbmgpnjaaaDsM
import Derived.Test.YtmkapmbmgpnjaaaDcH
import Derived.Test.YtmkapmbmgpnjaaaDlI
import Derived.Test.YtmkapmbmgpnjaaaGrF
set_option maxRecDepth 100000
set_option linter.unusedSimpArgs false
set_option linter.unusedVariables false
namespace Go.Proofs.Ytmkapmbmgpnjaaa.Se
open Go Go.Ms Go.Pg Go.Bi Go.Se Go.ChangeShapes Go.WideShapes Go.ChangeAt Go.RowKit Go.Deep Go.Proofs.Ytmkapmbmgpnjaaa.Bi

/-! Any of the four searches. -/
structure Search (wh z st : Int) (N : Nat) (o : Q4 → Int) (t : Tr) : Prop where
  asks : Asker wh z st t
  low : Asks (LowQ N) t
  first : ∃ q k, t = .ask q k
  ended : (∃ k p, leaf o t [] = .fin k p []) ∨ leaf o t [] = .err 7
theorem least_ended {o : Q4 → Int} {n : Nat} {t : Tr} (h : Least o n t) : (∃ k p, leaf o t [] = .fin k p []) ∨ leaf o t [] = .err 7 := by
  rcases h with ⟨-, k, h, -⟩ | ⟨-, h⟩
  · exact .inl ⟨_, _, h⟩
  · exact .inr h
theorem search_of {wh : Nat} {z st : Int} {N : Nat} {o : Q4 → Int} (h4 : wh < 4) (hz : z ≤ 256) (hN : max z 0 = (N : Int)) : ∃ t, Search (wh : Int) z st N o t := by
  obtain ⟨q, hq⟩ : ∃ q : Nat, min (max st 1) 256 = (q : Int) := ⟨(min (max st 1) 256).toNat, by omega⟩
  have hn : N ≤ 256 := by omega
  rcases (show wh = 0 ∨ wh = 1 ∨ wh = 2 ∨ wh = 3 by omega) with rfl | rfl | rfl | rfl
  · exact ⟨listN N, fun W an l hv hl hwf => askList (by omega) hN hv hl hwf, asks_listN hn, ⟨_, _, rfl⟩, least_ended (listN_leaf hn [])⟩
  · exact ⟨countN N q (lastOf q), fun W an l hv hl hwf => askCount (by omega) hN hq hv hl hwf, asks_countN N q (lastOf q), ⟨_, _, rfl⟩, least_ended (countN_leaf (start_of (by omega) (by omega)) hn [])⟩
  · exact ⟨diff N, fun W an l hv hl hwf => askDiff (by omega) hN hv hl hwf, asks_diff N, ⟨_, _, rfl⟩, by
      rcases diff_leaf (o := o) hn [] with ⟨-, -, b, h, -⟩ | ⟨-, h⟩
      · exact .inl ⟨_, _, h⟩
      · exact .inr h⟩
  · exact ⟨changesN N, fun W an l hv hl hwf => askChanges (by omega) hN hv hl hwf, asks_changesN hn, ⟨_, _, rfl⟩, least_ended (changesN_leaf hn [])⟩
theorem Search.some {wh z st : Int} {N : Nat} {o : Q4 → Int} {t : Tr} (h : Search wh z st N o t) : 0 < (trace o t []).length := by
  obtain ⟨q, k, rfl⟩ := h.first
  have e : trace o (.ask q k) [] = q :: trace o (k (o q)) [(q, o q)] := rfl
  rw [e]
  simp
theorem Search.sane {wh z st : Int} {N : Nat} {o : Q4 → Int} {t : Tr} (h : Search wh z st N o t) : leaf o t [] ≠ .err 0 := by
  rcases h.ended with ⟨k, p, e⟩ | e <;> rw [e] <;> intro q <;> cases q
theorem upTo_inj {q r : Q4} (hq : q.Ok) (hr : r.Ok) (h : upTo (memQ q) 256 = upTo (memQ r) 256) : q = r := by
  refine mem_ext hq hr fun n hn => ?_
  have e : memQ q n = true ↔ memQ r n = true := by
    have h1 : ((n : Int) ∈ upTo (memQ q) 256) ↔ ((n : Int) ∈ upTo (memQ r) 256) := by rw [h]
    rw [mem_upTo, mem_upTo] at h1
    constructor
    · intro hm
      obtain ⟨i, _, hi, e⟩ := h1.1 ⟨n, hn, hm, rfl⟩
      rw [show n = i from by omega]
      exact hi
    · intro hm
      obtain ⟨i, _, hi, e⟩ := h1.2 ⟨n, hn, hm, rfl⟩
      rw [show n = i from by omega]
      exact hi
  cases h1 : memQ q n <;> cases h2 : memQ r n <;> simp_all
theorem leaf_at {o : Q4 → Int} : ∀ (t : Tr) (l : List Int), (∃ k p, leaf o t [] = .fin k p [] ∧ leaf o t l = .fin k p l) ∨ (∃ x, leaf o t [] = .err x ∧ leaf o t l = .err x)
  | .fin k p, l => .inl ⟨k, p, rfl, rfl⟩
  | .err x, l => .inr ⟨x, rfl, rfl⟩
  | .ask q k, l => leaf_at (k (o q)) l
abbrev askedL (o : Q4 → Int) (t : Tr) : List (List Int) := (trace o t []).map fun q => upTo (memQ q) 256
theorem asked_apart {wh z st : Int} {N : Nat} {o : Q4 → Int} {t : Tr} (h : Search wh z st N o t) {i k : Nat} (hi : i < (askedL o t).length) (hk : k < (askedL o t).length) (hne : k < i) : (askedL o t)[i] ≠ (askedL o t)[k] := by
  have hi2 : i < (trace o t []).length := by simpa using hi
  have hk2 : k < (trace o t []).length := by simpa using hk
  intro e
  rw [List.getElem_map, List.getElem_map] at e
  have l := trace_asks (o := o) h.low (T := [])
  have e2 := upTo_inj (l _ (List.getElem_mem hi2)).ok (l _ (List.getElem_mem hk2)).ok e
  have := List.pairwise_iff_getElem.1 (List.nodup_iff_pairwise_ne.1 (trace_nodup (o := o) (t := t) (T := [])).1) k i hk2 hi2 hne
  exact this e2.symm
theorem upTo_len (q : Q4) : (upTo (memQ q) 256).length ≤ 256 := by
  unfold upTo
  rw [List.length_map]
  exact Nat.le_trans (List.length_filter_le _ _) (by simp)
end Go.Proofs.Ytmkapmbmgpnjaaa.Se

set_option maxRecDepth 100000
set_option linter.unusedSimpArgs false
set_option linter.unusedVariables false
namespace Go.Proofs.Ytmkapmbmgpnjaaa.Se
open Go Go.Ms Go.Pg Go.Bi Go.Se Go.ChangeShapes Go.WideShapes Go.ChangeAt Go.RowKit Go.Deep Go.Proofs.Ytmkapmbmgpnjaaa.Bi

/-! The law ReduceOnce. -/
def YesO (w : World) (args : Array Value) : Prop := Calls Try.prog 10 args w fun e w' => e = .returned (.bool true) ∧ Below w.heap.size w w'
set_option maxHeartbeats 8000000 in
theorem lawLongO {w : World} {sn sb : Value} {o : Orc} {z st cu : Int} {wq : Int} (hz : 8 < z) (hA : Awake) : YesO w #[orcV sn sb o, .int .i64 z, .int .i64 st, .int .u8 wq, .int .i64 cu] := by
  unfold YesO
  unfold Awake at hA
  have t1 : decide ((8 : Int) < z) = true := decide_eq_true hz
  have hB0 := (Below.refl w.heap.size w).alloc (Nat.le_refl _) (boxO sn sb o)
  have HB0 := hide hB0
  clear hB0 hz
  go_enter Try.func10, Try.ntmps10
  go_wp2_with fail
  (with_reducible refine (hA _).mono ?_)
  rintro e w' ⟨rfl, hB⟩
  have HB2 := hide (HB0.out.trans (hB.mono HB0.out.size))
  clear hB
  go_wp2_with fail
  go_ret
  exact ⟨rfl, HB2.out⟩
set_option maxHeartbeats 8000000 in
theorem lawGreatO {w : World} {sn sb : Value} {o : Orc} {z st cu : Int} {wq : Int} (hz : z ≤ 8) (ho : OrcAt w sn sb o) (hg : great o = true) (hA : Awake) : YesO w #[orcV sn sb o, .int .i64 z, .int .i64 st, .int .u8 wq, .int .i64 cu] := by
  unfold YesO
  unfold Awake at hA
  have t1 : decide ((8 : Int) < z) = false := decide_eq_false (by omega)
  have hB0 := (Below.refl w.heap.size w).alloc (Nat.le_refl _) (boxO sn sb o)
  have HB0 := hide hB0
  have HG := hide (greatRef (ho.old hB0))
  rw [hg] at HG
  obtain ⟨x0, x1, x2, x3⟩ := o_cells (new_block w (boxO sn sb o))
  clear hB0 ho hg hz
  go_enter Try.func10, Try.ntmps10
  go_wp2_with fail
  (with_reducible refine HG.out.mono ?_)
  rintro e w1 ⟨rfl, hB1⟩
  have HB1 := hide (HB0.out.trans (hB1.mono HB0.out.size))
  clear hB1
  go_wp2_with fail
  (with_reducible refine (hA _).mono ?_)
  rintro e w' ⟨rfl, hB⟩
  have HB2 := hide (HB1.out.trans (hB.mono HB1.out.size))
  clear hB
  go_wp2_with fail
  go_ret
  exact ⟨rfl, HB2.out⟩
theorem ints_ne {va vb : Value} {l m : List Int} {w : World} {n : Nat} (e : l ≠ m) (h : Calls Try.prog 22 #[va, vb] (w.drewN n) (Bi.Tells (l = m) (w.drewN n))) : Calls Try.prog 22 #[va, vb] (w.drewN n) fun e w'' => e = .returned (.bool false) ∧ ∃ k, w'' = w.drewN k :=
  h.mono fun e' w' ⟨r, he, hr, k, hw⟩ => by
    obtain rfl : r = false := by cases r with
      | false => rfl
      | true => exact absurd (hr.1 rfl) e
    exact ⟨he, n + k, by rw [hw, drews]⟩
theorem intsW_drewN {w : World} {v : Value} {l : List Int} (h : IntsW w v l) (n : Nat) : IntsW (w.drewN n) v l := h
theorem grid_block {B : Nat} {w : World} {g n cap : Nat} {ls : List (List Int)} (h : Grid B w (.slice (some ⟨g, 0, none⟩) n cap) ls) : ∃ ob : Obj, w.heap[g]? = some ob ∧ ∃ cs, ob = .cells cs 30 (0, 0) := by
  obtain ⟨xs, h1, h2⟩ := h
  rcases h1.2 with ⟨e, e0⟩ | ⟨g', cap2, cur, e, _, hg, _⟩
  · cases e
  · injection e with e1
    injection e1 with e1
    injection e1 with e1
    subst e1
    exact ⟨_, hg, _, rfl⟩
--H<
set_option maxHeartbeats 16000000 in
theorem lawMainO {w : World} {sn sb : Value} {o : Orc} {z st cu : Int} {wq : Nat} (hz : z ≤ 8) (ho : OrcAt w sn sb o) (hg : great o = false) (hA : Awake) : YesO w #[orcV sn sb o, .int .i64 z, .int .i64 st, .int .u8 (wq : Int), .int .i64 cu] := by
  unfold YesO
  unfold Awake at hA
  obtain ⟨N, hN⟩ : ∃ N : Nat, max z 0 = (N : Int) := ⟨(max z 0).toNat, by omega⟩
  obtain ⟨wh, hwh⟩ : ∃ wh, wh = wq % 4 := ⟨_, rfl⟩
  obtain ⟨t, hS⟩ := search_of (wh := wh) (st := st) (o := ora o) (by omega) (show z ≤ 256 by omega) hN
  have HS := hide hS
  have hfew : (trace (ora o) t []).length ≤ 4096 := few (n := N) (by omega) hS.low
  have HTR := hide hfew
  have HSR := hide (fun (W : World) (h : OrcAt W sn sb o) => searchedRef (w := W) h (small_of hg) hS.asks hfew hS.sane)
  obtain ⟨qs, hqs⟩ : ∃ qs, qs = (trace (ora o) t []).map fun q => upTo (memQ q) 256 := ⟨_, rfl⟩
  have HQS := hide hqs
  have e4 : (wq : Int).tmod 4 = (wh : Int) := by rw [Int.tmod_eq_emod_of_nonneg (by omega), hwh]; simp
  have w4 : IntKind.u8.wrap (wh : Int) = (wh : Int) := by simp [IntKind.wrap, IntKind.signed, IntKind.bits]; omega
  have HAW := hide hA
  have HSM := hide (small_of hg)
  have t1 : decide ((8 : Int) < z) = false := decide_eq_false (by omega)
  have hB0 := (Below.refl w.heap.size w).alloc (Nat.le_refl _) (boxO sn sb o)
  have HB0 := hide hB0
  have HO0 := hide (ho.old hB0)
  have HG := hide (greatRef HO0.out)
  rw [hg] at HG
  have HX0 := hide (new_block w (boxO sn sb o))
  obtain ⟨x0, x1, x2, x3⟩ := o_cells HX0.out
  rw [← hqs] at HSR
  clear hB0 ho hg hz hN hA hS hfew hwh hqs
  go_enter Try.func10, Try.ntmps10
  go_wp2_with fail
  (with_reducible refine HG.out.mono ?_)
  rintro e w1 ⟨rfl, hB1⟩
  have HB1 := hide (HB0.out.trans (hB1.mono HB0.out.size))
  have HO1 := hide (HO0.out.old hB1)
  have HX1 := hide ((hB1.block _ (block_lt HX0.out)).trans HX0.out)
  clear hB1 x0 x1 x2 x3 HG HO0 HX0 HB0
  obtain ⟨x0, x1, x2, x3⟩ := o_cells HX1.out
  go_wp2_with fail
  (with_reducible refine (HSR.out _ HO1.out).mono ?_)
  rintro e w3 ⟨hfd, hB3⟩
  obtain ⟨d, oa3, na3, ca3, ok, nk, ck, op, np, cp, av, er, rfl, her, hgr⟩ : ∃ d oa3 na3 ca3 ok nk ck op np cp av er, e = .returned (.tuple #[questV d (.slice oa3 na3 ca3) (.slice ok nk ck) (.slice op np cp), av, .int .i64 er]) ∧ (er = 0 ∨ er = 7) ∧ Grid w1.heap.size w3 av qs := by
    rcases HS.out.ended with ⟨k, p, he⟩ | he
    · rw [he] at hfd
      obtain ⟨kv, pv, av, rfl, hk, hp, hg⟩ := hfd
      obtain ⟨ok, ck, rfl⟩ := Go.Il.Own.form hk
      obtain ⟨op, cp, rfl⟩ := Go.Il.Own.form hp
      exact ⟨_, _, _, _, _, _, _, _, _, _, av, 0, rfl, .inl rfl, hg⟩
    · rw [he] at hfd
      obtain ⟨av, rfl, hg⟩ := hfd
      exact ⟨_, _, _, _, _, _, _, _, _, _, av, 7, rfl, .inr rfl, hg⟩
  obtain ⟨oav, cav, rfl⟩ := grid_form hgr
  have hA4 := (Below.refl w3.heap.size w3).alloc (Nat.le_refl _) (boxQ d (.slice oa3 na3 ca3) (.slice ok nk ck) (.slice op np cp))
  have HB4 := hide (HB1.out.trans ((hB3.trans (hA4.mono hB3.size)).mono HB1.out.size))
  have HX4 := hide (((hB3.trans (hA4.mono hB3.size)).block _ (block_lt HX1.out)).trans HX1.out)
  have HO4 := hide (HO1.out.old (hB3.trans (hA4.mono hB3.size)))
  have HG4 := hide (hgr.below hA4)
  clear hfd hB3 hgr hA4 HB1 HX1 HO1 x0 x1 x2 x3 HSR
  have HL : Hid (0 < qs.length ∧ qs.length ≤ 4096) := hide (by
    rw [HQS.out, List.length_map]
    exact ⟨HS.out.some, HTR.out⟩)
  obtain ⟨r, hr⟩ : ∃ r, r = cu.tmod (qs.length : Int) := ⟨_, rfl⟩
  have hr1 : r < (qs.length : Int) := by rw [hr]; exact Int.tmod_lt_of_pos _ (by have := HL.out; omega)
  have hr2 : -(qs.length : Int) < r := by
    have := Int.tmod_lt_of_pos (-cu) (show (0 : Int) < (qs.length : Int) by have := HL.out; omega)
    rw [Int.neg_tmod, ← hr] at this
    omega
  obtain ⟨C, hC⟩ : ∃ C : Nat, (r + (qs.length : Int)).tmod (qs.length : Int) = (C : Int) := by
    rw [Int.tmod_eq_emod_of_nonneg (by omega)]
    exact ⟨((r + (qs.length : Int)) % (qs.length : Int)).toNat, by rw [Int.toNat_of_nonneg]; exact Int.emod_nonneg _ (by have := HL.out; omega)⟩
  have HC : Hid (C < qs.length) := hide (by
    have := Int.tmod_lt_of_pos (r + (qs.length : Int)) (show (0 : Int) < (qs.length : Int) by have := HL.out; omega)
    omega)
  have HR : Hid (-4096 < r ∧ r < 4096) := hide (by have := HL.out; omega)
  have e5 := hr.symm
  have w5 : IntKind.i64.wrap r = r := by have := HR.out; simp [IntKind.wrap, IntKind.signed, IntKind.bits]; omega
  have w6 : IntKind.i64.wrap (r + (qs.length : Int)) = r + (qs.length : Int) := by have := HR.out; have := HL.out; simp [IntKind.wrap, IntKind.signed, IntKind.bits]; omega
  have w7 : IntKind.i64.wrap (C : Int) = (C : Int) := by have := HC.out; have := HL.out; simp [IntKind.wrap, IntKind.signed, IntKind.bits]; omega
  have l0 : ((qs.length : Int) == 0) = false := beq_false_of_ne (by have := HL.out; omega)
  have l1 : ¬ qs.length = 0 := by have := HL.out; omega
  have l2 : decide (qs.length = 0) = false := decide_eq_false l1
  have l3 : ¬ (qs.length : Int) = 0 := by omega
  clear hr hr1 hr2
  rcases her with rfl | rfl
  all_goals
    go_wp2_with fail
    change Code.wp _ _ _ _ (w3.alloc (boxQ d (.slice oa3 na3 ca3) (.slice ok nk ck) (.slice op np cp)))
    generalize w3.alloc (boxQ d (.slice oa3 na3 ca3) (.slice ok nk ck) (.slice op np cp)) = W4 at *
    go_loopw [15] (fun s15 wr => ∃ i : Nat, i ≤ qs.length ∧ s15 = .int .i64 (i : Int) ∧ Hid (Below W4.heap.size W4 wr)) (fun s15 _ => qs.length - (intOf s15).toNat)
    case atStart => exact ⟨0, Nat.zero_le _, rfl, hide (Below.refl _ _)⟩
    case round =>
      obtain ⟨i, hi, rfl, HBi⟩ := hrel
      by_cases hlt : i < qs.length
      · have hi1 : decide ((i : Int) < (qs.length : Int)) = true := decide_eq_true (by omega)
        have hi2 : decide (i < qs.length) = true := decide_eq_true hlt
        have HLT := hide hlt
        have hwi : IntKind.i64.wrap ((i : Int) + 1) = (i : Int) + 1 := wrap_upW hlt (by have := HL.out; omega)
        clear hlt
        go_wp2_with fail
        obtain ⟨wo, rfl⟩ : ∃ wo : World, wo = wr := ⟨_, rfl⟩
        go_loopw [16] (fun s16 wr => ∃ k : Nat, k ≤ i ∧ s16 = .int .i64 (k : Int) ∧ Hid (Below W4.heap.size W4 wr)) (fun s16 _ => i - (intOf s16).toNat)
        case atStart => exact ⟨0, Nat.zero_le _, rfl, HBi⟩
        case round =>
          obtain ⟨k, hk, rfl, HBk⟩ := hrel
          have HGk := hide (HG4.out.below HBk.out)
          by_cases hlk : k < i
          · have hk1 : decide ((k : Int) < (i : Int)) = true := decide_eq_true (by omega)
            have hk2 : decide (k < i) = true := decide_eq_true hlk
            have hwk : IntKind.i64.wrap ((k : Int) + 1) = (k : Int) + 1 := wrap_upW hlk (by have := HL.out; omega)
            have HNE : Hid (qs[i]'HLT.out ≠ qs[k]'(Nat.lt_trans hlk HLT.out)) := hide (by
              have hq := HQS.out
              subst hq
              exact asked_apart HS.out _ _ hlk)
            obtain ⟨gg, p1, k1, rfl, -, hx1, ho1⟩ := grid_get HGk.out (i := i) HLT.out
            obtain ⟨gg', p2, k2, e, -, hx2, ho2⟩ := grid_get HGk.out (i := k) (Nat.lt_trans hlk HLT.out)
            injection e with e
            injection e with e
            subst e
            have hll : ∀ q ∈ qs, q.length ≤ 1000 := fun q hq => by
              rw [HQS.out] at hq
              obtain ⟨y, _, rfl⟩ := List.mem_map.1 hq
              have := upTo_len y
              omega
            have HI1 := hide (ints_own ho1 (by have := hll _ (List.getElem_mem HLT.out); omega))
            have HI2 := hide (ints_own ho2 (by have := hll _ (List.getElem_mem (Nat.lt_trans hlk HLT.out)); omega))
            obtain ⟨y1, hy1⟩ : ∃ y1, y1 = qs[i]'HLT.out := ⟨_, rfl⟩
            obtain ⟨y2, hy2⟩ : ∃ y2, y2 = qs[k]'(Nat.lt_trans hlk HLT.out) := ⟨_, rfl⟩
            rw [← hy1, ← hy2] at HNE
            rw [← hy1] at HI1 hx1
            rw [← hy2] at HI2 hx2
            have i1 : (i : Int) < (qs.length : Int) := by have := HLT.out; omega
            have i2 : (k : Int) < (qs.length : Int) := by have := HLT.out; omega
            have HLK := hide hlk
            clear ho1 ho2 hll hy1 hy2 hlk
            go_wp2_with fail
            go_quiet (first | (go_at_call 22; exact ints_ne HNE.out (intsLaw (intsW_drewN HI1.out _) (intsW_drewN HI2.out _))) | fail)
            go_wp2_with fail
            exact ⟨⟨k + 1, by have := HLK.out; omega, by go_num, hide (HBk.out.trans (belowN _ _ _))⟩, by simp [intOf]; have := HLK.out; omega⟩
          · obtain rfl : k = i := by omega
            have hk1 : decide ((k : Int) < (k : Int)) = false := decide_eq_false (by omega)
            have hk2 : decide (k < k) = false := decide_eq_false (by omega)
            clear hlk
            go_wp2_with fail
            exact ⟨⟨k + 1, by have := HLT.out; omega, by go_num, HBk⟩, by simp [intOf]; have := HLT.out; omega⟩
      · obtain rfl : i = qs.length := by omega
        have hi1 : decide ((qs.length : Int) < (qs.length : Int)) = false := decide_eq_false (by omega)
        clear hlt
        go_wp2_with fail
        obtain ⟨wo, rfl⟩ : ∃ wo : World, wo = wr := ⟨_, rfl⟩
        go_loopw [17, 18] (fun s17 s18 wr => ∃ j : Nat, j ≤ C ∧ s18 = .int .i64 (j : Int) ∧ Hid (Go.Il.Own 39 .u8 W4.heap.size wr s17 (((trace (ora o) t []).take j).map (ora o))) ∧ Hid (Below W4.heap.size W4 wr)) (fun _ s18 _ => C - (intOf s18).toNat)
        case atStart => exact ⟨0, Nat.zero_le _, rfl, hide (Go.Il.Own.nil _ _ _ _), HBi⟩
        case round =>
          obtain ⟨j, hj, rfl, HOW, HBj⟩ := hrel
          obtain ⟨l, hl⟩ : ∃ l, l = ((trace (ora o) t []).take j).map (ora o) := ⟨_, rfl⟩
          have HTL : Hid (qs.length = (trace (ora o) t []).length) := hide (by rw [HQS.out, List.length_map])
          have HLE := hide hl
          have HLN : Hid (l.length = j) := hide (by rw [hl, List.length_map, List.length_take]; have := HTL.out; have := HC.out; omega)
          rw [← hl] at HOW
          have HWF : Hid (∀ x ∈ l, 0 ≤ x ∧ x < 256) := hide fun x hx => by
            rw [hl] at hx
            obtain ⟨q, _, rfl⟩ := List.mem_map.1 hx
            unfold ora
            rcases say_value o (upTo (memQ q) 256) with h | h | h <;> rw [h] <;> omega
          obtain ⟨o17, c17, rfl⟩ := Go.Il.Own.form HOW.out
          have HXj := hide ((HBj.out.block _ (block_lt HX4.out)).trans HX4.out)
          have HOj := hide (HO4.out.old HBj.out)
          have HGj := hide (HG4.out.below HBj.out)
          have HWj : Hid (W4.heap.size ≤ wr.heap.size) := hide HBj.out.size
          clear hl
          by_cases hlj : j < C
          · have hj1 : decide ((j : Int) < (C : Int)) = true := decide_eq_true (by omega)
            have hj2 : decide (j < C) = true := decide_eq_true hlj
            have hwj : IntKind.i64.wrap ((j : Int) + 1) = (j : Int) + 1 := wrap_upW hlj (by have := HC.out; have := HL.out; omega)
            have HJL : Hid (j < qs.length) := hide (by have := HC.out; omega)
            have HJC := hide hlj
            obtain ⟨gg, p1, k1, rfl, -, hx1, ho1⟩ := grid_get HGj.out (i := j) HJL.out
            obtain ⟨_, hob, cob, rfl⟩ := grid_block HGj.out
            have HOB := hide hob
            have hll : ∀ q ∈ qs, q.length ≤ 1000 := fun q hq => by
              rw [HQS.out] at hq
              obtain ⟨y, _, rfl⟩ := List.mem_map.1 hq
              have := upTo_len y
              omega
            have HI1 := hide (ints_own ho1 (by have := hll _ (List.getElem_mem HJL.out); omega))
            obtain ⟨y1, hy1⟩ : ∃ y1, y1 = qs[j]'HJL.out := ⟨_, rfl⟩
            have HSY : Hid (((trace (ora o) t []).take (j + 1)).map (ora o) = l ++ [((say o y1 : Nat) : Int)]) := hide (by
              have hjt : j < (trace (ora o) t []).length := by have := HTL.out; have := HJL.out; omega
              rw [List.take_succ_eq_append_getElem hjt, List.map_append, List.map_cons, List.map_nil, ← HLE.out]
              have e : y1 = upTo (memQ ((trace (ora o) t [])[j]'hjt)) 256 := by
                rw [hy1]
                have hq := HQS.out
                subst hq
                rw [List.getElem_map]
              rw [e]
              simp only [ora])
            rw [← hy1] at HI1 hx1
            have HX1 := hide hx1
            have j1 : (j : Int) < (qs.length : Int) := by have := HJL.out; omega
            have hzm : W4.heap.size ≤ wr.heap.size := HWj.out
            clear ho1 hll hy1 hlj hx1 hob
            go_upto_region 22 with (fail)
            refine wp_region_held_drew (S := fun w' => Hid (w'.heap[w.heap.size]? = some (boxO sn sb o) ∧ w'.cell? ⟨gg, j, none⟩ = some (.slice p1 y1.length k1))) (by kernel_rfl) (hide ⟨HXj.out, HX1.out⟩) (fun hHeld => ?_)
            refine takeAt (i := 0) (d := some 83) (v := .slice o17 l.length c17) rfl rfl (by kernel_rfl) (by kernel_rfl) (by kernel_rfl) (fun _ _ _ h => h) (Or.inl ⟨by rfl, fun w hS => by go_simp⟩) hHeld ?_
            simp only [Act.put, List.setIfInBounds_toArray, List.set_cons_zero, List.set_cons_succ]
            refine takeAt (i := 1) (d := some 84) (v := orcV sn sb o) rfl rfl (by kernel_rfl) (by kernel_rfl) (by kernel_rfl) (fun _ _ _ h => h) (Or.inl ⟨by rfl, fun w hS => by obtain ⟨x0, x1, x2, x3⟩ := o_cells hS.out.1; go_simp⟩) hHeld ?_
            simp only [Act.put, List.setIfInBounds_toArray, List.set_cons_zero, List.set_cons_succ]
            refine takeAt (i := 2) (d := some 85) (v := .slice (some ⟨gg, 0, none⟩) qs.length cav) rfl rfl (by kernel_rfl) (by kernel_rfl) (by kernel_rfl) (fun _ _ _ h => h) (Or.inl ⟨by rfl, fun w hS => by go_simp⟩) hHeld ?_
            simp only [Act.put, List.setIfInBounds_toArray, List.set_cons_zero, List.set_cons_succ]
            refine takeAt (i := 3) (d := some 86) (v := .int .i64 (j : Int)) rfl rfl (by kernel_rfl) (by kernel_rfl) (by kernel_rfl) (fun _ _ _ h => h) (Or.inl ⟨by rfl, fun w hS => by go_simp⟩) hHeld ?_
            simp only [Act.put, List.setIfInBounds_toArray, List.set_cons_zero, List.set_cons_succ]
            refine takeAt (i := 4) (d := some 87) (v := .pointer (some ⟨gg, j, none⟩)) rfl rfl (by kernel_rfl) (by kernel_rfl) (by kernel_rfl) (fun _ _ _ h => h) (Or.inl ⟨by rfl, fun w hS => by go_simp⟩) hHeld ?_
            simp only [Act.put, List.setIfInBounds_toArray, List.set_cons_zero, List.set_cons_succ]
            refine takeAt (i := 5) (d := some 88) (v := .slice p1 y1.length k1) rfl rfl (by kernel_rfl) (by kernel_rfl) (by kernel_rfl) (fun _ _ _ h => h) (Or.inl ⟨by rfl, fun w hS => by have hcx := hS.out.2; go_simp⟩) hHeld ?_
            simp only [Act.put, List.setIfInBounds_toArray, List.set_cons_zero, List.set_cons_succ]
            refine wpAnyH_ready (rs := [6]) (by kernel_rfl) (by simp) ?_
            refine AllReadyH.cons rfl (fun K0 hK => ?_) AllReadyH.nil
            go_simp
            go_at_call 31
            (with_reducible refine (sayRef (HOj.out.old (Below.drew (Below.refl wr.heap.size wr))) (ints_below HI1.out (Below.drew (Below.refl wr.heap.size wr))) HSM.out).mono ?_)
            rintro e w5 ⟨rfl, hB5⟩
            have HB5 := hide ((Below.drew (Below.refl wr.heap.size wr)).trans hB5)
            have HH5 : Hid (w5.heap[w.heap.size]? = some (boxO sn sb o) ∧ w5.cell? ⟨gg, j, none⟩ = some (.slice p1 y1.length k1)) := hide ⟨(HB5.out.block _ (block_lt HXj.out)).trans HXj.out, cell_old HB5.out HX1.out⟩
            have HOW5 : Hid (Go.Il.Own 39 .u8 W4.heap.size w5 (.slice o17 l.length c17) l) := hide (own_kept HOW.out fun g _ _ _ hh _ => HB5.out.block g (block_lt hh))
            have HOB5 := hide ((HB5.out.block _ (block_lt HOB.out)).trans HOB.out)
            obtain ⟨sv, hsv⟩ : ∃ sv, sv = say o y1 := ⟨_, rfl⟩
            have HSV := hide hsv
            rw [← hsv]
            clear hB5 hsv
            refine hK.out _ _ HH5 (fun hHeld => ?_)
            clear hK K0
            try simp only [Act.put, List.setIfInBounds_toArray, List.set_cons_zero, List.set_cons_succ]
            refine wpAnyH_ready (rs := [7]) (by kernel_rfl) (by simp) ?_
            refine AllReadyH.cons rfl (fun K0 hK => ?_) AllReadyH.nil
            go_simp
            have HA6 := hide (one101 w5 (.cells #[.int .u8 (sv : Int)] 39))
            have HH6 : Hid ((w5.alloc (.cells #[.int .u8 (sv : Int)] 39)).heap[w.heap.size]? = some (boxO sn sb o) ∧ (w5.alloc (.cells #[.int .u8 (sv : Int)] 39)).cell? ⟨gg, j, none⟩ = some (.slice p1 y1.length k1)) := hide ⟨(HA6.out.block _ (block_lt HH5.out.1)).trans HH5.out.1, cell_old HA6.out HH5.out.2⟩
            refine hK.out _ _ HH6 (fun hHeld => ?_)
            clear hK K0
            try simp only [Act.put, List.setIfInBounds_toArray, List.set_cons_zero, List.set_cons_succ]
            refine wpAnyH_ready (rs := [8]) (by kernel_rfl) (by simp) ?_
            refine AllReadyH.cons rfl (fun K0 hK => ?_) AllReadyH.nil
            have hz5 : W4.heap.size ≤ w5.heap.size := Nat.le_trans HWj.out HB5.out.size
            have hl5 : l.length + [(sv : Int)].length ≤ 10000000 := by have := HLN.out; have := HJL.out; have := HL.out; simp; omega
            refine Go.Il.step_push EV39 (by decide) rfl (.tmp 83) (.tmp 90) rfl HOW5.out _ _ [(sv : Int)] _ _ rfl rfl rfl rfl rfl hz5 hl5 rfl ?_
            intro v7 w7 ho7 hs7
            have HO7 := hide ho7
            have HS7 := hide hs7
            obtain ⟨o7, c7, rfl⟩ := Go.Il.Own.form HO7.out
            have HH7 : Hid (w7.heap[w.heap.size]? = some (boxO sn sb o) ∧ w7.cell? ⟨gg, j, none⟩ = some (.slice p1 y1.length k1)) := hide ⟨HS7.out.block HH5.out.1 (by decide), (World.cell?_of_block (a := ⟨gg, j, none⟩) ((HS7.out.block HOB5.out (by decide)).trans HOB5.out.symm)).trans HH5.out.2⟩
            clear ho7 hs7 hz5 hl5
            refine hK.out _ _ HH7 (fun hHeld => ?_)
            clear hK K0
            try simp only [Act.put, List.setIfInBounds_toArray, List.set_cons_zero, List.set_cons_succ]
            refine takeAt (i := 9) (d := some 17) (v := .slice o7 (l ++ [(sv : Int)]).length c7) rfl rfl (by kernel_rfl) (by kernel_rfl) (by kernel_rfl) (fun _ _ _ h => h) (Or.inl ⟨by rfl, fun w hS => by go_simp⟩) hHeld ?_
            simp only [Act.put, List.setIfInBounds_toArray, List.set_cons_zero, List.set_cons_succ]
            refine wpAnyH_done (by kernel_rfl) ?_ _
            go_wp2_with fail
            refine ⟨⟨j + 1, by have := HJC.out; omega, by go_num, hide ?_, hide (HBj.out.trans ((HB5.out.mono HBj.out.size).trans HS7.out.below))⟩, by simp [intOf]; have := HJC.out; omega⟩
            rw [HSY.out, ← HSV.out]
            have h7 := HO7.out
            rw [show (l ++ [(sv : Int)]).length = l.length + 1 by simp] at h7
            exact h7
          · obtain rfl : j = C := by omega
            have hj1 : decide ((j : Int) < (j : Int)) = false := decide_eq_false (by omega)
            have hj2 : decide (j < j) = false := decide_eq_false (by omega)
            clear hlj
            go_wp2_with fail
            have HAC := hide (HS.out.asks wr _ l (vs_own HOW.out (by have := HLN.out; have := HC.out; have := HL.out; omega)) (by have := HLN.out; have := HC.out; have := HL.out; omega) HWF.out)
            (with_reducible refine HAC.out.mono ?_)
            rintro e w5 ⟨res, hres, hgv, hB5⟩
            have hjt : j < (trace (ora o) t []).length := by have := HTL.out; have := HC.out; omega
            have hpl := play_asks (o := ora o) (t := t) (T := []) (k := j) true_nil hjt
            rw [← HLE.out] at hpl
            rw [hpl] at hres
            subst hres
            obtain ⟨s, rfl, hs⟩ := hgv
            have hqj : upTo (memQ ((trace (ora o) t [])[j]'hjt)) 256 = qs[j]'HC.out := by
              have hq := HQS.out
              subst hq
              rw [List.getElem_map]
            rw [hqj] at hs
            obtain ⟨y1, hy1⟩ : ∃ y1, y1 = qs[j]'HC.out := ⟨_, rfl⟩
            obtain ⟨gg, p1, k1, rfl, -, hx1, ho1⟩ := grid_get HGj.out (i := j) HC.out
            have hyl : y1.length ≤ 1000 := by
              rw [hy1, ← hqj]
              have := upTo_len ((trace (ora o) t [])[j]'hjt)
              omega
            rw [← hy1] at hs hx1 ho1
            obtain ⟨os, cs, rfl⟩ := Go.Il.Own.form hs
            have hA6 := (Below.refl w5.heap.size w5).alloc (Nat.le_refl _) (boxQ false (.slice os y1.length cs) nilV nilV)
            have HB6 := hide (HBj.out.trans ((hB5.trans (hA6.mono hB5.size)).mono HBj.out.size))
            have HQ6 := hide (new_block w5 (boxQ false (.slice os y1.length cs) nilV nilV))
            have HI6 := hide (ints_own (own_up hs hA6) (by omega))
            have HX6 := hide (cell_old (hB5.trans (hA6.mono hB5.size)) hx1)
            have HJ6 := hide (ints_below (ints_own ho1 (by omega)) (hB5.trans (hA6.mono hB5.size)))
            have j1 : (j : Int) < (qs.length : Int) := by have := HC.out; omega
            clear hB5 hpl hqj hyl hs hA6 hx1 ho1 hy1
            simp only [] at *
            go_upto_region 24 with (fail)
            have HQZ := hide HQ6.out
            change Code.wp _ _ _ _ (w5.alloc (boxQ false (.slice os y1.length cs) nilV nilV))
            have HWZ : Hid (w5.heap.size < (w5.alloc (boxQ false (.slice os y1.length cs) nilV nilV)).heap.size) := hide (block_lt HQ6.out)
            generalize w5.alloc (boxQ false (.slice os y1.length cs) nilV nilV) = W6 at *
            refine wp_region_held_drew (S := fun w' => Hid (w'.heap[w5.heap.size]? = some (boxQ false (.slice os y1.length cs) nilV nilV) ∧ w'.cell? ⟨gg, j, none⟩ = some (.slice p1 y1.length k1))) (by kernel_rfl) (hide ⟨HQ6.out, HX6.out⟩) (fun hHeld => ?_)
            refine takeAt (i := 0) (d := some 100) (v := .int .i64 0) rfl rfl (by kernel_rfl) (by kernel_rfl) (by kernel_rfl) (fun _ _ _ h => h) (Or.inl ⟨by rfl, fun w hS => by go_simp⟩) hHeld ?_
            simp only [Act.put, List.setIfInBounds_toArray, List.set_cons_zero, List.set_cons_succ]
            refine takeAt (i := 1) (d := some 101) (v := .bool true) rfl rfl (by kernel_rfl) (by kernel_rfl) (by kernel_rfl) (fun _ _ _ h => h) (Or.inl ⟨by rfl, fun w hS => by go_simp⟩) hHeld ?_
            simp only [Act.put, List.setIfInBounds_toArray, List.set_cons_zero, List.set_cons_succ]
            refine takeAt (i := 2) (d := some 102) (v := .bool true) rfl rfl (by kernel_rfl) (by kernel_rfl) (by kernel_rfl) (fun _ _ _ h => h) (Or.inl ⟨by rfl, fun w hS => by go_simp⟩) hHeld ?_
            simp only [Act.put, List.setIfInBounds_toArray, List.set_cons_zero, List.set_cons_succ]
            refine takeAt (i := 3) (d := some 103) (v := .pointer (some ⟨w5.heap.size, 0, none⟩)) rfl rfl (by kernel_rfl) (by kernel_rfl) (by kernel_rfl) (fun _ _ _ h => h) (Or.inl ⟨by rfl, fun w hS => by go_simp⟩) hHeld ?_
            simp only [Act.put, List.setIfInBounds_toArray, List.set_cons_zero, List.set_cons_succ]
            refine takeAt (i := 4) (d := some 104) (v := .bool false) rfl rfl (by kernel_rfl) (by kernel_rfl) (by kernel_rfl) (fun _ _ _ h => h) (Or.inl ⟨by rfl, fun w hS => by obtain ⟨q0, q1, q2, q3⟩ := q_cells hS.out.1; go_simp⟩) hHeld ?_
            simp only [Act.put, List.setIfInBounds_toArray, List.set_cons_zero, List.set_cons_succ]
            refine takeAt (i := 5) (d := some 105) (v := .bool true) rfl rfl (by kernel_rfl) (by kernel_rfl) (by kernel_rfl) (fun _ _ _ h => h) (Or.inl ⟨by rfl, fun w hS => by go_simp⟩) hHeld ?_
            simp only [Act.put, List.setIfInBounds_toArray, List.set_cons_zero, List.set_cons_succ]
            refine takeAt (i := 6) (d := some 106) (v := .bool true) rfl rfl (by kernel_rfl) (by kernel_rfl) (by kernel_rfl) (fun _ _ _ h => h) (Or.inl ⟨by rfl, fun w hS => by go_simp⟩) hHeld ?_
            simp only [Act.put, List.setIfInBounds_toArray, List.set_cons_zero, List.set_cons_succ]
            refine takeAt (i := 7) (d := some 107) (v := .bool true) rfl rfl (by kernel_rfl) (by kernel_rfl) (by kernel_rfl) (fun _ _ _ h => h) (Or.inl ⟨by rfl, fun w hS => by go_simp⟩) hHeld ?_
            simp only [Act.put, List.setIfInBounds_toArray, List.set_cons_zero, List.set_cons_succ]
            refine takeAt (i := 8) (d := some 108) (v := .pointer (some ⟨w5.heap.size, 1, none⟩)) rfl rfl (by kernel_rfl) (by kernel_rfl) (by kernel_rfl) (fun _ _ _ h => h) (Or.inl ⟨by rfl, fun w hS => by go_simp⟩) hHeld ?_
            simp only [Act.put, List.setIfInBounds_toArray, List.set_cons_zero, List.set_cons_succ]
            refine takeAt (i := 9) (d := some 109) (v := .slice os y1.length cs) rfl rfl (by kernel_rfl) (by kernel_rfl) (by kernel_rfl) (fun _ _ _ h => h) (Or.inl ⟨by rfl, fun w hS => by obtain ⟨q0, q1, q2, q3⟩ := q_cells hS.out.1; go_simp⟩) hHeld ?_
            simp only [Act.put, List.setIfInBounds_toArray, List.set_cons_zero, List.set_cons_succ]
            refine takeAt (i := 10) (d := some 110) (v := .slice (some ⟨gg, 0, none⟩) qs.length cav) rfl rfl (by kernel_rfl) (by kernel_rfl) (by kernel_rfl) (fun _ _ _ h => h) (Or.inl ⟨by rfl, fun w hS => by go_simp⟩) hHeld ?_
            simp only [Act.put, List.setIfInBounds_toArray, List.set_cons_zero, List.set_cons_succ]
            refine takeAt (i := 11) (d := some 111) (v := .int .i64 (j : Int)) rfl rfl (by kernel_rfl) (by kernel_rfl) (by kernel_rfl) (fun _ _ _ h => h) (Or.inl ⟨by rfl, fun w hS => by go_simp⟩) hHeld ?_
            simp only [Act.put, List.setIfInBounds_toArray, List.set_cons_zero, List.set_cons_succ]
            refine takeAt (i := 12) (d := some 112) (v := .pointer (some ⟨gg, j, none⟩)) rfl rfl (by kernel_rfl) (by kernel_rfl) (by kernel_rfl) (fun _ _ _ h => h) (Or.inl ⟨by rfl, fun w hS => by go_simp⟩) hHeld ?_
            simp only [Act.put, List.setIfInBounds_toArray, List.set_cons_zero, List.set_cons_succ]
            refine takeAt (i := 13) (d := some 113) (v := .slice p1 y1.length k1) rfl rfl (by kernel_rfl) (by kernel_rfl) (by kernel_rfl) (fun _ _ _ h => h) (Or.inl ⟨by rfl, fun w hS => by have hcx := hS.out.2; go_simp⟩) hHeld ?_
            simp only [Act.put, List.setIfInBounds_toArray, List.set_cons_zero, List.set_cons_succ]
            refine wpAnyH_ready (rs := [14]) (by kernel_rfl) (by simp) ?_
            refine AllReadyH.cons rfl (fun K0 hK => ?_) AllReadyH.nil
            go_simp
            go_at_call 22
            (with_reducible refine (intsLaw (ints_below HI6.out (Below.drew (Below.refl W6.heap.size W6))) (ints_below HJ6.out (Below.drew (Below.refl W6.heap.size W6)))).mono ?_)
            rintro e w7 ⟨rr, rfl, hrr, dd, rfl⟩
            obtain rfl : rr = true := hrr.2 rfl
            have HB7 : Hid (Below W6.heap.size W6 (W6.drew.drewN dd)) := hide ((Below.drew (Below.refl W6.heap.size W6)).trans (belowN _ _ dd))
            have HH7 : Hid ((W6.drew.drewN dd).heap[w5.heap.size]? = some (boxQ false (.slice os y1.length cs) nilV nilV) ∧ (W6.drew.drewN dd).cell? ⟨gg, j, none⟩ = some (.slice p1 y1.length k1)) := hide ⟨(HB7.out.block _ (block_lt HQ6.out)).trans HQ6.out, cell_old HB7.out HX6.out⟩
            clear hrr
            generalize W6.drew.drewN dd = w7 at *
            refine hK.out _ _ HH7 (fun hHeld => ?_)
            clear hK K0
            try simp only [Act.put, List.setIfInBounds_toArray, List.set_cons_zero, List.set_cons_succ]
            refine takeAt (i := 15) (d := some 115) (v := .bool true) rfl rfl (by kernel_rfl) (by kernel_rfl) (by kernel_rfl) (fun _ _ _ h => h) (Or.inl ⟨by rfl, fun w hS => by go_simp⟩) hHeld ?_
            simp only [Act.put, List.setIfInBounds_toArray, List.set_cons_zero, List.set_cons_succ]
            refine takeAt (i := 16) (d := some 116) (v := .bool true) rfl rfl (by kernel_rfl) (by kernel_rfl) (by kernel_rfl) (fun _ _ _ h => h) (Or.inl ⟨by rfl, fun w hS => by go_simp⟩) hHeld ?_
            simp only [Act.put, List.setIfInBounds_toArray, List.set_cons_zero, List.set_cons_succ]
            refine wpAnyH_ready (rs := [17]) (by kernel_rfl) (by simp) ?_
            refine AllReadyH.cons rfl (fun K0 hK => ?_) AllReadyH.nil
            go_simp
            go_at_call 41
            (with_reducible refine (HAW.out _).mono ?_)
            rintro e w8 ⟨rfl, hB8⟩
            have HB8 := hide (HB7.out.trans (hB8.mono HB7.out.size))
            have HH8 : Hid (w8.heap[w5.heap.size]? = some (boxQ false (.slice os y1.length cs) nilV nilV) ∧ w8.cell? ⟨gg, j, none⟩ = some (.slice p1 y1.length k1)) := hide ⟨(HB8.out.block _ (block_lt HQ6.out)).trans HQ6.out, cell_old HB8.out HX6.out⟩
            clear hB8
            refine hK.out _ _ HH8 (fun hHeld => ?_)
            clear hK K0
            try simp only [Act.put, List.setIfInBounds_toArray, List.set_cons_zero, List.set_cons_succ]
            refine takeAt (i := 18) (d := some 118) (v := .bool true) rfl rfl (by kernel_rfl) (by kernel_rfl) (by kernel_rfl) (fun _ _ _ h => h) (Or.inl ⟨by rfl, fun w hS => by go_simp⟩) hHeld ?_
            simp only [Act.put, List.setIfInBounds_toArray, List.set_cons_zero, List.set_cons_succ]
            refine takeAt (i := 19) (d := some 10) (v := .bool true) rfl rfl (by kernel_rfl) (by kernel_rfl) (by kernel_rfl) (fun _ _ _ h => h) (Or.inl ⟨by rfl, fun w hS => by go_simp⟩) hHeld ?_
            simp only [Act.put, List.setIfInBounds_toArray, List.set_cons_zero, List.set_cons_succ]
            refine wpAnyH_done (by kernel_rfl) ?_ _
            go_wp2_with fail
            go_ret
            exact ⟨rfl, HB4.out.trans ((HB6.out.trans (HB8.out.mono HB6.out.size)).mono HB4.out.size)⟩
--H>
end Go.Proofs.Ytmkapmbmgpnjaaa.Se

set_option maxRecDepth 100000
namespace Go.Proofs.Ytmkapmbmgpnjaaa.Se
open Go Go.Ms Go.Pg Go.Bi Go.Se Go.ChangeShapes Go.WideShapes Go.ChangeAt Go.RowKit Go.Deep Go.Proofs.Ytmkapmbmgpnjaaa.Bi

theorem lawAllO {w : World} {sn sb : Value} {o : Orc} {z st cu : Int} {wq : Int} (ho : OrcAt w sn sb o) (hq : 0 ≤ wq) (hA : Awake) : YesO w #[orcV sn sb o, .int .i64 z, .int .i64 st, .int .u8 wq, .int .i64 cu] := by
  by_cases hz : z ≤ 8
  · cases hg : great o with
    | true => exact lawGreatO hz ho hg hA
    | false =>
      obtain ⟨n, rfl⟩ : ∃ n : Nat, wq = (n : Int) := ⟨wq.toNat, by omega⟩
      exact lawMainO hz ho hg hA
  · exact lawLongO (by omega) hA
theorem trodAll_five {H : Type} {enc : TypeId × Value → H} {P : Program} {w : World} {base : Nat} {spare : Nat → Bool} {held : Bool} {t0 t1 t2 t3 t4 : TypeId} {args : Array Value} {ds : List (DataW H)} {ps : List MemPlace} (h : DataW.TrodAll enc P w base spare held [t0, t1, t2, t3, t4] args.toList ds ps) :
    ∃ v0 v1 v2 v3 v4 d0 d1 d2 d3 d4 p0 p1 p2 p3 p4, args = #[v0, v1, v2, v3, v4] ∧ ds = [d0, d1, d2, d3, d4] ∧ ps = p0 ++ (p1 ++ (p2 ++ (p3 ++ p4))) ∧ DataW.Trod enc P w base spare held t0 v0 d0 p0 ∧ DataW.Trod enc P w base spare held t1 v1 d1 p1 ∧
      DataW.Trod enc P w base spare held t2 v2 d2 p2 ∧ DataW.Trod enc P w base spare held t3 v3 d3 p3 ∧ DataW.Trod enc P w base spare held t4 v4 d4 p4 := by
  obtain ⟨v0, s0, d0, e0, p0, q0, hargs, rfl, rfl, h0, r0⟩ := trodAll_cons h
  obtain ⟨v1, s1, d1, e1, p1, q1, rfl, rfl, rfl, h1, r1⟩ := trodAll_cons r0
  obtain ⟨v2, s2, d2, e2, p2, q2, rfl, rfl, rfl, h2, r2⟩ := trodAll_cons r1
  obtain ⟨v3, s3, d3, e3, p3, q3, rfl, rfl, rfl, h3, r3⟩ := trodAll_cons r2
  obtain ⟨v4, s4, d4, e4, p4, q4, rfl, rfl, rfl, h4, r4⟩ := trodAll_cons r3
  obtain ⟨rfl, rfl, rfl⟩ := trodAll_nil r4
  exact ⟨v0, v1, v2, v3, v4, d0, d1, d2, d3, d4, p0, p1, p2, p3, p4, by cases args; simp_all, rfl, by simp, h0, h1, h2, h3, h4⟩

theorem liftedO (hA : Awake) (os : Os) (started : os.Started) (H : Type) (enc : TypeId × Value → H) :
    ReturnsInHanded {} Try.checked os 10 .any (Rows.reduceOnceSpec.pre6 enc Try.prog Try.f10 Rows.reduceOnceRow.domain false) (Rows.reduceOnceSpec.post enc Try.prog Try.f10 false true false false) := by
  refine returnsInHanded_of_change (C := Try.checked) own started (by kernel_rfl) Try.func10
    (ChangeSpec.witness6 (enc := enc) (C := Try.checked) false ⟨#[], #[.agg #[.slice none 0 0, .slice none 0 0, .int .u64 0, .int .u8 0], .int .i64 0, .int .i64 0, .int .u8 0, .int .i64 0], []⟩ 8 (by kernel_rfl) (by kernel_rfl) (by kernel_rfl) (by kernel_rfl)) ?_
  intro W base args ds gs before hval0 hW hcnd hsz
  have hval : ∀ (j : Nat) t v, Try.f10.params[j]? = some t → args[j]? = some v → Value.okWide Try.prog W .any base t v := hval0
  have hW' := hW
  obtain ⟨p, q, hA0, hV, rfl, hfz, hnd⟩ := hW
  have hT : DataW.TrodAll enc Try.prog W 0 (fun _ => true) true Try.f10.params.toList args.toList ds p := hA0
  rw [Try.params10] at hT hval
  obtain ⟨v0, v1, v2, v3, v4, d0, d1, d2, d3, d4, p0, p1, p2, p3, p4, rfl, rfl, rfl, h0, h1, h2, h3, h4⟩ := trodAll_five hT
  obtain ⟨rfl, rfl⟩ := trodVars_none hV
  obtain ⟨z, rfl, rfl, rfl, wz⟩ := open_int Try.underlying3 (hval 1 3 v1 rfl rfl) h1
  obtain ⟨st, rfl, rfl, rfl, ws⟩ := open_int Try.underlying3 (hval 2 3 v2 rfl rfl) h2
  obtain ⟨wq, rfl, rfl, rfl, wwq⟩ := open_int Try.underlying5 (hval 3 5 v3 rfl rfl) h3
  obtain ⟨cu, rfl, rfl, rfl, wcu⟩ := open_int Try.underlying3 (hval 4 3 v4 rfl rfl) h4
  clear hA0 hval0
  simp only [List.append_nil] at hW'
  obtain ⟨sn, sb, o, rfl, hO⟩ := orc_arg (hval 0 48 v0 rfl rfl) h0
  have hlt0 : ∀ x ∈ p0, x.block < W.heap.size := fun x hx => hW'.lt x (by simp [hx])
  have hq0 : 0 ≤ wq := by
    simp [Lit.wf, IntKind.min, IntKind.max, IntKind.signed, IntKind.bits] at wwq
    omega
  refine (lawAllO hO hq0 hA).mono fun e W' ⟨he, hB⟩ => ?_
  subst he
  exact ⟨_, rfl, post_of_below (pa := p0) (pv := []) hW' (fun _ _ _ => trodAll_cons_mk (shut_bool Try.underlying4 _) trodAll_mk0)
    (fun sp hsp => by
      have h := trodAll_cons_mk (WideElems.Trod_stays laidOut (by kernel_rfl) (of_decide_eq_true (by kernel_rfl)) h0 (fun x hx => hB.same (hlt0 x hx)) (fun x hx => hsp x (by simp [hx])))
        (trodAll_mk4 (shut_int (P := Try.prog) (w := W') (base := 0) (spare := sp) (held := true) (enc := enc) Try.underlying3 wz)
        (shut_int (P := Try.prog) (w := W') (base := 0) (spare := sp) (held := true) (enc := enc) Try.underlying3 ws)
        (shut_int (P := Try.prog) (w := W') (base := 0) (spare := sp) (held := true) (enc := enc) Try.underlying5 wwq)
        (shut_int (P := Try.prog) (w := W') (base := 0) (spare := sp) (held := true) (enc := enc) Try.underlying3 wcu))
      simp only [List.append_nil] at h
      exact h)
    (fun _ _ => rfl) (by simp) hB
    (ok_one (by kernel_rfl) rfl (okWide_bool_mk Try.underlying4 _))⟩

theorem saidO (hA : Awake) : Rows.ReduceOnceSaid :=
  OpenClaim.holds_of_wide 10 Try.f10 rfl rfl rfl rfl rfl rfl rfl ⟨rfl, rfl, rfl, rfl, rfl⟩ rfl rfl rfl rfl rfl (by kernel_rfl) Try.func10 (by kernel_rfl)
    (of_decide_eq_true (by kernel_rfl)) (by unfold Func.isWrapper; first | (rw [if_pos (by decide +kernel)]; kernel_rfl) | (rw [if_neg (by decide +kernel)]; exact ⟨rfl, rfl⟩))
    (fun os started H enc _ => liftedO hA os started H enc)
end Go.Proofs.Ytmkapmbmgpnjaaa.Se

