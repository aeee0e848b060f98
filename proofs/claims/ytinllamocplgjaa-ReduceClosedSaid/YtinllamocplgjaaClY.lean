import Derived.Test.YtinllamocplgjaaClG
import Derived.Test.YtinllamocplgjaaRows
import Derived.ProofKit
import Derived.OpenShut
import Derived.Carry
set_option maxRecDepth 100000
namespace Go.Proofs.Ytinllamocplgjaa.Cl
open Go Go.Ms Go.Pg Go.Rc Go.Cl Go.ChangeShapes Go.WideShapes Go.ChangeAt Go.RowKit Go.Deep Go.Proofs.Ytinllamocplgjaa.Rc

theorem own : ownKnob Try.prog.godebug = none := by kernel_rfl
theorem laidOut : laidOutB Try.prog = true := by kernel_rfl

theorem post_of_below {H : Type} {enc : TypeId × Value → H} {P : Program} {f : Func} {s : ChangeSpec} {apart fresh handsOn again : Bool} {W W' : World} {args : Array Value} {v : Value} {ds gs : List (DataW H)} {before pa pv : List MemPlace}
    (hW : DataW.Whole enc P f.params.toList s.vars apart W args.toList ds gs before)
    (hres : ∀ (b : Nat) (sp : Nat → Bool) (hd : Bool), DataW.TrodAll enc P W' b sp hd f.resultTypes.toList (v.resultList f.resultTypes.size) (s.fn H (ds ++ gs)).results [])
    (hargs : ∀ sp : Nat → Bool, (∀ p ∈ before, sp p.block = true) → DataW.TrodAll enc P W' 0 sp true f.params.toList args.toList (s.fn H (ds ++ gs)).args pa)
    (hvars : ∀ sp : Nat → Bool, (∀ p ∈ before, sp p.block = true) → DataW.TrodVars enc P W' sp s.vars (s.fn H (ds ++ gs)).vars pv)
    (hps : before = pa ++ pv) (hB : Below W.heap.size W W')
    (hok : ∀ (j : Nat) (t : TypeId) (r : Value), f.resultTypes[j]? = some t → (v.resultList f.resultTypes.size)[j]? = some r → Value.okWide P W' .any 0 t r) :
    s.post enc P f apart fresh handsOn again W args v W' := by
  have hlt := hW.lt
  have hold : ∀ p ∈ before, (fun b => decide (b < W.heap.size)) p.block = true := fun p hp => by simpa using hlt p hp
  refine ⟨ds, gs, before, [], pa, pv, hW, hres _ _ _, hargs _ hold, hvars _ hold, World.keptBut_mono (fun p hp => ⟨hp, ?_⟩) (hB.frame (· ∈ before)), fun _ => ?_⟩
  · rw [hps, List.mem_append] at hp
    exact Or.inr hp
  · obtain ⟨_, _, _, _, _, hz, hn⟩ := hW
    refine ⟨hok, _, _, ([] ++ pa) ++ pv, ⟨[] ++ pa, pv, trodAll_append (hargs _ (fun _ _ => rfl)) (hres _ _ _), hvars _ (fun _ _ => rfl), rfl, ?_, ?_⟩, ?_⟩
    · intro b off hp
      have hp2 : MemPlace.cell b off ∈ before := by rw [hps]; simpa using hp
      rw [hB.frozen (p := ⟨b, off, none⟩) (hlt _ hp2)]
      exact hz b off hp2
    · intro ha
      have := hn ha
      rw [hps] at this
      simpa using this
    · intro p hp _
      rw [hps]
      simpa using hp


theorem ints_trod {H : Type} {enc : TypeId × Value → H} {W : World} {fuel : Nat} {cs : List Value} {x : DataW H × List MemPlace} (h : DataW.trod enc Try.prog W 0 (fun _ => true) true fuel 22 cs = some x) : ∃ oa cap l, cs = [.slice oa l.length cap] ∧ IntsW W (.slice oa l.length cap) l := by
  rcases open_ints Try.underlying22 Try.underlying3 (by kernel_rfl) h with ⟨e, _⟩ | ⟨a, len, cap, zs, e, _, hle, hm, hz, _, hc, hw⟩
  · exact ⟨none, 0, [], e, none, 0, rfl, Nat.zero_le _, fun i hi => absurd hi (Nat.not_lt_zero i)⟩
  · have hz2 : len ≤ zs.length := by rw [hz]; simp; exact hle
    have hlen : (zs.take len).length = len := by rw [List.length_take]; omega
    refine ⟨some a, cap, zs.take len, by rw [hlen]; exact e, some a, cap, rfl, by unfold maxLen at hm; omega, fun i hi => ?_⟩
    have hi2 : i < zs.length := by omega
    obtain ⟨b, o, spot⟩ := a
    have hspot : spot = none := by
      have z0 := hc 0 (by omega)
      simpa [Addr.add] using World.cell?_spot z0
    subst hspot
    have hci := hc i hi2
    rw [Go.WideShapes.add_plain] at hci
    have eg : zs.getD i 0 = (zs.take len)[i] := by simp [List.getElem?_eq_getElem hi2]
    rw [eg] at hci
    exact ⟨b, o, rfl, by simpa using hci, hw _ (List.mem_of_mem_take (List.getElem_mem hi))⟩
theorem ints_arg {H : Type} {enc : TypeId × Value → H} {W : World} {r : Reach} {b0 : Nat} {v : Value} {d : DataW H} {p : List MemPlace} (hv : Value.okWide Try.prog W r b0 22 v) (h : DataW.Trod enc Try.prog W 0 (fun _ => true) true 22 v d p) : ∃ l, IntsW W v l := by
  obtain ⟨fuel, hf⟩ := h
  obtain ⟨a0, n0, c0, rfl⟩ := okWide_slice Try.underlying22 hv
  obtain ⟨oa, cap, l, e, hr⟩ := ints_trod hf
  have e2 : Value.slice a0 n0 c0 = .slice oa l.length cap := by simpa [Value.cells] using e
  rw [e2]
  exact ⟨l, hr⟩
theorem needs_arg {H : Type} {enc : TypeId × Value → H} {W : World} {r : Reach} {b0 : Nat} {v : Value} {d : DataW H} {p : List MemPlace} (hv : Value.okWide Try.prog W r b0 24 v) (h : DataW.Trod enc Try.prog W 0 (fun _ => true) true 24 v d p) :
    ∃ oa cap ls, v = .slice oa ls.length cap ∧ (ls.length ≤ 20 → NeedsW W (.slice oa ls.length cap) ls) := by
  obtain ⟨fuel, hf⟩ := h
  obtain ⟨a0, n0, c0, rfl⟩ := okWide_slice Try.underlying24 hv
  rcases DataW.trod_slice Try.underlying24 hf with ⟨e, _⟩ | ⟨a, len, cap, elems, rest, n, hf, e, hx, _, hl, hm, hlen, hel, _, _⟩
  · have e : Value.slice a0 n0 c0 = .slice none 0 0 := by simpa [Value.cells] using e
    rw [e]
    exact ⟨none, 0, [], rfl, fun _ => ⟨none, 0, rfl, Nat.zero_le _, fun i hi => absurd hi (Nat.not_lt_zero i)⟩⟩
  · have e : Value.slice a0 n0 c0 = .slice (some a) len cap := by simpa [Value.cells] using e
    rw [e]
    have hc : Try.prog.cellsOf 22 = 1 := by kernel_rfl
    rw [hc] at hel
    have each : ∀ i, i < len → ∃ y : List Int, ∃ b o, a = ⟨b, o, none⟩ ∧ NeedWAt W b (o + i * 1) y := by
      intro i hi
      have hi2 : i < elems.length := by omega
      have h1 := hel i hi
      rw [List.getElem?_eq_getElem hi2] at h1
      simp only [Option.bind_eq_some_iff] at h1
      obtain ⟨cs', hc1, hc2⟩ := h1
      obtain ⟨_, hl7, hcell⟩ := World.cells?_some hc1
      obtain ⟨oa, cap, l, rfl, hr⟩ := ints_trod hc2
      obtain ⟨b, o, spot⟩ := a
      have hspot : spot = none := by
        have z0 := (hel 0 (by omega))
        rw [List.getElem?_eq_getElem (by omega)] at z0
        simp only [Option.bind_eq_some_iff] at z0
        obtain ⟨cs', hc1, _⟩ := z0
        obtain ⟨_, hl7, hcell⟩ := World.cells?_some hc1
        have z0 := hcell 0 (by omega)
        rw [List.getElem?_eq_getElem (by omega)] at z0
        simpa [Addr.add] using World.cell?_spot z0
      subst hspot
      have h0 := hcell 0 (by omega)
      rw [Go.WideShapes.add_plain, Go.WideShapes.add_plain] at h0
      exact ⟨l, b, o, rfl, oa, cap, by simpa using h0, hr⟩
    obtain ⟨f, hf2⟩ := Go.Deep.choose_lt each
    refine ⟨some a, cap, (List.range len).map f, by simp, fun hs => ⟨some a, cap, rfl, by omega, fun i hi => ?_⟩⟩
    have hi2 : i < len := by simpa using hi
    obtain ⟨b, o, rfl, k⟩ := hf2 i hi2
    exact ⟨b, o, rfl, by simpa using k⟩

theorem lawGood {w : World} {v0 v1 v2 : Value} {xss : List (List Nat)} {xs ys : List Nat} {z : Int} (h : NeedsAt w v0 (xss.map ints)) (hN : xss.length ≤ 20) (hv : Valid (xss.map ints)) (hs : Ints w v1 (ints xs)) (hi : Inc (ints xs) xss.length) (ht : Ints w v2 (ints ys)) (hj : Inc (ints ys) xss.length) (hA : Runs) : Yes w #[v0, v1, v2, .int .i64 z] := by
  obtain ⟨A, hC, hT⟩ := exists_closure (valid_low hv)
  have hS : Sets (needOf xss) xss.length (w.alloc (rowA A)) (.slice (some ⟨w.heap.size, 0, none⟩) A.length A.length) A w.heap.size := ⟨rfl, hC, hT, hN, new_block w _⟩
  have hx := isClose rfl hS (inc_lt hi)
  have hy := isClose rfl hS (inc_lt hj)
  have hbl := bits_closed hN hx.low hx.closed
  generalize uni A xs = x at *
  generalize uni A ys = y at *
  by_cases hp : ∀ n ∈ xs, y.testBit n = true
  · by_cases hc : z ∈ ints (bitsOf x)
    · obtain ⟨c, hc2, rfl⟩ := of_ints hc
      have hz := isStay hS (xs := bitsOf x) (fun n hn => hx.low n (mem_bits.1 hn).2) hc2 hbl
      by_cases hq : ∀ b, y.testBit b = true → x.testBit b = true
      · by_cases hr : y.testBit c = true
        · exact law_p_q2t h hN hv hs hi ht hj hA hx hy hp hc2 hz hq hr
        · exact law_p_q2f h hN hv hs hi ht hj hA hx hy hp hc2 hz hq hr
      · exact law_p_q1f h hN hv hs hi ht hj hA hx hy hp hc2 hz hq
    · exact law_p_none h hN hv hs hi ht hj hA hx hy hp hc
  · by_cases hc : z ∈ ints (bitsOf x)
    · obtain ⟨c, hc2, rfl⟩ := of_ints hc
      have hz := isStay hS (xs := bitsOf x) (fun n hn => hx.low n (mem_bits.1 hn).2) hc2 hbl
      by_cases hq : ∀ b, y.testBit b = true → x.testBit b = true
      · by_cases hr : y.testBit c = true
        · exact law_n_q2t h hN hv hs hi ht hj hA hx hy hp hc2 hz hq hr
        · exact law_n_q2f h hN hv hs hi ht hj hA hx hy hp hc2 hz hq hr
      · exact law_n_q1f h hN hv hs hi ht hj hA hx hy hp hc2 hz hq
    · exact law_n_none h hN hv hs hi ht hj hA hx hy hp hc

theorem lawAll {w : World} {oa : Option Addr} {cap : Nat} {v1 v2 : Value} {ls : List (List Int)} {s t : List Int} {z : Int} (h0 : ls.length ≤ 20 → NeedsW w (.slice oa ls.length cap) ls) (hs : IntsW w v1 s) (ht : IntsW w v2 t) (hA : Runs) : Yes w #[.slice oa ls.length cap, v1, v2, .int .i64 z] := by
  by_cases hN : ls.length ≤ 20
  · have h := h0 hN
    generalize Value.slice oa ls.length cap = v0 at *
    by_cases hv : Valid ls
    · by_cases hi : Inc s ls.length
      · by_cases hj : Inc t ls.length
        · have h' := w_needs h fun i hi => Nat.le_trans (inc_length (hv i hi).1) (by omega)
          have hs' := w_ints hs (Nat.le_trans (inc_length hi) (by omega))
          have ht' := w_ints ht (Nat.le_trans (inc_length hj) (by omega))
          have e : ls = (ls.map fun l => l.map Int.toNat).map ints := by
            rw [List.map_map]
            apply List.ext_getElem
            · simp
            · intro i h1 h2
              rw [List.getElem_map]
              exact to_ints (hv i h1).1
          have e2 : (ls.map fun l => l.map Int.toNat).length = ls.length := by simp
          generalize (ls.map fun l => l.map Int.toNat) = xss at e e2
          clear h h0 hs ht
          subst e
          rw [← e2] at hN hi hj
          have es := to_ints hi
          have et := to_ints hj
          generalize s.map Int.toNat = xs at es
          generalize t.map Int.toNat = ys at et
          subst es et
          exact lawGood h' hN hv hs' hi ht' hj hA
        · exact lawSecond h hN hv hs hi ht hj hA
      · exact lawFirst h hN hv hs hi hA
    · exact lawInvalid h hN hv hA
  · exact lawBig (by omega) hA

theorem lifted (hA : Runs) (os : Os) (started : os.Started) (H : Type) (enc : TypeId × Value → H) :
    ReturnsInHanded {} Try.checked os 5 .any (Rows.reduceClosedSpec.pre6 enc Try.prog Try.f5 Rows.reduceClosedRow.domain false) (Rows.reduceClosedSpec.post enc Try.prog Try.f5 false true false false) := by
  refine returnsInHanded_of_change (C := Try.checked) own started (by kernel_rfl) Try.func5
    (ChangeSpec.witness6 (enc := enc) (C := Try.checked) false ⟨#[], #[.slice none 0 0, .slice none 0 0, .slice none 0 0, .int .i64 0], []⟩ 8 (by kernel_rfl) (by kernel_rfl) (by kernel_rfl) (by kernel_rfl)) ?_
  intro W base args ds gs before hval0 hW hcnd hsz
  have hval : ∀ (j : Nat) t v, Try.f5.params[j]? = some t → args[j]? = some v → Value.okWide Try.prog W .any base t v := hval0
  have hW' := hW
  obtain ⟨p, q, hA0, hV, rfl, hfz, hnd⟩ := hW
  have hT : DataW.TrodAll enc Try.prog W 0 (fun _ => true) true Try.f5.params.toList args.toList ds p := hA0
  rw [Try.params5] at hT hval
  obtain ⟨v0, v1, v2, v3, d0, d1, d2, d3, p0, p1, p2, p3, rfl, rfl, rfl, h0, h1, h2, h3⟩ := trodAll_four hT
  obtain ⟨rfl, rfl⟩ := trodVars_none hV
  obtain ⟨z, rfl, rfl, rfl, wz⟩ := open_int Try.underlying3 (hval 3 3 v3 rfl rfl) h3
  clear hA0 hval0
  simp only [List.append_nil] at hW'
  obtain ⟨oa, cap, ls, rfl, hR⟩ := needs_arg (hval 0 24 v0 rfl rfl) h0
  obtain ⟨s, hS⟩ := ints_arg (hval 1 22 v1 rfl rfl) h1
  obtain ⟨t, hT2⟩ := ints_arg (hval 2 22 v2 rfl rfl) h2
  have hlt0 : ∀ x ∈ p0, x.block < W.heap.size := fun x hx => hW'.lt x (by simp [hx])
  have hlt1 : ∀ x ∈ p1, x.block < W.heap.size := fun x hx => hW'.lt x (by simp [hx])
  have hlt2 : ∀ x ∈ p2, x.block < W.heap.size := fun x hx => hW'.lt x (by simp [hx])
  refine (lawAll hR hS hT2 hA).mono fun e W' ⟨he, hB⟩ => ?_
  subst he
  exact ⟨_, rfl, post_of_below (pa := p0 ++ p1 ++ p2) (pv := []) hW' (fun _ _ _ => trodAll_cons_mk (shut_bool Try.underlying4 _) trodAll_mk0)
    (fun sp hsp => by
      have h := trodAll_mk4 (WideElems.Trod_stays laidOut (by kernel_rfl) (of_decide_eq_true (by kernel_rfl)) h0 (fun x hx => hB.same (hlt0 x hx)) (fun x hx => hsp x (by simp [hx])))
        (WideElems.Trod_stays laidOut (by kernel_rfl) (of_decide_eq_true (by kernel_rfl)) h1 (fun x hx => hB.same (hlt1 x hx)) (fun x hx => hsp x (by simp [hx])))
        (WideElems.Trod_stays laidOut (by kernel_rfl) (of_decide_eq_true (by kernel_rfl)) h2 (fun x hx => hB.same (hlt2 x hx)) (fun x hx => hsp x (by simp [hx])))
        (shut_int (P := Try.prog) (w := W') (base := 0) (spare := sp) (held := true) (enc := enc) Try.underlying3 wz)
      rw [List.append_nil, ← List.append_assoc] at h
      exact h)
    (fun _ _ => rfl) (by simp) hB
    (ok_one (by kernel_rfl) rfl (okWide_bool_mk Try.underlying4 _))⟩

theorem said (hA : Runs) : Rows.ReduceClosedSaid :=
  OpenClaim.holds_of_wide 5 Try.f5 rfl rfl rfl rfl rfl rfl rfl ⟨rfl, rfl, rfl, rfl, rfl⟩ rfl rfl rfl rfl rfl (by kernel_rfl) Try.func5 (by kernel_rfl)
    (of_decide_eq_true (by kernel_rfl)) (by unfold Func.isWrapper; first | (rw [if_pos (by decide +kernel)]; kernel_rfl) | (rw [if_neg (by decide +kernel)]; exact ⟨rfl, rfl⟩))
    (fun os started H enc _ => lifted hA os started H enc)
end Go.Proofs.Ytinllamocplgjaa.Cl
