import Derived.Test.YtmkapmbmgpnjaaaGmC
import Derived.Test.YtmkapmbmgpnjaaaRows
import Derived.ProofKit
import Derived.OpenShut
import Derived.Carry
set_option maxRecDepth 100000
namespace Go.Proofs.Ytmkapmbmgpnjaaa.Se
open Go Go.Ms Go.Pg Go.Bi Go.Se Go.ChangeShapes Go.WideShapes Go.ChangeAt Go.RowKit Go.Deep Go.Proofs.Ytmkapmbmgpnjaaa.Bi

theorem own : ownKnob Try.prog.godebug = none := by kernel_rfl
theorem laidOut : laidOutB Try.prog = true := by kernel_rfl

theorem post_of_below {H : Type} {enc : TypeId × Value → H} {P : Program} {f : Func} {s : ChangeSpec} {apart fresh handsOn again : Bool} {W W' : World} {args : Array Value} {v : Value} {ds gs : List (DataW H)} {before pa pv : List MemPlace}
    (hW : DataW.Whole enc P f.params.toList s.vars apart W args.toList ds gs before)
    (hres : ∀ (b : Nat) (sp : Nat → Bool) (hd : Bool), DataW.TrodAll enc P W' b sp hd f.resultTypes.toList (v.resultList f.resultTypes.size) (s.fn H (ds ++ gs)).results [])
    (hargs : ∀ sp : Nat → Bool, (∀ p ∈ before, sp p.block = true) → DataW.TrodAll enc P W' 0 sp true f.params.toList args.toList (s.fn H (ds ++ gs)).args pa)
    (hvars : ∀ sp : Nat → Bool, (∀ p ∈ before, sp p.block = true) → DataW.TrodVars enc P W' sp s.vars (s.fn H (ds ++ gs)).vars pv)
    (hps : before = pa ++ pv) (hB : Below W.heap.size W W')
    (hok : ∀ (j : Nat) (t : TypeId) (r : Value), f.resultTypes[j]? = some t → (v.resultList f.resultTypes.size)[j]? = some r → Value.okWide P W' .any 0 t r) :
    s.post enc P f apart fresh handsOn again W args v W' := by
  have hlt := hW.lt
  have hold : ∀ p ∈ before, (fun b => decide (b < W.heap.size)) p.block = true := fun p hp => by simpa using hlt p hp
  refine ⟨ds, gs, before, [], pa, pv, hW, hres _ _ _, hargs _ hold, hvars _ hold, World.keptBut_mono (fun p hp => ⟨hp, ?_⟩) (hB.frame (· ∈ before)), fun _ => ?_⟩
  · rw [hps, List.mem_append] at hp
    exact Or.inr hp
  · obtain ⟨_, _, _, _, _, hz, hn⟩ := hW
    refine ⟨hok, _, _, ([] ++ pa) ++ pv, ⟨[] ++ pa, pv, trodAll_append (hargs _ (fun _ _ => rfl)) (hres _ _ _), hvars _ (fun _ _ => rfl), rfl, ?_, ?_⟩, ?_⟩
    · intro b off hp
      have hp2 : MemPlace.cell b off ∈ before := by rw [hps]; simpa using hp
      rw [hB.frozen (p := ⟨b, off, none⟩) (hlt _ hp2)]
      exact hz b off hp2
    · intro ha
      have := hn ha
      rw [hps] at this
      simpa using this
    · intro p hp _
      rw [hps]
      simpa using hp

theorem cell_lt9 {w : World} {b o : Nat} {v : Value} (h : w.cell? ⟨b, o, none⟩ = some v) : b < w.heap.size := by
  by_cases q : b < w.heap.size
  · exact q
  · simp [World.cell?, Array.getElem?_eq_none (Nat.le_of_not_lt q)] at h
theorem ints_trod {H : Type} {enc : TypeId × Value → H} {W : World} {fuel : Nat} {cs : List Value} {x : DataW H × List MemPlace} (h : DataW.trod enc Try.prog W 0 (fun _ => true) true fuel 30 cs = some x) : ∃ oa cap l, cs = [.slice oa l.length cap] ∧ IntsW W (.slice oa l.length cap) l := by
  rcases open_ints Try.underlying30 Try.underlying3 (by kernel_rfl) h with ⟨e, _⟩ | ⟨a, len, cap, zs, e, _, hle, hm, hz, _, hc, hw⟩
  · exact ⟨none, 0, [], e, none, 0, rfl, Nat.zero_le _, fun i hi => absurd hi (Nat.not_lt_zero i)⟩
  · have hz2 : len ≤ zs.length := by rw [hz]; simp; exact hle
    have hlen : (zs.take len).length = len := by rw [List.length_take]; omega
    refine ⟨some a, cap, zs.take len, by rw [hlen]; exact e, some a, cap, rfl, by unfold maxLen at hm; omega, fun i hi => ?_⟩
    have hi2 : i < zs.length := by omega
    obtain ⟨b, o, spot⟩ := a
    have hspot : spot = none := by
      have z0 := hc 0 (by omega)
      simpa [Addr.add] using World.cell?_spot z0
    subst hspot
    have hci := hc i hi2
    rw [Go.WideShapes.add_plain] at hci
    have eg : zs.getD i 0 = (zs.take len)[i] := by simp [List.getElem?_eq_getElem hi2]
    rw [eg] at hci
    exact ⟨b, o, rfl, by simpa using hci⟩
theorem ints_arg {H : Type} {enc : TypeId × Value → H} {W : World} {r : Reach} {b0 : Nat} {v : Value} {d : DataW H} {p : List MemPlace} (hv : Value.okWide Try.prog W r b0 30 v) (h : DataW.Trod enc Try.prog W 0 (fun _ => true) true 30 v d p) : ∃ l, IntsW W v l := by
  obtain ⟨fuel, hf⟩ := h
  obtain ⟨a0, n0, c0, rfl⟩ := okWide_slice Try.underlying30 hv
  obtain ⟨oa, cap, l, e, hr⟩ := ints_trod hf
  have e2 : Value.slice a0 n0 c0 = .slice oa l.length cap := by simpa [Value.cells] using e
  rw [e2]
  exact ⟨l, hr⟩
theorem lists_trod {H : Type} {enc : TypeId × Value → H} {W : World} {fuel : Nat} {cs : List Value} {x : DataW H × List MemPlace} (h : DataW.trod enc Try.prog W 0 (fun _ => true) true fuel 22 cs = some x) : ∃ v ls, cs = [v] ∧ Lists W v ls := by
  rcases DataW.trod_slice Try.underlying22 h with ⟨e, _⟩ | ⟨a, len, cap, elems, rest, n, hf, e, hx, _, hl, hm, hlen, hel, _, _⟩
  · exact ⟨_, [], e, none, 0, rfl, Nat.zero_le _, fun i hi => absurd hi (Nat.not_lt_zero i)⟩
  · have hc : Try.prog.cellsOf 30 = 1 := by kernel_rfl
    rw [hc] at hel
    have each : ∀ i, i < len → ∃ y : List Int, ∃ b o s, a = ⟨b, o, none⟩ ∧ W.cell? ⟨b, o + i, none⟩ = some s ∧ IntsW W s y := by
      intro i hi
      have hi2 : i < elems.length := by omega
      have h1 := hel i hi
      rw [List.getElem?_eq_getElem hi2] at h1
      simp only [Option.bind_eq_some_iff] at h1
      obtain ⟨cs', hc1, hc2⟩ := h1
      obtain ⟨_, hl7, hcell⟩ := World.cells?_some hc1
      obtain ⟨oa, cap, l, rfl, hr⟩ := ints_trod hc2
      obtain ⟨b, o, spot⟩ := a
      have hspot : spot = none := by
        have z0 := (hel 0 (by omega))
        rw [List.getElem?_eq_getElem (by omega)] at z0
        simp only [Option.bind_eq_some_iff] at z0
        obtain ⟨cs', hc1, _⟩ := z0
        obtain ⟨_, hl7, hcell⟩ := World.cells?_some hc1
        have z0 := hcell 0 (by omega)
        rw [List.getElem?_eq_getElem (by omega)] at z0
        simpa [Addr.add] using World.cell?_spot z0
      subst hspot
      have h0 := hcell 0 (by omega)
      rw [Go.WideShapes.add_plain, Go.WideShapes.add_plain] at h0
      exact ⟨l, b, o, _, rfl, by simpa using h0, hr⟩
    obtain ⟨f, hf2⟩ := Go.Deep.choose_lt each
    refine ⟨_, (List.range len).map f, e, some a, cap, by simp, by simp; unfold maxLen at hm; omega, fun i hi => ?_⟩
    have hi2 : i < len := by simpa using hi
    obtain ⟨b, o, s, rfl, k1, k2⟩ := hf2 i hi2
    exact ⟨b, o, s, rfl, k1, by simpa using k2⟩
theorem lists_slice {w : World} {v : Value} {ls : List (List Int)} (h : Lists w v ls) : ∃ oa n c, v = .slice oa n c := by
  obtain ⟨oa, c, rfl, -⟩ := h
  exact ⟨_, _, _, rfl⟩
theorem orc_arg {H : Type} {enc : TypeId × Value → H} {W : World} {r : Reach} {b0 : Nat} {v : Value} {d : DataW H} {p : List MemPlace} (hv : Value.okWide Try.prog W r b0 48 v) (h : DataW.Trod enc Try.prog W 0 (fun _ => true) true 48 v d p) :
    ∃ sn sb o, v = orcV sn sb o ∧ OrcAt W sn sb o := by
  obtain ⟨cs, rfl, hsz⟩ := okWide_struct Try.underlying48 hv
  obtain ⟨fuel, hf⟩ := h
  obtain ⟨fs, hu, hm⟩ : ∃ fs, Try.prog.underlying 48 = some (.struct fs) ∧ fs.toList.map (fun f => (f.type, f.offset)) = [(22, 0), (22, 1), (46, 2), (5, 3)] := ⟨_, Try.underlying48, rfl⟩
  have hl := struct_len hu (c := 4) (by kernel_rfl) hf
  obtain ⟨xs, k, hk, _, _, hxl, hfs⟩ := DataW.trod_struct hu hf
  have hc36 : Try.prog.cellsOf 22 = 1 := by kernel_rfl
  have hc37 : Try.prog.cellsOf 46 = 1 := by kernel_rfl
  have hc5 : Try.prog.cellsOf 5 = 1 := by kernel_rfl
  obtain ⟨f0, a0, b0', c0⟩ := field_at hm (i := 0) rfl
  obtain ⟨f1, a1, b1, c1⟩ := field_at hm (i := 1) rfl
  obtain ⟨f2, a2, b2, c2⟩ := field_at hm (i := 2) rfl
  obtain ⟨f3, a3, b3, c3⟩ := field_at hm (i := 3) rfl
  have l0 : 0 < xs.length := by rw [hxl]; exact (Array.getElem?_eq_some_iff.1 a0).1
  have l1 : 1 < xs.length := by rw [hxl]; exact (Array.getElem?_eq_some_iff.1 a1).1
  have l2 : 2 < xs.length := by rw [hxl]; exact (Array.getElem?_eq_some_iff.1 a2).1
  have l3 : 3 < xs.length := by rw [hxl]; exact (Array.getElem?_eq_some_iff.1 a3).1
  have g0 := hfs 0 f0 a0
  have g1 := hfs 1 f1 a1
  have g2 := hfs 2 f2 a2
  have g3 := hfs 3 f3 a3
  rw [List.getElem?_eq_getElem l0, b0', c0, hc36] at g0
  rw [List.getElem?_eq_getElem l1, b1, c1, hc36] at g1
  rw [List.getElem?_eq_getElem l2, b2, c2, hc37] at g2
  rw [List.getElem?_eq_getElem l3, b3, c3, hc5] at g3
  have hcs : cs = cs.toList.toArray := by simp
  have hlc : cs.toList.length = 4 := by simpa [Value.cells] using hl
  simp only [Value.cells] at g0 g1 g2 g3
  generalize cs.toList = L at *
  subst hcs
  match L, hlc with
  | [d0, d1, d2, d3], _ =>
    obtain ⟨sn, ln, e0, hn⟩ := lists_trod g0
    obtain ⟨sb, lb, e1, hb⟩ := lists_trod g1
    obtain ⟨y2, e2, w2⟩ := int_one Try.underlying46 g2
    obtain ⟨y3, e3, w3⟩ := int_one Try.underlying5 g3
    simp at e0 e1 e2 e3
    subst e0 e1 e2 e3
    have r2 : 0 ≤ y2 ∧ y2 < 18446744073709551616 := by
      simp [Lit.wf, IntKind.min, IntKind.max, IntKind.signed, IntKind.bits] at w2
      omega
    have r3 : 0 ≤ y3 ∧ y3 < 256 := by
      simp [Lit.wf, IntKind.min, IntKind.max, IntKind.signed, IntKind.bits] at w3
      omega
    refine ⟨d0, d1, ⟨ln, lb, y2.toNat, y3.toNat⟩, ?_, hn, hb, by show y2.toNat < _; omega, by show y3.toNat < _; omega⟩
    have e2 : ((y2.toNat : Nat) : Int) = y2 := by omega
    have e3 : ((y3.toNat : Nat) : Int) = y3 := by omega
    simp [orcV, e2, e3]
end Go.Proofs.Ytmkapmbmgpnjaaa.Se
