import Derived.Test.YtinllamocplgjaaNoT
import Derived.Test.YtinllamocplgjaaNoL
import Derived.Test.YtinllamocplgjaaRows
import Derived.ProofKit
import Derived.OpenShut
set_option maxRecDepth 100000
namespace Go.Proofs.Ytinllamocplgjaa.No
open Go Go.Ms Go.Pg Go.Rc Go.No Go.ChangeShapes Go.WideShapes Go.ChangeAt Go.RowKit Go.Deep Go.Shelf Go.Proofs.Ytinllamocplgjaa.Rc

theorem own : ownKnob Try.prog.godebug = none := by kernel_rfl
theorem laidOut : laidOutB Try.prog = true := by kernel_rfl

theorem post_of_below {H : Type} {enc : TypeId × Value → H} {P : Program} {f : Func} {s : ChangeSpec} {apart fresh handsOn again : Bool} {W W' : World} {args : Array Value} {v : Value} {ds gs : List (DataW H)} {before pa pv : List MemPlace}
    (hW : DataW.Whole enc P f.params.toList s.vars apart W args.toList ds gs before)
    (hres : ∀ (b : Nat) (sp : Nat → Bool) (hd : Bool), DataW.TrodAll enc P W' b sp hd f.resultTypes.toList (v.resultList f.resultTypes.size) (s.fn H (ds ++ gs)).results [])
    (hargs : ∀ sp : Nat → Bool, (∀ p ∈ before, sp p.block = true) → DataW.TrodAll enc P W' 0 sp true f.params.toList args.toList (s.fn H (ds ++ gs)).args pa)
    (hvars : ∀ sp : Nat → Bool, (∀ p ∈ before, sp p.block = true) → DataW.TrodVars enc P W' sp s.vars (s.fn H (ds ++ gs)).vars pv)
    (hps : before = pa ++ pv) (hB : Below W.heap.size W W')
    (hok : ∀ (j : Nat) (t : TypeId) (r : Value), f.resultTypes[j]? = some t → (v.resultList f.resultTypes.size)[j]? = some r → Value.okWide P W' .any 0 t r) :
    s.post enc P f apart fresh handsOn again W args v W' := by
  have hlt := hW.lt
  have hold : ∀ p ∈ before, (fun b => decide (b < W.heap.size)) p.block = true := fun p hp => by simpa using hlt p hp
  refine ⟨ds, gs, before, [], pa, pv, hW, hres _ _ _, hargs _ hold, hvars _ hold, World.keptBut_mono (fun p hp => ⟨hp, ?_⟩) (hB.frame (· ∈ before)), fun _ => ?_⟩
  · rw [hps, List.mem_append] at hp
    exact Or.inr hp
  · obtain ⟨_, _, _, _, _, hz, hn⟩ := hW
    refine ⟨hok, _, _, ([] ++ pa) ++ pv, ⟨[] ++ pa, pv, trodAll_append (hargs _ (fun _ _ => rfl)) (hres _ _ _), hvars _ (fun _ _ => rfl), rfl, ?_, ?_⟩, ?_⟩
    · intro b off hp
      have hp2 : MemPlace.cell b off ∈ before := by rw [hps]; simpa using hp
      rw [hB.frozen (p := ⟨b, off, none⟩) (hlt _ hp2)]
      exact hz b off hp2
    · intro ha
      have := hn ha
      rw [hps] at this
      simpa using this
    · intro p hp _
      rw [hps]
      simpa using hp


theorem pick_trod {H : Type} {enc : TypeId × Value → H} {w : World} {base : Nat} {spare : Nat → Bool} {held : Bool} {fuel : Nat} {cs : List Value} {x : DataW H × List MemPlace} (h : DataW.trod enc Try.prog w base spare held fuel 36 cs = some x) :
    ∃ y : Int × Int, cs = [.int .i64 y.1, .int .i64 y.2] ∧ WfI .i64 y.1 ∧ WfI .i64 y.2 := by
  obtain ⟨fs, hu, hm⟩ : ∃ fs, Try.prog.underlying 36 = some (.struct fs) ∧ fs.toList.map (fun f => (f.type, f.offset)) = [(3, 0), (3, 1)] := ⟨_, Try.underlying36, rfl⟩
  have hl := struct_len hu (c := 2) (by kernel_rfl) h
  obtain ⟨xs, k, hk, rfl, _, hxl, hfs⟩ := DataW.trod_struct hu h
  have hc : Try.prog.cellsOf 3 = 1 := by kernel_rfl
  obtain ⟨f0, a0, b0, c0⟩ := field_at hm (i := 0) rfl
  obtain ⟨f1, a1, b1, c1⟩ := field_at hm (i := 1) rfl
  have l0 : 0 < xs.length := by rw [hxl]; exact (Array.getElem?_eq_some_iff.1 a0).1
  have l1 : 1 < xs.length := by rw [hxl]; exact (Array.getElem?_eq_some_iff.1 a1).1
  have g0 := hfs 0 f0 a0
  have g1 := hfs 1 f1 a1
  rw [List.getElem?_eq_getElem l0, b0, c0, hc] at g0
  rw [List.getElem?_eq_getElem l1, b1, c1, hc] at g1
  match cs, hl with
  | [d0, d1], _ =>
    obtain ⟨y0, e0, w0⟩ := int_one Try.underlying3 g0
    obtain ⟨y1, e1, w1⟩ := int_one Try.underlying3 g1
    simp at e0 e1
    subst e0 e1
    exact ⟨(y0, y1), rfl, w0, w1⟩
theorem picks_arg {H : Type} {enc : TypeId × Value → H} {W : World} {r : Reach} {b0 : Nat} {v : Value} {d : DataW H} {p : List MemPlace} (hv : Value.okWide Try.prog W r b0 28 v) (h : DataW.Trod enc Try.prog W 0 (fun _ => true) true 28 v d p) :
    ∃ oa cap l, v = .slice oa l.length cap ∧ (l.length ≤ 30 → Picks W (.slice oa l.length cap) l) := by
  obtain ⟨fuel, hf⟩ := h
  obtain ⟨a0, n0, c0, rfl⟩ := okWide_slice Try.underlying28 hv
  rcases DataW.trod_slice Try.underlying28 hf with ⟨e, _⟩ | ⟨a, len, cap, elems, rest, n, hf, e, hx, _, hl, hm, hlen, hel, _, _⟩
  · have e : Value.slice a0 n0 c0 = .slice none 0 0 := by simpa [Value.cells] using e
    rw [e]
    exact ⟨none, 0, [], rfl, fun _ => ⟨none, 0, rfl, Nat.zero_le _, fun i hi => absurd hi (Nat.not_lt_zero i)⟩⟩
  · have e : Value.slice a0 n0 c0 = .slice (some a) len cap := by simpa [Value.cells] using e
    rw [e]
    have hc : Try.prog.cellsOf 36 = 2 := by kernel_rfl
    rw [hc] at hel
    have each : ∀ i, i < len → ∃ y : Int × Int, ∃ b o, a = ⟨b, o, none⟩ ∧ PairAt .i64 .i64 W b (o + i * 2) y := by
      intro i hi
      have hi2 : i < elems.length := by omega
      have h1 := hel i hi
      rw [List.getElem?_eq_getElem hi2] at h1
      simp only [Option.bind_eq_some_iff] at h1
      obtain ⟨cs', hc1, hc2⟩ := h1
      obtain ⟨_, hl7, hcell⟩ := World.cells?_some hc1
      obtain ⟨y, rfl, w0, w1⟩ := pick_trod hc2
      obtain ⟨b, o, spot⟩ := a
      have hspot : spot = none := by
        have z0 := (hel 0 (by omega))
        rw [List.getElem?_eq_getElem (by omega)] at z0
        simp only [Option.bind_eq_some_iff] at z0
        obtain ⟨cs', hc1, _⟩ := z0
        obtain ⟨_, hl7, hcell⟩ := World.cells?_some hc1
        have z0 := hcell 0 (by omega)
        rw [List.getElem?_eq_getElem (by omega)] at z0
        simpa [Addr.add] using World.cell?_spot z0
      subst hspot
      have at_ : ∀ j, j < 2 → W.cell? ⟨b, o + i * 2 + j, none⟩ = [Value.int .i64 y.1, .int .i64 y.2][j]? := by
        intro j hj
        rw [← hcell j hj]
        congr 1
        rw [Go.WideShapes.add_plain, Go.WideShapes.add_plain]
      exact ⟨y, b, o, rfl, ⟨at_ 0 (by omega), w0⟩, at_ 1 (by omega), w1⟩
    obtain ⟨f, hf2⟩ := Go.Deep.choose_lt each
    refine ⟨some a, cap, (List.range len).map f, by simp, fun hs => ⟨some a, cap, rfl, by omega, fun i hi => ?_⟩⟩
    have hi2 : i < len := by simpa using hi
    obtain ⟨b, o, rfl, k⟩ := hf2 i hi2
    exact ⟨b, o, rfl, by simpa using k⟩

theorem lifted (hA : Runs) (os : Os) (started : os.Started) (H : Type) (enc : TypeId × Value → H) :
    ReturnsInHanded {} Try.checked os 4 .any (Rows.reduceNormalSpec.pre6 enc Try.prog Try.f4 Rows.reduceNormalRow.domain false) (Rows.reduceNormalSpec.post enc Try.prog Try.f4 false true false false) := by
  refine returnsInHanded_of_change (C := Try.checked) own started (by kernel_rfl) Try.func4
    (ChangeSpec.witness6 (enc := enc) (C := Try.checked) false ⟨#[], #[.slice none 0 0, .int .i64 0], []⟩ 8 (by kernel_rfl) (by kernel_rfl) (by kernel_rfl) (by kernel_rfl)) ?_
  intro W base args ds gs before hval0 hW hcnd hsz
  have hval : ∀ (j : Nat) t v, Try.f4.params[j]? = some t → args[j]? = some v → Value.okWide Try.prog W .any base t v := hval0
  have hW' := hW
  obtain ⟨p, q, hA0, hV, rfl, hfz, hnd⟩ := hW
  have hT : DataW.TrodAll enc Try.prog W 0 (fun _ => true) true Try.f4.params.toList args.toList ds p := hA0
  rw [Try.params4] at hT hval
  obtain ⟨v0, v1, d0, d1, p0, p1, rfl, rfl, rfl, h0, h1⟩ := trodAll_two hT
  obtain ⟨rfl, rfl⟩ := trodVars_none hV
  obtain ⟨z, rfl, rfl, rfl, wz⟩ := open_int Try.underlying3 (hval 1 3 v1 rfl rfl) h1
  clear hA0 hval0
  simp only [List.append_nil] at hW'
  obtain ⟨oa, cap, l, rfl, hR⟩ := picks_arg (hval 0 28 v0 rfl rfl) h0
  have hlt0 : ∀ x ∈ p0, x.block < W.heap.size := fun x hx => hW'.lt x hx
  have key : Calls Try.prog 4 #[.slice oa l.length cap, .int .i64 z] W fun e w' => e = .returned (.bool true) ∧ Below W.heap.size W w' := by
    by_cases hs : l.length ≤ 30
    · by_cases h00 : err 65536 l = 0
      · exact lawGood lay31 rfl rfl (hR hs) hs h00 hA
      · exact lawBad (hR hs) hs h00 hA
    · exact lawBig (by omega) hA
  refine key.mono fun e W' ⟨he, hB⟩ => ?_
  subst he
  exact ⟨_, rfl, post_of_below (pa := p0) (pv := []) hW' (fun _ _ _ => trodAll_cons_mk (shut_bool Try.underlying4 _) trodAll_mk0)
    (fun sp hsp => by
      have h := trodAll_mk2 (WideElems.Trod_stays laidOut (by kernel_rfl) (of_decide_eq_true (by kernel_rfl)) h0 (fun x hx => hB.same (hlt0 x hx)) (fun x hx => hsp x hx)) (shut_int (P := Try.prog) (w := W') (base := 0) (spare := sp) (held := true) (enc := enc) Try.underlying3 wz)
      rw [List.append_nil] at h
      exact h)
    (fun _ _ => rfl) (by simp) hB
    (ok_one (by kernel_rfl) rfl (okWide_bool_mk Try.underlying4 _))⟩

theorem said (hA : Runs) : Rows.ReduceNormalSaid :=
  OpenClaim.holds_of_wide 4 Try.f4 rfl rfl rfl rfl rfl rfl rfl ⟨rfl, rfl, rfl, rfl, rfl⟩ rfl rfl rfl rfl rfl (by kernel_rfl) Try.func4 (by kernel_rfl)
    (of_decide_eq_true (by kernel_rfl)) (by unfold Func.isWrapper; first | (rw [if_pos (by decide +kernel)]; kernel_rfl) | (rw [if_neg (by decide +kernel)]; exact ⟨rfl, rfl⟩))
    (fun os started H enc _ => lifted hA os started H enc)
end Go.Proofs.Ytinllamocplgjaa.No
