import Derived.Test.YtcojbkhjmaaamaaGreatDoorSmL
import Derived.Carry
import Derived.Test.YtcojbkhjmaaamaaGreatDoorLvW
import Derived.Test.YtcojbkhjmaaamaaGreatDoorLvLangSameF
set_option maxRecDepth 100000
namespace Go.Proofs.YtcojbkhjmaaamaaGreatDoor.Sm
open Go Go.Pg Go.Ev Go.RowKit Go.ChangeShapes Go.WideShapes Go.ChangeAt Go.Proofs.YtcojbkhjmaaamaaGreatDoor.Lv

/-- What the row's list gives. -/
theorem ops_of {W : World} (h : laidMetH Tryz.prog Rows.langSameRow.laid W) : ∃ e, W.heap[0]? = some (.cells strVals e (0, 0)) := by
  have h : laidMet Tryz.prog Rows.langSameRow.laid W := h
  obtain ⟨ps, ⟨_, _, _, _, _, q1, _, _, _, _, ⟨_, _, _, _, _, q2, _, _, _, _, ⟨_, _, _, _, _, q3, _, _, _, _, ⟨_, _, _, _, _, q4, _, _, _, _, ⟨_, _, _, _, _, q5, _, _, _, _, ⟨g, t, cs, fuel, p, q6, hg, ht, hvar, hd, hq6, e6⟩, e5⟩, e4⟩, e3⟩, e2⟩, e1⟩, _, hcell⟩ := h
  have hg0 : g = 0 := Option.some.inj (hg.symm.trans gOps)
  subst hg0
  have ht0 : t = 331 := Option.some.inj (ht.symm.trans gOpsType)
  subst ht0
  have hcs : cs.toList = strs.map fun z => Value.string ⟨z.toArray⟩ := cells_of_strs Tryz.underlying331 Tryz.underlying9 cells9 cells_331 hd
  have hcs2 : cs = strVals := by
    have h1 := congrArg List.toArray hcs
    have h2 : cs.toList.toArray = cs := by simp
    rw [h2] at h1
    exact h1
  subst hcs2
  have hmem : MemPlace.cell 0 0 ∈ ps := by
    rw [e1, e2, e3, e4, e5, e6]
    have : MemPlace.cell 0 0 ∈ MemPlace.row ⟨0, 0, none⟩ strVals.size := by decide
    simp only [List.mem_append]
    exact .inr (.inr (.inr (.inr (.inr (.inl (.inl this))))))
  obtain ⟨⟨c, e, hc⟩, _⟩ := hcell 0 0 hmem
  refine ⟨e, ?_⟩
  unfold World.var? at hvar
  rw [gOps] at hvar
  simp only [Option.bind_some] at hvar
  rw [hc] at hvar ⊢
  simp only [Option.some.injEq] at hvar
  rw [hvar]

theorem NTprog : ∃ f0 f1 f2 f3 f4 f5 f6, NT Tryz.prog 57 115 91 9 2 56 f0 f1 f2 f3 f4 f5 f6 :=
  ⟨_, _, _, _, _, _, _, ⟨Tryz.underlying57, Tryz.underlying115, (by kernel_rfl), Tryz.underlying91, Tryz.underlying9, Tryz.underlying2, Tryz.underlying56, (by kernel_rfl), ⟨rfl, rfl, (by kernel_rfl)⟩, ⟨rfl, rfl⟩, ⟨rfl, rfl, (by kernel_rfl)⟩, ⟨rfl, rfl, (by kernel_rfl)⟩, ⟨rfl, rfl, (by kernel_rfl)⟩, ⟨rfl, rfl⟩, ⟨rfl, rfl⟩⟩⟩

/-- A program, as an argument. -/
theorem prog_of {H : Type} {enc : TypeId × Value → H} {W : World} {r : Reach} {b0 base : Nat} {spare : Nat → Bool} {held : Bool} {v : Value} {d : DataW H} {p : List MemPlace} (hv : Value.okWide Tryz.prog W r b0 24 v)
    (h : DataW.Trod enc Tryz.prog W base spare held 24 v d p) : ∃ n c l, v = .agg #[c] ∧ FuncsAt W n c l := by
  obtain ⟨cs, rfl, hsz⟩ := okWide_struct Tryz.underlying24 hv
  obtain ⟨fuel, hf⟩ := h
  obtain ⟨xs, k, hk, _, hl, hxl, hfs⟩ := DataW.trod_struct Tryz.underlying24 hf
  have g0 := hfs 0 _ rfl
  rw [List.getElem?_eq_getElem (by rw [hxl]; decide)] at g0
  have hone : Tryz.prog.cellsOf 24 = 1 := by kernel_rfl
  have hsz1 : cs.size = 1 := hsz.trans hone
  obtain ⟨l⟩ := cs
  match l, hsz1 with
  | [c], _ =>
    have hc : Tryz.prog.cellsOf 22 = 1 := by kernel_rfl
    have g1 : DataW.trod enc Tryz.prog W base spare held k 22 (([c].drop 0).take (Tryz.prog.cellsOf 22)) = some _ := g0
    rw [hc] at g1
    obtain ⟨f0, f1, f2, f3, f4, f5, f6, T⟩ := NTprog
    obtain ⟨n, v', l, e, F⟩ := funcs_of T Tryz.underlying22 Tryz.underlying59 (by kernel_rfl) ⟨rfl, rfl⟩ ⟨rfl, rfl⟩ ⟨rfl, rfl⟩ g1
    have e : c = v' := by simpa [Value.cells] using e
    subst e
    exact ⟨n, c, l, rfl, F⟩

theorem laidOut : laidOutB Tryz.prog = true := by kernel_rfl

/-- What the walk gives, for all arguments and every world that holds the listed variables. -/
theorem contract {m : Nat} (hs : ∀ e, startK E 6 [] (H0 e) = some (st0 6 m e)) (hrun : Lives 6 m) (H : Type) (enc : TypeId × Value → H) (W : World) (base : Nat) (args : Array Value) (ds gs : List (DataW H)) (before : List MemPlace)
    (hval0 : ∀ (j : Nat) t v, Tryz.f3.params[j]? = some t → args[j]? = some v → Value.okWide Tryz.prog W .any base t v)
    (hW : DataW.Whole enc Tryz.prog Tryz.f3.params.toList Rows.langSameSpec.vars false W args.toList ds gs before) (hL : laidMetH Tryz.prog Rows.langSameRow.laid W) :
    Calls Tryz.prog 3 args W fun e W' => ∃ v, e = .returned v ∧ Rows.langSameSpec.post enc Tryz.prog Tryz.f3 false true false false W args v W' := by
  obtain ⟨ty, hop⟩ := ops_of hL
  have hW' := hW
  obtain ⟨p, q, hA0, hV, rfl, hfz, hnd⟩ := hW
  have hA : DataW.TrodAll enc Tryz.prog W 0 (fun _ => true) true Tryz.f3.params.toList args.toList ds p := hA0
  have hval := hval0
  rw [Tryz.params3] at hA hval
  obtain ⟨v0, v1, d0, d1, p0, p1, rfl, rfl, rfl, h0, h1⟩ := trodAll_two hA
  obtain ⟨rfl, rfl⟩ := trodVars_none hV
  obtain ⟨n0, c0, l0, e0, F0⟩ := prog_of (hval 0 24 v0 rfl rfl) h0
  obtain ⟨n1, c1, l1, e1, F1⟩ := prog_of (hval 1 24 v1 rfl rfl) h1
  clear hA0
  simp only [List.append_nil] at hW'
  have hlt0 : ∀ x ∈ p0, x.block < W.heap.size := fun x hx => hW'.lt x (List.mem_append_left _ hx)
  have hlt1 : ∀ x ∈ p1, x.block < W.heap.size := fun x hx => hW'.lt x (List.mem_append_right _ hx)
  have key : Calls Tryz.prog 3 #[v0, v1] W fun e w' => e = .returned (.bool true) ∧ Below W.heap.size W w' := by
    rw [e0, e1]
    exact law W c0 c1 l0 l1 F0 F1 ⟨strVals, ty⟩ hop fun w2 h2 => hrun.calls hs ⟨ty, h2⟩
  refine key.mono fun e W' ⟨he, hB⟩ => ?_
  subst he
  exact ⟨_, rfl, post_of_below (pa := p0 ++ p1) (pv := []) hW' (fun _ _ _ => trodAll_cons_mk (shut_bool Tryz.underlying4 _) trodAll_mk0)
    (fun sp hsp => trodAll_mk2 (WideElems.Trod_stays laidOut (by kernel_rfl) (of_decide_eq_true (by kernel_rfl)) h0 (fun x hx => hB.same (hlt0 x hx)) (fun x hx => hsp x (by simp [hx])))
      (WideElems.Trod_stays laidOut (by kernel_rfl) (of_decide_eq_true (by kernel_rfl)) h1 (fun x hx => hB.same (hlt1 x hx)) (fun x hx => hsp x (by simp [hx]))))
    (fun _ _ => rfl) (by simp) hB
    (ok_one (by kernel_rfl) rfl (okWide_bool_mk Tryz.underlying4 _))⟩

abbrev args0 : Array Value := #[.agg #[.slice none 0 0], .agg #[.slice none 0 0]]
theorem laid_met (os : Os) : laidMet Tryz.prog Rows.langSameRow.laid ((laidWorld os 12).forCall (fun _ _ => 0) ⟨#[], args0, []⟩).memory :=
  laidMet_of_run' 8 (by kernel_rfl) (by kernel_rfl)
theorem reads (os : Os) {H : Type} (enc : TypeId × Value → H) : ∃ places, DataW.whole enc Tryz.prog ((laidWorld os 12).forCall (fun _ _ => 0) ⟨#[], args0, []⟩).memory Tryz.f3.params.toList Rows.langSameSpec.vars false args0.toList 8 = some ([.agg [.nil], .agg [.nil]], [], places) :=
  ⟨[], by kernel_rfl⟩

theorem lifted {m : Nat} (hs : ∀ e, startK E 6 [] (H0 e) = some (st0 6 m e)) (hrun : Lives 6 m) (os : Os) (started : os.Started) (H : Type) (enc : TypeId × Value → H) (F : Stop.Interp) :
    ReturnsInHanded {} Tryz.checked os 3 .any ((OpenSpec.ofChange Rows.langSameSpec).preRow enc Tryz.prog Tryz.f3 Rows.langSameRow.domain false Rows.langSameRow.laid) (((OpenSpec.ofChange Rows.langSameSpec).at F).post enc Tryz.prog Tryz.f3 false true false false) := by
  obtain ⟨places, hx⟩ := reads os enc
  refine returnsInHanded_of_row (C := Tryz.checked) (s := OpenSpec.ofChange Rows.langSameSpec) own started (by kernel_rfl) Tryz.func3
    (witness_row_atRef (enc := enc) (C := Tryz.checked) false (laidWorld os 12) args0 rfl (by kernel_rfl) (by kernel_rfl) (by kernel_rfl)
      (OpenSpec.preRow_of_cond 8 hx (by kernel_rfl) (fun k hk => by cases hk) (by kernel_rfl) (laid_met os))) ?_
  intro W base args ds gs before hval hW _ _ _ hL _ _
  exact contract hs hrun H enc W base args ds gs before hval hW hL

theorem said {m : Nat} (hs : ∀ e, startK E 6 [] (H0 e) = some (st0 6 m e)) (hrun : Lives 6 m) : Rows.LangSameSaid :=
  OpenClaim.holds_of_cond 3 Tryz.f3 rfl rfl rfl rfl rfl rfl rfl ⟨rfl, rfl, rfl, rfl, rfl⟩ rfl rfl rfl rfl rfl (by kernel_rfl) Tryz.func3 Lv.LangSame.facts
    (of_decide_eq_true (by kernel_rfl)) (by unfold Func.isWrapper; first | (rw [if_pos (by decide +kernel)]; kernel_rfl) | (rw [if_neg (by decide +kernel)]; exact ⟨rfl, rfl⟩))
    (fun os started H enc _ F => by rw [OpenClaim.pre_eq_preRow]; exact lifted hs hrun os started H enc F)

theorem plain (f : FuncId) (fn : Func) (hf : Tryz.pinned.checked.prog.funcNamed "sleuth/sleuthlaw01.LangSame" = some f) (hfn : Tryz.pinned.checked.prog.funcs[f]? = some fn) :
    true = Tryz.pinned.checked.prog.looks [] ∧ ∀ (j : Nat) t, fn.params[j]? = some t → Tryz.pinned.checked.prog.wantsStandIn t = false := by
  obtain rfl : f = 3 := Option.some.inj ((show Tryz.prog.funcNamed "sleuth/sleuthlaw01.LangSame" = some 3 by kernel_rfl).symm.trans hf) |>.symm
  obtain rfl : fn = Tryz.f3 := (Option.some.inj (Tryz.func3.symm.trans hfn)).symm
  refine ⟨by kernel_rfl, fun j t ht => ?_⟩
  rw [Tryz.params3] at ht
  have hm := Array.mem_of_getElem? ht
  have hm2 : t = 24 := by simpa using hm
  subst hm2
  exact (show Tryz.prog.wantsStandIn 24 = false by kernel_rfl)

theorem card {m : Nat} (hs : ∀ e, startK E 6 [] (H0 e) = some (st0 6 m e)) (hrun : Lives 6 m) : Rows.LangSameCardSaid :=
  Claim7.holds_tied_plain_at .later [] _ _ _ _ (said hs hrun) (fun _ h => by cases h) (by kernel_rfl) (fun _ h => by cases h) langSame_row_tie rfl ⟨rfl, rfl⟩ (by kernel_rfl) rfl plain (by kernel_rfl)
end Go.Proofs.YtcojbkhjmaaamaaGreatDoor.Sm
