import Derived.Test.YtkkhpackddlmpaaGreatDoorLvW
import Derived.Test.YtkkhpackddlmpaaGreatDoorLvTraceKnownF
set_option maxRecDepth 100000
namespace Go.Proofs.YtkkhpackddlmpaaGreatDoor.Lv.TraceKnown
open Go.Ev Go.RowKit Go.ChangeShapes Go.WideShapes Go.ChangeAt Go.Proofs.YtkkhpackddlmpaaGreatDoor.Lv

/-- What the row's list gives. -/
theorem ops_of {W : World} (h : laidMetH Tryz.prog Rows.traceKnownRow.laid W) : ∃ e, W.heap[0]? = some (.cells strVals e (0, 0)) := by
  have h : laidMet Tryz.prog Rows.traceKnownRow.laid W := h
  obtain ⟨ps, ⟨_, _, _, _, _, q1, _, _, _, _, ⟨_, _, _, _, _, q2, _, _, _, _, ⟨_, _, _, _, _, q3, _, _, _, _, ⟨_, _, _, _, _, q4, _, _, _, _, ⟨_, _, _, _, _, q5, _, _, _, _, ⟨g, t, cs, fuel, p, q6, hg, ht, hvar, hd, hq6, e6⟩, e5⟩, e4⟩, e3⟩, e2⟩, e1⟩, _, hcell⟩ := h
  have hg0 : g = 0 := Option.some.inj (hg.symm.trans gOps)
  subst hg0
  have ht0 : t = 390 := Option.some.inj (ht.symm.trans gOpsType)
  subst ht0
  have hcs : cs.toList = strs.map fun z => Value.string ⟨z.toArray⟩ := cells_of_strs Tryz.underlying390 Tryz.underlying9 cells9 cells_390 hd
  have hcs2 : cs = strVals := by
    have h1 := congrArg List.toArray hcs
    have h2 : cs.toList.toArray = cs := by simp
    rw [h2] at h1
    exact h1
  subst hcs2
  have hmem : MemPlace.cell 0 0 ∈ ps := by
    rw [e1, e2, e3, e4, e5, e6]
    have : MemPlace.cell 0 0 ∈ MemPlace.row ⟨0, 0, none⟩ strVals.size := by decide
    simp only [List.mem_append]
    exact .inr (.inr (.inr (.inr (.inr (.inl (.inl this))))))
  obtain ⟨⟨c, e, hc⟩, _⟩ := hcell 0 0 hmem
  refine ⟨e, ?_⟩
  unfold World.var? at hvar
  rw [gOps] at hvar
  simp only [Option.bind_some] at hvar
  rw [hc] at hvar ⊢
  simp only [Option.some.injEq] at hvar
  rw [hvar]

/-- What the walk gives, for every world that holds the listed variables. -/
theorem contract {m : Nat} (hs : ∀ e, startK E 3 [] (H0 e) = some (st0 3 m e)) (hrun : Lives 3 m) (H : Type) (enc : TypeId × Value → H) (W : World) (args : Array Value) (ds gs : List (DataW H)) (before : List MemPlace)
    (hW : DataW.Whole enc Tryz.prog Tryz.f3.params.toList Rows.traceKnownSpec.vars false W args.toList ds gs before) (hL : laidMetH Tryz.prog Rows.traceKnownRow.laid W) :
    Calls Tryz.prog 3 args W fun e W' => ∃ v, e = .returned v ∧ Rows.traceKnownSpec.post enc Tryz.prog Tryz.f3 false true false false W args v W' := by
  have hW' := hW
  obtain ⟨p, q, hA0, hV, rfl, hfz, hnd⟩ := hW
  have hA : DataW.TrodAll enc Tryz.prog W 0 (fun _ => true) true Tryz.f3.params.toList args.toList ds p := hA0
  rw [Tryz.params3] at hA
  obtain ⟨hargs, rfl, rfl⟩ := trodAll_nil hA
  obtain rfl : args = #[] := by cases args; simp_all
  obtain ⟨rfl, rfl⟩ := trodVars_none hV
  clear hA0
  simp only [List.append_nil] at hW'
  refine (hrun.calls hs (ops_of hL)).mono fun e W' ⟨he, hB⟩ => ?_
  subst he
  exact ⟨_, rfl, post_of_below (pa := []) (pv := []) hW' (fun _ _ _ => trodAll_cons_mk (shut_bool Tryz.underlying4 _) trodAll_mk0) (fun _ _ => trodAll_mk0) (fun _ _ => rfl) rfl hB
    (ok_one (by kernel_rfl) rfl (okWide_bool_mk Tryz.underlying4 _))⟩

theorem laid_met (os : Os) : laidMet Tryz.prog Rows.traceKnownRow.laid ((laidWorld os 12).forCall (fun _ _ => 0) ⟨#[], #[], []⟩).memory :=
  laidMet_of_run' 8 (by kernel_rfl) (by kernel_rfl)
theorem reads (os : Os) {H : Type} (enc : TypeId × Value → H) : ∃ places, DataW.whole enc Tryz.prog ((laidWorld os 12).forCall (fun _ _ => 0) ⟨#[], #[], []⟩).memory Tryz.f3.params.toList Rows.traceKnownSpec.vars false (#[] : Array Value).toList 8 = some ([], [], places) :=
  ⟨[], by kernel_rfl⟩

theorem lifted {m : Nat} (hs : ∀ e, startK E 3 [] (H0 e) = some (st0 3 m e)) (hrun : Lives 3 m) (os : Os) (started : os.Started) (H : Type) (enc : TypeId × Value → H) (F : Stop.Interp) :
    ReturnsInHanded {} Tryz.checked os 3 .any ((OpenSpec.ofChange Rows.traceKnownSpec).preRow enc Tryz.prog Tryz.f3 Rows.traceKnownRow.domain false Rows.traceKnownRow.laid) (((OpenSpec.ofChange Rows.traceKnownSpec).at F).post enc Tryz.prog Tryz.f3 false true false false) := by
  obtain ⟨places, hx⟩ := reads os enc
  refine returnsInHanded_of_row (C := Tryz.checked) (s := OpenSpec.ofChange Rows.traceKnownSpec) own started (by kernel_rfl) Tryz.func3
    (witness_row_atRef (enc := enc) (C := Tryz.checked) false (laidWorld os 12) #[] rfl (by kernel_rfl) (by kernel_rfl) (by kernel_rfl)
      (OpenSpec.preRow_of_cond 8 hx (by kernel_rfl) (fun k hk => by cases hk) (by kernel_rfl) (laid_met os))) ?_
  intro W base args ds gs before hval hW _ _ _ hL _ _
  exact contract hs hrun H enc W args ds gs before hW hL

theorem said {m : Nat} (hs : ∀ e, startK E 3 [] (H0 e) = some (st0 3 m e)) (hrun : Lives 3 m) : Rows.TraceKnownSaid :=
  OpenClaim.holds_of_cond 3 Tryz.f3 rfl rfl rfl rfl rfl rfl rfl ⟨rfl, rfl, rfl, rfl, rfl⟩ rfl rfl rfl rfl rfl (by kernel_rfl) Tryz.func3 facts
    (of_decide_eq_true (by kernel_rfl)) (by unfold Func.isWrapper; first | (rw [if_pos (by decide +kernel)]; kernel_rfl) | (rw [if_neg (by decide +kernel)]; exact ⟨rfl, rfl⟩))
    (fun os started H enc _ F => by rw [OpenClaim.pre_eq_preRow]; exact lifted hs hrun os started H enc F)

theorem plain (f : FuncId) (fn : Func) (hf : Tryz.pinned.checked.prog.funcNamed "sleuth/sleuthlaw04.TraceKnown" = some f) (hfn : Tryz.pinned.checked.prog.funcs[f]? = some fn) :
    true = Tryz.pinned.checked.prog.looks [] ∧ ∀ (j : Nat) t, fn.params[j]? = some t → Tryz.pinned.checked.prog.wantsStandIn t = false := by
  obtain rfl : f = 3 := Option.some.inj ((show Tryz.prog.funcNamed "sleuth/sleuthlaw04.TraceKnown" = some 3 by kernel_rfl).symm.trans hf) |>.symm
  obtain rfl : fn = Tryz.f3 := (Option.some.inj (Tryz.func3.symm.trans hfn)).symm
  refine ⟨by kernel_rfl, fun j t ht => ?_⟩
  rw [Tryz.params3] at ht
  simp at ht

theorem card {m : Nat} (hs : ∀ e, startK E 3 [] (H0 e) = some (st0 3 m e)) (hrun : Lives 3 m) : Rows.TraceKnownCardSaid :=
  Claim7.holds_tied_plain_at .later [] _ _ _ _ (said hs hrun) (fun _ h => by cases h) (by kernel_rfl) (fun _ h => by cases h) traceKnown_row_tie rfl ⟨rfl, rfl⟩ (by kernel_rfl) rfl plain (by kernel_rfl)
end Go.Proofs.YtkkhpackddlmpaaGreatDoor.Lv.TraceKnown
