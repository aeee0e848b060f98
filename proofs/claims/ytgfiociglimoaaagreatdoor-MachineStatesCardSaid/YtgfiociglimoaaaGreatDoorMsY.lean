import Derived.Test.YtgfiociglimoaaaGreatDoorMsW
import Derived.Carry
import Derived.Test.YtgfiociglimoaaaGreatDoorLvW
import Derived.Test.YtgfiociglimoaaaGreatDoorLvMachineStatesF
set_option maxRecDepth 100000
namespace Go.Proofs.YtgfiociglimoaaaGreatDoor.Ms
open Go Go.Pg Go.Ms Go.Ev Go.RowKit Go.ChangeShapes Go.WideShapes Go.ChangeAt Go.Proofs.YtgfiociglimoaaaGreatDoor.Lv

/-- What the row's list gives. -/
theorem ops_of {W : World} (h : laidMetH Tryz.prog Rows.machineStatesRow.laid W) : ∃ e, W.heap[0]? = some (.cells strVals e (0, 0)) := by
  have h : laidMet Tryz.prog Rows.machineStatesRow.laid W := h
  obtain ⟨ps, ⟨_, _, _, _, _, q1, _, _, _, _, ⟨_, _, _, _, _, q2, _, _, _, _, ⟨_, _, _, _, _, q3, _, _, _, _, ⟨_, _, _, _, _, q4, _, _, _, _, ⟨_, _, _, _, _, q5, _, _, _, _, ⟨g, t, cs, fuel, p, q6, hg, ht, hvar, hd, hq6, e6⟩, e5⟩, e4⟩, e3⟩, e2⟩, e1⟩, _, hcell⟩ := h
  have hg0 : g = 0 := Option.some.inj (hg.symm.trans gOps)
  subst hg0
  have ht0 : t = 242 := Option.some.inj (ht.symm.trans gOpsType)
  subst ht0
  have hcs : cs.toList = strs.map fun z => Value.string ⟨z.toArray⟩ := cells_of_strs Tryz.underlying242 Tryz.underlying9 cells9 cells_242 hd
  have hcs2 : cs = strVals := by
    have h1 := congrArg List.toArray hcs
    have h2 : cs.toList.toArray = cs := by simp
    rw [h2] at h1
    exact h1
  subst hcs2
  have hmem : MemPlace.cell 0 0 ∈ ps := by
    rw [e1, e2, e3, e4, e5, e6]
    have : MemPlace.cell 0 0 ∈ MemPlace.row ⟨0, 0, none⟩ strVals.size := by decide
    simp only [List.mem_append]
    exact .inr (.inr (.inr (.inr (.inr (.inl (.inl this))))))
  obtain ⟨⟨c, e, hc⟩, _⟩ := hcell 0 0 hmem
  refine ⟨e, ?_⟩
  unfold World.var? at hvar
  rw [gOps] at hvar
  simp only [Option.bind_some] at hvar
  rw [hc] at hvar ⊢
  simp only [Option.some.injEq] at hvar
  rw [hvar]

theorem pos_of {n k : Nat} (h : n = k + 1) : 0 < n := by omega
theorem MTprog : ∃ th fr va ha ob oc st, MT Tryz.prog 22 44 42 48 45 28 46 67 23 50 29 3 2 26 24 25 31 33 th fr va ha ob oc st :=
  ⟨_, _, _, _, _, _, _, {
    uTs := Tryz.underlying22, uFs := Tryz.underlying42, uVs := Tryz.underlying45, uHs := Tryz.underlying46, uOs := Tryz.underlying23, uIs := Tryz.underlying29,
    uT := Tryz.underlying44, uF := Tryz.underlying48, uV := Tryz.underlying28, uH := Tryz.underlying67, uO := Tryz.underlying50, uC := Tryz.underlying31, uS := Tryz.underlying33,
    uI := Tryz.underlying3, uJ := Tryz.underlying2, uK := Tryz.underlying26, uE := Tryz.underlying24, uG := Tryz.underlying25,
    cT := by kernel_rfl, cF := by kernel_rfl, cV := by kernel_rfl, cH := by kernel_rfl, cO := by kernel_rfl, cC := by kernel_rfl, cS := by kernel_rfl, cI := by kernel_rfl, cJ := by kernel_rfl, cK := by kernel_rfl, cE := by kernel_rfl, cG := by kernel_rfl, cTs := by kernel_rfl, cFs := by kernel_rfl, cVs := by kernel_rfl, cHs := by kernel_rfl, cOs := by kernel_rfl, cIs := by kernel_rfl,
    bytes := ⟨pos_of (k := 39) (by kernel_rfl), pos_of (k := 71) (by kernel_rfl), pos_of (k := 15) (by kernel_rfl), pos_of (k := 15) (by kernel_rfl), pos_of (k := 39) (by kernel_rfl), pos_of (k := 7) (by kernel_rfl)⟩,
    fT := rfl, fF := rfl, fV := rfl, fH := rfl, fO := rfl, fC := rfl, fS := rfl }⟩

/-- A state, as an argument. -/
theorem state_arg {H : Type} {enc : TypeId × Value → H} {W : World} {r : Reach} {b0 base : Nat} {spare : Nat → Bool} {held : Bool} {v : Value} {d : DataW H} {p : List MemPlace} (hv : Value.okWide Tryz.prog W r b0 33 v)
    (h : DataW.Trod enc Tryz.prog W base spare held 33 v d p) (hz : Fits Tryz.prog 33 d) : ∃ cells s, v = .agg (List.toArray cells) ∧ StAt W cells s := by
  obtain ⟨cs, rfl, hsz⟩ := okWide_struct Tryz.underlying33 hv
  obtain ⟨fuel, hf⟩ := h
  obtain ⟨_, _, _, _, _, _, _, T⟩ := MTprog
  obtain ⟨y, hy⟩ := state_of T hf hz
  exact ⟨cs.toList, y, by simp, hy⟩

theorem laidOut : laidOutB Tryz.prog = true := by kernel_rfl

/-- What the walk gives, for all arguments and every world that holds the listed variables. -/
theorem contract {m : Nat} (hs : ∀ e, startK E 5 [] (H0 e) = some (st0 5 m e)) (hrun : Lives 5 m) (H : Type) (enc : TypeId × Value → H) (W : World) (base : Nat) (args : Array Value) (ds gs : List (DataW H)) (before : List MemPlace)
    (hval0 : ∀ (j : Nat) t v, Tryz.f3.params[j]? = some t → args[j]? = some v → Value.okWide Tryz.prog W .any base t v)
    (hW : DataW.Whole enc Tryz.prog Tryz.f3.params.toList Rows.machineStatesSpec.vars false W args.toList ds gs before) (hsz : (DataW.weightsEach Tryz.prog (Tryz.f3.params.toList ++ (OpenSpec.ofChange Rows.machineStatesSpec).bare.plain.varTypes Tryz.prog) (ds ++ gs)).all (· ≤ reachBytes) = true) (hL : laidMetH Tryz.prog Rows.machineStatesRow.laid W) :
    Calls Tryz.prog 3 args W fun e W' => ∃ v, e = .returned v ∧ Rows.machineStatesSpec.post enc Tryz.prog Tryz.f3 false true false false W args v W' := by
  obtain ⟨ty, hop⟩ := ops_of hL
  have hW' := hW
  obtain ⟨p, q, hA0, hV, rfl, hfz, hnd⟩ := hW
  have hA : DataW.TrodAll enc Tryz.prog W 0 (fun _ => true) true Tryz.f3.params.toList args.toList ds p := hA0
  have hval := hval0
  rw [Tryz.params3] at hA hval
  obtain ⟨v0, v1, d0, d1, p0, p1, rfl, rfl, rfl, h0, h1⟩ := trodAll_two hA
  obtain ⟨rfl, rfl⟩ := trodVars_none hV
  have hz : ∀ n ∈ DataW.weightsEach Tryz.prog (Tryz.f3.params.toList ++ (OpenSpec.ofChange Rows.machineStatesSpec).bare.plain.varTypes Tryz.prog) ([d0, d1] ++ []), n ≤ reachBytes := fun n hn => by simpa using List.all_eq_true.1 hsz n hn
  rw [Tryz.params3] at hz
  have z0 : Fits Tryz.prog 33 d0 := fun n hn => hz n (DataW.weights_mem_each (j := 0) rfl rfl n hn)
  have z1 : Fits Tryz.prog 33 d1 := fun n hn => hz n (DataW.weights_mem_each (j := 1) rfl rfl n hn)
  obtain ⟨c0, l0, e0, F0⟩ := state_arg (hval 0 33 v0 rfl rfl) h0 z0
  obtain ⟨c1, l1, e1, F1⟩ := state_arg (hval 1 33 v1 rfl rfl) h1 z1
  clear hA0
  simp only [List.append_nil] at hW'
  have hlt0 : ∀ x ∈ p0, x.block < W.heap.size := fun x hx => hW'.lt x (List.mem_append_left _ hx)
  have hlt1 : ∀ x ∈ p1, x.block < W.heap.size := fun x hx => hW'.lt x (List.mem_append_right _ hx)
  have key : Calls Tryz.prog 3 #[v0, v1] W fun e w' => e = .returned (.bool true) ∧ Below W.heap.size W w' := by
    rw [e0, e1]
    by_cases hc : l0 = l1
    · subst hc
      exact lawEq F0 F1 ⟨strVals, ty⟩ hop fun w2 h2 => hrun.calls hs ⟨ty, h2⟩
    · exact lawNe F0 F1 hc ⟨strVals, ty⟩ hop fun w2 h2 => hrun.calls hs ⟨ty, h2⟩
  refine key.mono fun e W' ⟨he, hB⟩ => ?_
  subst he
  exact ⟨_, rfl, post_of_below (pa := p0 ++ p1) (pv := []) hW' (fun _ _ _ => trodAll_cons_mk (shut_bool Tryz.underlying4 _) trodAll_mk0)
    (fun sp hsp => trodAll_mk2 (WideElems.Trod_stays laidOut (by kernel_rfl) (of_decide_eq_true (by kernel_rfl)) h0 (fun x hx => hB.same (hlt0 x hx)) (fun x hx => hsp x (by simp [hx])))
      (WideElems.Trod_stays laidOut (by kernel_rfl) (of_decide_eq_true (by kernel_rfl)) h1 (fun x hx => hB.same (hlt1 x hx)) (fun x hx => hsp x (by simp [hx]))))
    (fun _ _ => rfl) (by simp) hB
    (ok_one (by kernel_rfl) rfl (okWide_bool_mk Tryz.underlying4 _))⟩

abbrev args0 : Array Value := #[.agg #[.slice none 0 0, .slice none 0 0, .int .i64 0, .int .i64 0, .int .i64 0, .int .u8 0, .int .u8 0, .int .i64 0, .int .u8 0, .int .i64 0, .slice none 0 0, .int .i64 0], .agg #[.slice none 0 0, .slice none 0 0, .int .i64 0, .int .i64 0, .int .i64 0, .int .u8 0, .int .u8 0, .int .i64 0, .int .u8 0, .int .i64 0, .slice none 0 0, .int .i64 0]]
theorem laid_met (os : Os) : laidMet Tryz.prog Rows.machineStatesRow.laid ((laidWorld os 12).forCall (fun _ _ => 0) ⟨#[], args0, []⟩).memory :=
  laidMet_of_run' 8 (by kernel_rfl) (by kernel_rfl)
theorem reads (os : Os) {H : Type} (enc : TypeId × Value → H) : ∃ places, DataW.whole enc Tryz.prog ((laidWorld os 12).forCall (fun _ _ => 0) ⟨#[], args0, []⟩).memory Tryz.f3.params.toList Rows.machineStatesSpec.vars false args0.toList 8 = some ([.agg [.nil, .nil, .lit (.int .i64 0), .lit (.int .i64 0), .lit (.int .i64 0), .agg [.lit (.int .u8 0), .lit (.int .u8 0), .lit (.int .i64 0), .agg [.lit (.int .u8 0), .lit (.int .i64 0)], .nil, .lit (.int .i64 0)]], .agg [.nil, .nil, .lit (.int .i64 0), .lit (.int .i64 0), .lit (.int .i64 0), .agg [.lit (.int .u8 0), .lit (.int .u8 0), .lit (.int .i64 0), .agg [.lit (.int .u8 0), .lit (.int .i64 0)], .nil, .lit (.int .i64 0)]]], [], places) :=
  ⟨[], by kernel_rfl⟩

theorem lifted {m : Nat} (hs : ∀ e, startK E 5 [] (H0 e) = some (st0 5 m e)) (hrun : Lives 5 m) (os : Os) (started : os.Started) (H : Type) (enc : TypeId × Value → H) (F : Stop.Interp) :
    ReturnsInHanded {} Tryz.checked os 3 .any ((OpenSpec.ofChange Rows.machineStatesSpec).preRow enc Tryz.prog Tryz.f3 Rows.machineStatesRow.domain false Rows.machineStatesRow.laid) (((OpenSpec.ofChange Rows.machineStatesSpec).at F).post enc Tryz.prog Tryz.f3 false true false false) := by
  obtain ⟨places, hx⟩ := reads os enc
  refine returnsInHanded_of_row (C := Tryz.checked) (s := OpenSpec.ofChange Rows.machineStatesSpec) own started (by kernel_rfl) Tryz.func3
    (witness_row_atRef (enc := enc) (C := Tryz.checked) false (laidWorld os 12) args0 rfl (by kernel_rfl) (by kernel_rfl) (by kernel_rfl)
      (OpenSpec.preRow_of_cond 8 hx (by kernel_rfl) (fun k hk => by cases hk) (by kernel_rfl) (laid_met os))) ?_
  intro W base args ds gs before hval hW _ _ hsz hL _ _
  exact contract hs hrun H enc W base args ds gs before hval hW hsz hL

theorem said {m : Nat} (hs : ∀ e, startK E 5 [] (H0 e) = some (st0 5 m e)) (hrun : Lives 5 m) : Rows.MachineStatesSaid :=
  OpenClaim.holds_of_cond 3 Tryz.f3 rfl rfl rfl rfl rfl rfl rfl ⟨rfl, rfl, rfl, rfl, rfl⟩ rfl rfl rfl rfl rfl (by kernel_rfl) Tryz.func3 Lv.MachineStates.facts
    (of_decide_eq_true (by kernel_rfl)) (by unfold Func.isWrapper; first | (rw [if_pos (by decide +kernel)]; kernel_rfl) | (rw [if_neg (by decide +kernel)]; exact ⟨rfl, rfl⟩))
    (fun os started H enc _ F => by rw [OpenClaim.pre_eq_preRow]; exact lifted hs hrun os started H enc F)

theorem plain (f : FuncId) (fn : Func) (hf : Tryz.pinned.checked.prog.funcNamed "sleuth/sleuthlaw02.MachineStates" = some f) (hfn : Tryz.pinned.checked.prog.funcs[f]? = some fn) :
    true = Tryz.pinned.checked.prog.looks [] ∧ ∀ (j : Nat) t, fn.params[j]? = some t → Tryz.pinned.checked.prog.wantsStandIn t = false := by
  obtain rfl : f = 3 := Option.some.inj ((show Tryz.prog.funcNamed "sleuth/sleuthlaw02.MachineStates" = some 3 by kernel_rfl).symm.trans hf) |>.symm
  obtain rfl : fn = Tryz.f3 := (Option.some.inj (Tryz.func3.symm.trans hfn)).symm
  refine ⟨by kernel_rfl, fun j t ht => ?_⟩
  rw [Tryz.params3] at ht
  have hm := Array.mem_of_getElem? ht
  have hm2 : t = 33 := by simpa using hm
  subst hm2
  exact (show Tryz.prog.wantsStandIn 33 = false by kernel_rfl)

theorem card {m : Nat} (hs : ∀ e, startK E 5 [] (H0 e) = some (st0 5 m e)) (hrun : Lives 5 m) : Rows.MachineStatesCardSaid :=
  Claim7.holds_tied_plain_at .later [] _ _ _ _ (said hs hrun) (fun _ h => by cases h) (by kernel_rfl) (fun _ h => by cases h) machineStates_row_tie rfl ⟨rfl, rfl⟩ (by kernel_rfl) rfl plain (by kernel_rfl)
end Go.Proofs.YtgfiociglimoaaaGreatDoor.Ms
