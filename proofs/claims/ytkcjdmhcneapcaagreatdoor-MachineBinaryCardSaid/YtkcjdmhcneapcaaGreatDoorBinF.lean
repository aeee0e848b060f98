/-
  PROVED: the law MachineBinary returns true for every number and any two values, and leaves the arguments as they were: what machine.Binary makes of them is what the specification's own Binary makes of them.
  CONDITIONS: those of the row: the listed package-level variables read as their text lays them (the card ties them to the program's text). The chapter's example at its end is evaluated in the kernel, over an abstract heap, whatever the tape draws.
-/
import Derived.Test.YtkcjdmhcneapcaaGreatDoorNilC
import Derived.Test.YtkcjdmhcneapcaaGreatDoorNilW
import Derived.Test.YtkcjdmhcneapcaaGreatDoorBinDa
import Derived.Test.YtkcjdmhcneapcaaGreatDoorBinDb
import Derived.Test.YtkcjdmhcneapcaaGreatDoorBinDc
import Derived.Test.YtkcjdmhcneapcaaGreatDoorBinDd
import Derived.Test.YtkcjdmhcneapcaaGreatDoorBinDe
import Derived.Test.YtkcjdmhcneapcaaGreatDoorBinDf
import Derived.Test.YtkcjdmhcneapcaaGreatDoorBinDg
import Derived.Test.YtkcjdmhcneapcaaGreatDoorBinR
import Derived.Lib.SmallJoins
set_option maxRecDepth 100000
namespace Go.Proofs.YtkcjdmhcneapcaaGreatDoor.Bin
open Go.Ev Go.RowKit Go.ChangeShapes Go.WideShapes Go.ChangeAt Go.Joins Nil

theorem law (op ka na kb nb : Int) : Law op ka na kb nb := by
  by_cases h0 : op = 0
  · subst h0; exact law0 ka na kb nb
  by_cases h1 : op = 1
  · subst h1; exact law1 ka na kb nb
  by_cases h2 : op = 2
  · subst h2; exact law2 ka na kb nb
  by_cases h3 : op = 3
  · subst h3; exact law3 ka na kb nb
  by_cases h4 : op = 4
  · subst h4; exact law4 ka na kb nb
  by_cases h5 : op = 5
  · subst h5; exact law5 ka na kb nb
  by_cases h6 : op = 6
  · subst h6; exact law6 ka na kb nb
  by_cases h7 : op = 7
  · subst h7; exact law7 ka na kb nb
  by_cases h8 : op = 8
  · subst h8; exact law8 ka na kb nb
  by_cases h9 : op = 9
  · subst h9; exact law9 ka na kb nb
  by_cases h10 : op = 10
  · subst h10; exact law10 ka na kb nb
  by_cases h11 : op = 11
  · subst h11; exact law11 ka na kb nb
  by_cases h12 : op = 12
  · subst h12; exact law12 ka na kb nb
  by_cases hlt : op < 0
  · exact lawBelow op ka na kb nb hlt h0 h1 h2 h3 h4 h5 h6 h7 h8 h9 h10 h11 h12
  · exact lawAbove op ka na kb nb (by omega) h0 h1 h2 h3 h4 h5 h6 h7 h8 h9 h10 h11 h12

def RunLives : Prop := ∀ e, isTrue 7 ((startK E 7 [] (H0 e)).bind (kgo E 30000)) = true

theorem lives_at (hrun : RunLives) {W : World} {e : TypeId} (he : W.heap[0]? = some (.cells strVals e (0, 0))) :
    Calls Tryz.prog 7 #[] W fun x W' => x = .returned (.bool true) ∧ Below W.heap.size W W' := by
  have hr := hrun e
  cases hs : startK E 7 [] (H0 e) with
  | none => rw [hs] at hr; cases hr
  | some ks =>
    rw [hs] at hr
    simp only [Option.bind_some] at hr
    cases hk : kgo E 30000 ks with
    | none => rw [hk] at hr; cases hr
    | some ks2 =>
      rw [hk] at hr
      unfold Nil.isTrue at hr
      split at hr
      case h_2 => cases hr
      rename_i g H' hq
      cases hq
      have hg : 7 = g := Nat.eq_of_beq_eq_true hr
      subst hg
      have := kgo_calls (w := W) (x' := #[]) envOK mix start_GR (start_HR he) (AsR.nil ren) hs hk rfl
      refine this.mono ?_
      rintro x W' ⟨σ, v', rfl, _, hv, hH⟩
      cases hv
      exact ⟨rfl, hH.below⟩

theorem cells24' : Tryz.prog.cellsOf 24 = 2 := by kernel_rfl

/-- What the walk gives, for all arguments and every world that holds the listed variables. -/
theorem contract (hrun : RunLives) (H : Type) (enc : TypeId × Value → H) (W : World) (base : Nat) (args : Array Value) (ds gs : List (DataW H)) (before : List MemPlace)
    (hval0 : ∀ (j : Nat) t v, Tryz.f3.params[j]? = some t → args[j]? = some v → Value.okWide Tryz.prog W .any base t v)
    (hW : DataW.Whole enc Tryz.prog Tryz.f3.params.toList Rows.machineBinarySpec.vars false W args.toList ds gs before) (hL : laidMetH Tryz.prog Rows.machineBinaryRow.laid W) :
    Calls Tryz.prog 3 args W fun e W' => ∃ v, e = .returned v ∧ Rows.machineBinarySpec.post enc Tryz.prog Tryz.f3 false true false false W args v W' := by
  obtain ⟨ty, hop⟩ := ops_of hL
  have hW' := hW
  obtain ⟨p, q, hA0, hV, rfl, hfz, hnd⟩ := hW
  have hA : DataW.TrodAll enc Tryz.prog W 0 (fun _ => true) true Tryz.f3.params.toList args.toList ds p := hA0
  have hval := hval0
  rw [Tryz.params3] at hA hval
  obtain ⟨v0, v1, v2, d0, d1, d2, p0, p1, p2, rfl, rfl, rfl, h0, h1, h2⟩ := trodAll_three hA
  obtain ⟨rfl, rfl⟩ := trodVars_none hV
  obtain ⟨op, rfl, rfl, rfl, wop⟩ := open_int Tryz.underlying3 (hval 0 3 v0 rfl rfl) h0
  obtain ⟨c0, c1, y0, y1, m, rfl, rfl, rfl, hy0, hy1⟩ := open_agg2 Tryz.underlying24 (by kernel_rfl) cells24' (hval 1 24 v1 rfl rfl) h1
  obtain ⟨ka, e0, rfl, wka⟩ := DataW.trod_int Tryz.underlying22 hy0
  obtain ⟨na, e1, rfl, wna⟩ := DataW.trod_int Tryz.underlying2 hy1
  obtain ⟨c2, c3, y2, y3, m2, rfl, rfl, rfl, hy2, hy3⟩ := open_agg2 Tryz.underlying24 (by kernel_rfl) cells24' (hval 2 24 v2 rfl rfl) h2
  obtain ⟨kb, e2, rfl, wkb⟩ := DataW.trod_int Tryz.underlying22 hy2
  obtain ⟨nb, e3, rfl, wnb⟩ := DataW.trod_int Tryz.underlying2 hy3
  simp at e0 e1 e2 e3
  subst e0 e1 e2 e3
  clear hA0
  simp only [List.append_nil] at hW'
  have structReads : ∀ (W' : World) (sp : Nat → Bool) (k n : Int) (wk : (Lit.int .u8 k).wf = true) (wn : (Lit.int .i64 n).wf = true), DataW.Trod enc Tryz.prog W' 0 sp true 24 (.agg #[.int .u8 k, .int .i64 n]) (.agg [.lit (.int .u8 k), .lit (.int .i64 n)]) [] := fun W' sp k n wk wn =>
    shut_agg2 (y0 := (.lit (.int .u8 k), [])) (y1 := (.lit (.int .i64 n), [])) Tryz.underlying24 (by kernel_rfl) cells24' ⟨1, by simp [DataW.trod, Tryz.underlying22, wk]⟩ ⟨1, by simp [DataW.trod, Tryz.underlying2, wn]⟩
  refine (law op ka na kb nb W _ hop (fun w2 h2 => lives_at hrun h2)).mono fun e W' ⟨he, hB⟩ => ?_
  subst he
  exact ⟨_, rfl, post_of_below (pa := []) (pv := []) hW' (fun _ _ _ => trodAll_cons_mk (shut_bool Tryz.underlying4 _) trodAll_mk0)
    (fun sp _ => trodAll_cons_mk (shut_int Tryz.underlying3 wop) (trodAll_cons_mk (structReads _ sp _ _ wka wna) (trodAll_cons_mk (structReads _ sp _ _ wkb wnb) trodAll_mk0))) (fun _ _ => rfl) rfl hB
    (ok_one (by kernel_rfl) rfl (okWide_bool_mk Tryz.underlying4 _))⟩

abbrev args0 : Array Value := #[.int .i64 0, .agg #[.int .u8 0, .int .i64 0], .agg #[.int .u8 0, .int .i64 0]]
theorem laid_met (os : Os) : laidMet Tryz.prog Rows.machineBinaryRow.laid ((laidWorld os 12).forCall (fun _ _ => 0) ⟨#[], args0, []⟩).memory :=
  laidMet_of_run' 8 (by kernel_rfl) (by kernel_rfl)
theorem reads (os : Os) {H : Type} (enc : TypeId × Value → H) : ∃ places, DataW.whole enc Tryz.prog ((laidWorld os 12).forCall (fun _ _ => 0) ⟨#[], args0, []⟩).memory Tryz.f3.params.toList Rows.machineBinarySpec.vars false args0.toList 8 = some ([.lit (.int .i64 0), .agg [.lit (.int .u8 0), .lit (.int .i64 0)], .agg [.lit (.int .u8 0), .lit (.int .i64 0)]], [], places) :=
  ⟨[], by kernel_rfl⟩

theorem lifted (hrun : RunLives) (os : Os) (started : os.Started) (H : Type) (enc : TypeId × Value → H) (F : Stop.Interp) :
    ReturnsInHanded {} Tryz.checked os 3 .any ((OpenSpec.ofChange Rows.machineBinarySpec).preRow enc Tryz.prog Tryz.f3 Rows.machineBinaryRow.domain false Rows.machineBinaryRow.laid) (((OpenSpec.ofChange Rows.machineBinarySpec).at F).post enc Tryz.prog Tryz.f3 false true false false) := by
  obtain ⟨places, hx⟩ := reads os enc
  refine returnsInHanded_of_row (C := Tryz.checked) (s := OpenSpec.ofChange Rows.machineBinarySpec) own started (by kernel_rfl) Tryz.func3
    (witness_row_atRef (enc := enc) (C := Tryz.checked) false (laidWorld os 12) args0 rfl (by kernel_rfl) (by kernel_rfl) (by kernel_rfl)
      (OpenSpec.preRow_of_cond 8 hx (by kernel_rfl) (fun k hk => by cases hk) (by kernel_rfl) (laid_met os))) ?_
  intro W base args ds gs before hval hW _ _ _ hL _ _
  exact contract hrun H enc W base args ds gs before hval hW hL

theorem said (hrun : RunLives) : Rows.MachineBinarySaid :=
  OpenClaim.holds_of_cond 3 Tryz.f3 rfl rfl rfl rfl rfl rfl rfl ⟨rfl, rfl, rfl, rfl, rfl⟩ rfl rfl rfl rfl rfl (by kernel_rfl) Tryz.func3 (by kernel_rfl)
    (of_decide_eq_true (by kernel_rfl)) (by unfold Func.isWrapper; first | (rw [if_pos (by decide +kernel)]; kernel_rfl) | (rw [if_neg (by decide +kernel)]; exact ⟨rfl, rfl⟩))
    (fun os started H enc _ F => by rw [OpenClaim.pre_eq_preRow]; exact lifted hrun os started H enc F)

theorem plain (f : FuncId) (fn : Func) (hf : Tryz.pinned.checked.prog.funcNamed "sleuth/sleuthlaw02.MachineBinary" = some f) (hfn : Tryz.pinned.checked.prog.funcs[f]? = some fn) :
    true = Tryz.pinned.checked.prog.looks [] ∧ ∀ (j : Nat) t, fn.params[j]? = some t → Tryz.pinned.checked.prog.wantsStandIn t = false := by
  obtain rfl : f = 3 := Option.some.inj ((show Tryz.prog.funcNamed "sleuth/sleuthlaw02.MachineBinary" = some 3 by kernel_rfl).symm.trans hf) |>.symm
  obtain rfl : fn = Tryz.f3 := (Option.some.inj (Tryz.func3.symm.trans hfn)).symm
  refine ⟨by kernel_rfl, fun j t ht => ?_⟩
  rw [Tryz.params3] at ht
  have hm := Array.mem_of_getElem? ht
  have hm2 : t = 3 ∨ t = 24 := by simpa using hm
  rcases hm2 with rfl | rfl
  · exact (show Tryz.prog.wantsStandIn 3 = false by kernel_rfl)
  · exact (show Tryz.prog.wantsStandIn 24 = false by kernel_rfl)

theorem card (hrun : RunLives) : Rows.MachineBinaryCardSaid :=
  Claim7.holds_tied_plain_at .later [] _ _ _ _ (said hrun) (fun _ h => by cases h) (by kernel_rfl) (fun _ h => by cases h) machineBinary_row_tie rfl ⟨rfl, rfl⟩ (by kernel_rfl) rfl plain (by kernel_rfl)
end Go.Proofs.YtkcjdmhcneapcaaGreatDoor.Bin
namespace Go.Proofs.YtkcjdmhcneapcaaGreatDoor
theorem machineBinary_card : Rows.MachineBinaryCardSaid := Bin.card Nil.run_lives
end Go.Proofs.YtkcjdmhcneapcaaGreatDoor
