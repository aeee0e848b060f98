import Derived.Test.YtmgegkgelecopaaGreatDoorRkLaw
import Derived.Test.YtmgegkgelecopaaGreatDoorRkG
import Derived.Carry
import Derived.Test.YtmgegkgelecopaaGreatDoorLvW
import Derived.Test.YtmgegkgelecopaaGreatDoorLvRankFractionsF
set_option maxRecDepth 100000
namespace Go.Proofs.YtmgegkgelecopaaGreatDoor.Rk.RankFractions
open Go Go.Pg Go.Ms Go.Ev Go.RowKit Go.ChangeShapes Go.WideShapes Go.ChangeAt Go.Proofs.YtmgegkgelecopaaGreatDoor.Lv Go.Proofs.YtmgegkgelecopaaGreatDoor.Rk

theorem laidOut : laidOutB Tryz.prog = true := by kernel_rfl

/-- A fraction, as an argument. -/
theorem rat_arg {H : Type} {enc : TypeId × Value → H} {W : World} {r : Reach} {b0 base : Nat} {spare : Nat → Bool} {held : Bool} {v : Value} {d : DataW H} {p : List MemPlace} (hv : Value.okWide Tryz.prog W r b0 23 v)
    (h : DataW.Trod enc Tryz.prog W base spare held 23 v d p) (hz : Fits Tryz.prog 23 d) : ∃ n m, v = rat n m ∧ I64 n ∧ I64 m := by
  obtain ⟨cs, rfl, hsz⟩ := okWide_struct Tryz.underlying23 hv
  obtain ⟨fuel, hf⟩ := h
  obtain ⟨y, hy, w1, w2⟩ := pair_of Tryz.underlying23 (ta := 2) (tb := 2) rfl (by kernel_rfl) (by kernel_rfl) (by kernel_rfl) Tryz.underlying2 Tryz.underlying2 hf hz
  refine ⟨y.1, y.2, ?_, i64_of w1, i64_of w2⟩
  have hy2 : cs.toList = [.int .i64 y.1, .int .i64 y.2] := hy
  have : cs = #[.int .i64 y.1, .int .i64 y.2] := by
    have h1 := congrArg List.toArray hy2
    simpa using h1
  rw [this]

/-- What the walk gives, for all arguments and every world that holds the listed variable. -/
theorem contract {m : Nat} (hs : ∀ e, startK E 13 [] (H0 e) = some (st0 13 m e)) (hrun : Lives 13 m) (H : Type) (enc : TypeId × Value → H) (W : World) (base : Nat) (args : Array Value) (ds gs : List (DataW H)) (before : List MemPlace)
    (hval0 : ∀ (j : Nat) t v, Tryz.f3.params[j]? = some t → args[j]? = some v → Value.okWide Tryz.prog W .any base t v)
    (hW : DataW.Whole enc Tryz.prog Tryz.f3.params.toList Rows.rankFractionsSpec.vars false W args.toList ds gs before) (hsz : (DataW.weightsEach Tryz.prog (Tryz.f3.params.toList ++ (OpenSpec.ofChange Rows.rankFractionsSpec).bare.plain.varTypes Tryz.prog) (ds ++ gs)).all (· ≤ reachBytes) = true) (hL : laidMetH Tryz.prog Rows.rankFractionsRow.laid W) :
    Calls Tryz.prog 3 args W fun e W' => ∃ v, e = .returned v ∧ Rows.rankFractionsSpec.post enc Tryz.prog Tryz.f3 false true false false W args v W' := by
  obtain ⟨ty, hop⟩ := tab_of rfl hL
  have hW' := hW
  obtain ⟨p, q, hA0, hV, rfl, hfz, hnd⟩ := hW
  have hA : DataW.TrodAll enc Tryz.prog W 0 (fun _ => true) true Tryz.f3.params.toList args.toList ds p := hA0
  have hval := hval0
  rw [Tryz.params3] at hA hval
  obtain ⟨v0, v1, v2, v3, d0, d1, d2, d3, p0, p1, p2, p3, rfl, rfl, rfl, h0, h1, h2, h3⟩ := trodAll_four hA
  obtain ⟨rfl, rfl⟩ := trodVars_none hV
  have hz : ∀ n ∈ DataW.weightsEach Tryz.prog (Tryz.f3.params.toList ++ (OpenSpec.ofChange Rows.rankFractionsSpec).bare.plain.varTypes Tryz.prog) ([d0, d1, d2, d3] ++ []), n ≤ reachBytes := fun n hn => by simpa using List.all_eq_true.1 hsz n hn
  rw [Tryz.params3] at hz
  obtain ⟨n0, e0, f0, _, wz0⟩ := open_int Tryz.underlying2 (hval 0 2 v0 rfl rfl) h0
  have a0 := i64_of wz0
  obtain ⟨n1, e1, f1, _, wz1⟩ := open_int Tryz.underlying2 (hval 1 2 v1 rfl rfl) h1
  have a1 := i64_of wz1
  have z2 : Fits Tryz.prog 23 d2 := fun n hn => hz n (DataW.weights_mem_each (j := 2) rfl rfl n hn)
  obtain ⟨n2, m2, e2, a2, b2⟩ := rat_arg (hval 2 23 v2 rfl rfl) h2 z2
  have z3 : Fits Tryz.prog 23 d3 := fun n hn => hz n (DataW.weights_mem_each (j := 3) rfl rfl n hn)
  obtain ⟨n3, m3, e3, a3, b3⟩ := rat_arg (hval 3 23 v3 rfl rfl) h3 z3
  clear hA0
  simp only [List.append_nil] at hW'
  have hlt0 : ∀ x ∈ p0, x.block < W.heap.size := fun x hx => hW'.lt x (by simp [hx])
  have hlt1 : ∀ x ∈ p1, x.block < W.heap.size := fun x hx => hW'.lt x (by simp [hx])
  have hlt2 : ∀ x ∈ p2, x.block < W.heap.size := fun x hx => hW'.lt x (by simp [hx])
  have hlt3 : ∀ x ∈ p3, x.block < W.heap.size := fun x hx => hW'.lt x (by simp [hx])
  have hR : Ranks (.cells tabVals ty (0, 0)) := fun w2 h2 => hrun.calls hs ⟨ty, h2⟩
  have key : Calls Tryz.prog 3 #[v0, v1, v2, v3] W fun e w' => e = .returned (.bool true) ∧ Below W.heap.size W w' := by
    rw [e0, e1, e2, e3]
    exact lawRankFractions a0 a1 a2 b2 a3 b3 hop hR
  refine key.mono fun e W' ⟨he, hB⟩ => ?_
  subst he
  exact ⟨_, rfl, post_of_below (pa := p0 ++ (p1 ++ (p2 ++ (p3)))) (pv := []) hW' (fun _ _ _ => trodAll_cons_mk (shut_bool Tryz.underlying4 _) trodAll_mk0)
    (fun sp hsp => trodAll_mk4 (WideElems.Trod_stays laidOut (by kernel_rfl) (of_decide_eq_true (by kernel_rfl)) h0 (fun x hx => hB.same (hlt0 x hx)) (fun x hx => hsp x (by simp [hx]))) (WideElems.Trod_stays laidOut (by kernel_rfl) (of_decide_eq_true (by kernel_rfl)) h1 (fun x hx => hB.same (hlt1 x hx)) (fun x hx => hsp x (by simp [hx]))) (WideElems.Trod_stays laidOut (by kernel_rfl) (of_decide_eq_true (by kernel_rfl)) h2 (fun x hx => hB.same (hlt2 x hx)) (fun x hx => hsp x (by simp [hx]))) (WideElems.Trod_stays laidOut (by kernel_rfl) (of_decide_eq_true (by kernel_rfl)) h3 (fun x hx => hB.same (hlt3 x hx)) (fun x hx => hsp x (by simp [hx]))))
    (fun _ _ => rfl) (by simp) hB
    (ok_one (by kernel_rfl) rfl (okWide_bool_mk Tryz.underlying4 _))⟩

abbrev args0 : Array Value := #[.int .i64 0, .int .i64 0, .agg #[.int .i64 0, .int .i64 0], .agg #[.int .i64 0, .int .i64 0]]
theorem laid_met (os : Os) : laidMet Tryz.prog Rows.rankFractionsRow.laid ((laidWorld os).forCall (fun _ _ => 0) ⟨#[], args0, []⟩).memory :=
  laidMet_of_run' 8 (by kernel_rfl) (by kernel_rfl)
theorem reads (os : Os) {H : Type} (enc : TypeId × Value → H) : ∃ places, DataW.whole enc Tryz.prog ((laidWorld os).forCall (fun _ _ => 0) ⟨#[], args0, []⟩).memory Tryz.f3.params.toList Rows.rankFractionsSpec.vars false args0.toList 8 = some ([.lit (.int .i64 0), .lit (.int .i64 0), .agg [.lit (.int .i64 0), .lit (.int .i64 0)], .agg [.lit (.int .i64 0), .lit (.int .i64 0)]], [], places) :=
  ⟨[], by kernel_rfl⟩

theorem lifted {m : Nat} (hs : ∀ e, startK E 13 [] (H0 e) = some (st0 13 m e)) (hrun : Lives 13 m) (os : Os) (started : os.Started) (H : Type) (enc : TypeId × Value → H) (F : Stop.Interp) :
    ReturnsInHanded {} Tryz.checked os 3 .any ((OpenSpec.ofChange Rows.rankFractionsSpec).preRow enc Tryz.prog Tryz.f3 Rows.rankFractionsRow.domain false Rows.rankFractionsRow.laid) (((OpenSpec.ofChange Rows.rankFractionsSpec).at F).post enc Tryz.prog Tryz.f3 false true false false) := by
  obtain ⟨places, hx⟩ := reads os enc
  refine returnsInHanded_of_row (C := Tryz.checked) (s := OpenSpec.ofChange Rows.rankFractionsSpec) own started (by kernel_rfl) Tryz.func3
    (witness_row_atRef (enc := enc) (C := Tryz.checked) false (laidWorld os) args0 rfl (by kernel_rfl) (by kernel_rfl) (by kernel_rfl)
      (OpenSpec.preRow_of_cond 8 hx (by kernel_rfl) (fun k hk => by cases hk) (by kernel_rfl) (laid_met os))) ?_
  intro W base args ds gs before hval hW _ _ hsz hL _ _
  exact contract hs hrun H enc W base args ds gs before hval hW hsz hL

theorem said {m : Nat} (hs : ∀ e, startK E 13 [] (H0 e) = some (st0 13 m e)) (hrun : Lives 13 m) : Rows.RankFractionsSaid :=
  OpenClaim.holds_of_cond 3 Tryz.f3 rfl rfl rfl rfl rfl rfl rfl ⟨rfl, rfl, rfl, rfl, rfl⟩ rfl rfl rfl rfl rfl (by kernel_rfl) Tryz.func3 Lv.RankFractions.facts
    (of_decide_eq_true (by kernel_rfl)) (by unfold Func.isWrapper; first | (rw [if_pos (by decide +kernel)]; kernel_rfl) | (rw [if_neg (by decide +kernel)]; exact ⟨rfl, rfl⟩))
    (fun os started H enc _ F => by rw [OpenClaim.pre_eq_preRow]; exact lifted hs hrun os started H enc F)

theorem plain (f : FuncId) (fn : Func) (hf : Tryz.pinned.checked.prog.funcNamed "sleuth/sleuthlaw07.RankFractions" = some f) (hfn : Tryz.pinned.checked.prog.funcs[f]? = some fn) :
    false = Tryz.pinned.checked.prog.looks [] ∧ ∀ (j : Nat) t, fn.params[j]? = some t → Tryz.pinned.checked.prog.wantsStandIn t = false := by
  obtain rfl : f = 3 := Option.some.inj ((show Tryz.prog.funcNamed "sleuth/sleuthlaw07.RankFractions" = some 3 by kernel_rfl).symm.trans hf) |>.symm
  obtain rfl : fn = Tryz.f3 := (Option.some.inj (Tryz.func3.symm.trans hfn)).symm
  refine ⟨by kernel_rfl, fun j t ht => ?_⟩
  rw [Tryz.params3] at ht
  have hm := Array.mem_of_getElem? ht
  have hm2 : t = 2 ∨ t = 23 := by simpa using hm
  rcases hm2 with rfl | rfl
  · exact (show Tryz.prog.wantsStandIn 2 = false by kernel_rfl)
  · exact (show Tryz.prog.wantsStandIn 23 = false by kernel_rfl)

theorem card {m : Nat} (hs : ∀ e, startK E 13 [] (H0 e) = some (st0 13 m e)) (hrun : Lives 13 m) : Rows.RankFractionsCardSaid :=
  Claim7.holds_tied_plain_at .later [] _ _ _ _ (said hs hrun) (fun _ h => by cases h) (by kernel_rfl) (fun _ h => by cases h) rankFractions_row_tie rfl ⟨rfl, rfl⟩ (by kernel_rfl) rfl plain (by kernel_rfl)
end Go.Proofs.YtmgegkgelecopaaGreatDoor.Rk.RankFractions
