import Derived.Test.YtmgegkgelecopaaGreatDoorRkLaw
import Derived.Test.YtmgegkgelecopaaGreatDoorRkY
import Derived.Carry
import Derived.Test.YtmgegkgelecopaaGreatDoorLvW
import Derived.Test.YtmgegkgelecopaaGreatDoorLvRankScoresF
set_option maxRecDepth 100000
namespace Go.Proofs.YtmgegkgelecopaaGreatDoor.Rk.RankScores
open Go Go.Pg Go.Ms Go.Ev Go.RowKit Go.ChangeShapes Go.WideShapes Go.ChangeAt Go.Proofs.YtmgegkgelecopaaGreatDoor.Lv Go.Proofs.YtmgegkgelecopaaGreatDoor.Rk

theorem laidOut : laidOutB Tryz.prog = true := by kernel_rfl

/-- A fraction, as an argument. -/
theorem rat_arg {H : Type} {enc : TypeId × Value → H} {W : World} {r : Reach} {b0 base : Nat} {spare : Nat → Bool} {held : Bool} {v : Value} {d : DataW H} {p : List MemPlace} (hv : Value.okWide Tryz.prog W r b0 23 v)
    (h : DataW.Trod enc Tryz.prog W base spare held 23 v d p) (hz : Fits Tryz.prog 23 d) : ∃ n m, v = rat n m ∧ I64 n ∧ I64 m := by
  obtain ⟨cs, rfl, hsz⟩ := okWide_struct Tryz.underlying23 hv
  obtain ⟨fuel, hf⟩ := h
  obtain ⟨y, hy, w1, w2⟩ := pair_of Tryz.underlying23 (ta := 2) (tb := 2) rfl (by kernel_rfl) (by kernel_rfl) (by kernel_rfl) Tryz.underlying2 Tryz.underlying2 hf hz
  refine ⟨y.1, y.2, ?_, i64_of w1, i64_of w2⟩
  have hy2 : cs.toList = [.int .i64 y.1, .int .i64 y.2] := hy
  have : cs = #[.int .i64 y.1, .int .i64 y.2] := by
    have h1 := congrArg List.toArray hy2
    simpa using h1
  rw [this]

theorem quad_of {H : Type} {P : Program} {enc : TypeId × Value → H} {w : World} {base : Nat} {spare : Nat → Bool} {held : Bool} {t ta : TypeId} {fs : Array Field} {k : IntKind} (hu : P.underlying t = some (.struct fs)) (hf : fs.toList.map (fun f => (f.type, f.offset)) = [(ta, 0), (ta, 1), (ta, 2), (ta, 3)]) (hc : P.cellsOf t = 4) (ca : P.cellsOf ta = 1)
    (ua : P.underlying ta = some (.int k)) {fuel : Nat} {cs : List Value} {x : DataW H × List MemPlace} (h : DataW.trod enc P w base spare held fuel t cs = some x) (hz : Fits P t x.1) :
    ∃ a b c d : Int, cs = [.int k a, .int k b, .int k c, .int k d] := by
  have hl := struct_len hu hc h
  obtain ⟨n0, d0, _, g0, _⟩ := struct_field hu hf h hz 0 rfl ca
  obtain ⟨n1, d1, _, g1, _⟩ := struct_field hu hf h hz 1 rfl ca
  obtain ⟨n2, d2, _, g2, _⟩ := struct_field hu hf h hz 2 rfl ca
  obtain ⟨n3, d3, _, g3, _⟩ := struct_field hu hf h hz 3 rfl ca
  match cs, hl with
  | [c0, c1, c2, c3], _ =>
    obtain ⟨a, e0, w0⟩ := int_one ua g0
    obtain ⟨b, e1, w1⟩ := int_one ua g1
    obtain ⟨c, e2, w2⟩ := int_one ua g2
    obtain ⟨d, e3, w3⟩ := int_one ua g3
    simp at e0 e1 e2 e3
    subst e0 e1 e2 e3
    exact ⟨a, b, c, d, rfl⟩

/-- A tally, as an argument. -/
theorem tally_arg {H : Type} {enc : TypeId × Value → H} {W : World} {r : Reach} {b0 base : Nat} {spare : Nat → Bool} {held : Bool} {v : Value} {d : DataW H} {p : List MemPlace} (hv : Value.okWide Tryz.prog W r b0 33 v)
    (h : DataW.Trod enc Tryz.prog W base spare held 33 v d p) (hz : Fits Tryz.prog 33 d) : ∃ a b c e, v = tally a b c e := by
  obtain ⟨cs, rfl, hsz⟩ := okWide_struct Tryz.underlying33 hv
  obtain ⟨fuel, hf⟩ := h
  obtain ⟨a, b, c, e, hy⟩ := quad_of Tryz.underlying33 (ta := 3) rfl (by kernel_rfl) (by kernel_rfl) Tryz.underlying3 hf hz
  refine ⟨a, b, c, e, ?_⟩
  have hy2 : cs.toList = [.int .i64 a, .int .i64 b, .int .i64 c, .int .i64 e] := hy
  have : cs = #[.int .i64 a, .int .i64 b, .int .i64 c, .int .i64 e] := by
    have h1 := congrArg List.toArray hy2
    simpa using h1
  rw [this]

/-- What the walk gives, for all arguments and every world that holds the listed variable. -/
theorem contract {m : Nat} (hs : ∀ e, startK E 13 [] (H0 e) = some (st0 13 m e)) (hrun : Lives 13 m) (H : Type) (enc : TypeId × Value → H) (W : World) (base : Nat) (args : Array Value) (ds gs : List (DataW H)) (before : List MemPlace)
    (hval0 : ∀ (j : Nat) t v, Tryz.f5.params[j]? = some t → args[j]? = some v → Value.okWide Tryz.prog W .any base t v)
    (hW : DataW.Whole enc Tryz.prog Tryz.f5.params.toList Rows.rankScoresSpec.vars false W args.toList ds gs before) (hsz : (DataW.weightsEach Tryz.prog (Tryz.f5.params.toList ++ (OpenSpec.ofChange Rows.rankScoresSpec).bare.plain.varTypes Tryz.prog) (ds ++ gs)).all (· ≤ reachBytes) = true) (hL : laidMetH Tryz.prog Rows.rankScoresRow.laid W) :
    Calls Tryz.prog 5 args W fun e W' => ∃ v, e = .returned v ∧ Rows.rankScoresSpec.post enc Tryz.prog Tryz.f5 false true false false W args v W' := by
  obtain ⟨ty, hop⟩ := tab_of rfl hL
  have hW' := hW
  obtain ⟨p, q, hA0, hV, rfl, hfz, hnd⟩ := hW
  have hA : DataW.TrodAll enc Tryz.prog W 0 (fun _ => true) true Tryz.f5.params.toList args.toList ds p := hA0
  have hval := hval0
  rw [Tryz.params5] at hA hval
  obtain ⟨v0, v1, d0, d1, p0, p1, rfl, rfl, rfl, h0, h1⟩ := trodAll_two hA
  obtain ⟨rfl, rfl⟩ := trodVars_none hV
  have hz : ∀ n ∈ DataW.weightsEach Tryz.prog (Tryz.f5.params.toList ++ (OpenSpec.ofChange Rows.rankScoresSpec).bare.plain.varTypes Tryz.prog) ([d0, d1] ++ []), n ≤ reachBytes := fun n hn => by simpa using List.all_eq_true.1 hsz n hn
  rw [Tryz.params5] at hz
  obtain ⟨n0, e0, f0, _, wz0⟩ := open_int Tryz.underlying31 (hval 0 31 v0 rfl rfl) h0
  have z1 : Fits Tryz.prog 33 d1 := fun n hn => hz n (DataW.weights_mem_each (j := 1) rfl rfl n hn)
  obtain ⟨n1, m1, o1, l1, e1⟩ := tally_arg (hval 1 33 v1 rfl rfl) h1 z1
  clear hA0
  simp only [List.append_nil] at hW'
  have hlt0 : ∀ x ∈ p0, x.block < W.heap.size := fun x hx => hW'.lt x (by simp [hx])
  have hlt1 : ∀ x ∈ p1, x.block < W.heap.size := fun x hx => hW'.lt x (by simp [hx])
  have hR : Ranks (.cells tabVals ty (0, 0)) := fun w2 h2 => hrun.calls hs ⟨ty, h2⟩
  have key : Calls Tryz.prog 5 #[v0, v1] W fun e w' => e = .returned (.bool true) ∧ Below W.heap.size W w' := by
    rw [e0, e1]
    exact lawRankScores  hop hR
  refine key.mono fun e W' ⟨he, hB⟩ => ?_
  subst he
  exact ⟨_, rfl, post_of_below (pa := p0 ++ (p1)) (pv := []) hW' (fun _ _ _ => trodAll_cons_mk (shut_bool Tryz.underlying4 _) trodAll_mk0)
    (fun sp hsp => trodAll_mk2 (WideElems.Trod_stays laidOut (by kernel_rfl) (of_decide_eq_true (by kernel_rfl)) h0 (fun x hx => hB.same (hlt0 x hx)) (fun x hx => hsp x (by simp [hx]))) (WideElems.Trod_stays laidOut (by kernel_rfl) (of_decide_eq_true (by kernel_rfl)) h1 (fun x hx => hB.same (hlt1 x hx)) (fun x hx => hsp x (by simp [hx]))))
    (fun _ _ => rfl) (by simp) hB
    (ok_one (by kernel_rfl) rfl (okWide_bool_mk Tryz.underlying4 _))⟩

abbrev args0 : Array Value := #[.int .u8 0, .agg #[.int .i64 0, .int .i64 0, .int .i64 0, .int .i64 0]]
theorem laid_met (os : Os) : laidMet Tryz.prog Rows.rankScoresRow.laid ((laidWorld os).forCall (fun _ _ => 0) ⟨#[], args0, []⟩).memory :=
  laidMet_of_run' 8 (by kernel_rfl) (by kernel_rfl)
theorem reads (os : Os) {H : Type} (enc : TypeId × Value → H) : ∃ places, DataW.whole enc Tryz.prog ((laidWorld os).forCall (fun _ _ => 0) ⟨#[], args0, []⟩).memory Tryz.f5.params.toList Rows.rankScoresSpec.vars false args0.toList 8 = some ([.lit (.int .u8 0), .agg [.lit (.int .i64 0), .lit (.int .i64 0), .lit (.int .i64 0), .lit (.int .i64 0)]], [], places) :=
  ⟨[], by kernel_rfl⟩

theorem lifted {m : Nat} (hs : ∀ e, startK E 13 [] (H0 e) = some (st0 13 m e)) (hrun : Lives 13 m) (os : Os) (started : os.Started) (H : Type) (enc : TypeId × Value → H) (F : Stop.Interp) :
    ReturnsInHanded {} Tryz.checked os 5 .any ((OpenSpec.ofChange Rows.rankScoresSpec).preRow enc Tryz.prog Tryz.f5 Rows.rankScoresRow.domain false Rows.rankScoresRow.laid) (((OpenSpec.ofChange Rows.rankScoresSpec).at F).post enc Tryz.prog Tryz.f5 false true false false) := by
  obtain ⟨places, hx⟩ := reads os enc
  refine returnsInHanded_of_row (C := Tryz.checked) (s := OpenSpec.ofChange Rows.rankScoresSpec) own started (by kernel_rfl) Tryz.func5
    (witness_row_atRef (enc := enc) (C := Tryz.checked) false (laidWorld os) args0 rfl (by kernel_rfl) (by kernel_rfl) (by kernel_rfl)
      (OpenSpec.preRow_of_cond 8 hx (by kernel_rfl) (fun k hk => by cases hk) (by kernel_rfl) (laid_met os))) ?_
  intro W base args ds gs before hval hW _ _ hsz hL _ _
  exact contract hs hrun H enc W base args ds gs before hval hW hsz hL

theorem said {m : Nat} (hs : ∀ e, startK E 13 [] (H0 e) = some (st0 13 m e)) (hrun : Lives 13 m) : Rows.RankScoresSaid :=
  OpenClaim.holds_of_cond 5 Tryz.f5 rfl rfl rfl rfl rfl rfl rfl ⟨rfl, rfl, rfl, rfl, rfl⟩ rfl rfl rfl rfl rfl (by kernel_rfl) Tryz.func5 Lv.RankScores.facts
    (of_decide_eq_true (by kernel_rfl)) (by unfold Func.isWrapper; first | (rw [if_pos (by decide +kernel)]; kernel_rfl) | (rw [if_neg (by decide +kernel)]; exact ⟨rfl, rfl⟩))
    (fun os started H enc _ F => by rw [OpenClaim.pre_eq_preRow]; exact lifted hs hrun os started H enc F)

theorem plain (f : FuncId) (fn : Func) (hf : Tryz.pinned.checked.prog.funcNamed "sleuth/sleuthlaw07.RankScores" = some f) (hfn : Tryz.pinned.checked.prog.funcs[f]? = some fn) :
    false = Tryz.pinned.checked.prog.looks [] ∧ ∀ (j : Nat) t, fn.params[j]? = some t → Tryz.pinned.checked.prog.wantsStandIn t = false := by
  obtain rfl : f = 5 := Option.some.inj ((show Tryz.prog.funcNamed "sleuth/sleuthlaw07.RankScores" = some 5 by kernel_rfl).symm.trans hf) |>.symm
  obtain rfl : fn = Tryz.f5 := (Option.some.inj (Tryz.func5.symm.trans hfn)).symm
  refine ⟨by kernel_rfl, fun j t ht => ?_⟩
  rw [Tryz.params5] at ht
  have hm := Array.mem_of_getElem? ht
  have hm2 : t = 31 ∨ t = 33 := by simpa using hm
  rcases hm2 with rfl | rfl
  · exact (show Tryz.prog.wantsStandIn 31 = false by kernel_rfl)
  · exact (show Tryz.prog.wantsStandIn 33 = false by kernel_rfl)

theorem card {m : Nat} (hs : ∀ e, startK E 13 [] (H0 e) = some (st0 13 m e)) (hrun : Lives 13 m) : Rows.RankScoresCardSaid :=
  Claim7.holds_tied_plain_at .later [] _ _ _ _ (said hs hrun) (fun _ h => by cases h) (by kernel_rfl) (fun _ h => by cases h) rankScores_row_tie rfl ⟨rfl, rfl⟩ (by kernel_rfl) rfl plain (by kernel_rfl)
end Go.Proofs.YtmgegkgelecopaaGreatDoor.Rk.RankScores
