import Derived.Test.YtdfjjmibhnniiaaGreatDoorLeX
import Derived.Carry
import Derived.Test.YtdfjjmibhnniiaaGreatDoorLvW
import Derived.Test.YtdfjjmibhnniiaaGreatDoorLvLearnClaimsF
set_option maxRecDepth 100000
namespace Go.Proofs.YtdfjjmibhnniiaaGreatDoor.Le
open Go Go.Pg Go.Ms Go.Le Go.Ev Go.RowKit Go.ChangeShapes Go.WideShapes Go.ChangeAt Go.Proofs.YtdfjjmibhnniiaaGreatDoor.Lv

theorem laidOut : laidOutB Tryz.prog = true := by kernel_rfl
theorem pos_of {n k : Nat} (h : n = k + 1) : 0 < n := by omega

section
variable {H : Type} {enc : TypeId × Value → H} {W : World} {base : Nat} {spare : Nat → Bool} {held : Bool}
theorem set_of {fuel : Nat} {cs : List Value} {x : DataW H × List MemPlace} (h : DataW.trod enc Tryz.prog W base spare held fuel 29 cs = some x) (hz : Fits Tryz.prog 29 x.1) : ∃ v l, cs = [v] ∧ RowAt 1 (NumAt .i64) W v l :=
  ints_of Tryz.underlying29 Tryz.underlying2 (by kernel_rfl) (pos_of (k := 7) (by kernel_rfl)) h hz
theorem rows_of {fuel : Nat} {cs : List Value} {x : DataW H × List MemPlace} (h : DataW.trod enc Tryz.prog W base spare held fuel 23 cs = some x) (hz : Fits Tryz.prog 23 x.1) : ∃ v l, cs = [v] ∧ Rows2 W v l := by
  refine row_of Tryz.underlying23 (e := 29) (size := 1) (by kernel_rfl) (by omega) (pos_of (k := 23) (by kernel_rfl)) ?_ h hz
  intro k' cs x b p _ h hz _ hcell
  obtain ⟨v, l, rfl, hr⟩ := set_of h hz
  exact ⟨l, v, hcell 0 (by omega), hr⟩
theorem claims_of {fuel : Nat} {cs : List Value} {x : DataW H × List MemPlace} (h : DataW.trod enc Tryz.prog W base spare held fuel 22 cs = some x) (hz : Fits Tryz.prog 22 x.1) : ∃ v l, cs = [v] ∧ Claims W v l := by
  refine row_of Tryz.underlying22 (e := 31) (size := 6) (by kernel_rfl) (by omega) (pos_of (k := 63) (by kernel_rfl)) ?_ h hz
  intro k' cs x b p _ h hz hl hcell
  obtain ⟨n0, d0, _, g0, _⟩ := struct_field (c := 1) Tryz.underlying31 rfl h hz 0 rfl (by kernel_rfl)
  obtain ⟨n1, d1, _, g1, _⟩ := struct_field (c := 1) Tryz.underlying31 rfl h hz 1 rfl (by kernel_rfl)
  obtain ⟨n2, d2, _, g2, _⟩ := struct_field (c := 1) Tryz.underlying31 rfl h hz 2 rfl (by kernel_rfl)
  obtain ⟨n3, d3, _, g3, _⟩ := struct_field (c := 1) Tryz.underlying31 rfl h hz 3 rfl (by kernel_rfl)
  obtain ⟨n4, d4, _, g4, _⟩ := struct_field (c := 1) Tryz.underlying31 rfl h hz 4 rfl (by kernel_rfl)
  obtain ⟨n5, d5, _, g5, z5⟩ := struct_field (c := 1) Tryz.underlying31 rfl h hz 5 rfl (by kernel_rfl)
  match cs, hl with
  | [c0, c1, c2, c3, c4, c5], _ =>
    obtain ⟨y0, e0, w0⟩ := int_one Tryz.underlying28 g0
    obtain ⟨y1, e1, w1⟩ := int_one Tryz.underlying3 g1
    obtain ⟨y2, e2, w2⟩ := int_one Tryz.underlying3 g2
    obtain ⟨y3, e3, w3⟩ := int_one Tryz.underlying2 g3
    obtain ⟨y4, e4, w4⟩ := int_one Tryz.underlying2 g4
    obtain ⟨v5, l5, e5, r5⟩ := set_of g5 z5
    simp at e0 e1 e2 e3 e4 e5
    subst e0 e1 e2 e3 e4 e5
    exact ⟨⟨y0, y1, y2, y3, y4, l5⟩, ⟨hcell 0 (by omega), w0⟩, ⟨hcell 1 (by omega), w1⟩, ⟨hcell 2 (by omega), w2⟩, ⟨hcell 3 (by omega), w3⟩, ⟨hcell 4 (by omega), w4⟩, c5, hcell 5 (by omega), r5⟩
theorem claims_arg {r : Reach} {b0 : Nat} {v : Value} {d : DataW H} {p : List MemPlace} (hv : Value.okWide Tryz.prog W r b0 22 v) (h : DataW.Trod enc Tryz.prog W base spare held 22 v d p) (hz : Fits Tryz.prog 22 d) : ∃ l, Claims W v l := by
  obtain ⟨fuel, hf⟩ := h
  obtain ⟨a0, n0, c0, rfl⟩ := okWide_slice Tryz.underlying22 hv
  obtain ⟨u, l, e, hr⟩ := claims_of hf hz
  have e : Value.slice a0 n0 c0 = u := by simpa [Value.cells] using e
  rw [e]
  exact ⟨l, hr⟩
theorem rows_arg {r : Reach} {b0 : Nat} {v : Value} {d : DataW H} {p : List MemPlace} (hv : Value.okWide Tryz.prog W r b0 23 v) (h : DataW.Trod enc Tryz.prog W base spare held 23 v d p) (hz : Fits Tryz.prog 23 d) : ∃ l, Rows2 W v l := by
  obtain ⟨fuel, hf⟩ := h
  obtain ⟨a0, n0, c0, rfl⟩ := okWide_slice Tryz.underlying23 hv
  obtain ⟨u, l, e, hr⟩ := rows_of hf hz
  have e : Value.slice a0 n0 c0 = u := by simpa [Value.cells] using e
  rw [e]
  exact ⟨l, hr⟩
end

theorem contract {m : Nat} (hs : ∀ e, startK E 9 [] (H0 e) = some (st0 9 m e)) (hrun : Lives 9 m) (H : Type) (enc : TypeId × Value → H) (W : World) (base : Nat) (args : Array Value) (ds gs : List (DataW H)) (before : List MemPlace)
    (hval0 : ∀ (j : Nat) t v, Tryz.f3.params[j]? = some t → args[j]? = some v → Value.okWide Tryz.prog W .any base t v)
    (hW : DataW.Whole enc Tryz.prog Tryz.f3.params.toList Rows.learnClaimsSpec.vars false W args.toList ds gs before) (hsz : (DataW.weightsEach Tryz.prog (Tryz.f3.params.toList ++ (OpenSpec.ofChange Rows.learnClaimsSpec).bare.plain.varTypes Tryz.prog) (ds ++ gs)).all (· ≤ reachBytes) = true) (hL : laidMetH Tryz.prog Rows.learnClaimsRow.laid W) :
    Calls Tryz.prog 3 args W fun e W' => ∃ v, e = .returned v ∧ Rows.learnClaimsSpec.post enc Tryz.prog Tryz.f3 false true false false W args v W' := by
  obtain ⟨ty, hop⟩ := tab_of rfl hL
  have hW' := hW
  obtain ⟨p, q, hA0, hV, rfl, hfz, hnd⟩ := hW
  have hA : DataW.TrodAll enc Tryz.prog W 0 (fun _ => true) true Tryz.f3.params.toList args.toList ds p := hA0
  have hval := hval0
  rw [Tryz.params3] at hA hval
  obtain ⟨v0, v1, v2, d0, d1, d2, p0, p1, p2, rfl, rfl, rfl, h0, h1, h2⟩ := trodAll_three hA
  obtain ⟨rfl, rfl⟩ := trodVars_none hV
  have hz : ∀ n ∈ DataW.weightsEach Tryz.prog (Tryz.f3.params.toList ++ (OpenSpec.ofChange Rows.learnClaimsSpec).bare.plain.varTypes Tryz.prog) ([d0, d1, d2] ++ []), n ≤ reachBytes := fun n hn => by simpa using List.all_eq_true.1 hsz n hn
  rw [Tryz.params3] at hz
  have z0 : Fits Tryz.prog 22 d0 := fun n hn => hz n (DataW.weights_mem_each (j := 0) rfl rfl n hn)
  have z1 : Fits Tryz.prog 23 d1 := fun n hn => hz n (DataW.weights_mem_each (j := 1) rfl rfl n hn)
  obtain ⟨l, hl⟩ := claims_arg (hval 0 22 v0 rfl rfl) h0 z0
  obtain ⟨rows, hr⟩ := rows_arg (hval 1 23 v1 rfl rfl) h1 z1
  obtain ⟨z, e2, f2, _, wz2⟩ := open_int Tryz.underlying3 (hval 2 3 v2 rfl rfl) h2
  clear hA0
  simp only [List.append_nil] at hW'
  have hlt0 : ∀ x ∈ p0, x.block < W.heap.size := fun x hx => hW'.lt x (by simp [hx])
  have hlt1 : ∀ x ∈ p1, x.block < W.heap.size := fun x hx => hW'.lt x (by simp [hx])
  have hlt2 : ∀ x ∈ p2, x.block < W.heap.size := fun x hx => hW'.lt x (by simp [hx])
  have hR : Learns (.cells tabVals ty (0, 0)) := fun w2 h2 => hrun.calls hs ⟨ty, h2⟩
  have key : Calls Tryz.prog 3 #[v0, v1, v2] W fun e w' => e = .returned (.bool true) ∧ Below W.heap.size W w' := by
    rw [e2]
    exact lawLearnClaims hl hr hop hR
  refine key.mono fun e W' ⟨he, hB⟩ => ?_
  subst he
  exact ⟨_, rfl, post_of_below (pa := p0 ++ (p1 ++ (p2))) (pv := []) hW' (fun _ _ _ => trodAll_cons_mk (shut_bool Tryz.underlying4 _) trodAll_mk0)
    (fun sp hsp => trodAll_mk3 (WideElems.Trod_stays laidOut (by kernel_rfl) (of_decide_eq_true (by kernel_rfl)) h0 (fun x hx => hB.same (hlt0 x hx)) (fun x hx => hsp x (by simp [hx]))) (WideElems.Trod_stays laidOut (by kernel_rfl) (of_decide_eq_true (by kernel_rfl)) h1 (fun x hx => hB.same (hlt1 x hx)) (fun x hx => hsp x (by simp [hx]))) (WideElems.Trod_stays laidOut (by kernel_rfl) (of_decide_eq_true (by kernel_rfl)) h2 (fun x hx => hB.same (hlt2 x hx)) (fun x hx => hsp x (by simp [hx]))))
    (fun _ _ => rfl) (by simp) hB
    (ok_one (by kernel_rfl) rfl (okWide_bool_mk Tryz.underlying4 _))⟩

abbrev args0 : Array Value := #[.slice none 0 0, .slice none 0 0, .int .i64 0]
theorem laid_met (os : Os) : laidMet Tryz.prog Rows.learnClaimsRow.laid ((laidWorld os).forCall (fun _ _ => 0) ⟨#[], args0, []⟩).memory := laidRun_world os args0
theorem reads (os : Os) {H : Type} (enc : TypeId × Value → H) : ∃ places, DataW.whole enc Tryz.prog ((laidWorld os).forCall (fun _ _ => 0) ⟨#[], args0, []⟩).memory Tryz.f3.params.toList Rows.learnClaimsSpec.vars false args0.toList 8 = some ([.nil, .nil, .lit (.int .i64 0)], [], places) :=
  ⟨[], by kernel_rfl⟩

theorem lifted {m : Nat} (hs : ∀ e, startK E 9 [] (H0 e) = some (st0 9 m e)) (hrun : Lives 9 m) (os : Os) (started : os.Started) (H : Type) (enc : TypeId × Value → H) (F : Stop.Interp) :
    ReturnsInHanded {} Tryz.checked os 3 .any ((OpenSpec.ofChange Rows.learnClaimsSpec).preRow enc Tryz.prog Tryz.f3 Rows.learnClaimsRow.domain false Rows.learnClaimsRow.laid) (((OpenSpec.ofChange Rows.learnClaimsSpec).at F).post enc Tryz.prog Tryz.f3 false true false false) := by
  obtain ⟨places, hx⟩ := reads os enc
  refine returnsInHanded_of_row (C := Tryz.checked) (s := OpenSpec.ofChange Rows.learnClaimsSpec) own started (by kernel_rfl) Tryz.func3
    (witness_row_atRef (enc := enc) (C := Tryz.checked) false (laidWorld os) args0 rfl (by kernel_rfl) (by kernel_rfl) (by kernel_rfl)
      (OpenSpec.preRow_of_cond 8 hx (by kernel_rfl) (fun k hk => by cases hk) (by kernel_rfl) (laid_met os))) ?_
  intro W base args ds gs before hval hW _ _ hsz hL _ _
  exact contract hs hrun H enc W base args ds gs before hval hW hsz hL

theorem said {m : Nat} (hs : ∀ e, startK E 9 [] (H0 e) = some (st0 9 m e)) (hrun : Lives 9 m) : Rows.LearnClaimsSaid :=
  OpenClaim.holds_of_cond 3 Tryz.f3 rfl rfl rfl rfl rfl rfl rfl ⟨rfl, rfl, rfl, rfl, rfl⟩ rfl rfl rfl rfl rfl (by kernel_rfl) Tryz.func3 Lv.LearnClaims.facts
    (of_decide_eq_true (by kernel_rfl)) (by unfold Func.isWrapper; first | (rw [if_pos (by decide +kernel)]; kernel_rfl) | (rw [if_neg (by decide +kernel)]; exact ⟨rfl, rfl⟩))
    (fun os started H enc _ F => by rw [OpenClaim.pre_eq_preRow]; exact lifted hs hrun os started H enc F)

theorem plain (f : FuncId) (fn : Func) (hf : Tryz.pinned.checked.prog.funcNamed "sleuth/sleuthlaw08.LearnClaims" = some f) (hfn : Tryz.pinned.checked.prog.funcs[f]? = some fn) :
    true = Tryz.pinned.checked.prog.looks [] ∧ ∀ (j : Nat) t, fn.params[j]? = some t → Tryz.pinned.checked.prog.wantsStandIn t = false := by
  obtain rfl : f = 3 := Option.some.inj ((show Tryz.prog.funcNamed "sleuth/sleuthlaw08.LearnClaims" = some 3 by kernel_rfl).symm.trans hf) |>.symm
  obtain rfl : fn = Tryz.f3 := (Option.some.inj (Tryz.func3.symm.trans hfn)).symm
  refine ⟨by kernel_rfl, fun j t ht => ?_⟩
  rw [Tryz.params3] at ht
  have hm := Array.mem_of_getElem? ht
  have hm2 : t = 22 ∨ t = 23 ∨ t = 3 := by simpa using hm
  rcases hm2 with rfl | rfl | rfl
  · exact (show Tryz.prog.wantsStandIn 22 = false by kernel_rfl)
  · exact (show Tryz.prog.wantsStandIn 23 = false by kernel_rfl)
  · exact (show Tryz.prog.wantsStandIn 3 = false by kernel_rfl)

theorem card {m : Nat} (hs : ∀ e, startK E 9 [] (H0 e) = some (st0 9 m e)) (hrun : Lives 9 m) : Rows.LearnClaimsCardSaid :=
  Claim7.holds_tied_plain_at .later [] _ _ _ _ (said hs hrun) (fun _ h => by cases h) (by kernel_rfl) (fun _ h => by cases h) learnClaims_row_tie rfl ⟨rfl, rfl⟩ (by kernel_rfl) rfl plain (by kernel_rfl)
end Go.Proofs.YtdfjjmibhnniiaaGreatDoor.Le
