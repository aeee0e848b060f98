import Derived.Test.YtmkapmbmgpnjaaaDmX
import Derived.Test.YtmkapmbmgpnjaaaGrF
set_option maxRecDepth 100000
namespace Go.Proofs.Ytmkapmbmgpnjaaa.Se
open Go Go.Ms Go.Pg Go.Bi Go.Se Go.ChangeShapes Go.WideShapes Go.ChangeAt Go.RowKit Go.Deep Go.Proofs.Ytmkapmbmgpnjaaa.Bi

theorem lawAllU {w : World} {v : Value} {s : List Int} {z st : Int} (hv : IntsW w v s) (hA : Awake) : YesU w #[.int .i64 z, .int .i64 st, v] := by
  by_cases hz : z ≤ 12
  · obtain ⟨N, hN⟩ : ∃ N : Nat, max z 0 = (N : Int) := ⟨(max z 0).toNat, by omega⟩
    rcases Classical.em (IsSet s (N : Int)) with hs | hs
    · exact lawMainU hz hN hv hs hA
    · exact lawNoneU hz hN hv hs hA
  · exact lawLongU (by omega) hv hA

theorem liftedU (hA : Awake) (os : Os) (started : os.Started) (H : Type) (enc : TypeId × Value → H) :
    ReturnsInHanded {} Try.checked os 9 .any (Rows.reduceUniqueSpec.pre6 enc Try.prog Try.f9 Rows.reduceUniqueRow.domain false) (Rows.reduceUniqueSpec.post enc Try.prog Try.f9 false true false false) := by
  refine returnsInHanded_of_change (C := Try.checked) own started (by kernel_rfl) Try.func9
    (ChangeSpec.witness6 (enc := enc) (C := Try.checked) false ⟨#[], #[.int .i64 0, .int .i64 0, .slice none 0 0], []⟩ 8 (by kernel_rfl) (by kernel_rfl) (by kernel_rfl) (by kernel_rfl)) ?_
  intro W base args ds gs before hval0 hW hcnd hsz
  have hval : ∀ (j : Nat) t v, Try.f9.params[j]? = some t → args[j]? = some v → Value.okWide Try.prog W .any base t v := hval0
  have hW' := hW
  obtain ⟨p, q, hA0, hV, rfl, hfz, hnd⟩ := hW
  have hT : DataW.TrodAll enc Try.prog W 0 (fun _ => true) true Try.f9.params.toList args.toList ds p := hA0
  rw [Try.params9] at hT hval
  obtain ⟨v0, v1, v2, d0, d1, d2, p0, p1, p2, rfl, rfl, rfl, h0, h1, h2⟩ := trodAll_three hT
  obtain ⟨rfl, rfl⟩ := trodVars_none hV
  obtain ⟨n, rfl, rfl, rfl, wn⟩ := open_int Try.underlying3 (hval 0 3 v0 rfl rfl) h0
  obtain ⟨z, rfl, rfl, rfl, wz⟩ := open_int Try.underlying3 (hval 1 3 v1 rfl rfl) h1
  clear hA0 hval0
  simp only [List.append_nil, List.nil_append] at hW'
  obtain ⟨l, hL⟩ := ints_arg (hval 2 30 v2 rfl rfl) h2
  have hlt2 : ∀ x ∈ p2, x.block < W.heap.size := fun x hx => hW'.lt x (by simp [hx])
  refine (lawAllU hL hA).mono fun e W' ⟨he, hB⟩ => ?_
  subst he
  exact ⟨_, rfl, post_of_below (pa := p2) (pv := []) hW' (fun _ _ _ => trodAll_cons_mk (shut_bool Try.underlying4 _) trodAll_mk0)
    (fun sp hsp => by
      have h := trodAll_mk3 (shut_int (P := Try.prog) (w := W') (base := 0) (spare := sp) (held := true) (enc := enc) Try.underlying3 wn)
        (shut_int (P := Try.prog) (w := W') (base := 0) (spare := sp) (held := true) (enc := enc) Try.underlying3 wz)
        (WideElems.Trod_stays laidOut (by kernel_rfl) (of_decide_eq_true (by kernel_rfl)) h2 (fun x hx => hB.same (hlt2 x hx)) (fun x hx => hsp x (by simp [hx])))
      simp only [List.nil_append] at h
      exact h)
    (fun _ _ => rfl) (by simp) hB
    (ok_one (by kernel_rfl) rfl (okWide_bool_mk Try.underlying4 _))⟩

theorem saidU (hA : Awake) : Rows.ReduceUniqueSaid :=
  OpenClaim.holds_of_wide 9 Try.f9 rfl rfl rfl rfl rfl rfl rfl ⟨rfl, rfl, rfl, rfl, rfl⟩ rfl rfl rfl rfl rfl (by kernel_rfl) Try.func9 (by kernel_rfl)
    (of_decide_eq_true (by kernel_rfl)) (by unfold Func.isWrapper; first | (rw [if_pos (by decide +kernel)]; kernel_rfl) | (rw [if_neg (by decide +kernel)]; exact ⟨rfl, rfl⟩))
    (fun os started H enc _ => liftedU hA os started H enc)
end Go.Proofs.Ytmkapmbmgpnjaaa.Se
