import Derived.Test.YtdpgcoicbagflaaBeD
import Derived.Test.YtdpgcoicbagflaaBiY
import Derived.Test.YtdpgcoicbagflaaRows
import Derived.ProofKit
import Derived.OpenShut
import Derived.Carry
set_option maxRecDepth 100000
namespace Go.Proofs.Ytdpgcoicbagflaa.Be
open Go Go.Ms Go.Pg Go.Bi Go.Be Go.ChangeShapes Go.WideShapes Go.ChangeAt Go.RowKit Go.Deep Go.Proofs.Ytdpgcoicbagflaa.Bi

theorem kinds_arg {H : Type} {enc : TypeId × Value → H} {W : World} {r : Reach} {b0 : Nat} {v : Value} {d : DataW H} {p : List MemPlace} (hv : Value.okWide Try.prog W r b0 32 v) (h : DataW.Trod enc Try.prog W 0 (fun _ => true) true 32 v d p) :
    ∃ oa len cap, v = .slice oa len cap ∧ (2 ≤ len → ∃ b o ks, oa = some ⟨b, o, none⟩ ∧ ks.length = len ∧ Kinds W b o ks) := by
  obtain ⟨fuel, hf⟩ := h
  obtain ⟨a0, n0, c0, rfl⟩ := okWide_slice Try.underlying32 hv
  refine ⟨a0, n0, c0, rfl, fun h2 => ?_⟩
  rcases open_ints Try.underlying32 Try.underlying5 (by kernel_rfl) hf with ⟨e, _⟩ | ⟨a, len, cap, zs, e, _, hle, hm, hz, _, hc, hw⟩
  · have e : Value.slice a0 n0 c0 = .slice none 0 0 := by simpa [Value.cells] using e
    injection e with e1 e2 e3
    omega
  · have e : Value.slice a0 n0 c0 = .slice (some a) len cap := by simpa [Value.cells] using e
    injection e with e1 e2 e3
    subst e1 e2 e3
    have hz2 : n0 ≤ zs.length := by rw [hz]; simp; exact hle
    obtain ⟨b, o, spot⟩ := a
    have hspot : spot = none := by
      have z0 := hc 0 (by omega)
      simpa [Addr.add] using World.cell?_spot z0
    subst hspot
    refine ⟨b, o, (zs.take n0).map Int.toNat, rfl, by simp [List.length_take]; omega, fun i hi => ?_⟩
    have hi3 : i < n0 := by simp [List.length_take] at hi; omega
    have hi2 : i < zs.length := by omega
    have hci := hc i hi2
    rw [Go.WideShapes.add_plain] at hci
    have hwf := hw _ (List.getElem_mem hi2)
    have hr : 0 ≤ zs[i] ∧ zs[i] < 256 := by
      simp [Lit.wf, IntKind.min, IntKind.max, IntKind.signed, IntKind.bits] at hwf
      omega
    have ek : ((kof ((zs.take n0).map Int.toNat) i : Nat) : Int) = zs[i] := by
      simp [kof, hi3, hi2]
      omega
    refine ⟨?_, by omega⟩
    rw [ek]
    have eg : zs.getD i 0 = zs[i] := by simp [List.getElem?_eq_getElem hi2]
    rw [eg] at hci
    exact hci

theorem lawAll {W : World} {oa : Option Addr} {len cap : Nat} {z : Int} (h : 2 ≤ len → ∃ b o ks, oa = some ⟨b, o, none⟩ ∧ ks.length = len ∧ Kinds W b o ks) (hA : Runs) : Yes 4 W #[.slice oa len cap, .int .i64 z] := by
  by_cases h2 : len < 2 ∨ 40 < len
  · exact lawSmall h2 hA
  · obtain ⟨b, o, ks, rfl, rfl, hk⟩ := h (by omega)
    exact lawMain hk (by omega) (by omega) hA

theorem lifted (hA : Runs) (os : Os) (started : os.Started) (H : Type) (enc : TypeId × Value → H) :
    ReturnsInHanded {} Try.checked os 4 .any (Rows.reduceBisectEndsSpec.pre6 enc Try.prog Try.f4 Rows.reduceBisectEndsRow.domain false) (Rows.reduceBisectEndsSpec.post enc Try.prog Try.f4 false true false false) := by
  refine returnsInHanded_of_change (C := Try.checked) own started (by kernel_rfl) Try.func4
    (ChangeSpec.witness6 (enc := enc) (C := Try.checked) false ⟨#[], #[.slice none 0 0, .int .i64 0], []⟩ 8 (by kernel_rfl) (by kernel_rfl) (by kernel_rfl) (by kernel_rfl)) ?_
  intro W base args ds gs before hval0 hW hcnd hsz
  have hval : ∀ (j : Nat) t v, Try.f4.params[j]? = some t → args[j]? = some v → Value.okWide Try.prog W .any base t v := hval0
  have hW' := hW
  obtain ⟨p, q, hA0, hV, rfl, hfz, hnd⟩ := hW
  have hT : DataW.TrodAll enc Try.prog W 0 (fun _ => true) true Try.f4.params.toList args.toList ds p := hA0
  rw [Try.params4] at hT hval
  obtain ⟨v0, v1, d0, d1, p0, p1, rfl, rfl, rfl, h0, h1⟩ := trodAll_two hT
  obtain ⟨rfl, rfl⟩ := trodVars_none hV
  obtain ⟨z, rfl, rfl, rfl, wz⟩ := open_int Try.underlying3 (hval 1 3 v1 rfl rfl) h1
  clear hA0 hval0
  simp only [List.append_nil] at hW'
  obtain ⟨oa, len, cap, rfl, hR⟩ := kinds_arg (hval 0 32 v0 rfl rfl) h0
  have hlt0 : ∀ x ∈ p0, x.block < W.heap.size := fun x hx => hW'.lt x (by simp [hx])
  refine (lawAll hR hA).mono fun e W' ⟨he, hB⟩ => ?_
  subst he
  exact ⟨_, rfl, post_of_below (pa := p0) (pv := []) hW' (fun _ _ _ => trodAll_cons_mk (shut_bool Try.underlying4 _) trodAll_mk0)
    (fun sp hsp => by
      have h := trodAll_mk2 (WideElems.Trod_stays laidOut (by kernel_rfl) (of_decide_eq_true (by kernel_rfl)) h0 (fun x hx => hB.same (hlt0 x hx)) (fun x hx => hsp x (by simp [hx])))
        (shut_int (P := Try.prog) (w := W') (base := 0) (spare := sp) (held := true) (enc := enc) Try.underlying3 wz)
      simp only [List.append_nil] at h
      exact h)
    (fun _ _ => rfl) (by simp) hB
    (ok_one (by kernel_rfl) rfl (okWide_bool_mk Try.underlying4 _))⟩

theorem said (hA : Runs) : Rows.ReduceBisectEndsSaid :=
  OpenClaim.holds_of_wide 4 Try.f4 rfl rfl rfl rfl rfl rfl rfl ⟨rfl, rfl, rfl, rfl, rfl⟩ rfl rfl rfl rfl rfl (by kernel_rfl) Try.func4 (by kernel_rfl)
    (of_decide_eq_true (by kernel_rfl)) (by unfold Func.isWrapper; first | (rw [if_pos (by decide +kernel)]; kernel_rfl) | (rw [if_neg (by decide +kernel)]; exact ⟨rfl, rfl⟩))
    (fun os started H enc _ => lifted hA os started H enc)
end Go.Proofs.Ytdpgcoicbagflaa.Be
