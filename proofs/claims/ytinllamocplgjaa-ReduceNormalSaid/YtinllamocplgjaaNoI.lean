import Derived.Test.YtinllamocplgjaaNoH
import Derived.Shelf.SlicesE.DeleteFunc
set_option maxRecDepth 100000
namespace Go.Proofs.Ytinllamocplgjaa.No
open Go Go.Ms Go.Pg Go.Rc Go.No Go.ChangeShapes Go.WideShapes Go.ChangeAt Go.RowKit Go.Deep Go.Shelf Go.Sort Go.Proofs.Ytinllamocplgjaa.Rc

theorem below_sort {α : Type} [Inhabited α] {enc : α → Value} {N blk off m : Nat} {w : World} {dk : Array α} {os : Array Obj} (hN : N ≤ blk) (hw : N ≤ w.heap.size) : Below N w (sortWorld enc w blk off m dk os) := by
  unfold sortWorld grow putRow mapBlock Sort.ahead
  refine ⟨rfl, rfl, rfl, by simp, fun k hk => ?_⟩
  show ((w.heap.modify blk _) ++ os)[k]? = w.heap[k]?
  rw [Array.getElem?_append_left (by simp; omega), Array.getElem?_modify, if_neg (by omega)]
theorem below_put {α : Type} [Inhabited α] {enc : α → Value} {N blk off m : Nat} {w : World} {dk : Array α} (hN : N ≤ blk) (hw : N ≤ w.heap.size) : Below N w (putRow enc (Sort.ahead w m) blk off dk) := by
  have := below_sort (enc := enc) (off := off) (m := m) (w := w) (dk := dk) (os := #[]) hN hw
  simpa [sortWorld] using this

abbrev encF {n : Nat} (x : Fin n) : Value := .int .i64 (x : Nat)
theorem kept_eq (l : List Pick) : ((List.finRange l.length).filter fun (x : Fin l.length) => !gone l x).map (fun x => x.val) = (List.range l.length).filter fun x => !gone l x := by
  have e : List.range l.length = (List.finRange l.length).map (fun x => x.val) := by
    apply List.ext_getElem
    · simp
    · intro i h1 h2
      simp
  rw [e, List.filter_map]
  rfl
theorem deleteFunc {ρ : Ren} (L : SlLaysH.n10 Try.prog ρ) (h31 : ρ.f 10 = 31) (h3 : ρ.t 23 = 3) {w : World} {N B blk cap : Nat} {l : List Pick} (hpos : 0 < l.length) (hl : l.length ≤ 100000) (hN : N ≤ blk) (hw : N ≤ w.heap.size)
    (hR : ∀ W, Below N w W → Reads B l W) (hc : ∀ j, j < l.length → w.cell? ⟨blk, j, none⟩ = some (.int .i64 (j : Nat)) ∧ w.frozen? ⟨blk, j, none⟩ = false) (hcap : l.length ≤ cap) :
    Calls Try.prog 31 #[.slice (some ⟨blk, 0, none⟩) l.length cap, .func (.func 33) #[] #[.pointer (some ⟨B, 0, none⟩)]] w fun e w' => ∃ v', e = .returned v' ∧ Below N w w' ∧
      RowAt 1 (NumAt .i64) w' v' (((List.range l.length).filter fun x => !gone l x).map Int.ofNat) := by
  have hne : Nonempty (Fin l.length) := ⟨⟨0, hpos⟩⟩
  let inst : Inhabited (Fin l.length) := ⟨⟨0, hpos⟩⟩
  have eg : ∀ args w, (callFunc 33 args).run Try.prog w = .ok (.enter 33 args) w := enters_of Try.func33 (by kernel_rfl) rfl
  have hH : Holds (encF (n := l.length)) w blk 0 (List.finRange l.length).toArray := by
    intro j hj
    have hj2 : j < l.length := by simpa using hj
    rw [Nat.zero_add]
    have e : (List.finRange l.length).toArray[j]! = ⟨j, hj2⟩ := by simp [hj2]
    rw [e]
    exact hc j hj2
  have hcon := AnyE.slices_DeleteFunc L (encF (n := l.length)) (fun _ => rfl) (fun x => gone l x) 33 #[.pointer (some ⟨B, 0, none⟩)] eg ⟨0, hpos⟩ (by rw [h3]; exact Try.zeroValue3) blk 0 cap (List.finRange l.length).toArray w
    (fun W x hb => closure (hR W (hb.mono hw)) x.2) (fun m os dk x _ => closure (hR _ (below_sort hN hw)) x.2) hH (by simp; omega) (by simpa using hcap)
  rw [h31] at hcon
  have hsz : (List.finRange l.length).toArray.size = l.length := by simp
  rw [hsz] at hcon
  refine hcon.mono ?_
  rintro e w' ⟨rfl, q, rfl⟩
  generalize hF : ((List.finRange l.length).toArray.toList.filter fun (x : Fin l.length) => !gone l x) = F
  have hF2 : F = (List.finRange l.length).filter fun (x : Fin l.length) => !gone l x := by rw [← hF]
  have hk : (List.range l.length).filter (fun x => !gone l x) = F.map (fun x => x.val) := by rw [hF2, kept_eq]
  have hFl : F.length ≤ l.length := by
    rw [hF2]
    have := List.length_filter_le (fun x : Fin l.length => !gone l x) (List.finRange l.length)
    simpa using this
  refine ⟨_, rfl, below_put hN hw, ?_⟩
  rw [hk]
  refine ⟨some ⟨blk, 0, none⟩, cap, by simp, by simp; omega, fun i hi => ⟨blk, 0, rfl, ?_⟩⟩
  have hi2 : i < F.length := by simpa using hi
  have hds : (F ++ List.replicate (l.length - F.length) (⟨0, hpos⟩ : Fin l.length)).toArray.size = (List.finRange l.length).toArray.size := by simp; omega
  have hcell := cell?_putRow (encF (n := l.length)) (Sort.ahead w q) blk 0 (List.finRange l.length).toArray (F ++ List.replicate (l.length - F.length) (⟨0, hpos⟩ : Fin l.length)).toArray hH hds i (by simp; omega)
  have e : (F ++ List.replicate (l.length - F.length) (⟨0, hpos⟩ : Fin l.length)).toArray[i]! = F[i] := by
    rw [getElem!_pos _ i (by simp; omega)]
    simp [List.getElem_append_left hi2]
  rw [e] at hcell
  refine ⟨by simpa using hcell, ?_⟩
  have := F[i].2
  simp [Lit.wf, IntKind.min, IntKind.max, IntKind.signed, IntKind.bits]
  omega
end Go.Proofs.Ytinllamocplgjaa.No
