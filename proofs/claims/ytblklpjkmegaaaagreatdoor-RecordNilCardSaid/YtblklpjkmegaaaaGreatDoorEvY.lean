import Derived.Test.YtblklpjkmegaaaaGreatDoorEvX
namespace Go.Ev
open Go.RowKit

def DrawR (P : Program) (ρ : Ren) (d : Draw) (tmps tmps' : Array Value) (todo todo' : List Item) : Prop :=
  ∃ fuel t lc k', TdR ρ todo k' ∧ (match d.cur with
    | none => todo' = .inRegion d.ops (Region.linearise.go .any d.ops fuel t lc []) :: k'
    | some r => todo' = .inRegion d.ops (r :: Region.linearise.go .any d.ops fuel t lc []) :: k') ∧ Lag P ρ d.ops d.listed lc d.lag fuel tmps tmps'

def BodyR (P : Program) (ρ : Ren) (fr : AFrame) (tmps' : Array Value) (todo' : List Item) : Prop :=
  match fr.mode with
  | .run => (match fr.draw with
    | none => AsR ρ fr.tmps tmps' ∧ TdR ρ fr.todo todo'
    | some d => DrawR P ρ d fr.tmps tmps' fr.todo todo')
  | _ => SlotsR P ρ fr.fn fr.tmps tmps'

/-- Two frames that stand for each other. -/
structure FR (P : Program) (ρ : Ren) (fr : AFrame) (fr' : Frame) : Prop where
  fn : fr'.fn = fr.fn
  kind : fr'.kind = fr.kind
  round : OBR ρ fr.roundOf fr'.roundOf
  mode : ModeR ρ fr.mode fr'.mode
  defers : DsR ρ fr.defers fr'.defers
  body : BodyR P ρ fr fr'.tmps fr'.todo

def CsR (P : Program) (ρ : Ren) : List AFrame → List Frame → Prop
  | [], [] => True
  | c :: cs, d :: ds => FR P ρ c d ∧ CsR P ρ cs ds
  | _, _ => False

section
variable {P : Program} {ρ σ : Ren}

theorem SlotsR.mono (h : ρ.le σ) {f : FuncId} {x y : Array Value} (k : SlotsR P ρ f x y) : SlotsR P σ f x y := fun fn hf t ht => (k fn hf t ht).mono h

/-- A renaming in which only some blocks of those that were told of are there besides. -/
structure Ren.Grow (S : List Nat) (ρ σ : Ren) : Prop where
  le : ρ.le σ
  on : ∀ i, i < ρ.n → σ.on i → ρ.on i ∨ i ∈ S

theorem DrawR.mono {S : List Nat} (h : Ren.Grow S ρ σ) {d : Draw} {x y : Array Value} {a b : List Item} (hS : ∀ i ∈ d.lag.filterMap (madeBlk P d.ops x), i ∉ S) (k : DrawR P ρ d x y a b) : DrawR P σ d x y a b := by
  obtain ⟨fuel, t, lc, k', h1, h2, h3⟩ := k
  refine ⟨fuel, t, lc, k', h1.mono h.le, h2, h3.mono h.le fun j hj b hb hlt hoff hon => ?_⟩
  rcases h.on b hlt hon with q | q
  · exact hoff q
  · exact hS b (List.mem_filterMap.2 ⟨j, hj, hb⟩) q

theorem BodyR.mono {S : List Nat} (h : Ren.Grow S ρ σ) {fr : AFrame} {x : Array Value} {y : List Item} (hS : ∀ i ∈ fr.pends P, i ∉ S) (k : BodyR P ρ fr x y) : BodyR P σ fr x y := by
  unfold BodyR at k ⊢
  split
  · rename_i hm
    rw [hm] at k
    simp only at k
    split
    · rename_i hd
      rw [hd] at k
      exact ⟨k.1.mono h.le, k.2.mono h.le⟩
    · rename_i d hd
      rw [hd] at k
      exact DrawR.mono h (by unfold AFrame.pends at hS; rw [hd] at hS; exact hS) k
  · rename_i hm
    split at k
    · rename_i hm2; exact absurd hm2 hm
    · exact SlotsR.mono h.le k

theorem FR.mono {S : List Nat} (h : Ren.Grow S ρ σ) {fr : AFrame} {fr' : Frame} (hS : ∀ i ∈ fr.pends P, i ∉ S) (k : FR P ρ fr fr') : FR P σ fr fr' :=
  ⟨k.fn, k.kind, k.round.mono h.le, k.mode.mono h.le, k.defers.mono h.le, k.body.mono h hS⟩

theorem FR.up (h : Ren.Grow [] ρ σ) {fr : AFrame} {fr' : Frame} (k : FR P ρ fr fr') : FR P σ fr fr' := k.mono h (fun _ _ q => by cases q)

theorem CsR.mono {S : List Nat} (h : Ren.Grow S ρ σ) : ∀ {a : List AFrame} {b : List Frame}, (∀ c ∈ a, ∀ i ∈ c.pends P, i ∉ S) → CsR P ρ a b → CsR P σ a b
  | [], [], _, _ => trivial
  | c :: _, _ :: _, hS, k => ⟨k.1.mono h (hS c (by simp)), CsR.mono h (fun c hc => hS c (by simp [hc])) k.2⟩

theorem CsR.up (h : Ren.Grow [] ρ σ) {a : List AFrame} {b : List Frame} (k : CsR P ρ a b) : CsR P σ a b := k.mono h (fun _ _ _ _ q => by cases q)

theorem ModeR.run {m m' : FrameMode} (h : ModeR ρ m m') : m = .run ↔ m' = .run := by
  cases m <;> cases m' <;> first | exact h.elim | simp

theorem AsR.slot {x x' : Array Value} (h : AsR ρ x x') (t : Tmp) : VR ρ (x.getD t undef) (x'.getD t undef) := h.getD t (VR.undef ρ)

/-- What a frame returns is the same, whatever becomes of it. -/
theorem FR.slotsR {fr : AFrame} {fr' : Frame} (k : FR P ρ fr fr') (hl : lagFree P fr = true) : SlotsR P ρ fr.fn fr.tmps fr'.tmps := by
  intro fn hf t ht
  have hb := k.body
  unfold BodyR at hb
  split at hb
  · split at hb
    · exact hb.1.slot t
    · rename_i d hd
      obtain ⟨fuel, tt, lc, k', h1, h2, L⟩ := hb
      unfold lagFree at hl
      rw [hf, hd] at hl
      simp only at hl
      rw [List.all_eq_true] at hl
      refine TmpR.getD L.size ?_
      intro v v' q1 q2
      rcases L.agree t v v' q1 q2 with q | ⟨j, hj, _, hdj⟩
      · exact q
      · have := hl j hj
        unfold dstOf at hdj
        rw [hdj] at this
        simp only [Bool.not_eq_true'] at this
        have hn : ¬ t ∈ slots fn := by simpa using this
        exact absurd ht hn
  · exact hb fn hf t ht

theorem FR.raise {fr : AFrame} {fr' : Frame} (k : FR P ρ fr fr') (hl : lagFree P fr = true) {c c' : List PanicEntry} (hc : PesR ρ c c') : FR P ρ { fr.raise c with draw := none } (fr'.raise c') := by
  have hs := k.slotsR hl
  have hm := k.mode
  unfold AFrame.raise Frame.raise
  cases h1 : fr.mode with
  | run =>
    rw [h1] at hm
    cases h2 : fr'.mode with
    | run => exact ⟨k.fn, k.kind, k.round, hc, k.defers, hs⟩
    | _ => rw [h2] at hm; exact hm.elim
  | returning =>
    rw [h1] at hm
    cases h2 : fr'.mode with
    | returning => exact ⟨k.fn, k.kind, k.round, hc, k.defers, hs⟩
    | _ => rw [h2] at hm; exact hm.elim
  | panicking ch =>
    rw [h1] at hm
    cases h2 : fr'.mode with
    | panicking ch' => rw [h2] at hm; exact ⟨k.fn, k.kind, k.round, PesR.append hc hm, k.defers, hs⟩
    | _ => rw [h2] at hm; exact hm.elim

theorem FR.finish {c c1 : AFrame} {c' : Frame} (k : FR P ρ c c') {v v' : Value} (hv : VR ρ v v') (hf : c.finish v = some c1) : FR P ρ c1 (c'.finish v') := by
  have hb := k.body
  unfold BodyR at hb
  unfold AFrame.finish at hf
  split at hf
  case h_2 => cases hf
  rename_i hm
  rw [hm] at hb
  simp only at hb
  split at hf
  · rename_i d hd
    rw [hd] at hb
    split at hf
    case h_2 => cases hf
    rename_i r hr
    split at hf
    case isFalse => cases hf
    rename_i hap
    cases hf
    obtain ⟨fuel, t, lc, k', h1, h2, L⟩ := hb
    rw [hr] at h2
    simp only at h2
    rw [finish_region h2]
    refine ⟨k.fn, k.kind, k.round, k.mode, k.defers, ?_⟩
    unfold BodyR
    simp only [hm]
    exact ⟨fuel, t, lc, k', h1, rfl, L.finish (dstOf d.ops r) hap hv⟩
  · rename_i hd
    rw [hd] at hb
    simp only at hb
    obtain ⟨ht, htd⟩ := hb
    split at hf
    · rename_i ops i rest kk htodo
      cases hf
      rw [htodo] at htd
      cases h2 : c'.todo with
      | nil => rw [h2] at htd; exact htd.elim
      | cons y ys =>
        rw [h2] at htd
        obtain ⟨h3, h4⟩ := htd
        cases h3
        rw [finish_region h2]
        refine ⟨k.fn, k.kind, k.round, k.mode, k.defers, ?_⟩
        unfold BodyR
        simp only [hm, hd]
        refine ⟨?_, .inRegion _ _, h4⟩
        unfold dstOf
        cases (ops[i]?).bind (·.dst) with
        | none => exact ht
        | some t => exact ht.set t hv
    · rename_i l kk htodo
      cases hf
      rw [htodo] at htd
      cases h2 : c'.todo with
      | nil => rw [h2] at htd; exact htd.elim
      | cons y ys =>
        rw [h2] at htd
        obtain ⟨h3, h4⟩ := htd
        cases h3
        rename_i l' hl
        have : c'.finish v' = { c' with todo := .endRangeFunc l' :: ys } := by simp only [Frame.finish, h2]
        rw [this]
        refine ⟨k.fn, k.kind, k.round, k.mode, k.defers, ?_⟩
        unfold BodyR
        simp only [hm, hd]
        exact ⟨ht, .endRangeFunc hl, h4⟩
    · cases hf

end

/-- The machine that stands for ours. -/
def Sim (E : Env) (N : Nat) (w0 : World) (base : List Frame) (ρ : Ren) (st : ASt) (m : Machine) : Prop :=
  ∃ fr' cs' w, m = lone fr' (cs' ++ base) w ∧ FR E.P ρ st.fr fr' ∧ CsR E.P ρ st.cs cs' ∧ HR N (bare w0) ρ st.H w

def Goes (E : Env) (N : Nat) (w0 : World) (base : List Frame) (ρ : Ren) (st : ASt) (m : Machine) : Prop :=
  ∃ σ m', ρ.le σ ∧ Steps E.P m m' ∧ Sim E N w0 base σ st m'

section
variable {E : Env} {N : Nat} {w0 : World} {base : List Frame} {ρ : Ren}

theorem Goes.of {st : ASt} {m : Machine} {fr' : Frame} {cs' : List Frame} {w : World} (hs : Steps E.P m (lone fr' (cs' ++ base) w)) (hF : FR E.P ρ st.fr fr') (hC : CsR E.P ρ st.cs cs') (hH : HR N (bare w0) ρ st.H w) : Goes E N w0 base ρ st m :=
  ⟨ρ, _, Ren.le_refl _, hs, fr', cs', w, rfl, hF, hC, hH⟩

theorem Goes.of' {σ : Ren} (hle : ρ.le σ) {st : ASt} {m : Machine} {fr' : Frame} {cs' : List Frame} {w : World} (hs : Steps E.P m (lone fr' (cs' ++ base) w)) (hF : FR E.P σ st.fr fr') (hC : CsR E.P σ st.cs cs') (hH : HR N (bare w0) σ st.H w) : Goes E N w0 base ρ st m :=
  ⟨σ, _, hle, hs, fr', cs', w, rfl, hF, hC, hH⟩

/-- Told against all that is not there yet. -/
def pinned (w0 : World) (ρ : Ren) : Base := ⟨w0, fun i => i < ρ.n ∧ ¬ ρ.on i⟩

theorem HR.pinned {H : AHeap} {w : World} (h : HR N (bare w0) ρ H w) : HR N (pinned w0 ρ) ρ H w := h.pin _ fun _ q => q
theorem HR.unpin {σ : Ren} {H : AHeap} {w : World} (h : HR N (Ev.pinned w0 ρ) σ H w) : HR N (bare w0) σ H w := h.pin _ fun _ q => q.elim
theorem HR.grows {σ : Ren} {H : AHeap} {w : World} (h : HR N (Ev.pinned w0 ρ) σ H w) (hle : ρ.le σ) : Ren.Grow [] ρ σ :=
  ⟨hle, fun i hi hon => Classical.byContradiction fun q => (h.off i ⟨hi, fun q2 => q (.inl q2)⟩).2 hon⟩

theorem FR.enter {f : FuncId} {x x' : Array Value} (hx : AsR ρ x x') {kind : CallKind} {fr : AFrame} (h : enterA E.P f x kind = some fr) : FR E.P ρ fr (Frame.enter E.P f x' kind) := by
  unfold enterA at h
  split at h
  case h_2 => cases h
  rename_i fn hf
  split at h
  case h_2 => cases h
  rename_i c hb
  cases h
  unfold Frame.enter
  simp only [hf, Option.map_some, Option.getD_some, Option.bind_some, hb]
  refine ⟨rfl, rfl, trivial, trivial, trivial, ?_⟩
  unfold BodyR
  simp only
  refine ⟨?_, .code c, trivial⟩
  rw [← hx.1]
  have e : (⟨x.toList ++ List.replicate (fn.ntmps - x.size) undef⟩ : Array Value) = x ++ Array.replicate (fn.ntmps - x.size) undef := by
    apply Array.ext'
    simp
  simp only [e]
  exact AsR.append hx (AsR.replicate _ (VR.undef ρ))

end
end Go.Ev
