import Derived.Test.YtblklpjkmegaaaaGreatDoorEvZC
namespace Go.Ev
open Go.RowKit

/-- So many steps, none of them the last one. -/
def runA (E : Env) : Nat → ASt → Option ASt
  | 0, st => some st
  | n + 1, st => match astep E st with
    | some st' => runA E n st'
    | none => none

/-- A long run is cut in parts. -/
def Reaches (E : Env) (st st' : ASt) : Prop := ∃ n, runA E n st = some st'

section
variable {E : Env} {N : Nat} {w0 : World} {base : List Frame} {ρ : Ren} {w : World}

theorem runA_add : ∀ (n k : Nat) {st st1 st2 : ASt}, runA E n st = some st1 → runA E k st1 = some st2 → runA E (n + k) st = some st2
  | 0, k, st, st1, st2, h, h2 => by cases h; rw [Nat.zero_add]; exact h2
  | n + 1, k, st, st1, st2, h, h2 => by
    have e : n + 1 + k = (n + k) + 1 := by omega
    rw [e]
    unfold runA at h ⊢
    split at h
    · rename_i s hs
      exact runA_add n k h h2
    · cases h

theorem Reaches.trans {a b c : ASt} (h : Reaches E a b) (k : Reaches E b c) : Reaches E a c := by
  obtain ⟨n, hn⟩ := h
  obtain ⟨m, hm⟩ := k
  exact ⟨n + m, runA_add n m hn hm⟩

theorem runA_sim (ok : EnvOK E) (hmix : E.P.follows .mixedOrders = true) : ∀ (n : Nat) {ρ : Ren} {st st' : ASt} {m : Machine}, GR E.G ρ → Sim E N w0 base ρ st m → runA E n st = some st' → Goes E N w0 base ρ st' m
  | 0, ρ, st, st', m, _, hS, h => by cases h; exact ⟨ρ, m, Ren.le_refl _, .refl _ _, hS⟩
  | n + 1, ρ, st, st', m, hG, hS, h => by
    unfold runA at h
    split at h
    case h_2 => cases h
    rename_i s hs
    obtain ⟨σ, m1, hle, h1, hS1⟩ := astep_sim ok hmix hG hS hs
    obtain ⟨τ, m2, hle2, h2, hS2⟩ := runA_sim ok hmix n (hG.mono hle) hS1 h
    exact ⟨τ, m2, Ren.le_trans hle hle2, h1.trans h2, hS2⟩

/-- What the abstract machine comes to in parts, a call comes to. -/
theorem arun_calls_parts (ok : EnvOK E) (hmix : E.P.follows .mixedOrders = true) (hG : GR E.G ρ) {H : AHeap} (hH : HR N (bare w0) ρ H w) {f : FuncId} {x x' : Array Value} (hx : AsR ρ x x') {fr : AFrame} (hent : enterA E.P f x .normal = some fr)
    {st : ASt} (hre : Reaches E { fr, cs := [], H } st) {n : Nat} {v : Value} {H' : AHeap} (hrun : arun E f n st = some (v, H')) :
    Calls E.P f x' w (fun e w' => ∃ σ v', e = .returned v' ∧ ρ.le σ ∧ VR σ v v' ∧ HR N (bare w0) σ H' w') := by
  intro cs
  have hS : Sim E N w0 cs ρ { fr, cs := [], H } (lone (Frame.enter E.P f x' .normal) cs w) := ⟨_, [], w, rfl, FR.enter hx hent, trivial, hH⟩
  obtain ⟨k, hk⟩ := hre
  obtain ⟨τ, m1, hle, hs1, hS1⟩ := runA_sim ok hmix k hG hS hk
  obtain ⟨σ, fr2, w', v', h1, h2, h3, h4, h5, h6⟩ := arun_sim ok hmix n (hG.mono hle) hS1 hrun
  exact ⟨.returned v', w', fr2, ⟨σ, v', rfl, Ren.le_trans hle h1, h5, h6⟩, hs1.trans h2, h3, h4⟩

/-- Blocks may be forgotten. -/
theorem HR.forget {w0 : Base} {H H2 : AHeap} (h : HR N w0 ρ H w) (hn : H2.next = H.next) (hb : ∀ i b, H2.blk i = some b → H.blk i = some b) (hg : ∀ i g, H.grp i = some g → H2.grp i = some g ∨ ∀ j b, H2.blk j = some b → b.root ≠ i) : HR N w0 ρ H2 w := by
  refine ⟨by rw [hn]; exact h.n, h.base, h.below, h.lt, fun i b q => h.dom i b (hb i b q), fun i b c e fr on q => h.cells i b c e fr on (hb i b q), fun i b on q => h.objs i b on (hb i b q), fun i b on q => h.own i b on (hb i b q), fun i b on q => h.old i b on (hb i b q),
    fun i j bi bj on1 on2 q1 q2 => h.sep i j bi bj on1 on2 (hb i bi q1) (hb j bj q2), fun i b on q q2 q3 => ?_, fun i b q => by rw [hn]; exact h.root i b (hb i b q), h.off⟩
  obtain ⟨g, h1, h2, h3⟩ := h.grp i b on (hb i b q) q2 q3
  rcases hg _ _ h1 with q4 | q4
  · exact ⟨g, q4, h2, h3⟩
  · exact absurd rfl (q4 i b q)

end
end Go.Ev
