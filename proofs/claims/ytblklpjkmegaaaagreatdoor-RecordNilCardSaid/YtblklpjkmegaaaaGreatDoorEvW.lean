import Derived.Test.YtblklpjkmegaaaaGreatDoorEvV
namespace Go.Ev
open Go.RowKit

theorem first_not {p : Nat → Prop} : ∀ (l : List Nat), (∃ i ∈ l, ¬ p i) → ∃ l1 i l2, l = l1 ++ i :: l2 ∧ ¬ p i ∧ ∀ j ∈ l1, p j
  | [], h => by obtain ⟨i, hi, _⟩ := h; cases hi
  | a :: l, h => by
    by_cases q : p a
    · obtain ⟨i, hi, hp⟩ := h
      have : i ∈ l := by
        rcases List.mem_cons.1 hi with rfl | hi
        · exact absurd q hp
        · exact hi
      obtain ⟨l1, j, l2, h1, h2, h3⟩ := first_not l ⟨i, this, hp⟩
      refine ⟨a :: l1, j, l2, by rw [h1]; rfl, h2, ?_⟩
      intro x hx
      rcases List.mem_cons.1 hx with rfl | hx
      · exact q
      · exact h3 x hx
    · exact ⟨[], a, l, rfl, q, by intro j hj; cases hj⟩

section
variable {P : Program} {ρ : Ren} {ops : Array Oper} {la lc : Array Bool} {lag : List Nat} {fuel : Nat} {tmps tmps' : Array Value}

theorem Lag.unlisted (L : Lag P ρ ops la lc lag fuel tmps tmps') {i : Nat} (hi : i < ops.size) (h : lc[i]? ≠ some true) : lc[i]? = some false := by
  have : i < lc.size := by rw [L.sc]; exact hi
  rw [Array.getElem?_eq_getElem this] at h ⊢
  cases q : lc[i] with
  | false => rfl
  | true => rw [q] at h; exact absurd rfl h

theorem Lag.inRange (L : Lag P ρ ops la lc lag fuel tmps tmps') {i : Nat} (hi : i ∈ lag) : i < ops.size := by
  have := (Array.getElem?_eq_some_iff.1 (L.lagA i hi)).1
  rw [L.sa] at this
  exact this

/-- What may come next in the other order lags, or comes next in ours. -/
theorem Lag.mem (L : Lag P ρ ops la lc lag fuel tmps tmps') {i : Nat} (h : i ∈ Region.ready .any ops lc) : i ∈ lag ∨ i ∈ Region.ready .any ops la := by
  obtain ⟨h0, o, ho, hd⟩ := (mem_ready L.sc).1 h
  have hi : i < la.size := by rw [L.sa, ← L.sc]; exact (Array.getElem?_eq_some_iff.1 h0).1
  cases q : la[i] with
  | true =>
    rcases L.cov i (by rw [Array.getElem?_eq_getElem hi, q]) with h1 | h1
    · rw [h0] at h1; cases h1
    · exact .inl h1
  | false => exact .inr ((mem_ready L.sa).2 ⟨by rw [Array.getElem?_eq_getElem hi, q], o, ho, fun e he hb => L.sub _ (hd e he hb)⟩)

/-- As long as something lags, something may come next. -/
theorem Lag.next (L : Lag P ρ ops la lc lag fuel tmps tmps') (h : ∃ i ∈ lag, lc[i]? ≠ some true) : ∃ i, i ∈ Region.ready .any ops lc := by
  obtain ⟨l1, i, l2, hl, h2, h3⟩ := first_not (p := fun i => lc[i]? = some true) lag h
  have hi : i ∈ lag := by rw [hl]; simp
  have hr := L.inRange hi
  refine ⟨i, (mem_ready L.sc).2 ⟨L.unlisted hr h2, ops[i], Array.getElem?_eq_getElem hr, fun e he hb => ?_⟩⟩
  rcases L.order l1 i l2 _ hl (Array.getElem?_eq_getElem hr) e he hb with q | q
  · exact q
  · exact h3 _ q

theorem Lag.next' (L : Lag P ρ ops la lc lag fuel tmps tmps') {r : Nat} (hr : r ∈ Region.ready .any ops la) : ∃ i, i ∈ Region.ready .any ops lc := by
  by_cases q : ∃ i ∈ lag, lc[i]? ≠ some true
  · exact L.next q
  · obtain ⟨h0, o, ho, hd⟩ := (mem_ready L.sa).1 hr
    have all : ∀ (i : Nat), la[i]? = some true → lc[i]? = some true := by
      intro i hi
      rcases L.cov i hi with h | h
      · exact h
      · by_cases q2 : lc[i]? = some true
        · exact q2
        · exact absurd ⟨i, h, q2⟩ q
    refine ⟨r, (mem_ready L.sc).2 ⟨L.unlisted ?_ ?_, o, ho, fun e he hb => all _ (hd e he hb)⟩⟩
    · rw [← L.sa]; exact (Array.getElem?_eq_some_iff.1 h0).1
    · intro q2; have := L.sub _ q2; rw [h0] at this; cases this

theorem go_nil (f t : Nat) (h : ∀ i, ¬ i ∈ Region.ready .any ops lc) : Region.linearise.go .any ops f t lc [] = [] := by
  cases f with
  | zero => rfl
  | succ f =>
    have : Region.ready .any ops lc = [] := List.eq_nil_iff_forall_not_mem.2 h
    simp only [Region.linearise.go]
    change (match (Region.ready .any ops lc)[t % (Region.ready .any ops lc).length]? with
      | some i => Region.linearise.go .any ops f (t / (Region.ready .any ops lc).length) (lc.setIfInBounds i true) [i]
      | none => [].reverse) = []
    rw [this]
    rfl

theorem go_cons (f t : Nat) (h : ∃ i, i ∈ Region.ready .any ops lc) :
    ∃ i t', i ∈ Region.ready .any ops lc ∧ Region.linearise.go .any ops (f + 1) t lc [] = i :: Region.linearise.go .any ops f t' (lc.setIfInBounds i true) [] := by
  have hpos : 0 < (Region.ready .any ops lc).length := by
    obtain ⟨i, hi⟩ := h
    exact List.length_pos_of_mem hi
  have hlt := Nat.mod_lt t hpos
  refine ⟨(Region.ready .any ops lc)[t % (Region.ready .any ops lc).length], t / (Region.ready .any ops lc).length, List.getElem_mem _, ?_⟩
  simp only [Region.linearise.go]
  change (match (Region.ready .any ops lc)[t % (Region.ready .any ops lc).length]? with
      | some i => Region.linearise.go .any ops f (t / (Region.ready .any ops lc).length) (lc.setIfInBounds i true) [i]
      | none => [].reverse) = _
  rw [List.getElem?_eq_getElem hlt]
  simp only
  rw [linearise_go_acc]
  rfl

end

section
variable {E : Env} {N : Nat} {w0 : World} {ρ : Ren} {H : AHeap} {w : World}

theorem todo_eta {fr : Frame} {t : List Item} (h : fr.todo = t) : { fr with tmps := fr.tmps, todo := t } = fr := by
  cases fr; simp only at h; subst h; rfl

/-- Only what lagged is there besides. -/
structure Up (P : Program) (ops : Array Oper) (lag : List Nat) (tmps : Array Value) (ρ σ : Ren) : Prop where
  le : ρ.le σ
  n : σ.n = ρ.n
  on : ∀ i, σ.on i → ρ.on i ∨ i ∈ lag.filterMap (madeBlk P ops tmps)

theorem Up.refl (P : Program) (ops : Array Oper) (lag : List Nat) (tmps : Array Value) (ρ : Ren) : Up P ops lag tmps ρ ρ := ⟨Ren.le_refl ρ, rfl, fun _ h => .inl h⟩
theorem Up.trans {P : Program} {ops : Array Oper} {lag : List Nat} {tmps : Array Value} {ρ σ τ : Ren} (h : Up P ops lag tmps ρ σ) (k : Up P ops lag tmps σ τ) : Up P ops lag tmps ρ τ :=
  ⟨Ren.le_trans h.le k.le, k.n.trans h.n, fun i hi => (k.on i hi).elim (fun q => h.on i q) .inr⟩

/-- What lags is done, until it is the turn of the operation that comes next. -/
theorem replay (ok : EnvOK E) {ops : Array Oper} {la : Array Bool} {lag : List Nat} {tmps : Array Value} {r : Nat} {k : List Item} (cs : List Frame)
    (hst : lag.all (still E ops tmps H) = true) (hnd : nodup (lag.filterMap (madeBlk E.P ops tmps)) = true) (hr : Region.ready .any ops la = [r]) : ∀ (fuel t : Nat) (lc : Array Bool) (fr : Frame) (ρ : Ren) (w : World), GR E.G ρ → HR N (bare w0) ρ H w → Lag E.P ρ ops la lc lag fuel tmps fr.tmps → fr.mode = .run →
    fr.todo = .inRegion ops (Region.linearise.go .any ops fuel t lc []) :: k →
    ∃ σ w2 tmps2 lc2 f2 t2, Up E.P ops lag tmps ρ σ ∧ HR N (bare w0) σ H w2 ∧ Steps E.P (lone fr cs w) (lone { fr with tmps := tmps2, todo := .inRegion ops (r :: Region.linearise.go .any ops f2 t2 (lc2.setIfInBounds r true) []) :: k } cs w2) ∧
      Lag E.P σ ops la lc2 lag (f2 + 1) tmps tmps2 ∧ r ∈ Region.ready .any ops lc2 := by
  intro fuel
  induction fuel with
  | zero =>
    intro t lc fr ρ w hG h L _ _
    exfalso
    obtain ⟨i, hi⟩ := L.next' (r := r) (by rw [hr]; simp)
    obtain ⟨f, hf, _⟩ := fuel_dec ((mem_ready L.sc).1 hi).1 L.sc L.fuel
    cases hf
  | succ fuel ih =>
    intro t lc fr ρ w hG h L hm ht
    obtain ⟨i, t', hi, hgo⟩ := go_cons (ops := ops) fuel t (L.next' (r := r) (by rw [hr]; simp))
    rw [hgo] at ht
    rcases L.mem hi with hl | hl
    · have hst' := hst
      rw [List.all_eq_true] at hst'
      obtain ⟨σ, w2, tmps2, f, hf, hle, hn, hon, h2, hs, L2⟩ := lag_step ok h hG cs L hnd hl hi (hst' i hl) hm ht
      have hf : f = fuel := by omega
      subst hf
      obtain ⟨τ, w3, tmps3, lc3, f3, t3, hup, h3, hs3, L3, hr3⟩ := ih t' _ { fr with tmps := tmps2, todo := .inRegion ops (Region.linearise.go .any ops f t' (lc.setIfInBounds i true) []) :: k } σ w2 (hG.mono hle) h2 L2 hm rfl
      exact ⟨τ, w3, tmps3, lc3, f3, t3, Up.trans ⟨hle, hn, hon⟩ hup, h3, .head hs hs3, L3, hr3⟩
    · rw [hr] at hl
      have : i = r := by simpa using hl
      subst this
      refine ⟨ρ, w, fr.tmps, lc, fuel, t', Up.refl .., h, ?_, L, hi⟩
      rw [todo_eta ht]
      exact .refl _ _

/-- What lags is done, and the region ends. -/
theorem replay_end (ok : EnvOK E) {ops : Array Oper} {la : Array Bool} {lag : List Nat} {tmps : Array Value} {k : List Item} (cs : List Frame)
    (hst : lag.all (still E ops tmps H) = true) (hnd : nodup (lag.filterMap (madeBlk E.P ops tmps)) = true) (hr : Region.ready .any ops la = []) : ∀ (fuel t : Nat) (lc : Array Bool) (fr : Frame) (ρ : Ren) (w : World), GR E.G ρ → HR N (bare w0) ρ H w → Lag E.P ρ ops la lc lag fuel tmps fr.tmps → fr.mode = .run →
    fr.todo = .inRegion ops (Region.linearise.go .any ops fuel t lc []) :: k →
    ∃ σ w2 tmps2, Up E.P ops lag tmps ρ σ ∧ HR N (bare w0) σ H w2 ∧ Steps E.P (lone fr cs w) (lone { fr with tmps := tmps2, todo := .inRegion ops [] :: k } cs w2) ∧ AsR σ tmps tmps2 := by
  have fin : ∀ (fuel t : Nat) (lc : Array Bool) (fr : Frame) (ρ : Ren) (w : World), HR N (bare w0) ρ H w → Lag E.P ρ ops la lc lag fuel tmps fr.tmps → fr.todo = .inRegion ops (Region.linearise.go .any ops fuel t lc []) :: k → (∀ i, ¬ i ∈ Region.ready .any ops lc) →
      ∃ σ w2 tmps2, Up E.P ops lag tmps ρ σ ∧ HR N (bare w0) σ H w2 ∧ Steps E.P (lone fr cs w) (lone { fr with tmps := tmps2, todo := .inRegion ops [] :: k } cs w2) ∧ AsR σ tmps tmps2 := by
    intro fuel t lc fr ρ w h L ht hn
    rw [go_nil fuel t hn] at ht
    refine ⟨ρ, w, fr.tmps, Up.refl .., h, by rw [todo_eta ht]; exact .refl _ _, L.size.symm, ?_⟩
    intro t v v' h1 h2
    rcases L.agree t v v' h1 h2 with q | ⟨j, hj, hl, _⟩
    · exact q
    · obtain ⟨i, hi⟩ := L.next ⟨j, hj, hl⟩
      exact absurd hi (hn i)
  intro fuel
  induction fuel with
  | zero =>
    intro t lc fr ρ w hG h L _ ht
    refine fin 0 t lc fr ρ w h L ht ?_
    intro i hi
    obtain ⟨f, hf, _⟩ := fuel_dec ((mem_ready L.sc).1 hi).1 L.sc L.fuel
    cases hf
  | succ fuel ih =>
    intro t lc fr ρ w hG h L hm ht
    by_cases hne : ∃ i, i ∈ Region.ready .any ops lc
    · obtain ⟨i, t', hi, hgo⟩ := go_cons (ops := ops) fuel t hne
      rw [hgo] at ht
      rcases L.mem hi with hl | hl
      · have hst' := hst
        rw [List.all_eq_true] at hst'
        obtain ⟨σ, w2, tmps2, f, hf, hle, hn, hon, h2, hs, L2⟩ := lag_step ok h hG cs L hnd hl hi (hst' i hl) hm ht
        have hf : f = fuel := by omega
        subst hf
        obtain ⟨τ, w3, tmps3, hup, h3, hs3, L3⟩ := ih t' _ { fr with tmps := tmps2, todo := .inRegion ops (Region.linearise.go .any ops f t' (lc.setIfInBounds i true) []) :: k } σ w2 (hG.mono hle) h2 L2 hm rfl
        exact ⟨τ, w3, tmps3, Up.trans ⟨hle, hn, hon⟩ hup, h3, .head hs hs3, L3⟩
      · rw [hr] at hl
        cases hl
    · exact fin _ t lc fr ρ w h L ht (fun i hi => hne ⟨i, hi⟩)

end
end Go.Ev
