import Derived.Test.YtblklpjkmegaaaaGreatDoorEvW
namespace Go.Ev
open Go.RowKit

section
variable {P : Program} {ρ : Ren} {ops : Array Oper} {la lc : Array Bool} {lag : List Nat} {fuel : Nat} {tmps tmps' : Array Value}

theorem Lag.mono {σ : Ren} (hle : ρ.le σ) (hk : ∀ j ∈ lag, ∀ b, madeBlk P ops tmps j = some b → b < ρ.n → ¬ ρ.on b → ¬ σ.on b) (L : Lag P ρ ops la lc lag fuel tmps tmps') : Lag P σ ops la lc lag fuel tmps tmps' :=
  ⟨L.sa, L.sc, L.sub, L.cov, L.lagA, L.down, L.fuel, L.size, fun t v v' h1 h2 => (L.agree t v v' h1 h2).imp (VR.mono hle) id, L.order, L.self, L.pair,
    fun j hj hl b hb => ⟨Nat.lt_of_lt_of_le (L.pend j hj hl b hb).1 hle.1, hk j hj b hb (L.pend j hj hl b hb).1 (L.pend j hj hl b hb).2⟩⟩

theorem lagApart_spec {t : Option Tmp} (h : lagApart ops lag t = true) : ∀ j ∈ lag, ∀ d, dstOf ops j = some d → t ≠ some d := by
  intro j hj d hd e
  subst e
  unfold lagApart at h
  simp only at h
  rw [List.all_eq_true] at h
  have := h j hj
  unfold dstOf at hd
  rw [hd] at this
  simp at this

theorem madeBlk_put {t : Option Tmp} {v : Value} {j : Nat} (h : ∀ d, dstOf ops j = some d → t ≠ some d) : madeBlk P ops (putT tmps t v) j = madeBlk P ops tmps j := by
  unfold madeBlk
  cases hm : (ops[j]?).bind (makes P) with
  | none => rfl
  | some p =>
    obtain ⟨ob, d⟩ := p
    simp only
    have hd : dstOf ops j = some d := by
      cases ho : ops[j]? with
      | none => simp [ho] at hm
      | some o =>
        rw [ho] at hm
        have hm : makes P o = some (ob, d) := hm
        unfold dstOf
        rw [ho]
        exact (makes_spec hm).1
    have hne := h d hd
    have : (putT tmps t v)[d]? = tmps[d]? := by
      cases t with
      | none => rfl
      | some t =>
        simp only [putT, Array.getElem?_setIfInBounds]
        rw [if_neg (fun e => hne (by rw [e]))]
    rw [this]

theorem Lag.finish (L : Lag P ρ ops la lc lag fuel tmps tmps') (d : Option Tmp) (hd : lagApart ops lag d = true) {v v' : Value} (hv : VR ρ v v') : Lag P ρ ops la lc lag fuel (putT tmps d v) (putT tmps' d v') := by
  refine ⟨L.sa, L.sc, L.sub, L.cov, L.lagA, L.down, L.fuel, by rw [putT_size, putT_size]; exact L.size, ?_, L.order, L.self, L.pair, fun j hj hl b hb => L.pend j hj hl b (by rw [madeBlk_put (lagApart_spec hd j hj)] at hb; exact hb)⟩
  intro t u u' h1 h2
  rcases putT_get h1 with ⟨q1, q2⟩ | ⟨q1, q2⟩
  · rcases putT_get h2 with ⟨q3, q4⟩ | ⟨q3, q4⟩
    · rw [q2, q4]; exact .inl hv
    · exact absurd q1 q3
  · rcases putT_get h2 with ⟨q3, q4⟩ | ⟨q3, q4⟩
    · exact absurd q3 q1
    · exact L.agree t u u' q2 q4

theorem Lag.start (h : AsR ρ tmps tmps') : Lag P ρ ops (Array.replicate ops.size false) (Array.replicate ops.size false) [] ops.size tmps tmps' := by
  have no : ∀ (i : Nat), ¬ (Array.replicate ops.size false)[i]? = some true := by
    intro i hi
    rw [Array.getElem?_replicate] at hi
    split at hi <;> cases hi
  refine ⟨by simp, by simp, fun i hi => absurd hi (no i), fun i hi => absurd hi (no i), by simp, fun i o hi => absurd hi (no i), ?_, h.1.symm, fun t v v' h1 h2 => .inl (h.2 t v v' h1 h2), ?_, by simp, by simp, fun j hj => by cases hj⟩
  · exact Nat.le_trans List.countP_le_length (by simp)
  · intro l1 i l2 o hl
    have := congrArg List.length hl
    simp at this

/-- It is the turn of an operation, in both orders. -/
theorem Lag.force {r : Nat} (L : Lag P ρ ops la lc lag (fuel + 1) tmps tmps') (ha : r ∈ Region.ready .any ops la) (hc : r ∈ Region.ready .any ops lc) :
    Lag P ρ ops (la.setIfInBounds r true) (lc.setIfInBounds r true) (lag.filter fun j => !isBefore ops ops.size j r) fuel tmps tmps' := by
  obtain ⟨a0, _⟩ := (mem_ready L.sa).1 ha
  obtain ⟨c0, o, ho, hd⟩ := (mem_ready L.sc).1 hc
  have hsa := fun (i : Nat) => getElem?_set_true (l := la) (x := r) (i := i) (Array.getElem?_eq_some_iff.1 a0).1
  have hsc := fun (i : Nat) => getElem?_set_true (l := lc) (x := r) (i := i) (Array.getElem?_eq_some_iff.1 c0).1
  have hbef : ∀ j, isBefore ops ops.size j r = true → lc[j]? = some true := fun j hj =>
    isBefore_listed L.down _ _ _ (fun o' ho' => by rw [ho] at ho'; cases ho'; exact hd) hj
  have hmono : ∀ (i : Nat), lc[i]? = some true → (lc.setIfInBounds r true)[i]? = some true := by
    intro i hi; rw [hsc]; split
    · rfl
    · exact hi
  obtain ⟨f, hf, hf2⟩ := fuel_dec c0 L.sc L.fuel
  have hf : f = fuel := by omega
  subst hf
  refine ⟨by rw [Array.size_setIfInBounds]; exact L.sa, by rw [Array.size_setIfInBounds]; exact L.sc, ?_, ?_, ?_, ?_, hf2, L.size, ?_, ?_, ?_, ?_, fun j hj hl b hb => L.pend j (List.mem_filter.1 hj).1 (fun q => hl (hmono j q)) b hb⟩
  · intro i hi
    rw [hsc] at hi
    rw [hsa]
    split at hi
    · rename_i q; rw [if_pos q]
    · rename_i q; rw [if_neg q]; exact L.sub i hi
  · intro i hi
    rw [hsa] at hi
    split at hi
    · rename_i q; subst q; exact .inl (by rw [hsc, if_pos rfl])
    · rcases L.cov i hi with q | q
      · exact .inl (hmono i q)
      · by_cases hb : isBefore ops ops.size i r = true
        · exact .inl (hmono i (hbef i hb))
        · exact .inr (List.mem_filter.2 ⟨q, by simpa using hb⟩)
  · intro i hi
    rw [hsa]
    split
    · rfl
    · exact L.lagA i (List.mem_filter.1 hi).1
  · intro i o' hi ho' e he hb
    refine hmono _ ?_
    rw [hsc] at hi
    split at hi
    · rename_i q
      subst q
      rw [ho] at ho'
      cases ho'
      exact hd e he hb
    · exact L.down i o' hi ho' e he hb
  · intro t v v' h1 h2
    rcases L.agree t v v' h1 h2 with q | ⟨j, hj, hl, hdj⟩
    · exact .inl q
    · have hne : j ≠ r := by
        intro e; subst e
        have := L.lagA _ hj
        rw [a0] at this
        cases this
      refine .inr ⟨j, List.mem_filter.2 ⟨hj, ?_⟩, by rw [hsc, if_neg hne]; exact hl, hdj⟩
      cases hb : isBefore ops ops.size j r with
      | false => rfl
      | true => exact absurd (hbef j hb) hl
  · intro l1 i l2 o' hl ho' e he hb
    obtain ⟨m1, m2, e1, e2, e3⟩ := List.filter_eq_append_iff.1 hl
    obtain ⟨n1, n2, f1, f2, f3, f4⟩ := List.filter_eq_cons_iff.1 e3
    rcases L.order (m1 ++ n1) i n2 o' (by rw [e1, f1]; simp) ho' e he hb with q | q
    · exact .inl (hmono _ q)
    · by_cases hq : isBefore ops ops.size e.on r = true
      · exact .inl (hmono _ (hbef _ hq))
      · rcases List.mem_append.1 q with q | q
        · refine .inr ?_
          rw [← e2]
          exact List.mem_filter.2 ⟨q, by simpa using hq⟩
        · exact absurd (by simpa using hq) (f2 _ q)
  · intro i hi
    exact L.self i (List.mem_filter.1 hi).1
  · intro i hi j hj
    exact L.pair i (List.mem_filter.1 hi).1 j (List.mem_filter.1 hj).1

/-- One more operation lags. -/
theorem Lag.float {i : Nat} {σ : Ren} (hle : ρ.le σ) (hon : ∀ b, b < ρ.n → σ.on b → ρ.on b) (L : Lag P ρ ops la lc lag fuel tmps tmps') (ha : i ∈ Region.ready .any ops la) (hs : selfOK ops i = true) (hb : lag.all (fun j => behindOK ops j i) = true) (v : Value)
    (hpi : ∀ b, madeBlk P ops (putT tmps (dstOf ops i) v) i = some b → b < σ.n ∧ ¬ σ.on b) :
    Lag P σ ops (la.setIfInBounds i true) lc (lag ++ [i]) fuel (putT tmps (dstOf ops i) v) tmps' := by
  obtain ⟨a0, o, ho, hd⟩ := (mem_ready L.sa).1 ha
  have hsa := fun (j : Nat) => getElem?_set_true (l := la) (x := i) (i := j) (Array.getElem?_eq_some_iff.1 a0).1
  rw [List.all_eq_true] at hb
  have hdo : dstOf ops i = o.dst := by unfold dstOf; rw [ho]; rfl
  have hlo : looksOf ops i = o.looksAt ops := by unfold looksOf; rw [ho]; rfl
  have hpair : ∀ j ∈ lag, (∀ d, dstOf ops i = some d → d ∉ looksOf ops j ∧ dstOf ops j ≠ some d) ∧ (∀ d, dstOf ops j = some d → d ∈ looksOf ops i → isBefore ops ops.size j i = true) := by
    intro j hj
    have := hb j hj
    unfold behindOK at this
    split at this
    case h_2 => cases this
    rename_i y x hy hx
    rw [ho] at hx
    cases hx
    have hdy : dstOf ops j = y.dst := by unfold dstOf; rw [hy]; rfl
    have hly : looksOf ops j = y.looksAt ops := by unfold looksOf; rw [hy]; rfl
    rw [Bool.and_eq_true] at this
    obtain ⟨h1, h2⟩ := this
    constructor
    · intro d hd
      rw [hdo] at hd
      rw [hd] at h1
      simp only [Bool.and_eq_true, Bool.not_eq_true', bne_iff_ne] at h1
      rw [hdy, hly]
      refine ⟨?_, h1.2⟩
      have := h1.1
      simpa using this
    · intro d hd hdl
      rw [hdy] at hd
      rw [hd] at h2
      simp only [Bool.or_eq_true, Bool.not_eq_true'] at h2
      rcases h2 with h2 | h2
      · rw [hlo] at hdl
        have : ¬ d ∈ o.looksAt ops := by simpa using h2
        exact absurd hdl this
      · exact h2
  have hnl : ¬ lc[i]? = some true := by
    intro q
    have := L.sub _ q
    rw [a0] at this
    cases this
  refine ⟨by rw [Array.size_setIfInBounds]; exact L.sa, L.sc, ?_, ?_, ?_, L.down, L.fuel, by rw [putT_size]; exact L.size, ?_, ?_, ?_, ?_, ?_⟩
  · intro j hj
    rw [hsa]
    split
    · rfl
    · exact L.sub j hj
  · intro j hj
    rw [hsa] at hj
    split at hj
    · rename_i q; subst q; exact .inr (by simp)
    · rcases L.cov j hj with q | q
      · exact .inl q
      · exact .inr (by simp [q])
  · intro j hj
    rw [hsa]
    split
    · rfl
    · rename_i q
      rcases List.mem_append.1 hj with h | h
      · exact L.lagA j h
      · exact absurd (by simpa using h) q
  · intro t u u' h1 h2
    rcases putT_get h1 with ⟨q1, q2⟩ | ⟨q1, q2⟩
    · exact .inr ⟨i, by simp, hnl, q1⟩
    · rcases L.agree t u u' q2 h2 with q | ⟨j, hj, q⟩
      · exact .inl (q.mono hle)
      · exact .inr ⟨j, by simp [hj], q⟩
  · intro l1 x l2 o' hl ho' e he hbi
    rcases List.eq_nil_or_concat l2 with rfl | ⟨m, z, rfl⟩
    · have : l1 = lag ∧ x = i := by
        have := List.append_inj' hl rfl
        exact ⟨this.1.symm, by simpa using this.2.symm⟩
      obtain ⟨rfl, rfl⟩ := this
      rw [ho] at ho'
      cases ho'
      exact L.cov _ (hd e he hbi)
    · have hl2 : lag ++ [i] = (l1 ++ x :: m) ++ [z] := by rw [hl]; simp
      have := (List.append_inj' hl2 rfl).1
      exact L.order l1 x m o' this ho' e he hbi
  · intro j hj d hdj
    rcases List.mem_append.1 hj with h | h
    · exact L.self j h d hdj
    · have : j = i := by simpa using h
      subst this
      unfold selfOK at hs
      rw [ho] at hs
      simp only at hs
      rw [hdo] at hdj
      rw [hdj] at hs
      simp only [Bool.not_eq_true'] at hs
      rw [hlo]
      simpa using hs
  · intro a hA b hB hne d hdb
    rcases List.mem_append.1 hA with h1 | h1 <;> rcases List.mem_append.1 hB with h2 | h2
    · exact L.pair a h1 b h2 hne d hdb
    · have : b = i := by simpa using h2
      subst this
      obtain ⟨q1, q2⟩ := (hpair a h1).1 d hdb
      exact ⟨q2, fun q => absurd q q1⟩
    · have : a = i := by simpa using h1
      subst this
      refine ⟨fun q => ?_, (hpair b h2).2 d hdb⟩
      exact ((hpair b h2).1 d q).2 hdb
    · have : a = i := by simpa using h1
      have : b = i := by simpa using h2
      omega
  · intro j hj hl b hbj
    rcases List.mem_append.1 hj with h | h
    · rw [madeBlk_put (fun d hd e => (((hpair j h).1 d e).2 hd))] at hbj
      obtain ⟨q1, q2⟩ := L.pend j h hl b hbj
      exact ⟨Nat.lt_of_lt_of_le q1 hle.1, fun q => q2 (hon b q1 q)⟩
    · have : j = i := by simpa using h
      subst this
      exact hpi b hbj

/-- What the operation looks at, whose turn it is, is the same. -/
theorem Lag.looksForced {r : Nat} (L : Lag P ρ ops la lc lag fuel tmps tmps') (hc : r ∈ Region.ready .any ops lc) (hap : (lag.filter fun j => !isBefore ops ops.size j r).all (fun j => apartB ops r j) = true) {t : Tmp} (ht : t ∈ looksOf ops r) :
    TmpR ρ tmps tmps' t := by
  obtain ⟨c0, o, ho, hd⟩ := (mem_ready L.sc).1 hc
  intro v v' h1 h2
  rcases L.agree t v v' h1 h2 with q | ⟨j, hj, hl, hdj⟩
  · exact q
  · by_cases hb : isBefore ops ops.size j r = true
    · exact absurd (isBefore_listed L.down _ _ _ (fun o' ho' => by rw [ho] at ho'; cases ho'; exact hd) hb) hl
    · rw [List.all_eq_true] at hap
      have := hap j (List.mem_filter.2 ⟨hj, by simpa using hb⟩)
      unfold apartB at this
      split at this
      case h_2 => cases this
      rename_i x y hx hy
      obtain ⟨_, _, q3⟩ := Oper.apart_spec this
      have hdy : y.dst = some t := by unfold dstOf at hdj; rw [hy] at hdj; exact hdj
      have hlx : looksOf ops r = x.looksAt ops := by unfold looksOf; rw [hx]; rfl
      rw [hlx] at ht
      exact absurd ht (q3 t hdy)

end
end Go.Ev
