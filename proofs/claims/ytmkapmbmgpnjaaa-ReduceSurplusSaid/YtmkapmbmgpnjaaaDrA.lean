import Derived.StillTail
import Derived.OrdersIn
import Derived.TacticsIn
set_option maxRecDepth 100000
namespace Go.Dr
open Go

/-! A region that draws its order, inside a fence: what only reads stands ahead, the rest comes in one order. -/
variable {F : Fence} {n : Nat} {P : Program} {ops : Array Oper} {Q : Exit → Act → World → Prop}

def dstOf (ops : Array Oper) (i : Nat) : Option Tmp := (ops[i]?).bind (·.dst)
def depB (ops : Array Oper) (N : Nat) : Bool := (List.range N).all fun i => match ops[i]? with
  | some o => o.guard.isNone && (o.after.all fun e => !Region.binds .any e || decide (e.on < i)) &&
    (o.looksAt ops).all fun t => (List.range N).all fun j => (dstOf ops j != some t) || o.after.any fun e => Region.binds .any e && e.on == j
  | none => false
def heads (N m : Nat) : Array Bool := Array.replicate N true ++ Array.replicate m false
def headB (ops : Array Oper) (N : Nat) : Bool :=
  depB ops N && Region.sinkB .any ops N && Region.chainB .any ops N && decide (N < ops.size) && Region.seqB .any ops (ops.size - N) N (heads N (ops.size - N))

structure Inv (ops : Array Oper) (N : Nat) (aF : Act) (listed : Array Bool) (a : Act) : Prop where
  defers : a.defers = aF.defers
  size : a.tmps.size = aF.tmps.size
  slot : ∀ t, (∀ j, j < N → dstOf ops j = some t → listed.getD j false = true) → a.tmps[t]? = aF.tmps[t]?

def Head (P : Program) (ops : Array Oper) (aF : Act) (W : World) (i : Nat) : Prop :=
  ∃ o d v, ops[i]? = some o ∧ o.dst = some d ∧ aF.tmps[d]? = some v ∧ (∀ cs b, o.op ≠ .select cs b) ∧ (execOp aF.eval o).run P W = .ok (.value v) W ∧ o.about P W aF.eval = none

def left (listed : Array Bool) : Nat → Nat
  | 0 => 0
  | k + 1 => left listed k + (if listed.getD k false = true then 0 else 1)
theorem left_other {listed : Array Bool} {i : Nat} : ∀ k, k ≤ i → left (listed.setIfInBounds i true) k = left listed k
  | 0, _ => rfl
  | k + 1, h => by
    unfold left
    rw [left_other k (by omega), getD_set_ne false (by omega)]
theorem left_set {listed : Array Bool} {i : Nat} (hi : i < listed.size) (h : listed.getD i false = false) : ∀ k, i < k → left (listed.setIfInBounds i true) k + 1 = left listed k
  | 0, h => by omega
  | k + 1, hk => by
    unfold left
    by_cases q : k = i
    · subst q
      rw [left_other k (Nat.le_refl _), h]
      simp [hi]
    · rw [getD_set_ne false (by omega)]
      have := left_set hi h k (by omega)
      omega
theorem left_zero {listed : Array Bool} : ∀ k, left listed k = 0 → ∀ j, j < k → listed.getD j false = true
  | 0, _, j, hj => by omega
  | k + 1, h, j, hj => by
    unfold left at h
    by_cases q : j = k
    · subst q
      by_cases r : listed.getD j false = true
      · exact r
      · rw [if_neg r] at h; omega
    · exact left_zero k (by omega) j (by omega)
theorem left_none : ∀ k m, left (Array.replicate m false) k = k
  | 0, _ => rfl
  | k + 1, m => by
    unfold left
    rw [left_none k m, getD_replicate_false]
    simp
theorem first_left {listed : Array Bool} : ∀ k, left listed k ≠ 0 → ∃ i, i < k ∧ listed.getD i false = false ∧ ∀ j, j < i → listed.getD j false = true
  | 0, h => absurd rfl h
  | k + 1, h => by
    by_cases q : left listed k = 0
    · refine ⟨k, by omega, ?_, left_zero k q⟩
      unfold left at h
      cases r : listed.getD k false with
      | false => rfl
      | true => rw [q, r] at h; simp at h
    · obtain ⟨i, hi, h1, h2⟩ := first_left k q
      exact ⟨i, by omega, h1, h2⟩

theorem wpAnyIn_seq : ∀ (l : List Oper) (k : Nat) (listed : Array Bool) (a : Act) (w : World), (∀ j, l[j]? = ops[k + j]?) →
    Region.seqB .any ops l.length k listed = true → wpListIn F n P ops Q l a w → wpAnyIn F n P .any ops Q l.length listed a w
  | [], _, _, _, _, _, hB, h => ⟨by simpa [Region.seqB] using hB, h⟩
  | o :: l, k, listed, a, w, hl, hB, h => by
    have h0 : ops[k]? = some o := by simpa using (hl 0).symm
    simp only [List.length_cons, Region.seqB, Bool.and_eq_true, decide_eq_true_eq] at hB
    refine ⟨fun h1 => (by rw [hB.1] at h1; cases h1), fun i hi => ?_⟩
    rw [hB.1] at hi
    obtain rfl : i = k := by simpa using hi
    have hw : wpOpIn F n P ops Q i (wpListIn F n P ops Q l) a w := by unfold wpOpIn; simp only [h0]; exact h
    exact wpOpIn_mono (fun a' w' h' => wpAnyIn_seq l (i + 1) _ a' w' (fun j => by have := hl (j + 1); simpa [Nat.add_assoc, Nat.add_comm 1 j] using this) hB.2 h') hw

theorem dep_spec {N i : Nat} (h : depB ops N = true) (hi : i < N) {o : Oper} (ho : ops[i]? = some o) :
    o.guard = none ∧ (∀ e ∈ o.after, Region.binds .any e = true → e.on < i) ∧ ∀ t ∈ o.looksAt ops, ∀ j, j < N → dstOf ops j = some t → ∃ e ∈ o.after, Region.binds .any e = true ∧ e.on = j := by
  have h1 := List.all_eq_true.1 h i (List.mem_range.2 hi)
  rw [ho] at h1
  simp only [Bool.and_eq_true, List.all_eq_true, Array.all_eq_true_iff_forall_mem, List.mem_range, Bool.or_eq_true, bne_iff_ne, ne_eq, Bool.not_eq_true', decide_eq_true_eq] at h1
  obtain ⟨⟨h2, h3⟩, h4⟩ := h1
  refine ⟨by simpa using h2, fun e he hb => ?_, fun t ht j hj hd => ?_⟩
  · rcases h3 e he with q | q
    · rw [hb] at q; cases q
    · exact q
  · rcases h4 t ht j hj with q | q
    · exact absurd hd q
    · obtain ⟨e, he, hb⟩ := Array.any_eq_true'.1 q
      simp only [Bool.and_eq_true, beq_iff_eq] at hb
      exact ⟨e, he, hb.1, hb.2⟩

theorem wpAnyIn_head (hro : F.round = none) {N : Nat} {aF : Act} {W : World} (hB : headB ops N = true) (H : ∀ i, i < N → Head P ops aF W i) (tail : wpListIn F n P ops Q (ops.toList.drop N) aF W) :
    ∀ (m : Nat) (listed : Array Bool) (a : Act), HeadInv .any ops N listed → Inv ops N aF listed a → left listed N = m → wpAnyIn F n P .any ops Q (m + (ops.size - N)) listed a W := by
  simp only [headB, Bool.and_eq_true, decide_eq_true_eq] at hB
  obtain ⟨⟨⟨⟨hd, hs⟩, hc⟩, hn⟩, hq⟩ := hB
  intro m
  induction m with
  | zero =>
    intro listed a inv I hl
    have hall := left_zero N hl
    have e1 : a = aF := by
      have ht : a.tmps = aF.tmps := by
        apply Array.ext_getElem?
        intro t
        exact I.slot t fun j hj _ => hall j hj
      have hdf := I.defers
      cases a; cases aF
      simp only at ht hdf
      subst ht hdf
      rfl
    have e2 : listed = heads N (ops.size - N) := by
      apply Array.ext
      · rw [inv.size]; simp [heads]; omega
      · intro j h1 h2
        have hj : j < ops.size := by rw [← inv.size]; exact h1
        by_cases q : j < N
        · have := hall j q
          simp [h1] at this
          simp [heads, q, this]
        · have := inv.tail j (by omega) hj
          simp [h1] at this
          simp [heads, Array.getElem_append, q, this]
    subst e1
    rw [Nat.zero_add]
    have hlen : (ops.toList.drop N).length = ops.size - N := by simp
    rw [← hlen]
    refine wpAnyIn_seq _ N listed a W (fun j => by simp) ?_ tail
    rw [hlen, e2]
    exact hq
  | succ m ih =>
    intro listed a inv I hl
    obtain ⟨i0, hi0, hun0, hbefore⟩ := first_left N (by omega : left listed N ≠ 0)
    have hs0 : i0 < listed.size := by rw [inv.size]; omega
    have hrd : i0 ∈ Region.ready .any ops listed := by
      refine mem_ready.2 ⟨getD_in hs0 hun0, ops[i0]'(by omega), Array.getElem?_eq_getElem (by omega), fun e he hb => ?_⟩
      exact hbefore _ ((dep_spec hd hi0 (Array.getElem?_eq_getElem (by omega))).2.1 e he hb)
    rw [show m + 1 + (ops.size - N) = (m + (ops.size - N)) + 1 by omega]
    refine ⟨fun h => (by rw [h] at hrd; cases hrd), fun i hi => ?_⟩
    have hiN : i < N := by
      rcases Nat.lt_or_ge i N with h | h
      · exact h
      · exact absurd hi (tail_waits hs hc hn inv _ i0 rfl hi0 (getD_in hs0 hun0) i h)
    obtain ⟨o, d, v, ho, hdst, hv, hsel, hrun, hab⟩ := H i hiN
    obtain ⟨hun, o', ho', hafter⟩ := mem_ready.1 hi
    obtain rfl : o' = o := Option.some.inj (ho'.symm.trans ho)
    obtain ⟨hg, _, hlook⟩ := dep_spec hd hiN ho
    have hev : ∀ x ∈ o'.op.operands, a.eval x = aF.eval x := by
      intro x hx
      cases x with
      | tmp t =>
        have ht : t ∈ o'.looksAt ops := List.mem_append_left _ (List.mem_filterMap.2 ⟨.tmp t, by simpa using hx, rfl⟩)
        have := I.slot t fun j hj hdj => by
          obtain ⟨e, he, hb, rfl⟩ := hlook t ht j hj hdj
          exact hafter e he hb
        simp [Act.eval, this]
      | _ => rfl
    have hlt : i < listed.size := by rw [inv.size]; omega
    have hw : Region.wanted o' (yielded ops a.tmps) = true := by simp [Region.wanted, hg]
    have hnext := ih (listed.setIfInBounds i true) (a.put (some d) v) (inv.set hi hiN) ?_ (by have := left_set hlt (getD_both hun) N hiN; omega)
    · unfold wpOpIn
      simp only [ho, hw, if_true, Oper.wpIn]
      refine ⟨fun f hf => ?_, ?_⟩
      · rw [about_congr o' W hev, hab] at hf
        cases hf
      · rw [hro, Oper.semAt_none, execOp_congr o' hsel hev, hrun]
        simp only [Oper.uponIn, hdst]
        exact hnext
    · refine ⟨I.defers, by simp [Act.put, I.size], fun t ht => ?_⟩
      have hdlt : d < aF.tmps.size := (Array.getElem?_eq_some_iff.1 hv).1
      by_cases q : t = d
      · subst q
        have e : aF.tmps[t] = v := by
          rw [Array.getElem?_eq_getElem hdlt] at hv
          exact Option.some.inj hv
        simp [Act.put, I.size, hdlt, e]
      · have := I.slot t fun j hj hdj => by
          have h1 := ht j hj hdj
          rw [getD_set_ne false (fun e => ?_)] at h1
          · exact h1
          · subst e
            unfold dstOf at hdj
            rw [ho] at hdj
            simp only [Option.bind_some, hdst, Option.some.injEq] at hdj
            exact q hdj.symm
        simp only [Act.put]
        rw [Array.getElem?_setIfInBounds_ne (fun e => q e.symm)]
        exact this

theorem wpIn_region_head {id : Nat} {l : List Oper} {a : Act} {w : World} (N : Nat) (aF : Act) (hro : F.round = none) (hm : P.follows .mixedOrders = true) (hB : headB l.toArray N = true)
    (hd : a.defers = aF.defers) (hs : a.tmps.size = aF.tmps.size) (ha : ∀ t, (∀ j, j < N → dstOf l.toArray j ≠ some t) → a.tmps[t]? = aF.tmps[t]?)
    (H : ∀ i, i < N → Head P l.toArray aF w.drew i) (tail : wpListIn F n P l.toArray Q (l.drop N) aF w.drew) : (Code.region id l.toArray true).wpIn F n P Q a w := by
  refine wpIn_region_any hm ?_
  have hn : N < l.toArray.size := by
    simp only [headB, Bool.and_eq_true, decide_eq_true_eq] at hB
    exact hB.1.2
  have h := wpAnyIn_head (F := F) (n := n) (Q := Q) hro hB H tail N (Array.replicate l.toArray.size false) a
    ⟨by simp, fun j oj _ hl => (by rw [getD_replicate_false] at hl; cases hl), fun t _ ht' => by
      have ht2 : t < l.length := by simpa using ht'
      simp [ht2]⟩
    ⟨hd, hs, fun t ht => ha t fun j hj hdj => by
      have := ht j hj hdj
      rw [getD_replicate_false] at this
      cases this⟩ (left_none N _)
  rw [show N + (l.toArray.size - N) = l.toArray.size by omega] at h
  exact h
end Go.Dr
