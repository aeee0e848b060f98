import Derived.Test.YtmkapmbmgpnjaaaMsD
import Derived.Deep.Draws
set_option maxRecDepth 100000
namespace Go.Il
open Go Go.Pg Go.Ms Go.ChangeShapes Go.WideShapes Go.ChangeAt Go.RowKit

/-! Lists of numbers that a call appends to. -/
def IntElem (P : Program) (t e : TypeId) (k : IntKind) (bytes : Nat) : Prop := P.underlying t = some (.slice e) ∧ ∃ i, P.info? e = some i ∧ i.zero = some (.int k 0) ∧ i.size = 1 ∧ i.bytes = bytes
theorem IntElem.mk {P : Program} {t e : TypeId} {k : IntKind} {bytes : Nat} (h : P.underlying t = some (.slice e)) (g : (P.info? e).map (fun i => (i.zero, i.size, i.bytes)) = some (some (.int k 0), 1, bytes)) : IntElem P t e k bytes := by
  obtain ⟨i0, hi, hz0, hz1, hz2⟩ := info_parts g
  exact ⟨h, i0, hi, hz0, hz1, hz2⟩

def Own (e : TypeId) (k : IntKind) (B : Nat) (w : World) (v : Value) (l : List Int) : Prop := w.ownsRow B e 1 v l.length (l.map (.int k))
structure Stp (e : TypeId) (B : Nat) (w w' : World) : Prop where
  below : Below B w w'
  kept : ∀ b, b < w.heap.size → (∀ cs fr, w.heap[b]? ≠ some (.cells cs e fr)) → w'.heap[b]? = w.heap[b]?

theorem Stp.refl (e : TypeId) (B : Nat) (w : World) : Stp e B w w := ⟨Below.refl _ _, fun _ _ _ => rfl⟩
theorem Stp.trans {e : TypeId} {B : Nat} {a b c : World} (h : Stp e B a b) (k : Stp e B b c) : Stp e B a c :=
  ⟨h.below.trans k.below, fun i hi ht => by
    have q := h.kept i hi ht
    rw [k.kept i (Nat.lt_of_lt_of_le hi h.below.size) (fun cs fr => by rw [q]; exact ht cs fr), q]⟩
theorem Stp.drew {e : TypeId} {B : Nat} {a w : World} (h : Stp e B a w) : Stp e B a w.drew := h.trans ⟨⟨rfl, rfl, rfl, Nat.le_refl _, fun _ _ => rfl⟩, fun _ _ _ => rfl⟩
theorem Stp.drewN {e : TypeId} {B : Nat} {a w : World} (h : Stp e B a w) (n : Nat) : Stp e B a (w.drewN n) := h.trans ⟨⟨rfl, rfl, rfl, Nat.le_refl _, fun _ _ => rfl⟩, fun _ _ _ => rfl⟩
theorem Stp.alloc {e : TypeId} {B : Nat} {a w : World} (h : Stp e B a w) (hB : B ≤ w.heap.size) (o : Obj) : Stp e B a (w.alloc o) :=
  h.trans ⟨(Below.refl _ _).alloc hB o, fun _ hi _ => Below.heap_alloc _ _ _ hi⟩
theorem Stp.block {e : TypeId} {B : Nat} {w w' : World} (h : Stp e B w w') {b : Nat} {cs : Array Value} {t : TypeId} {fr : Nat × Nat} (hb : w.heap[b]? = some (.cells cs t fr)) (ht : t ≠ e) : w'.heap[b]? = some (.cells cs t fr) := by
  rw [h.kept b (block_lt hb) (fun cs' fr' q => ?_), hb]
  rw [hb] at q
  injection q with q
  injection q with _ q
  exact ht q
theorem Stp.grown {e : TypeId} {B : Nat} {w w' : World} {v : Value} {n : Nat} {xs : List Value} (ho : w.ownsRow B e 1 v n xs) (hB : B ≤ w.heap.size) (hg : w.grownBy w' v.ownBlock) : Stp e B w w' :=
  ⟨(Below.refl B w).grown hg hB (fun k hk => (ho.lt k hk).1), fun b hb ht => hg.block b hb fun q => by
    obtain ⟨cs, fr, hh⟩ := own_type ho b q.symm
    exact ht cs fr hh⟩

theorem Own.nil (e : TypeId) (k : IntKind) (B : Nat) (w : World) : Own e k B w (.slice none 0 0) [] := World.ownsRow_nil _ _ _ _
theorem Own.alloc {e : TypeId} {k : IntKind} {B : Nat} {w : World} {v : Value} {l : List Int} (h : Own e k B w v l) (o : Obj) : Own e k B (w.alloc o) v l := World.ownsRow.alloc h o
theorem Own.form {e : TypeId} {k : IntKind} {B : Nat} {w : World} {v : Value} {l : List Int} (h : Own e k B w v l) : ∃ oa cap, v = .slice oa l.length cap := by
  rcases h.2 with ⟨rfl, h0⟩ | ⟨g, cap, _, rfl, _⟩
  · rw [h0]; exact ⟨_, _, rfl⟩
  · exact ⟨_, _, rfl⟩
theorem Own.row {e : TypeId} {k : IntKind} {B : Nat} {w : World} {v : Value} {l : List Int} (h : Own e k B w v l) {g n cap : Nat} (hv : v = .slice (some ⟨g, 0, none⟩) n cap) (i : Nat) (hi : i < l.length) : w.cell? ⟨g, i, none⟩ = some (.int k l[i]) := by
  have := World.ownsRow.cells (g := g) h (by rw [hv]; rfl) i (.int k l[i]) (by simp [hi])
  have q : (⟨g, 0, none⟩ : Addr).add i = ⟨g, i, none⟩ := by rw [Go.WideShapes.add_plain]; simp
  rw [q] at this
  exact this
theorem Own.at {e : TypeId} {k : IntKind} {B : Nat} {w : World} {v : Value} {l : List Int} (h : Own e k B w v l) : ∃ oa cap, v = .slice oa l.length cap ∧ ∀ i (hi : i < l.length), ∃ g, oa = some ⟨g, 0, none⟩ ∧ w.cell? ⟨g, i, none⟩ = some (.int k l[i]) := by
  rcases h.2 with ⟨rfl, h0⟩ | ⟨g, cap, _, rfl, _⟩
  · exact ⟨none, 0, by rw [h0], fun i hi => by omega⟩
  · exact ⟨some ⟨g, 0, none⟩, cap, rfl, fun i hi => ⟨g, rfl, h.row rfl i hi⟩⟩
theorem Own.stp {e e' : TypeId} {k : IntKind} {B B' : Nat} {w w' : World} {v : Value} {l : List Int} (h : Own e k B w v l) (hs : Stp e' B' w w') (hne : e ≠ e') : Own e k B w' v l := by
  refine ⟨h.1, ?_⟩
  rcases h.2 with h2 | ⟨g, cap, cur, rfl, hb, hh, r⟩
  · exact .inl h2
  · exact .inr ⟨g, cap, cur, rfl, hb, hs.block hh hne, r⟩

section
variable {P : Program} {t e : TypeId} {k : IntKind} {bytes : Nat}

theorem one_cells {k : IntKind} {l : List Int} : ∀ u ∈ l.map (Value.int k), u.oneCell' = true := by
  intro u hu
  obtain ⟨x, _, rfl⟩ := List.mem_map.1 hu
  rfl

theorem new_cells {w : World} {c : Nat} {cs : Array Value} {t : TypeId} {fr : Nat × Nat} (h : w.heap[c]? = some (.cells cs t fr)) {l : List Value} (hc : cs.toList = l) : ∀ j u, l[j]? = some u → w.cell? ((⟨c, 0, none⟩ : Addr).add j) = some u := by
  intro j u hu
  subst hc
  rw [Go.WideShapes.add_plain, cell_of h]
  simpa using hu

theorem run_push (E : IntElem P t e k bytes) (hby : bytes ≤ 8) {w : World} {B : Nat} {v : Value} {l : List Int} (hO : Own e k B w v l) (c : Nat) (cs : Array Value) (ns : List Int) (hcs : cs.toList = ns.map (.int k)) (hc : w.heap.size = c) (hB : B ≤ c) (hlen : l.length + ns.length ≤ 10000000) (ty : TypeId) (m cap : Nat) (hm : ns.length = m) :
    ∃ v' w', (Builtin.append_ #[t, t] ty #[v, .slice (some ⟨c, 0, none⟩) m cap]).run P (w.alloc (.cells cs e)) = .ok v' w' ∧ Own e k B w' v' (l ++ ns) ∧ Stp e B w w' ∧ Stp e B (w.alloc (.cells cs e)) w' := by
  obtain ⟨ht, i, hi, hz, hs, hb⟩ := E
  subst hm
  subst hc
  have hx : (ns.length + l.length) * bytes ≤ (ns.length + l.length) * 8 := Nat.mul_le_mul_left _ hby
  obtain ⟨v', w', hrun, h2, h3, _, _⟩ := run_append_own_at (P := P) (w.alloc (.cells cs e)) B t ty e i _ 1 bytes ht hi hz hs hb rfl (by omega) v _ _ (World.ownsRow.alloc hO _) ⟨w.heap.size, 0, none⟩ ns.length cap (ns.map (.int k)) (by simp) (new_cells (new_block w _) hcs) one_cells (by unfold maxLen; omega) (by rw [Nat.add_comm]; omega) (by simp; omega)
  have hst : Stp e B (w.alloc (.cells cs e)) w' := Stp.grown (World.ownsRow.alloc hO _) (by simp; omega) h3
  exact ⟨v', w', hrun, by unfold Own; rw [List.length_append, List.map_append]; exact h2, ((Stp.refl e B w).alloc hB _).trans hst, hst⟩

theorem wpl_push (E : IntElem P t e k bytes) (hby : bytes ≤ 8) {ops : Array Oper} {rest : List Oper} {o : Oper} {a : Act} {Q : Exit → Act → World → Prop} {w : World} (hgd : o.guard = none) (s x : Operand)
    (ho : o.op = .call { callee := .builtin .append, args := #[s, x], argTypes := #[t, t] }) {B : Nat} {v : Value} {l : List Int} (hO : Own e k B w v l) (c : Nat) (cs : Array Value) (ns : List Int) (m cap : Nat) (hs : a.eval s = v) (hx : a.eval x = .slice (some ⟨c, 0, none⟩) m cap)
    (hcs : cs.toList = ns.map (.int k)) (hm : ns.length = m) (hc : w.heap.size = c) (hB : B ≤ c) (hlen : l.length + ns.length ≤ 10000000)
    (h : ∀ v' w', Own e k B w' v' (l ++ ns) → Stp e B w w' → wpList P ops Q rest (a.put o.dst v') w') : wpList P ops Q (o :: rest) a (w.alloc (.cells cs e)) := by
  refine wpList_plain hgd fun _ hK => ?_
  obtain ⟨v', w', hrun, h2, h3, _⟩ := run_push E hby hO c cs ns hcs hc hB hlen o.type m cap hm
  unfold Oper.wp execOp
  simp only [ho, resolve, invoke, builtin, Sem.run_bind, Sem.run_pure, Result.andThen_ok, List.map_toArray, List.map_cons, List.map_nil, hs, hx, hrun]
  exact hK _ _ (h v' w' h2 h3)

theorem step_push (E : IntElem P t e k bytes) (hby : bytes ≤ 8) {ops : Array Oper} {o : Oper} {a : Act} {K : Act → World → Prop} {Q : Exit → Act → World → Prop} {F : Prop} {w w2 : World} (hgd : o.guard = none) (s x : Operand)
    (ho : o.op = .call { callee := .builtin .append, args := #[s, x], argTypes := #[t, t] }) {B : Nat} {v : Value} {l : List Int} (hO : Own e k B w v l) (c : Nat) (cs : Array Value) (ns : List Int) (m cap : Nat) (hs : a.eval s = v) (hx : a.eval x = .slice (some ⟨c, 0, none⟩) m cap)
    (hcs : cs.toList = ns.map (.int k)) (hm : ns.length = m) (hc : w.heap.size = c) (hB : B ≤ c) (hlen : l.length + ns.length ≤ 10000000) (hw2 : w2 = w.alloc (.cells cs e))
    (h : ∀ v' w', Own e k B w' v' (l ++ ns) → Stp e B w w' → K (a.put o.dst v') w') : if Region.wanted o (yielded ops a.tmps) = true then Oper.wp P o a w2 K Q else F := by
  have hw : Region.wanted o (yielded ops a.tmps) = true := by simp [Region.wanted, hgd]
  subst hw2
  rw [if_pos hw]
  obtain ⟨v', w', hrun, h2, h3, _⟩ := run_push E hby hO c cs ns hcs hc hB hlen o.type m cap hm
  unfold Oper.wp execOp
  simp only [ho, resolve, invoke, builtin, Sem.run_bind, Sem.run_pure, Result.andThen_ok, List.map_toArray, List.map_cons, List.map_nil, hs, hx, hrun]
  exact h v' w' h2 h3

theorem run_push_nil (E : IntElem P t e k bytes) {w : World} {B : Nat} {v : Value} {l : List Int} (hO : Own e k B w v l) (ty : TypeId) (c : Nat) : (Builtin.append_ #[t, t] ty #[v, .slice none 0 c]).run P w = .ok v w := by
  obtain ⟨ht, i, hi, _, _, _⟩ := E
  rcases hO.2 with ⟨rfl, _⟩ | ⟨g, cap, cur, rfl, _, _, hnc, _⟩
  · simp [Builtin.append_, run_underlying ht, sizeOf, typeInfo, hi, Builtin.lenOf, Builtin.firstCells]
  · simp [Builtin.append_, run_underlying ht, sizeOf, typeInfo, hi, Builtin.lenOf, Builtin.firstCells, hnc, storeCells]

theorem wpl_pushRow (E : IntElem P t e k bytes) (hby : bytes ≤ 8) {ops : Array Oper} {rest : List Oper} {o : Oper} {a : Act} {Q : Exit → Act → World → Prop} {w0 w : World} (hgd : o.guard = none) (s x : Operand)
    (ho : o.op = .call { callee := .builtin .append, args := #[s, x], argTypes := #[t, t] }) {B : Nat} {v vx : Value} {l ns : List Int} (hO : Own e k B w v l) (hr : RowAt 1 (NumAt k) w0 vx ns) (h0 : Below w0.heap.size w0 w) (hB : B ≤ w.heap.size) (hs : a.eval s = v) (hx : a.eval x = vx)
    (hlen : l.length + ns.length ≤ 10000000) (h : ∀ v' w', Own e k B w' v' (l ++ ns) → Stp e B w w' → wpList P ops Q rest (a.put o.dst v') w') : wpList P ops Q (o :: rest) a w := by
  refine wpList_plain hgd fun _ hK => ?_
  have hrun : ∃ v' w', (Builtin.append_ #[t, t] o.type #[v, vx]).run P w = .ok v' w' ∧ Own e k B w' v' (l ++ ns) ∧ Stp e B w w' := by
    obtain ⟨oa, cap, rfl, _, hr⟩ := hr
    rcases Nat.eq_zero_or_pos ns.length with hz | hz
    · have hn : ns = [] := List.eq_nil_of_length_eq_zero hz
      subst hn
      rcases oa with _ | ad
      · exact ⟨v, w, run_push_nil E hO _ _, by simpa using hO, Stp.refl _ _ _⟩
      · obtain ⟨ht, i, hi, hz, hs, hb⟩ := E
        have hx : l.length * bytes ≤ l.length * 8 := Nat.mul_le_mul_left _ hby
        obtain ⟨v', w', hrun, h2, h3, _, _⟩ := run_append_own_at (P := P) w B t o.type e i _ 1 bytes ht hi hz hs hb rfl (by omega) v _ _ hO ad 0 cap [] (by simp) (fun j u hu => by simp at hu) (fun u hu => by simp at hu) (by unfold maxLen; omega) (by rw [Nat.add_zero]; omega) hB
        exact ⟨v', w', hrun, by unfold Own; simpa using h2, Stp.grown hO hB h3⟩
    · obtain ⟨b, p, rfl, _⟩ := hr 0 hz
      obtain ⟨ht, i, hi, hz, hs, hb⟩ := E
      have hx : (ns.length + l.length) * bytes ≤ (ns.length + l.length) * 8 := Nat.mul_le_mul_left _ hby
      have hnews : ∀ j u, (ns.map (Value.int k))[j]? = some u → w.cell? ((⟨b, p, none⟩ : Addr).add j) = some u := by
        intro j u hu
        have hj : j < ns.length := by
          have := (List.getElem?_eq_some_iff.1 hu).1
          simpa using this
        obtain ⟨b', p', e', hP⟩ := hr j hj
        simp only [Option.some.injEq, Addr.mk.injEq] at e'
        obtain ⟨rfl, rfl, _⟩ := e'
        rw [Go.WideShapes.add_plain, cell_below h0 (by simpa using hP.1)]
        simp [hj] at hu
        rw [hu]
      obtain ⟨v', w', hrun, h2, h3, _, _⟩ := run_append_own_at (P := P) w B t o.type e i _ 1 bytes ht hi hz hs hb rfl (by omega) v _ _ hO ⟨b, p, none⟩ ns.length cap (ns.map (.int k)) (by simp) hnews one_cells (by unfold maxLen; omega) (by rw [Nat.add_comm]; omega) hB
      exact ⟨v', w', hrun, by unfold Own; rw [List.length_append, List.map_append]; exact h2, Stp.grown hO hB h3⟩
  obtain ⟨v', w', hrun, h2, h3⟩ := hrun
  unfold Oper.wp execOp
  simp only [ho, resolve, invoke, builtin, Sem.run_bind, Sem.run_pure, Result.andThen_ok, List.map_toArray, List.map_cons, List.map_nil, hs, hx, hrun]
  exact hK _ _ (h v' w' h2 h3)
end
end Go.Il

set_option maxRecDepth 100000
namespace Go.Il
open Go Go.Pg Go.Ms Go.ChangeShapes Go.WideShapes Go.ChangeAt Go.RowKit

/-! Rows of structs that a call makes. -/
def Tp (S : TypeId → Prop) (w w' : World) : Prop := ∀ (b : Nat) (cs : Array Value) (t : TypeId) (fr : Nat × Nat), w.heap[b]? = some (.cells cs t fr) → S t → w'.heap[b]? = some (.cells cs t fr)
theorem Tp.refl (S : TypeId → Prop) (w : World) : Tp S w w := fun _ _ _ _ h _ => h
theorem Tp.trans {S : TypeId → Prop} {a b c : World} (h : Tp S a b) (k : Tp S b c) : Tp S a c := fun i cs t fr q s => k i cs t fr (h i cs t fr q s) s
theorem Tp.below {S : TypeId → Prop} {w w' : World} (h : Below w.heap.size w w') : Tp S w w' := fun _ _ _ _ q _ => (h.block _ (block_lt q)).trans q
theorem Tp.set {S : TypeId → Prop} {w : World} {g i : Nat} {cs : Array Value} {t : TypeId} {fr : Nat × Nat} (hg : w.heap[g]? = some (.cells cs t fr)) (ht : ¬ S t) (u : Value) : Tp S w (w.setCell ⟨g, i, none⟩ u) := by
  intro b cs' t' fr' h s
  rw [Below.heap_setCell _ _ _ _ (show b ≠ g from fun q => by
    subst q
    rw [hg] at h
    injection h with h
    injection h with _ h
    exact ht (h ▸ s))]
  exact h

def RowT {α : Type} (e : TypeId) (size : Nat) (A : World → Nat → Nat → α → Prop) (w : World) (v : Value) (l : List α) : Prop :=
  RowAt size A w v l ∧ (0 < l.length → ∃ g cap cs fr, v = .slice (some ⟨g, 0, none⟩) l.length cap ∧ w.heap[g]? = some (.cells cs e fr))
def Ts {α : Type} (S : TypeId → Prop) (e : TypeId) (A : World → Nat → Nat → α → Prop) : Prop := ∀ w w', Tp S w w' → ∀ b p x, (∃ cs fr, w.heap[b]? = some (.cells cs e fr)) → A w b p x → A w' b p x
theorem RowT.keep {α : Type} {S : TypeId → Prop} {e : TypeId} {size : Nat} {A : World → Nat → Nat → α → Prop} (hA : Ts S e A) (hS : S e) {w w' : World} (hT : Tp S w w') {v : Value} {l : List α} (h : RowT e size A w v l) : RowT e size A w' v l := by
  obtain ⟨⟨oa, cap, h1, h2, h3⟩, h4⟩ := h
  refine ⟨⟨oa, cap, h1, h2, fun i hi => ?_⟩, fun hl => ?_⟩
  · obtain ⟨b, o, q, c⟩ := h3 i hi
    obtain ⟨g, cap', cs, fr, e', hg⟩ := h4 (by omega)
    have : b = g := by
      rw [h1, q] at e'
      injection e' with e'
      injection e' with e'
      injection e'
    subst this
    exact ⟨b, o, q, hA _ _ hT _ _ _ ⟨cs, fr, hg⟩ c⟩
  · obtain ⟨g, cap', cs, fr, e', hg⟩ := h4 hl
    exact ⟨g, cap', cs, fr, e', hT _ _ _ _ hg hS⟩

theorem cell_tp {S : TypeId → Prop} {w w' : World} (hT : Tp S w w') {b o : Nat} {v : Value} {e : TypeId} (hb : ∃ cs fr, w.heap[b]? = some (.cells cs e fr)) (hS : S e) (h : w.cell? ⟨b, o, none⟩ = some v) : w'.cell? ⟨b, o, none⟩ = some v := by
  obtain ⟨cs, fr, hb⟩ := hb
  rw [cell_of (hT _ _ _ _ hb hS)]
  rw [cell_of hb] at h
  exact h
theorem Ts.num {S : TypeId → Prop} {e : TypeId} (hS : S e) (k : IntKind) : Ts S e (NumAt k) := fun _ _ hT _ _ _ hb h => ⟨cell_tp hT hb hS h.1, h.2⟩
theorem Ts.pair {S : TypeId → Prop} {e : TypeId} (hS : S e) (k m : IntKind) : Ts S e (PairAt k m) := fun _ _ hT _ _ _ hb h => ⟨Ts.num hS k _ _ hT _ _ _ hb h.1, Ts.num hS m _ _ hT _ _ _ hb h.2⟩

def ListV {α : Type} (size : Nat) (A : World → List Value → α → Prop) (w : World) (xs : List Value) (l : List α) : Prop :=
  xs.length = l.length * size ∧ ∀ i (h : i < l.length), ∃ cs, cs.length = size ∧ (∀ j, j < size → xs[i * size + j]? = cs[j]?) ∧ A w cs l[i]
def AtOf {α : Type} (size : Nat) (A : World → List Value → α → Prop) (w : World) (b p : Nat) (x : α) : Prop := ∃ cs, cs.length = size ∧ (∀ j, j < size → w.cell? ⟨b, p + j, none⟩ = cs[j]?) ∧ A w cs x
theorem ListV.nil {α : Type} (size : Nat) (A : World → List Value → α → Prop) (w : World) : ListV size A w [] [] := ⟨by simp, fun i h => absurd h (Nat.not_lt_zero i)⟩
theorem ListV.snoc {α : Type} {size : Nat} {A : World → List Value → α → Prop} {w : World} {xs cs : List Value} {l : List α} {x : α} (h : ListV size A w xs l) (hc : cs.length = size) (ha : A w cs x) : ListV size A w (xs ++ cs) (l ++ [x]) := by
  refine ⟨by rw [List.length_append, List.length_append, h.1, hc, List.length_singleton, Nat.add_mul, Nat.one_mul], fun i hi => ?_⟩
  by_cases q : i < l.length
  · obtain ⟨c, h1, h2, h3⟩ := h.2 i q
    refine ⟨c, h1, fun j hj => ?_, by rw [List.getElem_append_left q]; exact h3⟩
    rw [List.getElem?_append_left]
    · exact h2 j hj
    · rw [h.1]
      have : (i + 1) * size ≤ l.length * size := Nat.mul_le_mul_right _ q
      rw [Nat.add_mul, Nat.one_mul] at this
      omega
  · have e : i = l.length := by simp at hi; omega
    subst e
    refine ⟨cs, hc, fun j hj => ?_, by simpa using ha⟩
    rw [List.getElem?_append_right (by rw [h.1]; omega), h.1]
    congr 1
    omega
theorem ListV.keep {α : Type} {size : Nat} {A : World → List Value → α → Prop} {w w' : World} (k : ∀ cs x, A w cs x → A w' cs x) {xs : List Value} {l : List α} (h : ListV size A w xs l) : ListV size A w' xs l :=
  ⟨h.1, fun i hi => by obtain ⟨c, h1, h2, h3⟩ := h.2 i hi; exact ⟨c, h1, h2, k _ _ h3⟩⟩

theorem own_typeS {w : World} {B : Nat} {te : TypeId} {size : Nat} {v : Value} {n : Nat} {xs : List Value} (h : w.ownsRow B te size v n xs) : ∀ k, v.ownBlock = some k → ∃ cs fr, w.heap[k]? = some (.cells cs te fr) := by
  intro k hk
  rcases h.2 with ⟨rfl, _⟩ | ⟨g', cap, cur, rfl, _, hh, _⟩
  · simp [Value.ownBlock] at hk
  · simp [Value.ownBlock] at hk
    subst hk
    exact ⟨_, _, hh⟩
theorem Tp.grown {S : TypeId → Prop} {e : TypeId} {size B : Nat} {w w' : World} {v : Value} {n : Nat} {xs : List Value} (ho : w.ownsRow B e size v n xs) (he : ¬ S e) (hg : w.grownBy w' v.ownBlock) : Tp S w w' := by
  intro b cs t fr h s
  rw [hg.block b (block_lt h) fun q => by
    obtain ⟨cs', fr', hh⟩ := own_typeS ho b q.symm
    rw [h] at hh
    injection hh with hh
    injection hh with _ hh
    exact he (hh ▸ s)]
  exact h
theorem own_tp {S : TypeId → Prop} {e : TypeId} {size B : Nat} {w w' : World} {v : Value} {n : Nat} {xs : List Value} (ho : w.ownsRow B e size v n xs) (hT : Tp S w w') (hS : S e) : w'.ownsRow B e size v n xs := by
  refine ⟨ho.1, ?_⟩
  rcases ho.2 with h2 | ⟨g, cap, cur, rfl, hb, hh, r⟩
  · exact .inl h2
  · exact .inr ⟨g, cap, cur, rfl, hb, hT _ _ _ _ hh hS, r⟩
theorem own_formS {w : World} {B : Nat} {e : TypeId} {size : Nat} {v : Value} {n : Nat} {xs : List Value} (h : w.ownsRow B e size v n xs) : ∃ oa cap, v = .slice oa n cap := by
  rcases h.2 with ⟨rfl, rfl⟩ | ⟨g, cap, _, rfl, _⟩
  · exact ⟨_, _, rfl⟩
  · exact ⟨_, _, rfl⟩

def Elem (P : Program) (t e : TypeId) (size bytes : Nat) : Prop := P.underlying t = some (.slice e) ∧ ∃ i z, P.info? e = some i ∧ i.zero = some z ∧ i.size = size ∧ i.bytes = bytes ∧ z.cells.size = size ∧ 0 < size
section
variable {P : Program} {t e : TypeId} {size bytes : Nat}

theorem wpl_pushS (E : Elem P t e size bytes) (hby : bytes ≤ 100) {ops : Array Oper} {rest : List Oper} {o : Oper} {a : Act} {Q : Exit → Act → World → Prop} {w : World} (hgd : o.guard = none) (s x : Operand)
    (ho : o.op = .call { callee := .builtin .append, args := #[s, x], argTypes := #[t, t] }) {B : Nat} {v : Value} {n : Nat} {xs : List Value} (hO : w.ownsRow B e size v n xs) (c : Nat) (cs : Array Value) (hs : a.eval s = v) (hx : a.eval x = .slice (some ⟨c, 0, none⟩) 1 1)
    (hcs : cs.size = size) (h1 : ∀ u ∈ cs.toList, u.oneCell' = true) (hc : w.heap.size = c) (hB : B ≤ c) (hlen : n ≤ 10000000)
    (h : ∀ v' w', w'.ownsRow B e size v' (n + 1) (xs ++ cs.toList) → (w.alloc (.cells cs e)).grownBy w' v.ownBlock → wpList P ops Q rest (a.put o.dst v') w') : wpList P ops Q (o :: rest) a (w.alloc (.cells cs e)) := by
  obtain ⟨ht, i, z, hi, hz, hsz, hb, hzs, hpos⟩ := E
  subst hc
  have hx2 : (n + 1) * bytes ≤ (n + 1) * 100 := Nat.mul_le_mul_left _ hby
  refine wpList_plain hgd fun _ hK => ?_
  obtain ⟨v', w', hrun, h2, h3, _, _⟩ := run_append_own_at (P := P) (w.alloc (.cells cs e)) B t o.type e i z size bytes ht hi hz hsz hb hzs hpos v n xs (World.ownsRow.alloc hO _) ⟨w.heap.size, 0, none⟩ 1 1 cs.toList (by simp [hcs]) (new_cells (new_block w _) rfl) h1 (by unfold maxLen; omega) (by omega) (by simp; omega)
  unfold Oper.wp execOp
  simp only [ho, resolve, invoke, builtin, Sem.run_bind, Sem.run_pure, Result.andThen_ok, List.map_toArray, List.map_cons, List.map_nil, hs, hx, hrun]
  exact hK _ _ (h v' w' h2 h3)

theorem run_nil_nil (ht : P.underlying t = some (.slice e)) {i : TypeInfo} (hi : P.info? e = some i) (w : World) (ty : TypeId) (c : Nat) : (Builtin.append_ #[t, t] ty #[.slice none 0 0, .slice none 0 c]).run P w = .ok (.slice none 0 0) w := by
  simp [Builtin.append_, run_underlying ht, sizeOf, typeInfo, hi, Builtin.lenOf, Builtin.firstCells]

end
end Go.Il

