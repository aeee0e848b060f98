import Derived.Test.YtgfiociglimoaaaGreatDoorMsQ
import Derived.Test.YtgfiociglimoaaaGreatDoorIlB
set_option maxRecDepth 100000
namespace Go.Proofs.YtgfiociglimoaaaGreatDoor.Ms
open Go Go.Ms Go.Il Go.Pg Go.ChangeShapes Go.WideShapes Go.ChangeAt Go.RowKit Go.Deep

theorem elem_of {P : Program} {t e : TypeId} {size bytes : Nat} (h : P.underlying t = some (.slice e)) (g : (P.info? e).map (fun i => (i.size, i.bytes, i.zero.map fun z => z.cells.size)) = some (size, bytes, some size)) (hs : 0 < size) : Elem P t e size bytes := by
  cases hi : P.info? e with
  | none => rw [hi] at g; cases g
  | some i =>
    rw [hi] at g
    simp only [Option.map_some, Option.some.injEq, Prod.mk.injEq] at g
    obtain ⟨g1, g2, g3⟩ := g
    cases hz : i.zero with
    | none => rw [hz] at g3; cases g3
    | some z =>
      rw [hz] at g3
      simp only [Option.map_some, Option.some.injEq] at g3
      exact ⟨h, i, z, hi, hz, g1, g2, g3, hs⟩
theorem E42 : Elem Tryz.prog 42 48 5 72 := elem_of Tryz.underlying42 (by kernel_rfl) (by decide)
theorem E22 : Elem Tryz.prog 22 44 3 40 := elem_of Tryz.underlying22 (by kernel_rfl) (by decide)
theorem E23 : Elem Tryz.prog 23 50 3 40 := elem_of Tryz.underlying23 (by kernel_rfl) (by decide)
theorem E45 : Elem Tryz.prog 45 28 2 16 := elem_of Tryz.underlying45 (by kernel_rfl) (by decide)
theorem E46 : Elem Tryz.prog 46 67 2 16 := elem_of Tryz.underlying46 (by kernel_rfl) (by decide)
theorem E29' : Elem Tryz.prog 29 2 1 8 := elem_of Tryz.underlying29 (by kernel_rfl) (by decide)

def FrV (w : World) (cs : List Value) (x : Fr) : Prop := ∃ vr vt, cs = [.int .i64 x.id, .int .i64 x.chunk, .int .i64 x.pc, vr, vt] ∧ WfI .i64 x.id ∧ WfI .i64 x.chunk ∧ WfI .i64 x.pc ∧ RowT 28 2 (PairAt .u8 .i64) w vr x.regs ∧ RowT 67 2 (PairAt .i64 .i64) w vt x.tries
def ThV (w : World) (cs : List Value) (x : Th) : Prop := ∃ vf, cs = [vf, .int .u8 x.rk, .int .i64 x.rn] ∧ WfI .u8 x.rk ∧ WfI .i64 x.rn ∧ RowT 48 5 (AtOf 5 FrV) w vf x.frames
def ObV (w : World) (cs : List Value) (x : Ob) : Prop := ∃ vc, cs = [.int .i64 x.chunk, vc, .int .i64 x.owner] ∧ WfI .i64 x.chunk ∧ WfI .i64 x.owner ∧ RowT 28 2 (PairAt .u8 .i64) w vc x.cells

theorem FrV.keep {S : TypeId → Prop} (h1 : S 28) (h2 : S 67) {w w' : World} (hT : Tp S w w') (cs : List Value) (x : Fr) : FrV w cs x → FrV w' cs x := by
  rintro ⟨vr, vt, e, a1, a2, a3, b1, b2⟩
  exact ⟨vr, vt, e, a1, a2, a3, b1.keep (Ts.pair h1 _ _) h1 hT, b2.keep (Ts.pair h2 _ _) h2 hT⟩
theorem FrV.ts {S : TypeId → Prop} (h1 : S 28) (h2 : S 67) (h3 : S 48) : Ts S 48 (AtOf 5 FrV) := by
  rintro w w' hT b p x hb ⟨cs, l, hc, k⟩
  refine ⟨cs, l, fun j hj => ?_, FrV.keep h1 h2 hT _ _ k⟩
  have := hc j hj
  rw [List.getElem?_eq_getElem (by omega)] at this ⊢
  exact cell_tp hT hb h3 this
theorem ThV.keep {S : TypeId → Prop} (h1 : S 28) (h2 : S 67) (h3 : S 48) {w w' : World} (hT : Tp S w w') (cs : List Value) (x : Th) : ThV w cs x → ThV w' cs x := by
  rintro ⟨vf, e, a1, a2, b⟩
  exact ⟨vf, e, a1, a2, b.keep (FrV.ts h1 h2 h3) h3 hT⟩
theorem ObV.keep {S : TypeId → Prop} (h1 : S 28) {w w' : World} (hT : Tp S w w') (cs : List Value) (x : Ob) : ObV w cs x → ObV w' cs x := by
  rintro ⟨vc, e, a1, a2, b⟩
  exact ⟨vc, e, a1, a2, b.keep (Ts.pair h1 _ _) h1 hT⟩

theorem ThV.ts {S : TypeId → Prop} (h1 : S 28) (h2 : S 67) (h3 : S 48) (h4 : S 44) : Ts S 44 (AtOf 3 ThV) := by
  rintro w w' hT b p x hb ⟨cs, l, hc, k⟩
  refine ⟨cs, l, fun j hj => ?_, ThV.keep h1 h2 h3 hT _ _ k⟩
  have := hc j hj
  rw [List.getElem?_eq_getElem (by omega)] at this ⊢
  exact cell_tp hT hb h4 this
theorem ObV.ts {S : TypeId → Prop} (h1 : S 28) (h4 : S 50) : Ts S 50 (AtOf 3 ObV) := by
  rintro w w' hT b p x hb ⟨cs, l, hc, k⟩
  refine ⟨cs, l, fun j hj => ?_, ObV.keep h1 hT _ _ k⟩
  have := hc j hj
  rw [List.getElem?_eq_getElem (by omega)] at this ⊢
  exact cell_tp hT hb h4 this
theorem row_map {α : Type} {size : Nat} {A A' : World → Nat → Nat → α → Prop} {w : World} (h : ∀ b p x, A w b p x → A' w b p x) {v : Value} {l : List α} (k : RowAt size A w v l) : RowAt size A' w v l := by
  obtain ⟨oa, cap, h1, h2, h3⟩ := k
  refine ⟨oa, cap, h1, h2, fun i hi => ?_⟩
  obtain ⟨b, o, e, c⟩ := h3 i hi
  exact ⟨b, o, e, h _ _ _ c⟩
theorem fr_back {w : World} {b p : Nat} {x : Fr} (h : AtOf 5 FrV w b p x) : FrAt w b p x := by
  obtain ⟨cs, _, hc, vr, vt, rfl, a1, a2, a3, b1, b2⟩ := h
  exact ⟨vr, vt, ⟨hc 0 (by omega), a1⟩, ⟨hc 1 (by omega), a2⟩, ⟨hc 2 (by omega), a3⟩, hc 3 (by omega), hc 4 (by omega), b1.1, b2.1⟩
theorem th_back {w : World} {b p : Nat} {x : Th} (h : AtOf 3 ThV w b p x) : ThAt w b p x := by
  obtain ⟨cs, _, hc, vf, rfl, a1, a2, b1⟩ := h
  exact ⟨vf, hc 0 (by omega), ⟨hc 1 (by omega), a1⟩, ⟨hc 2 (by omega), a2⟩, row_map (fun _ _ _ => fr_back) b1.1⟩
theorem ob_back {w : World} {b p : Nat} {x : Ob} (h : AtOf 3 ObV w b p x) : ObAt w b p x := by
  obtain ⟨cs, _, hc, vc, rfl, a1, a2, b1⟩ := h
  exact ⟨vc, ⟨hc 0 (by omega), a1⟩, hc 1 (by omega), ⟨hc 2 (by omega), a2⟩, b1.1⟩

def pc (k m : IntKind) (x : Int × Int) : List Value := [.int k x.1, .int m x.2]
theorem pair_cell {k m : IntKind} : ∀ (w : World) b p x, PairAt k m w b p x → (pc k m x).length = 2 ∧ (∀ j, j < 2 → w.cell? ⟨b, p + j, none⟩ = (pc k m x)[j]?) ∧ ∀ u ∈ pc k m x, u.oneCell' = true := by
  intro w b p x h
  refine ⟨rfl, fun j hj => ?_, fun u hu => ?_⟩
  · match j, hj with
    | 0, _ => exact h.1.1
    | 1, _ => exact h.2.1
  · simp only [pc, List.mem_cons, List.not_mem_nil, or_false] at hu
    rcases hu with rfl | rfl <;> rfl
theorem pair_back {k m : IntKind} {w : World} : ∀ (w' : World) b p y, (∃ b' p', PairAt k m w b' p' y) → (∀ j, j < 2 → w'.cell? ⟨b, p + j, none⟩ = (pc k m y)[j]?) → PairAt k m w' b p y := by
  rintro w' b p y ⟨_, _, h⟩ hc
  exact ⟨⟨hc 0 (by omega), h.1.2⟩, ⟨hc 1 (by omega), h.2.2⟩⟩
theorem num_cell {k : IntKind} : ∀ (w : World) b p x, NumAt k w b p x → [Value.int k x].length = 1 ∧ (∀ j, j < 1 → w.cell? ⟨b, p + j, none⟩ = [Value.int k x][j]?) ∧ ∀ u ∈ [Value.int k x], u.oneCell' = true := by
  intro w b p x h
  refine ⟨rfl, fun j hj => ?_, one_cell⟩
  match j, hj with
  | 0, _ => exact h.1
theorem num_back {k : IntKind} {w : World} : ∀ (w' : World) b p y, (∃ b' p', NumAt k w b' p' y) → (∀ j, j < 1 → w'.cell? ⟨b, p + j, none⟩ = [Value.int k y][j]?) → NumAt k w' b p y := by
  rintro w' b p y ⟨_, _, h⟩ hc
  exact ⟨hc 0 (by omega), h.2⟩

theorem own_same {w w' : World} {B : Nat} {e : TypeId} {size : Nat} {v : Value} {n : Nat} {xs : List Value} (h : w.ownsRow B e size v n xs) (k : ∀ g, v.ownBlock = some g → w'.heap[g]? = w.heap[g]?) : w'.ownsRow B e size v n xs := by
  refine ⟨h.1, ?_⟩
  rcases h.2 with h2 | ⟨g, cap, cur, rfl, hb, hh, r⟩
  · exact .inl h2
  · exact .inr ⟨g, cap, cur, rfl, hb, (k g rfl).trans hh, r⟩
theorem set_cells {w : World} {g : Nat} {cs : Array Value} {t : TypeId} (h : w.heap[g]? = some (.cells cs t (0, 0))) (i : Nat) (u : Value) : (w.setCell ⟨g, i, none⟩ u).heap[g]? = some (.cells (cs.setIfInBounds i u) t (0, 0)) := by
  simp [World.setCell, Array.getElem?_modify, h]
theorem below_block {w w' : World} (hB : Below w.heap.size w w') {g : Nat} {o : Obj} (h : w.heap[g]? = some o) : w'.heap[g]? = some o := (hB.block _ (block_lt h)).trans h
theorem chain_below {w w3 w4 : World} {x : Obj} {i1 i2 : Nat} {u1 u2 : Value} (h1 : Below (w.alloc x).heap.size (w.alloc x) w3) (h2 : Below (w3.setCell ⟨w.heap.size, i1, none⟩ u1).heap.size (w3.setCell ⟨w.heap.size, i1, none⟩ u1) w4) : Below w.heap.size w (w4.setCell ⟨w.heap.size, i2, none⟩ u2) := by
  have a : Below w.heap.size w w3 := (one w x).trans (h1.mono (one w x).size)
  have b : Below w.heap.size w (w3.setCell ⟨w.heap.size, i1, none⟩ u1) := a.setCell (p := ⟨w.heap.size, i1, none⟩) (Nat.le_refl _) u1
  exact (b.trans (h2.mono b.size)).setCell (p := ⟨w.heap.size, i2, none⟩) (Nat.le_refl _) u2
theorem chain_one {w w3 : World} {x : Obj} {i1 : Nat} {u1 : Value} (h1 : Below (w.alloc x).heap.size (w.alloc x) w3) : Below w.heap.size w (w3.setCell ⟨w.heap.size, i1, none⟩ u1) := by
  have a : Below w.heap.size w w3 := (one w x).trans (h1.mono (one w x).size)
  exact a.setCell (p := ⟨w.heap.size, i1, none⟩) (Nat.le_refl _) u1
theorem own_chain {w w' : World} {B : Nat} {e : TypeId} {size : Nat} {v : Value} {n : Nat} {xs : List Value} (h : w.ownsRow B e size v n xs) (hB : Below w.heap.size w w') : w'.ownsRow B e size v n xs := own_same h fun g hg => hB.block g (h.lt g hg).2
def sets (g : Nat) (l : List (Nat × Value)) (w : World) : World := l.foldl (fun w x => w.setCell ⟨g, x.1, none⟩ x.2) w
theorem tp_sets {S : TypeId → Prop} {g : Nat} {t : TypeId} (ht : ¬ S t) : ∀ (l : List (Nat × Value)) {w : World} {cs : Array Value}, w.heap[g]? = some (.cells cs t (0, 0)) → Tp S w (sets g l w)
  | [], w, _, _ => Tp.refl _ w
  | x :: l, _, _, h => (Tp.set h ht x.2).trans (tp_sets ht l (set_cells h x.1 x.2))
theorem sets_block {g : Nat} {t : TypeId} : ∀ (l : List (Nat × Value)) {w : World} {cs : Array Value}, w.heap[g]? = some (.cells cs t (0, 0)) → (sets g l w).heap[g]? = some (.cells (l.foldl (fun c x => c.setIfInBounds x.1 x.2) cs) t (0, 0))
  | [], _, _, h => h
  | x :: l, _, _, h => sets_block l (set_cells h x.1 x.2)
theorem below_sets {B g : Nat} (hB : B ≤ g) : ∀ (l : List (Nat × Value)) {a w : World}, Below B a w → Below B a (sets g l w)
  | [], _, _, h => h
  | x :: l, _, _, h => below_sets hB l (h.setCell (p := ⟨g, x.1, none⟩) hB x.2)
theorem tp_alloc {S : TypeId → Prop} (w : World) (o : Obj) : Tp S w (w.alloc o) := Tp.below ((Below.refl _ w).alloc (Nat.le_refl _) o)
end Go.Proofs.YtgfiociglimoaaaGreatDoor.Ms
