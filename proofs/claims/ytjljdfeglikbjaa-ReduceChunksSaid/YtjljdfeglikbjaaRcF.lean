import Derived.Test.YtjljdfeglikbjaaRcE
import Derived.Maps.AppendAt
set_option maxRecDepth 100000
namespace Go.Proofs.Ytjljdfeglikbjaa.Rc
open Go Go.Ms Go.Pg Go.Rc Go.ChangeShapes Go.WideShapes Go.ChangeAt Go.RowKit Go.Deep Go.Shelf

attribute [local go_sem] Oper.semAt_some

def Grid (B : Nat) (w : World) (v : Value) (ls : List (List Int)) : Prop :=
  ∃ xs, w.ownsRow B 22 1 v ls.length xs ∧ ∀ i (h : i < ls.length), ∃ u, xs[i]? = some u ∧ Il.Own 3 .i64 B w u ls[i]

theorem own_kept {w w' : World} {B : Nat} {e : TypeId} {size : Nat} {v : Value} {n : Nat} {xs : List Value} (h : w.ownsRow B e size v n xs) (k : ∀ (g : Nat) cs fr, B ≤ g → w.heap[g]? = some (Obj.cells cs e fr) → v.ownBlock = some g → w'.heap[g]? = w.heap[g]?) : w'.ownsRow B e size v n xs := by
  refine ⟨h.1, ?_⟩
  rcases h.2 with h2 | ⟨g, cap, cur, rfl, hb, hh, r⟩
  · exact .inl h2
  · exact .inr ⟨g, cap, cur, rfl, hb, (k g _ _ hb hh rfl).trans hh, r⟩
theorem Grid.kept {B : Nat} {w w' : World} {v : Value} {ls : List (List Int)} (h : Grid B w v ls) (k : ∀ (g : Nat) cs t fr, B ≤ g → w.heap[g]? = some (Obj.cells cs t fr) → w'.heap[g]? = w.heap[g]?) : Grid B w' v ls := by
  obtain ⟨xs, h1, h2⟩ := h
  exact ⟨xs, own_kept h1 fun g cs fr hB hg _ => k g cs _ fr hB hg, fun i hi => by
    obtain ⟨u, h3, h4⟩ := h2 i hi
    exact ⟨u, h3, own_kept h4 fun g cs fr hB hg _ => k g cs _ fr hB hg⟩⟩
theorem Grid.below {B : Nat} {w w' : World} {v : Value} {ls : List (List Int)} (h : Grid B w v ls) (k : Below w.heap.size w w') : Grid B w' v ls :=
  h.kept fun g _ _ _ _ hg => k.block g (block_lt hg)
theorem Grid.nil (B : Nat) (w : World) : Grid B w (.slice none 0 0) [] := ⟨[], World.ownsRow_nil _ _ _ _, fun i h => absurd h (Nat.not_lt_zero i)⟩
theorem own_base {w : World} {B C : Nat} {e : TypeId} {size : Nat} {v : Value} {n : Nat} {xs : List Value} (h : w.ownsRow B e size v n xs) (hC : C ≤ B) : w.ownsRow C e size v n xs := by
  refine ⟨h.1, ?_⟩
  rcases h.2 with h2 | ⟨g, cap, cur, hv, hb, hh, r⟩
  · exact .inl h2
  · exact .inr ⟨g, cap, cur, hv, by omega, hh, r⟩
theorem Grid.snoc {B : Nat} {w w1 : World} {v v' u : Value} {ls : List (List Int)} {l : List Int} {xs : List Value} (h1 : w.ownsRow B 22 1 v ls.length xs) (h2 : ∀ i (h : i < ls.length), ∃ u, xs[i]? = some u ∧ Il.Own 3 .i64 B w u ls[i]) (hu : Il.Own 3 .i64 B w u l)
    (hn : w1.ownsRow B 22 1 v' (ls.length + 1) (xs ++ [u])) (hg : w.grownBy w1 v.ownBlock) : Grid B w1 v' (ls ++ [l]) := by
  have keep : ∀ {q : Value} {m : List Int}, Il.Own 3 .i64 B w q m → Il.Own 3 .i64 B w1 q m := fun hq => own_kept hq fun g cs fr _ hgg hb => hg.block g (block_lt hgg) fun e => by
    obtain ⟨cs1, fr1, e1⟩ := Go.Il.own_typeS h1 g e.symm
    obtain ⟨cs2, fr2, e2⟩ := Go.Il.own_typeS hq g hb
    rw [e1] at e2
    cases e2
  refine ⟨xs ++ [u], by simpa using hn, fun i hi => ?_⟩
  have hx : xs.length = ls.length := by have := h1.1; omega
  by_cases q : i < ls.length
  · obtain ⟨y, h3, h4⟩ := h2 i q
    exact ⟨y, by rw [List.getElem?_append_left (by omega)]; exact h3, by rw [List.getElem_append_left q]; exact keep h4⟩
  · have e : i = ls.length := by simp at hi; omega
    subst e
    refine ⟨u, by rw [List.getElem?_append_right (by omega), hx]; simp, ?_⟩
    simpa using keep hu
theorem Grid.base {B C : Nat} {w : World} {v : Value} {ls : List (List Int)} (h : Grid B w v ls) (hC : C ≤ B) : Grid C w v ls := by
  obtain ⟨xs, h1, h2⟩ := h
  exact ⟨xs, own_base h1 hC, fun i hi => by obtain ⟨u, h3, h4⟩ := h2 i hi; exact ⟨u, h3, own_base h4 hC⟩⟩

def Made (l : List Int) (B N : Nat) {c : Nat} (pre : List (Fin c)) (W : World) : Prop := ∃ v, Boxed W B 24 v ∧ Grid N W v (pre.map fun (k : Fin c) => piece l c k)

theorem round {c : Nat} {l : List Int} {w W W2 w3 : World} {N : Nat} {v v' u : Value} {xs : List Value} {pre : List (Fin c)} {x : Fin c} (hN : N = w.heap.size + 3) (hW : N ≤ W.heap.size) (hv : Boxed W w.heap.size 24 v) (hB : Below w.heap.size w W)
    (h1 : W.ownsRow N 22 1 v (pre.map fun (k : Fin c) => piece l c k).length xs) (h2 : ∀ i (h : i < (pre.map fun (k : Fin c) => piece l c k).length), ∃ u, xs[i]? = some u ∧ Il.Own 3 .i64 N W u (pre.map fun (k : Fin c) => piece l c k)[i])
    (hB2 : Below W.heap.size W W2) (hu : Il.Own 3 .i64 W.heap.size W2 u (piece l c x)) (hn : w3.ownsRow N 22 1 v' ((pre.map fun (k : Fin c) => piece l c k).length + 1) (xs ++ [u])) (hg : (W2.alloc (.cells #[u] 22)).grownBy w3 v.ownBlock) :
    Boxed w3 w.heap.size 24 v ∧ KeepsFrom N W (w3.setCell ⟨w.heap.size, 0, none⟩ v') ∧ Kp (w.heap.size + 1 + 1) (w.heap.size + 1) W (w3.setCell ⟨w.heap.size, 0, none⟩ v') ∧ Made l w.heap.size N (pre ++ [x]) (w3.setCell ⟨w.heap.size, 0, none⟩ v') ∧
      Below w.heap.size w (w3.setCell ⟨w.heap.size, 0, none⟩ v') := by
  have hs2 := hB2.size
  have hv2 : Boxed W2 w.heap.size 24 v := (hB2.block _ hv.lt).trans hv
  have h12 : W2.ownsRow N 22 1 v (pre.map fun (k : Fin c) => piece l c k).length xs := own_kept h1 fun g _ _ _ hh _ => hB2.block g (block_lt hh)
  obtain ⟨a1, a2, a3, a4, a5⟩ := hv2.appended (by decide) (own_base h12 (by omega)) (n₀ := w.heap.size) (by omega) (Nat.le_refl _) (own_base hn (by omega)) hg
  have hrow : ∀ b, b < N → some b ≠ v.ownBlock := fun b hb e => by
    have := (h12.lt b e.symm).1
    omega
  refine ⟨a1, (⟨hB2.size, fun k o _ hk _ => (hB2.block k (block_lt hk)).trans hk⟩ : KeepsFrom N W W2).trans (a4.from N), ⟨?_, ?_⟩, ⟨v', a2, ?_⟩, ?_⟩
  · rw [Below.heap_setCell _ _ _ _ (show w.heap.size + 1 + 1 ≠ w.heap.size by omega), hg.block _ (by simp; omega) (hrow _ (by omega)), Below.heap_alloc _ _ _ (by omega), hB2.block _ (by omega)]
  · rw [Below.heap_setCell _ _ _ _ (show w.heap.size + 1 ≠ w.heap.size by omega), hg.block _ (by simp; omega) (hrow _ (by omega)), Below.heap_alloc _ _ _ (by omega), hB2.block _ (by omega)]
  · rw [List.map_append, List.map_cons, List.map_nil]
    have hq : Grid N w3 v' ((pre.map fun (k : Fin c) => piece l c k) ++ [piece l c x]) :=
      Grid.snoc (w := W2.alloc (.cells #[u] 22)) (World.ownsRow.alloc h12 _) (fun i hi => by
        obtain ⟨q, h3, h4⟩ := h2 i hi
        exact ⟨q, h3, World.ownsRow.alloc (own_kept h4 fun g _ _ _ hh _ => hB2.block g (block_lt hh)) _⟩) (World.ownsRow.alloc (own_base hu hW) _) hn hg
    exact hq.kept fun g _ _ _ hNg _ => Below.heap_setCell _ _ _ _ (show g ≠ w.heap.size by omega)
  · exact (hB.trans (hB2.mono hB.size)).trans a5
end Go.Proofs.Ytjljdfeglikbjaa.Rc
