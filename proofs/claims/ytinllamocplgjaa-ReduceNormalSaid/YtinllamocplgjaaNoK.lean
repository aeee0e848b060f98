import Derived.Test.YtinllamocplgjaaNoJ
import Derived.Test.YtinllamocplgjaaNoM
import Derived.Laws.MakeOwn
set_option maxRecDepth 100000
namespace Go.Proofs.Ytinllamocplgjaa.No
open Go Go.Ms Go.Pg Go.Rc Go.No Go.ChangeShapes Go.WideShapes Go.ChangeAt Go.RowKit Go.Deep Go.Shelf Go.Proofs.Ytinllamocplgjaa.Rc

theorem own_same {w w' : World} {B : Nat} {e : TypeId} {size : Nat} {v : Value} {n : Nat} {xs : List Value} (h : w.ownsRow B e size v n xs) (k : ∀ (g : Nat) cs, B ≤ g → w.heap[g]? = some (Obj.cells cs e (0, 0)) → w'.heap[g]? = w.heap[g]?) : w'.ownsRow B e size v n xs := by
  refine ⟨h.1, ?_⟩
  rcases h.2 with h2 | ⟨g, cap, cur, rfl, hb, hh, r⟩
  · exact .inl h2
  · exact .inr ⟨g, cap, cur, rfl, hb, (k g _ hb hh).trans hh, r⟩
theorem OwnP.below {B C : Nat} {w w' : World} {v : Value} {l : List Pick} (h : OwnP B w v l) (hC : w.heap.size ≤ C) (hb : Below C w w') : OwnP B w' v l := own_same h fun g _ _ hh => hb.block g (Nat.lt_of_lt_of_le (block_lt hh) hC)
theorem picks_drewN {w : World} {v : Value} {l : List Pick} (h : Picks w v l) (n : Nat) : Picks (w.drewN n) v l := h

theorem run_pushP {w0 w : World} {B : Nat} {v vx : Value} {l ns : List Pick} (hO : OwnP B w v l) (hr : Picks w0 vx ns) (h0 : Below w0.heap.size w0 w) (hB : B ≤ w.heap.size) (hlen : l.length + ns.length ≤ 10000000) (ty : TypeId) :
    ∃ v' w', (Builtin.append_ #[28, 28] ty #[v, vx]).run Try.prog w = .ok v' w' ∧ OwnP B w' v' (l ++ ns) ∧ Below B w w' := by
  obtain ⟨oa, cap, rfl, _, hr⟩ := hr
  obtain ⟨ht, i, z, hi, hz, hsz, hb, hzs, hpos⟩ := EP
  rcases Nat.eq_zero_or_pos ns.length with hn | hn
  · have hn : ns = [] := List.eq_nil_of_length_eq_zero hn
    subst hn
    rcases oa with _ | ad
    · refine ⟨v, w, ?_, by simpa using hO, Below.refl _ _⟩
      rcases hO.2 with ⟨rfl, _⟩ | ⟨g, cap2, cur, rfl, _, _, hnc, _⟩
      · simp [Builtin.append_, run_underlying ht, sizeOf, typeInfo, hi, Builtin.lenOf, Builtin.firstCells]
      · simp [Builtin.append_, run_underlying ht, sizeOf, typeInfo, hi, Builtin.lenOf, Builtin.firstCells, hnc, storeCells]
    · obtain ⟨v', w', hrun, h2, h3, _, _⟩ := run_append_own_at (P := Try.prog) w B 28 ty 36 i z 2 16 ht hi hz hsz hb hzs hpos v _ _ hO ad 0 cap [] (by simp) (fun j u hu => by simp at hu) (fun u hu => by simp at hu) (by unfold maxLen; omega) (by rw [Nat.add_zero]; omega) hB
      exact ⟨v', w', hrun, by unfold OwnP; simpa using h2, (Below.refl B w).grown h3 hB fun k hk => (World.ownsRow.lt hO k hk).1⟩
  · obtain ⟨b, p, rfl, _⟩ := hr 0 hn
    have hnews : ∀ j u, (ns.flatMap pc)[j]? = some u → w.cell? ((⟨b, p, none⟩ : Addr).add j) = some u := by
      intro j u hu
      have hj : j < ns.length * 2 := by
        have := (List.getElem?_eq_some_iff.1 hu).1
        rw [pc_len] at this
        exact this
      obtain ⟨q, hqj⟩ : ∃ q, j = q * 2 ∨ j = q * 2 + 1 := ⟨j / 2, by omega⟩
      rcases hqj with rfl | rfl
      · have hq : q < ns.length := by omega
        obtain ⟨b', p', e', hP⟩ := hr q hq
        simp only [Option.some.injEq, Addr.mk.injEq] at e'
        obtain ⟨rfl, rfl, _⟩ := e'
        rw [(pc_get ns q hq).1] at hu
        rw [Go.WideShapes.add_plain, cell_below h0 hP.1.1, ← hu]
      · have hq : q < ns.length := by omega
        obtain ⟨b', p', e', hP⟩ := hr q hq
        simp only [Option.some.injEq, Addr.mk.injEq] at e'
        obtain ⟨rfl, rfl, _⟩ := e'
        rw [(pc_get ns q hq).2] at hu
        rw [Go.WideShapes.add_plain, ← Nat.add_assoc, cell_below h0 hP.2.1, ← hu]
    have hone : ∀ u ∈ ns.flatMap pc, u.oneCell' = true := by
      intro u hu
      obtain ⟨x, _, hx⟩ := List.mem_flatMap.1 hu
      simp [pc] at hx
      rcases hx with rfl | rfl <;> rfl
    obtain ⟨v', w', hrun, h2, h3, _, _⟩ := run_append_own_at (P := Try.prog) w B 28 ty 36 i z 2 16 ht hi hz hsz hb hzs hpos v _ _ hO ⟨b, p, none⟩ ns.length cap (ns.flatMap pc) (by rw [pc_len]) hnews hone (by unfold maxLen; omega) (by omega) hB
    exact ⟨v', w', hrun, by unfold OwnP; rw [List.length_append, List.flatMap_append]; exact h2, (Below.refl B w).grown h3 hB fun k hk => (World.ownsRow.lt hO k hk).1⟩
theorem wpl_pushP {ops : Array Oper} {rest : List Oper} {o : Oper} {a : Act} {Q : Exit → Act → World → Prop} {w0 w : World} (hgd : o.guard = none) (s x : Operand)
    (ho : o.op = .call { callee := .builtin .append, args := #[s, x], argTypes := #[28, 28] }) {B : Nat} {v vx : Value} {l ns : List Pick} (hO : OwnP B w v l) (hr : Picks w0 vx ns) (h0 : Below w0.heap.size w0 w) (hB : B ≤ w.heap.size) (hs : a.eval s = v) (hx : a.eval x = vx)
    (hlen : l.length + ns.length ≤ 10000000) (h : ∀ v' w', OwnP B w' v' (l ++ ns) → Below B w w' → wpList Try.prog ops Q rest (a.put o.dst v') w') : wpList Try.prog ops Q (o :: rest) a w := by
  refine wpList_plain hgd fun _ hK => ?_
  obtain ⟨v', w', hrun, h2, h3⟩ := run_pushP hO hr h0 hB hlen o.type
  unfold Oper.wp execOp
  simp only [ho, resolve, invoke, builtin, Sem.run_bind, Sem.run_pure, Result.andThen_ok, List.map_toArray, List.map_cons, List.map_nil, hs, hx, hrun]
  exact hK _ _ (h v' w' h2 h3)

theorem own_num {w : World} {B : Nat} {v : Value} {l : List Int} (h : Go.Il.Own 3 .i64 B w v l) (h0 : 0 < l.length) :
    ∃ g cap, v = .slice (some ⟨g, 0, none⟩) l.length cap ∧ l.length ≤ cap ∧ B ≤ g ∧ ∀ i (hi : i < l.length), w.cell? ⟨g, i, none⟩ = some (.int .i64 l[i]) ∧ w.frozen? ⟨g, i, none⟩ = false := by
  rcases h.2 with ⟨_, e0⟩ | ⟨g, cap, cur, e, hb, hg, hcap, _, _, _⟩
  · omega
  · refine ⟨g, cap, e, hcap, hb, fun i hi => ⟨Go.Il.Own.row h e i hi, frozen_of hg _⟩⟩
end Go.Proofs.Ytinllamocplgjaa.No
