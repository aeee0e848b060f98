import Derived.Test.YtmkapmbmgpnjaaaDsN
import Derived.Test.YtmkapmbmgpnjaaaDlH
import Derived.Maps.AppendAt
import Derived.Maps.OwnIn
set_option maxRecDepth 100000
set_option linter.unusedSimpArgs false
set_option linter.unusedVariables false
namespace Go.Proofs.Ytmkapmbmgpnjaaa.Se
open Go Go.Ms Go.Pg Go.Bi Go.Se Go.ChangeShapes Go.WideShapes Go.ChangeAt Go.RowKit Go.Deep Go.Shelf Go.Proofs.Ytmkapmbmgpnjaaa.Bi

attribute [local go_sem] Oper.semAt_some

/-! Chunks. -/
theorem one101 (w : World) (x : Obj) : Below w.heap.size w (w.alloc x) := (Below.refl _ w).alloc (Nat.le_refl _) x
def Made (l : List Int) (B N : Nat) {c : Nat} (pre : List (Fin c)) (W : World) : Prop := ∃ v, Boxed W B 22 v ∧ Grid N W v (pre.map fun (k : Fin c) => Rc.piece l c k)

theorem round101 {c : Nat} {l : List Int} {w W W2 w3 : World} {N : Nat} {v v' u : Value} {xs : List Value} {pre : List (Fin c)} {x : Fin c} (hN : N = w.heap.size + 3) (hW : N ≤ W.heap.size) (hv : Boxed W w.heap.size 22 v) (hB : Below w.heap.size w W)
    (h1 : W.ownsRow N 30 1 v (pre.map fun (k : Fin c) => Rc.piece l c k).length xs) (h2 : ∀ i (h : i < (pre.map fun (k : Fin c) => Rc.piece l c k).length), ∃ u, xs[i]? = some u ∧ Il.Own 3 .i64 N W u (pre.map fun (k : Fin c) => Rc.piece l c k)[i])
    (hB2 : Below W.heap.size W W2) (hu : Il.Own 3 .i64 W.heap.size W2 u (Rc.piece l c x)) (hn : w3.ownsRow N 30 1 v' ((pre.map fun (k : Fin c) => Rc.piece l c k).length + 1) (xs ++ [u])) (hg : (W2.alloc (.cells #[u] 30)).grownBy w3 v.ownBlock) :
    Boxed w3 w.heap.size 22 v ∧ KeepsFrom N W (w3.setCell ⟨w.heap.size, 0, none⟩ v') ∧ Kp (w.heap.size + 1 + 1) (w.heap.size + 1) W (w3.setCell ⟨w.heap.size, 0, none⟩ v') ∧ Made l w.heap.size N (pre ++ [x]) (w3.setCell ⟨w.heap.size, 0, none⟩ v') ∧
      Below w.heap.size w (w3.setCell ⟨w.heap.size, 0, none⟩ v') := by
  have hs2 := hB2.size
  have hv2 : Boxed W2 w.heap.size 22 v := (hB2.block _ hv.lt).trans hv
  have h12 : W2.ownsRow N 30 1 v (pre.map fun (k : Fin c) => Rc.piece l c k).length xs := own_kept h1 fun g _ _ _ hh _ => hB2.block g (block_lt hh)
  obtain ⟨a1, a2, a3, a4, a5⟩ := hv2.appended (by decide) (own_base h12 (by omega)) (n₀ := w.heap.size) (by omega) (Nat.le_refl _) (own_base hn (by omega)) hg
  have hrow : ∀ b, b < N → some b ≠ v.ownBlock := fun b hb e => by
    have := (h12.lt b e.symm).1
    omega
  refine ⟨a1, (⟨hB2.size, fun k o _ hk _ => (hB2.block k (block_lt hk)).trans hk⟩ : KeepsFrom N W W2).trans (a4.from N), ⟨?_, ?_⟩, ⟨v', a2, ?_⟩, ?_⟩
  · rw [Below.heap_setCell _ _ _ _ (show w.heap.size + 1 + 1 ≠ w.heap.size by omega), hg.block _ (by simp; omega) (hrow _ (by omega)), Below.heap_alloc _ _ _ (by omega), hB2.block _ (by omega)]
  · rw [Below.heap_setCell _ _ _ _ (show w.heap.size + 1 ≠ w.heap.size by omega), hg.block _ (by simp; omega) (hrow _ (by omega)), Below.heap_alloc _ _ _ (by omega), hB2.block _ (by omega)]
  · rw [List.map_append, List.map_cons, List.map_nil]
    have hq : Grid N w3 v' ((pre.map fun (k : Fin c) => Rc.piece l c k) ++ [Rc.piece l c x]) :=
      Grid.snoc (w := W2.alloc (.cells #[u] 30)) (World.ownsRow.alloc h12 _) (fun i hi => by
        obtain ⟨q, h3, h4⟩ := h2 i hi
        exact ⟨q, h3, World.ownsRow.alloc (own_kept h4 fun g _ _ _ hh _ => hB2.block g (block_lt hh)) _⟩) (World.ownsRow.alloc (own_base hu hW) _) hn hg
    exact hq.kept fun g _ _ _ hNg _ => Below.heap_setCell _ _ _ _ (show g ≠ w.heap.size by omega)
  · exact (hB.trans (hB2.mono hB.size)).trans a5
theorem stepIn_push {F : Fence} {nF : Nat} {P : Program} {ops : Array Oper} {o : Oper} {a : Act} {w : World} {K : Act → World → Prop} {Q : Exit → Act → World → Prop} {X : Prop} (hgd : o.guard = none) (s x : Operand) (t : TypeId)
    (ho : o.op = .call { callee := .builtin .append, args := #[s, x], argTypes := #[t, t] }) (B : Nat) (e : TypeId) (i : TypeInfo) (z : Value) (size bytes : Nat) (ht : P.underlying t = some (.slice e)) (hi : P.info? e = some i) (hz : i.zero = some z)
    (hsize : i.size = size) (hby : i.bytes = bytes) (hzs : z.cells.size = size) (hsz : 0 < size) (v : Value) (n : Nat) (xs : List Value) (hs : a.eval s = v) (hown : w.ownsRow B e size v n xs)
    (ad : Addr) (m c : Nat) (news : List Value) (hx : a.eval x = .slice (some ad) m c) (hl : news.length = m * size) (hnews : ∀ j u, news[j]? = some u → w.cell? (ad.add j) = some u) (h1 : ∀ u ∈ news, u.oneCell' = true)
    (h63 : n + m ≤ maxLen) (hbytes : (n + m) * bytes ≤ 140737488355328) (hbase : B ≤ w.heap.size)
    (h : ∀ v' w', w'.ownsRow B e size v' (n + m) (xs ++ news) → w.grownBy w' v.ownBlock → K (a.put o.dst v') w') :
    if Region.wanted o (yielded ops a.tmps) = true then Oper.wpIn F nF P o a w K Q else X := by
  have hw : Region.wanted o (yielded ops a.tmps) = true := by simp [Region.wanted, hgd]
  rw [if_pos hw]
  obtain ⟨v', w', hr, h2, h3, _, _⟩ := run_append_own_at (P := P) w B t o.type e i z size bytes ht hi hz hsize hby hzs hsz v n xs hown ad m c news hl hnews h1 h63 hbytes hbase
  unfold Oper.wpIn
  refine ⟨by simp [Oper.about, ho, resolve, Target.leads, Sem.run_pure], ?_⟩
  rw [Oper.semAt_plain F _ _ (by rw [ho]; intro c hc'; cases hc')]
  simp [execOp, ho, resolve, invoke, builtin, hs, hx, hr, Result.andThen]
  exact h _ _ h2 h3

theorem stepIn_skip {F : Fence} {nF : Nat} {P : Program} {ops : Array Oper} {o : Oper} {a : Act} {w w' : World} {K : Act → World → Prop} {Q : Exit → Act → World → Prop} {X : Prop} (hgd : o.guard = none) (hd : ∀ c, o.op ≠ .defer c) (hab : o.about P w a.eval = none)
    (hr : (execOp a.eval o).run P w = .ok .skip w') (h : K (a.put o.dst undef) w') : if Region.wanted o (yielded ops a.tmps) = true then Oper.wpIn F nF P o a w K Q else X := by
  have hw : Region.wanted o (yielded ops a.tmps) = true := by simp [Region.wanted, hgd]
  rw [if_pos hw]
  unfold Oper.wpIn
  refine ⟨fun f hf => (by rw [hab] at hf; cases hf), ?_⟩
  rw [Oper.semAt_plain F _ _ hd, hr]
  exact h
theorem stepIn_call {F : Fence} {nF : Nat} {P : Program} {ops : Array Oper} {o : Oper} {a : Act} {w : World} {K : Act → World → Prop} {Q : Exit → Act → World → Prop} {X : Prop} {f : Nat} {args : Array Value} {R : Ending → World → Prop} (hgd : o.guard = none) (hd : ∀ c, o.op ≠ .defer c) (hab : o.about P w a.eval = some f) (hf : F.fn f) (hdp : F.depth = none)
    (hr : (execOp a.eval o).run P w = .ok (.enter f args) w) (hc : CallsIn F (nF - 1) P f args w R) (h : ∀ e w', R e w' → ∃ v, e = .returned v ∧ K (a.put o.dst v) w') : if Region.wanted o (yielded ops a.tmps) = true then Oper.wpIn F nF P o a w K Q else X := by
  have hw : Region.wanted o (yielded ops a.tmps) = true := by simp [Region.wanted, hgd]
  rw [if_pos hw]
  unfold Oper.wpIn
  refine ⟨fun g hg => (by rw [hab] at hg; cases hg; exact hf), ?_⟩
  rw [Oper.semAt_plain F _ _ hd, hr]
  refine ⟨fun hq => (by rw [hdp] at hq; cases hq), hc.mono fun e w' hR => ?_⟩
  obtain ⟨v, rfl, hk⟩ := h e w' hR
  exact hk

theorem stopsK {B1 B2 b o cap n c : Nat} (hcap : n ≤ cap) (hn : n ≤ 1000000) (hc : c ≤ n) {w : World} (hB1 : B1 < w.heap.size) (hB2 : B2 < w.heap.size)
    (h1 : w.cell? ⟨B1, 0, none⟩ = some (.int .i64 c)) (h2 : 0 < c → w.cell? ⟨B2, 0, none⟩ = some (.slice (some ⟨b, o, none⟩) n cap)) :
    SeqStopsK Fence.wide 3 Try.prog 162 #[.pointer (some ⟨B1, 0, none⟩), .pointer (some ⟨B2, 0, none⟩)] (enc b o cap n (c := c)) (Kp B1 B2) (fun ys => ys = List.finRange c) (fun pre => pre <+: List.finRange c) c w := by
  intro l J Jx W hW hJ _ hY h0
  refine (chunks1 hcap hn hc J Jx (fun _ _ => False) (fun pre x W h1 h2 _ => ?_) W ((hW.cell (p := ⟨B1, 0, none⟩) hB1).trans h1) (fun h => (hW.cell (p := ⟨B2, 0, none⟩) hB2).trans (h2 h)) h0
    fun pre W1 h => hJ pre W1 W1.drew none h ⟨rfl, rfl, rfl, Nat.le_refl _, fun _ _ _ => rfl⟩ (fun r e => by cases e)).mono ?_
  · obtain ⟨fn, tmps, assign, body, hy, hR⟩ := hY pre x W h1 h2
    exact ⟨fn, tmps, assign, body, hy, hR.mono fun e W' h => h.elim .inl fun h => .inr (.inl h)⟩
  · rintro e w' (h | ⟨ch, _, h⟩)
    · exact h
    · exact h.elim
set_option maxHeartbeats 8000000 in
theorem chunksIn {w : World} {oa : Option Addr} {cap : Nat} {l : List Int} {z : Int} (h : RowAt 1 (NumAt .i64) w (.slice oa l.length cap) l) (hcap : l.length ≤ cap) (hl : l.length ≤ 400) :
    CallsIn Fence.wide 4 Try.prog 101 #[.slice oa l.length cap, .int .i64 z] w fun e W' => ∃ v', e = .returned v' ∧ Below w.heap.size w W' ∧ Grid w.heap.size W' v' (Rc.pieces l (Rc.count l.length z) (Rc.count l.length z)) := by
  have HR := hide h
  have hla := h.len
  have ha : ∀ i (h : i < l.length), ∃ b o, oa = some ⟨b, o, none⟩ ∧ NumAt .i64 w b (o + i * 1) l[i] := by
    obtain ⟨oa', cap', e, _, ha⟩ := h
    cases e
    exact ha
  refine callsIn_of_wp_marks Try.func101 rfl trivial ?_ rfl
  simp only [Try.ntmps101, List.size_toArray, List.length_cons, List.length_nil, Nat.reduceAdd, Nat.reduceSub, Array.replicate_succ, Array.replicate_zero, List.push_toArray, List.append_toArray, List.nil_append, List.cons_append]
  gi_wp2_with (first
    | (refine ⟨trivial, ?_⟩
       gi_at_call 146
       refine (callsIn_wide.2 (maker (by omega))).mono ?_
       rintro e w1 ⟨rfl, hB1, hs1, hc1, hc2⟩)
    | fail)
  obtain ⟨i0, hi, hz0, hz1, hz2⟩ := info_parts info30
  have hN : w1.heap.size = w.heap.size + 3 := by rw [hs1]; simp
  have hbox : Boxed w1 w.heap.size 22 (.slice none 0 0) := by
    refine (hB1.block w.heap.size (by simp)).trans ?_
    exact new_block w _
  have H1 := hide hB1
  clear hB1
  generalize hc : Rc.count l.length z = c at *
  have hcl : c ≤ l.length := by rw [← hc]; exact Rc.count_le _ _
  obtain ⟨b, o, hbo⟩ : ∃ b o, 0 < c → oa = some ⟨b, o, none⟩ := by
    by_cases q : 0 < c
    · obtain ⟨b, o, e, _⟩ := ha 0 (by omega)
      exact ⟨b, o, fun _ => e⟩
    · exact ⟨0, 0, fun h => absurd h q⟩
  refine wpIn_rangeFunc_ownG rfl (by omega) (gf := 162) (lb := #[.pointer (some ⟨w.heap.size + 1 + 1, 0, none⟩), .pointer (some ⟨w.heap.size + 1, 0, none⟩)]) rfl trivial (enters_of Try.func162 (by kernel_rfl) rfl)
    (stopsK (b := b) (o := o) (cap := cap) (n := l.length) (c := c) hcap (by omega) hcl (by omega) (by omega) (by simpa using hc1) (fun h => by rw [hbo h] at hc2; simpa using hc2)) (fun h k => h.trans k) (fun W r o o' hr hW _ _ => ?_) (Below.refl _ _) (fun _ => rfl)
    (fun pre W => (Made l w.heap.size (w.heap.size + 3) pre W ∧ Below w.heap.size w W) ∧ w.heap.size + 3 ≤ W.heap.size) (fun _ _ _ => False) ?_ (fun _ _ _ _ _ hs _ _ => hs) ⟨⟨⟨_, hbox, Grid.nil _ _⟩, ?_⟩, by omega⟩
    (fun k => { tmps := #[.slice oa l.length cap, .int .i64 z, undef, undef, .slice none 0 0, .pointer (some ⟨w.heap.size, 0, none⟩), .slice (some ⟨b, o + Rc.cut l.length c k, none⟩) (Rc.cut l.length c (k + 1) - Rc.cut l.length c k) (cap - Rc.cut l.length c k), .slice oa l.length cap, .int .i64 z,
        .func (.func 162) #[] #[.pointer (some ⟨w.heap.size + 1 + 1, 0, none⟩), .pointer (some ⟨w.heap.size + 1, 0, none⟩)], .slice (some ⟨b, o + Rc.cut l.length c k, none⟩) (Rc.cut l.length c (k + 1) - Rc.cut l.length c k) (cap - Rc.cut l.length c k), undef, undef, undef, undef, undef, undef], defers := [] }) ?assign ?body ?done ?stop
  · have hlt := block_lt hW
    exact ⟨(grownBy_putObj' W r o').block _ (by omega) (fun e => by injection e; omega), (grownBy_putObj' W r o').block _ (by omega) (fun e => by injection e; omega)⟩
  · rintro pre A B row ⟨⟨⟨q, hq, hG⟩, hB⟩, hsz⟩ hg hr
    refine ⟨⟨⟨q, hq.kept hg fun e => ?_, hG.kept fun g cs t fr _ hh => hg.block g (block_lt hh) fun e => ?_⟩, hB.grown hg hB.size fun k e => ?_⟩, by have := hg.size; omega⟩
    · have := (hr _ e.symm).1
      omega
    · obtain ⟨_, ob, e2, e3⟩ := hr g e.symm
      rw [hh] at e2
      cases e2
      cases e3
    · have := (hr _ e).1
      omega
  · exact (one101 w _).trans (H1.out.mono (one101 w _).size)
  case assign =>
    intro r x W K hK
    dsimp only [enc]
    gi_wp2
    exact hK
  case body =>
    rintro r pre x W ⟨⟨⟨v, hv, hG⟩, hB⟩, hW⟩ hlt
    have hcell := hv.cell
    obtain ⟨xs, h1, h2⟩ := hG
    have hsz : w.heap.size + 3 ≤ W.heap.size := hW
    have HP : Hid (RowAt 1 (NumAt .i64) W.drew (.slice (some ⟨b, o + Rc.cut l.length c x, none⟩) (Rc.cut l.length c (x + 1) - Rc.cut l.length c x) (cap - Rc.cut l.length c x)) (Rc.piece l c x)) := by
      have e := Rc.piece_length l (c := c) (k := x) (by omega) x.2
      rw [← e]
      refine ⟨_, _, rfl, by rw [e]; have := Rc.cut_le (n := l.length) (c := c) (k := x + 1) (by omega) x.2; omega, fun i hi => ⟨b, o + Rc.cut l.length c x, rfl, ?_⟩⟩
      have hi2 : Rc.cut l.length c x + i < l.length := by
        have := Rc.cut_le (n := l.length) (c := c) (k := x + 1) (by omega) x.2
        omega
      obtain ⟨b', o', e', hP⟩ := ha _ hi2
      have e2 := hbo (by have := x.2; omega)
      rw [e2] at e'
      cases e'
      have hg := Rc.piece_get l c x i hi
      rw [List.getElem?_eq_getElem hi, List.getElem?_eq_getElem hi2] at hg
      injection hg with hg
      rw [hg, show o + Rc.cut l.length c x + i * 1 = o + (Rc.cut l.length c x + i) * 1 by omega]
      exact ⟨cell_below (Below.drew hB) hP.1, hP.2⟩
    have hpl : (Rc.piece l c x).length ≤ 400 := by
      have e := Rc.piece_length l (c := c) (k := x) (by have := x.2; omega) x.2
      have := Rc.cut_le (n := l.length) (c := c) (k := x + 1) (by have := x.2; omega) x.2
      omega
    gi_wp2
    refine wpIn_region_any mixedS ?_
    refine wpAnyIn_ready (rs := [0, 1]) (by kernel_rfl) (by simp) (AllReadyIn.cons rfl (fun K hK => ?_) (AllReadyIn.cons rfl (fun K hK => ?_) (AllReadyIn.nil)))
    · refine Rp.stepIn_value rfl (fun _ h => by cases h) rfl (v := v) (w' := W.drew) (by go_simp) ?_
      refine hK _ _ ?_
      clear hK K
      refine wpAnyIn_ready (rs := [1]) (by kernel_rfl) (by simp) (AllReadyIn.cons rfl (fun K hK => ?_) (AllReadyIn.nil))
      refine Rp.stepIn_value rfl (fun _ h => by cases h) rfl rfl ?_
      refine hK _ _ ?_
      clear hK K
      refine wpAnyIn_ready (rs := [2]) (by kernel_rfl) (by simp) (AllReadyIn.cons rfl (fun K hK => ?_) (AllReadyIn.nil))
      refine stepIn_call rfl (fun _ h => by cases h) (f := 105) (args := #[.slice (some ⟨b, o + Rc.cut l.length c x, none⟩) (Rc.cut l.length c (x + 1) - Rc.cut l.length c x) (cap - Rc.cut l.length c x)]) (by go_simp) trivial rfl (by go_simp) (CallsIn.inRound r (callsIn_wide.2 (cloneProg (w := W.drew) HP.out (by omega)))) ?_
      rintro e w2 ⟨u, rfl, hB2', hO2'⟩
      have hB2 : Below W.heap.size W w2 := (Below.drew (Below.refl _ W)).trans hB2'
      have hO2 : Il.Own 3 .i64 W.heap.size w2 u (Rc.piece l c x) := hO2'
      have hv2 : Boxed w2 w.heap.size 22 v := (hB2.block _ hv.lt).trans hv
      have hcell2 := hv2.cell
      have hcell22 := (hv2.alloc (.cells #[u] 30)).cell
      have hU : ∃ oa cap, u = .slice oa (Rc.piece l c x).length cap := hO2.form
      clear hB2' hO2'
      refine ⟨_, rfl, ?_⟩
      refine hK _ _ ?_
      clear hK K
      refine wpAnyIn_ready (rs := [3]) (by kernel_rfl) (by simp) (AllReadyIn.cons rfl (fun K hK => ?_) (AllReadyIn.nil))
      refine Rp.stepIn_value rfl (fun _ h => by cases h) rfl (v := .slice (some ⟨w2.heap.size, 0, none⟩) 1 1) (w' := w2.alloc (.cells #[u] 30)) (by obtain ⟨oa2, cap2, rfl⟩ := hU; go_simp) ?_
      refine hK _ _ ?_
      clear hK K
      refine wpAnyIn_ready (rs := [4]) (by kernel_rfl) (by simp) (AllReadyIn.cons rfl (fun K hK => ?_) (AllReadyIn.nil))
      refine stepIn_push rfl (.tmp 11) (.tmp 14) 22 rfl (w.heap.size + 3) 30 i0 (.slice none 0 0) 1 24 Try.underlying22 hi hz0 hz1 hz2 rfl (by decide) v _ xs (by simp [Act.eval, Act.put]) (World.ownsRow.alloc (own_kept h1 fun g _ _ _ hh _ => hB2.block g (block_lt hh)) _) ⟨w2.heap.size, 0, none⟩ 1 1 [u] (by simp [Act.eval, Act.put]) rfl (one_new (cell_of (new_block w2 _) 0)) (by intro q hq; obtain ⟨oa2, cap2, rfl⟩ := hU; simp at hq; subst hq; rfl) (by have := hlt; simp [maxLen]; omega) (by simp; omega) (by have := hB2.size; simp; omega) ?_
      intro v' w3 hn hg
      obtain ⟨g3, cap3, rfl⟩ := ownsRow_succ hn
      obtain ⟨hv3, f1, f2, f3, f4⟩ := round101 (x := x) rfl (by omega) hv hB h1 h2 hB2 hO2 hn hg
      have hcell3 := hv3.cell
      have hfr3 := hv3.frozen
      refine hK _ _ ?_
      clear hK K
      refine wpAnyIn_ready (rs := [5]) (by kernel_rfl) (by simp) (AllReadyIn.cons rfl (fun K hK => ?_) (AllReadyIn.nil))
      refine stepIn_skip rfl (fun _ h => by cases h) rfl (w' := w3.setCell ⟨w.heap.size, 0, none⟩ (.slice (some ⟨g3, 0, none⟩) ((pre.map fun (k : Fin c) => Rc.piece l c k).length + 1) cap3)) (by go_simp) ?_
      refine hK _ _ ?_
      clear hK K
      refine wpAnyIn_done (by kernel_rfl) ?_ _
      exact ⟨hN ▸ f1, f2, ⟨f3, f4⟩, by have := f1.size; omega⟩
    · refine Rp.stepIn_value rfl (fun _ h => by cases h) rfl rfl ?_
      refine hK _ _ ?_
      clear hK K
      refine wpAnyIn_ready (rs := [0, 2]) (by kernel_rfl) (by simp) (AllReadyIn.cons rfl (fun K hK => ?_) (AllReadyIn.cons rfl (fun K hK => ?_) (AllReadyIn.nil)))
      · refine Rp.stepIn_value rfl (fun _ h => by cases h) rfl (v := v) (w' := W.drew) (by go_simp) ?_
        refine hK _ _ ?_
        clear hK K
        refine wpAnyIn_ready (rs := [2]) (by kernel_rfl) (by simp) (AllReadyIn.cons rfl (fun K hK => ?_) (AllReadyIn.nil))
        refine stepIn_call rfl (fun _ h => by cases h) (f := 105) (args := #[.slice (some ⟨b, o + Rc.cut l.length c x, none⟩) (Rc.cut l.length c (x + 1) - Rc.cut l.length c x) (cap - Rc.cut l.length c x)]) (by go_simp) trivial rfl (by go_simp) (CallsIn.inRound r (callsIn_wide.2 (cloneProg (w := W.drew) HP.out (by omega)))) ?_
        rintro e w2 ⟨u, rfl, hB2', hO2'⟩
        have hB2 : Below W.heap.size W w2 := (Below.drew (Below.refl _ W)).trans hB2'
        have hO2 : Il.Own 3 .i64 W.heap.size w2 u (Rc.piece l c x) := hO2'
        have hv2 : Boxed w2 w.heap.size 22 v := (hB2.block _ hv.lt).trans hv
        have hcell2 := hv2.cell
        have hcell22 := (hv2.alloc (.cells #[u] 30)).cell
        have hU : ∃ oa cap, u = .slice oa (Rc.piece l c x).length cap := hO2.form
        clear hB2' hO2'
        refine ⟨_, rfl, ?_⟩
        refine hK _ _ ?_
        clear hK K
        refine wpAnyIn_ready (rs := [3]) (by kernel_rfl) (by simp) (AllReadyIn.cons rfl (fun K hK => ?_) (AllReadyIn.nil))
        refine Rp.stepIn_value rfl (fun _ h => by cases h) rfl (v := .slice (some ⟨w2.heap.size, 0, none⟩) 1 1) (w' := w2.alloc (.cells #[u] 30)) (by obtain ⟨oa2, cap2, rfl⟩ := hU; go_simp) ?_
        refine hK _ _ ?_
        clear hK K
        refine wpAnyIn_ready (rs := [4]) (by kernel_rfl) (by simp) (AllReadyIn.cons rfl (fun K hK => ?_) (AllReadyIn.nil))
        refine stepIn_push rfl (.tmp 11) (.tmp 14) 22 rfl (w.heap.size + 3) 30 i0 (.slice none 0 0) 1 24 Try.underlying22 hi hz0 hz1 hz2 rfl (by decide) v _ xs (by simp [Act.eval, Act.put]) (World.ownsRow.alloc (own_kept h1 fun g _ _ _ hh _ => hB2.block g (block_lt hh)) _) ⟨w2.heap.size, 0, none⟩ 1 1 [u] (by simp [Act.eval, Act.put]) rfl (one_new (cell_of (new_block w2 _) 0)) (by intro q hq; obtain ⟨oa2, cap2, rfl⟩ := hU; simp at hq; subst hq; rfl) (by have := hlt; simp [maxLen]; omega) (by simp; omega) (by have := hB2.size; simp; omega) ?_
        intro v' w3 hn hg
        obtain ⟨g3, cap3, rfl⟩ := ownsRow_succ hn
        obtain ⟨hv3, f1, f2, f3, f4⟩ := round101 (x := x) rfl (by omega) hv hB h1 h2 hB2 hO2 hn hg
        have hcell3 := hv3.cell
        have hfr3 := hv3.frozen
        refine hK _ _ ?_
        clear hK K
        refine wpAnyIn_ready (rs := [5]) (by kernel_rfl) (by simp) (AllReadyIn.cons rfl (fun K hK => ?_) (AllReadyIn.nil))
        refine stepIn_skip rfl (fun _ h => by cases h) rfl (w' := w3.setCell ⟨w.heap.size, 0, none⟩ (.slice (some ⟨g3, 0, none⟩) ((pre.map fun (k : Fin c) => Rc.piece l c k).length + 1) cap3)) (by go_simp) ?_
        refine hK _ _ ?_
        clear hK K
        refine wpAnyIn_done (by kernel_rfl) ?_ _
        exact ⟨hN ▸ f1, f2, ⟨f3, f4⟩, by have := f1.size; omega⟩
      · refine stepIn_call rfl (fun _ h => by cases h) (f := 105) (args := #[.slice (some ⟨b, o + Rc.cut l.length c x, none⟩) (Rc.cut l.length c (x + 1) - Rc.cut l.length c x) (cap - Rc.cut l.length c x)]) (by go_simp) trivial rfl (by go_simp) (CallsIn.inRound r (callsIn_wide.2 (cloneProg (w := W.drew) HP.out (by omega)))) ?_
        rintro e w2 ⟨u, rfl, hB2', hO2'⟩
        have hB2 : Below W.heap.size W w2 := (Below.drew (Below.refl _ W)).trans hB2'
        have hO2 : Il.Own 3 .i64 W.heap.size w2 u (Rc.piece l c x) := hO2'
        have hv2 : Boxed w2 w.heap.size 22 v := (hB2.block _ hv.lt).trans hv
        have hcell2 := hv2.cell
        have hcell22 := (hv2.alloc (.cells #[u] 30)).cell
        have hU : ∃ oa cap, u = .slice oa (Rc.piece l c x).length cap := hO2.form
        clear hB2' hO2'
        refine ⟨_, rfl, ?_⟩
        refine hK _ _ ?_
        clear hK K
        refine wpAnyIn_ready (rs := [0, 3]) (by kernel_rfl) (by simp) (AllReadyIn.cons rfl (fun K hK => ?_) (AllReadyIn.cons rfl (fun K hK => ?_) (AllReadyIn.nil)))
        · refine Rp.stepIn_value rfl (fun _ h => by cases h) rfl (v := v) (w' := w2) (by go_simp) ?_
          refine hK _ _ ?_
          clear hK K
          refine wpAnyIn_ready (rs := [3]) (by kernel_rfl) (by simp) (AllReadyIn.cons rfl (fun K hK => ?_) (AllReadyIn.nil))
          refine Rp.stepIn_value rfl (fun _ h => by cases h) rfl (v := .slice (some ⟨w2.heap.size, 0, none⟩) 1 1) (w' := w2.alloc (.cells #[u] 30)) (by obtain ⟨oa2, cap2, rfl⟩ := hU; go_simp) ?_
          refine hK _ _ ?_
          clear hK K
          refine wpAnyIn_ready (rs := [4]) (by kernel_rfl) (by simp) (AllReadyIn.cons rfl (fun K hK => ?_) (AllReadyIn.nil))
          refine stepIn_push rfl (.tmp 11) (.tmp 14) 22 rfl (w.heap.size + 3) 30 i0 (.slice none 0 0) 1 24 Try.underlying22 hi hz0 hz1 hz2 rfl (by decide) v _ xs (by simp [Act.eval, Act.put]) (World.ownsRow.alloc (own_kept h1 fun g _ _ _ hh _ => hB2.block g (block_lt hh)) _) ⟨w2.heap.size, 0, none⟩ 1 1 [u] (by simp [Act.eval, Act.put]) rfl (one_new (cell_of (new_block w2 _) 0)) (by intro q hq; obtain ⟨oa2, cap2, rfl⟩ := hU; simp at hq; subst hq; rfl) (by have := hlt; simp [maxLen]; omega) (by simp; omega) (by have := hB2.size; simp; omega) ?_
          intro v' w3 hn hg
          obtain ⟨g3, cap3, rfl⟩ := ownsRow_succ hn
          obtain ⟨hv3, f1, f2, f3, f4⟩ := round101 (x := x) rfl (by omega) hv hB h1 h2 hB2 hO2 hn hg
          have hcell3 := hv3.cell
          have hfr3 := hv3.frozen
          refine hK _ _ ?_
          clear hK K
          refine wpAnyIn_ready (rs := [5]) (by kernel_rfl) (by simp) (AllReadyIn.cons rfl (fun K hK => ?_) (AllReadyIn.nil))
          refine stepIn_skip rfl (fun _ h => by cases h) rfl (w' := w3.setCell ⟨w.heap.size, 0, none⟩ (.slice (some ⟨g3, 0, none⟩) ((pre.map fun (k : Fin c) => Rc.piece l c k).length + 1) cap3)) (by go_simp) ?_
          refine hK _ _ ?_
          clear hK K
          refine wpAnyIn_done (by kernel_rfl) ?_ _
          exact ⟨hN ▸ f1, f2, ⟨f3, f4⟩, by have := f1.size; omega⟩
        · refine Rp.stepIn_value rfl (fun _ h => by cases h) rfl (v := .slice (some ⟨w2.heap.size, 0, none⟩) 1 1) (w' := w2.alloc (.cells #[u] 30)) (by obtain ⟨oa2, cap2, rfl⟩ := hU; go_simp) ?_
          refine hK _ _ ?_
          clear hK K
          refine wpAnyIn_ready (rs := [0]) (by kernel_rfl) (by simp) (AllReadyIn.cons rfl (fun K hK => ?_) (AllReadyIn.nil))
          refine Rp.stepIn_value rfl (fun _ h => by cases h) rfl (v := v) (w' := (w2.alloc (.cells #[u] 30))) (by go_simp) ?_
          refine hK _ _ ?_
          clear hK K
          refine wpAnyIn_ready (rs := [4]) (by kernel_rfl) (by simp) (AllReadyIn.cons rfl (fun K hK => ?_) (AllReadyIn.nil))
          refine stepIn_push rfl (.tmp 11) (.tmp 14) 22 rfl (w.heap.size + 3) 30 i0 (.slice none 0 0) 1 24 Try.underlying22 hi hz0 hz1 hz2 rfl (by decide) v _ xs (by simp [Act.eval, Act.put]) (World.ownsRow.alloc (own_kept h1 fun g _ _ _ hh _ => hB2.block g (block_lt hh)) _) ⟨w2.heap.size, 0, none⟩ 1 1 [u] (by simp [Act.eval, Act.put]) rfl (one_new (cell_of (new_block w2 _) 0)) (by intro q hq; obtain ⟨oa2, cap2, rfl⟩ := hU; simp at hq; subst hq; rfl) (by have := hlt; simp [maxLen]; omega) (by simp; omega) (by have := hB2.size; simp; omega) ?_
          intro v' w3 hn hg
          obtain ⟨g3, cap3, rfl⟩ := ownsRow_succ hn
          obtain ⟨hv3, f1, f2, f3, f4⟩ := round101 (x := x) rfl (by omega) hv hB h1 h2 hB2 hO2 hn hg
          have hcell3 := hv3.cell
          have hfr3 := hv3.frozen
          refine hK _ _ ?_
          clear hK K
          refine wpAnyIn_ready (rs := [5]) (by kernel_rfl) (by simp) (AllReadyIn.cons rfl (fun K hK => ?_) (AllReadyIn.nil))
          refine stepIn_skip rfl (fun _ h => by cases h) rfl (w' := w3.setCell ⟨w.heap.size, 0, none⟩ (.slice (some ⟨g3, 0, none⟩) ((pre.map fun (k : Fin c) => Rc.piece l c k).length + 1) cap3)) (by go_simp) ?_
          refine hK _ _ ?_
          clear hK K
          refine wpAnyIn_done (by kernel_rfl) ?_ _
          exact ⟨hN ▸ f1, f2, ⟨f3, f4⟩, by have := f1.size; omega⟩
  case done =>
    rintro D ys W hD rfl ⟨⟨⟨v, hv, hG⟩, hB⟩, hW⟩ hK
    have hcell := hv.cell
    gi_wp2
    refine ⟨by simp, .inl ⟨_, _, rfl, run_takeDeferred hK, ?_⟩⟩
    refine ⟨_, results_tmp rfl _ _ _, v, rfl, ?_, ?_⟩
    · exact hB.trans (belowK_b (w := w) (Nat.le_refl _) W D _ _ (by omega) hK rfl rfl)
    · have e : ((List.finRange c).map fun (k : Fin c) => Rc.piece l c k) = Rc.pieces l c c := by
        apply List.ext_getElem
        · simp [Rc.pieces]
        · intro i h1 h2
          simp [Rc.pieces]
      rw [e] at hG
      have hG2 : Grid (w.heap.size + 3) (W.putObj D (.deferred none)) v (Rc.pieces l c c) := hG.kept fun g cs t fr _ hh => (grownBy_putObj' W D _).block g (block_lt hh) fun e => by
        injection e with e
        subst e
        rw [hK] at hh
        cases hh
      have h3 : w.heap.size ≤ w.heap.size + 3 := by omega
      rw [hc]
      exact Grid.base hG2 h3
  case stop =>
    rintro D c pre W _ _ h _
    exact h.elim
end Go.Proofs.Ytmkapmbmgpnjaaa.Se
