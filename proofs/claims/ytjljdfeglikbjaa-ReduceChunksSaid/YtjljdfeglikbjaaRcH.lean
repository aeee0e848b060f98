import Derived.Test.YtjljdfeglikbjaaRcG
set_option maxRecDepth 100000
namespace Go.Proofs.Ytjljdfeglikbjaa.Rc
open Go Go.Ms Go.Pg Go.Rc Go.ChangeShapes Go.WideShapes Go.ChangeAt Go.RowKit Go.Deep

theorem EG : Go.Il.Elem Try.prog 24 22 1 24 := by
  obtain ⟨i0, hi, hz0, hz1, hz2⟩ := info_parts info22
  exact ⟨Try.underlying24, i0, _, hi, hz0, hz1, hz2, rfl, by decide⟩

theorem run_pushRow {P : Program} {t e ty : TypeId} {k : IntKind} {bytes : Nat} (E : Go.Il.IntElem P t e k bytes) (hby : bytes ≤ 8) {w0 w : World} {B : Nat} {v vx : Value} {l ns : List Int} (hO : Go.Il.Own e k B w v l) (hr : RowAt 1 (NumAt k) w0 vx ns) (h0 : Below w0.heap.size w0 w) (hB : B ≤ w.heap.size)
    (hlen : l.length + ns.length ≤ 10000000) : ∃ v' w', (Builtin.append_ #[t, t] ty #[v, vx]).run P w = .ok v' w' ∧ Go.Il.Own e k B w' v' (l ++ ns) ∧ Go.Il.Stp e B w w' := by
  obtain ⟨oa, cap, rfl, _, hr⟩ := hr
  rcases Nat.eq_zero_or_pos ns.length with hz | hz
  · have hn : ns = [] := List.eq_nil_of_length_eq_zero hz
    subst hn
    rcases oa with _ | ad
    · exact ⟨v, w, Go.Il.run_push_nil E hO _ _, by simpa using hO, Go.Il.Stp.refl _ _ _⟩
    · obtain ⟨ht, i, hi, hz, hs, hb⟩ := E
      have hx : l.length * bytes ≤ l.length * 8 := Nat.mul_le_mul_left _ hby
      obtain ⟨v', w', hrun, h2, h3, _, _⟩ := run_append_own_at (P := P) w B t ty e i _ 1 bytes ht hi hz hs hb rfl (by omega) v _ _ hO ad 0 cap [] (by simp) (fun j u hu => by simp at hu) (fun u hu => by simp at hu) (by unfold maxLen; omega) (by rw [Nat.add_zero]; omega) hB
      exact ⟨v', w', hrun, by unfold Go.Il.Own; simpa using h2, Go.Il.Stp.grown hO hB h3⟩
  · obtain ⟨b, p, rfl, _⟩ := hr 0 hz
    obtain ⟨ht, i, hi, hz, hs, hb⟩ := E
    have hx : (ns.length + l.length) * bytes ≤ (ns.length + l.length) * 8 := Nat.mul_le_mul_left _ hby
    have hnews : ∀ j u, (ns.map (Value.int k))[j]? = some u → w.cell? ((⟨b, p, none⟩ : Addr).add j) = some u := by
      intro j u hu
      have hj : j < ns.length := by
        have := (List.getElem?_eq_some_iff.1 hu).1
        simpa using this
      obtain ⟨b', p', e', hP⟩ := hr j hj
      simp only [Option.some.injEq, Addr.mk.injEq] at e'
      obtain ⟨rfl, rfl, _⟩ := e'
      rw [Go.WideShapes.add_plain, cell_below h0 (by simpa using hP.1)]
      simp [hj] at hu
      rw [hu]
    obtain ⟨v', w', hrun, h2, h3, _, _⟩ := run_append_own_at (P := P) w B t ty e i _ 1 bytes ht hi hz hs hb rfl (by omega) v _ _ hO ⟨b, p, none⟩ ns.length cap (ns.map (.int k)) (by simp) hnews Go.Il.one_cells (by unfold maxLen; omega) (by rw [Nat.add_comm]; omega) hB
    exact ⟨v', w', hrun, by unfold Go.Il.Own; rw [List.length_append, List.map_append]; exact h2, Go.Il.Stp.grown hO hB h3⟩

theorem step_pushRow {P : Program} {t e : TypeId} {k : IntKind} {bytes : Nat} (E : Go.Il.IntElem P t e k bytes) (hby : bytes ≤ 8) {ops : Array Oper} {o : Oper} {a : Act} {K : Act → World → Prop} {Q : Exit → Act → World → Prop} {X : Prop} {w0 w : World} (hgd : o.guard = none) (s x : Operand)
    (ho : o.op = .call { callee := .builtin .append, args := #[s, x], argTypes := #[t, t] }) {B : Nat} {v vx : Value} {l ns : List Int} (hO : Go.Il.Own e k B w v l) (hr : RowAt 1 (NumAt k) w0 vx ns) (h0 : Below w0.heap.size w0 w) (hB : B ≤ w.heap.size) (hs : a.eval s = v) (hx : a.eval x = vx)
    (hlen : l.length + ns.length ≤ 10000000) (h : ∀ v' w', Go.Il.Own e k B w' v' (l ++ ns) → Go.Il.Stp e B w w' → K (a.put o.dst v') w') : if Region.wanted o (yielded ops a.tmps) = true then Oper.wp P o a w K Q else X := by
  have hw : Region.wanted o (yielded ops a.tmps) = true := by simp [Region.wanted, hgd]
  rw [if_pos hw]
  obtain ⟨v', w', hrun, h2, h3⟩ := run_pushRow (ty := o.type) E hby hO hr h0 hB hlen
  unfold Oper.wp execOp
  simp only [ho, resolve, invoke, builtin, Sem.run_bind, Sem.run_pure, Result.andThen_ok, List.map_toArray, List.map_cons, List.map_nil, hs, hx, hrun]
  exact h v' w' h2 h3

theorem piece_row {w : World} {b o cap c k : Nat} {l : List Int} (ha : ∀ i (h : i < l.length), ∃ b' o', some (⟨b, o, none⟩ : Addr) = some ⟨b', o', none⟩ ∧ NumAt .i64 w b' (o' + i * 1) l[i]) (hk : k < c) (hl : l.length ≤ 400) :
    RowAt 1 (NumAt .i64) w (.slice (some ⟨b, o + cut l.length c k, none⟩) (cut l.length c (k + 1) - cut l.length c k) (cap - cut l.length c k)) (piece l c k) := by
  have e := piece_length l (c := c) (k := k) (by omega) hk
  have hle := cut_le (n := l.length) (c := c) (k := k + 1) (by omega) hk
  rw [← e]
  refine ⟨_, _, rfl, by rw [e]; omega, fun i hi => ⟨b, o + cut l.length c k, rfl, ?_⟩⟩
  have hi2 : cut l.length c k + i < l.length := by omega
  obtain ⟨b', o', e', hP⟩ := ha _ hi2
  cases e'
  have hg := piece_get l c k i hi
  rw [List.getElem?_eq_getElem hi, List.getElem?_eq_getElem hi2] at hg
  injection hg with hg
  rw [hg, show o + cut l.length c k + i * 1 = o + (cut l.length c k + i) * 1 by omega]
  exact hP
theorem step_base {e : TypeId} {B C : Nat} {w w' : World} (h : Go.Il.Stp e B w w') (hC : C ≤ B) : Below C w w' := h.below.mono hC

theorem more {B : Nat} {w w2 w3 : World} {v v' u : Value} {ls : List (List Int)} {m : List Int} {xs : List Value} (hB : B ≤ w.heap.size) (h1 : w.ownsRow B 22 1 v ls.length xs) (h2 : ∀ i (h : i < ls.length), ∃ u, xs[i]? = some u ∧ Go.Il.Own 3 .i64 B w u ls[i])
    (hb : Below w.heap.size w w2) (hu : Go.Il.Own 3 .i64 w.heap.size w2 u m) (hn : w3.ownsRow B 22 1 v' (ls.length + 1) (xs ++ [u])) (hg : (w2.alloc (.cells #[u] 22)).grownBy w3 v.ownBlock) : Grid B w3 v' (ls ++ [m]) ∧ Below B w w3 := by
  have hs := hb.size
  have h12 : w2.ownsRow B 22 1 v ls.length xs := own_kept h1 fun g _ _ _ hh _ => hb.block g (block_lt hh)
  refine ⟨Grid.snoc (w := w2.alloc (.cells #[u] 22)) (World.ownsRow.alloc h12 _) (fun i hi => ?_) (World.ownsRow.alloc (own_base hu hB) _) hn hg, ?_⟩
  · obtain ⟨q, h3, h4⟩ := h2 i hi
    exact ⟨q, h3, World.ownsRow.alloc (own_kept h4 fun g _ _ _ hh _ => hb.block g (block_lt hh)) _⟩
  · exact ((hb.mono hB).alloc (by omega) _).grown hg (by simp; omega) fun k hk => (h12.lt k hk).1

theorem at1 {P : Program} {C : Code} {Q : Exit → Act → World → Prop} {q0 q : Int} {x0 x2 x3 x4 x5 x6 x7 x8 x9 x10 x11 x12 x13 x14 x15 x16 x17 x18 x19 x20 x21 x22 x23 x24 x25 x26 x27 x28 x29 x30 x31 x32 x33 x34 x35 x36 x37 : Value} {w : World} (e : q0 = q) (h : Code.wp P C Q { tmps := #[x0, .int .i64 q, x2, x3, x4, x5, x6, x7, x8, x9, x10, x11, x12, x13, x14, x15, x16, x17, x18, x19, x20, x21, x22, x23, x24, x25, x26, x27, x28, x29, x30, x31, x32, x33, x34, x35, x36, x37], defers := [] } w) :
    Code.wp P C Q { tmps := #[x0, .int .i64 q0, x2, x3, x4, x5, x6, x7, x8, x9, x10, x11, x12, x13, x14, x15, x16, x17, x18, x19, x20, x21, x22, x23, x24, x25, x26, x27, x28, x29, x30, x31, x32, x33, x34, x35, x36, x37], defers := [] } w := by subst e; exact h

set_option maxHeartbeats 8000000 in
theorem chunksRef {w : World} {oa : Option Addr} {cap : Nat} {l : List Int} {z : Int} (h : RowAt 1 (NumAt .i64) w (.slice oa l.length cap) l) (hcap : l.length ≤ cap) (hl : l.length ≤ 400) :
    Calls Try.prog 8 #[.slice oa l.length cap, .int .i64 z] w fun e W' => ∃ v', e = .returned v' ∧ Below w.heap.size w W' ∧ Grid w.heap.size W' v' (pieces l (count l.length z) (count l.length z)) := by
  have ha : ∀ i (h : i < l.length), ∃ b o, oa = some ⟨b, o, none⟩ ∧ NumAt .i64 w b (o + i * 1) l[i] := by
    obtain ⟨oa', cap', e, _, ha⟩ := h
    cases e
    exact ha
  have hcl := count_le l.length z
  have hcz := count_int l.length z
  generalize count l.length z = c at *
  obtain ⟨i0, hi, hz0, hz1, hz2⟩ := info_parts info22
  have HA := hide ha
  have HI := hide (And.intro hi (And.intro hz0 (And.intro hz1 hz2)))
  have HR := hide h
  have HC := hide hcz
  clear ha hi hz0 hz1 hz2 h hcz
  go_enter Try.func8, Try.ntmps8
  go_wp2_with fail
  all_goals
    refine at1 (q := (c : Int)) (by have := HC.out; omega) ?_
    dsimp only
    go_loopw [5, 6] (fun v i wr => ∃ k : Nat, k ≤ c ∧ i = .int .i64 (k : Int) ∧ Grid w.heap.size wr v (pieces l c k) ∧ Below w.heap.size w wr) (fun _ i _ => c - (intOf i).toNat)
    case atStart => exact ⟨0, Nat.zero_le _, rfl, Grid.nil _ _, Below.refl _ _⟩
    case round =>
      obtain ⟨k, hk, rfl, ⟨xs, h1, h2⟩, hB⟩ := hrel
      by_cases hlt : k < c
      · have hk64 : (k : Int) < (c : Int) := by omega
        obtain ⟨b, o, rfl, _⟩ := HA.out 0 (by omega)
        have HP := hide (piece_row (cap := cap) HA.out hlt hl)
        have hpl : (piece l c k).length ≤ 400 := by
          have e := piece_length l (c := c) (k := k) (by omega) hlt
          have := cut_le (n := l.length) (c := c) (k := k + 1) (by omega) hlt
          omega
        have hc0 : ¬ c = 0 := by omega
        have hw1 : IntKind.i64.wrap ((k : Int) * (l.length : Int)) = (k : Int) * (l.length : Int) := wrap_mul (by omega) (by omega)
        have hw2 : IntKind.i64.wrap ((k : Int) + 1) = (k : Int) + 1 := wrap_small (by omega) (by omega)
        have hw3 : IntKind.i64.wrap (((k : Int) + 1) * (l.length : Int)) = ((k : Int) + 1) * (l.length : Int) := wrap_mul (k := k + 1) (by omega) (by omega)
        have hq1 : IntKind.i64.wrap (((k : Int) * (l.length : Int)).tdiv (c : Int)) = (cut l.length c k : Int) := wrap_div (by omega) (by omega)
        have hq2 : IntKind.i64.wrap ((((k : Int) + 1) * (l.length : Int)).tdiv (c : Int)) = (cut l.length c (k + 1) : Int) := wrap_div (k := k + 1) (by omega) (by omega)
        have hl1 : cut l.length c k < cut l.length c (k + 1) := cut_lt (by omega) hcl
        have hl2 : cut l.length c (k + 1) ≤ cap := Nat.le_trans (cut_le (by omega) hlt) hcap
        have hl3 : ¬ cap = cut l.length c k := by omega
        have hl4 : cut l.length c k ≤ cut l.length c (k + 1) := by omega
        have H1 := hide h1
        have H2 := hide h2
        have HB := hide hB
        clear h1 h2 hB
        have HD := hide (Below.drew HB.out)
        have hz : w.heap.size ≤ wr.heap.size := HB.out.size
        go_wp2_with fail
        all_goals
          go_region_law ((first
            | (refine step_pushRow EI (by decide) rfl (.tmp 18) (.tmp 33) rfl (own_empty wr.drew (B := wr.heap.size) (Nat.le_refl _) _ rfl) HP.out (HD.out.alloc hz _) (by simp) rfl rfl (by simp; omega) ?_
               intro u w2 hO2 hS2
               have HU : Hid (Go.Il.Own 3 .i64 wr.heap.size w2 u (piece l c k)) := hO2
               have HB2 : Hid (Below wr.heap.size wr w2) := (Below.drew (Below.refl _ wr)).trans ((one wr.drew _).trans hS2.below)
               obtain ⟨oa2, cap2, rfl⟩ := hO2.form
               clear hO2 hS2)
            | (refine step_own rfl (.tmp 17) (.tmp 35) 24 rfl w.heap.size 22 i0 (.slice none 0 0) 1 24 Try.underlying24 HI.out.1 HI.out.2.1 HI.out.2.2.1 HI.out.2.2.2 rfl (by decide) _ _ xs rfl (World.ownsRow.alloc (own_kept H1.out fun g _ _ _ hh _ => HB2.out.block g (block_lt hh)) _) ⟨w2.heap.size, 0, none⟩ 1 1 [_] rfl rfl (one_new (cell_of (new_block w2 _) 0)) (by intro q hq; simp at hq; subst hq; rfl) (by rw [pieces_length]; simp [maxLen]; omega) (by rw [pieces_length]; omega) (by have := HB2.out.size; simp; omega) ?_
               intro v' w3 hn hg hown
               have HM := hide (more hz H1.out H2.out HB2.out HU.out hn hg)
               obtain ⟨g3, cap3, rfl⟩ := ownsRow_succ hn
               clear hn hg hown)))
        all_goals
          go_wp2
          refine ⟨⟨k + 1, by omega, by go_num, ?_, HB.out.trans HM.out.2⟩, by simp [intOf]; omega⟩
          rw [pieces_succ]
          exact HM.out.1
      · obtain rfl : k = c := by omega
        have HX := hide (And.intro h1 h2)
        have HB := hide hB
        clear h1 h2 hB
        go_wp2
        go_ret
        exact ⟨_, rfl, HB.out, ⟨xs, HX.out.1, HX.out.2⟩⟩
end Go.Proofs.Ytjljdfeglikbjaa.Rc
