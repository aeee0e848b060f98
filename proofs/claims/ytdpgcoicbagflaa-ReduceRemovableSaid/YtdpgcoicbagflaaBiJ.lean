import Derived.Test.YtdpgcoicbagflaaBiI
set_option maxRecDepth 100000
set_option linter.unusedSimpArgs false
set_option linter.unusedVariables false
namespace Go.Proofs.Ytdpgcoicbagflaa.Bi
open Go Go.Ms Go.Pg Go.Bi Go.ChangeShapes Go.WideShapes Go.ChangeAt Go.RowKit Go.Deep

def Out (B : Nat) (w' : World) (l : List Int) : Res → Ending → Prop
  | .ask v, e => ∃ s, e = .returned (.tuple #[questV false s nilV nilV, .int .i64 0]) ∧ Go.Il.Own 3 .i64 B w' s (upTo (among [v]) 256)
  | .bad, e => e = .returned (.tuple #[questV false nilV nilV nilV, .int .i64 7])
  | .fin low high left, e => if left = [] then ∃ b, e = .returned (.tuple #[questV true nilV (.slice (some ⟨b, 0, none⟩) 2 2) nilV, .int .i64 0]) ∧ w'.heap[b]? = some (.cells #[.int .i64 (low : Int), .int .i64 (high : Int)] 3 (0, 0)) ∧ B ≤ b
      else e = .returned (.tuple #[questV false nilV nilV nilV, .int .i64 8])

theorem vs_wide {w w' : World} {g : Nat} {v : Value} {l : List Int} (h : Vs w w.heap.size v l) (hB : Below w.heap.size w w') (hg : w.heap.size ≤ g) : Vs w' g v l := by
  obtain ⟨oa, cap, rfl, hc, hl, q⟩ := h
  refine ⟨oa, cap, rfl, hc, hl, fun i hi => ?_⟩
  obtain ⟨b, o, e, hb, hx⟩ := q i hi
  exact ⟨b, o, e, by omega, (hB.cell (p := ⟨b, o + i, none⟩) hb).trans hx⟩

theorem six (w : World) (o0 o1 o2 o3 o4 o5 : Obj) :
    let W := (((((w.alloc o0).alloc o1).alloc o2).alloc o3).alloc o4).alloc o5
    W.heap[w.heap.size]? = some o0 ∧ W.heap[w.heap.size + 1]? = some o1 ∧ W.heap[w.heap.size + 1 + 1]? = some o2 ∧ W.heap[w.heap.size + 1 + 1 + 1]? = some o3 ∧ W.heap[w.heap.size + 1 + 1 + 1 + 1 + 1]? = some o5 ∧ Below w.heap.size w W ∧ W.heap.size = w.heap.size + 6 := by
  refine ⟨?_, ?_, ?_, ?_, ?_, ?_, ?_⟩
  · exact old_block (old_block (old_block (old_block (old_block (new_block w _) _) _) _) _) _
  · exact old_block (old_block (old_block (old_block (alloc_at (by simp)) _) _) _) _
  · exact old_block (old_block (old_block (alloc_at (by simp)) _) _) _
  · exact old_block (old_block (alloc_at (by simp)) _) _
  · exact alloc_at (by simp)
  · exact ((((((Below.refl w.heap.size w).alloc (Nat.le_refl _) _).alloc (by simp) _).alloc (by simp; omega) _).alloc (by simp; omega) _).alloc (by simp; omega) _).alloc (by simp; omega) _
  · simp

theorem putQE {w0 w : World} {S : Nat} {d d' : Bool} {a k p a' k' p' e0 e : Value} {on : Obj} (hq : w.heap[S + 1]? = some (boxQ d' a' k' p')) (he : w.heap[S + 1 + 1]? = some (.cells #[e0] 27 (0, 0))) (hn : w.heap[S + 1 + 1 + 1]? = some on) (hB : Below S w0 w) :
    let X := (putQ w (S + 1) d a k p).setCell ⟨S + 1 + 1, 0, none⟩ e
    X.heap[S + 1]? = some (boxQ d a k p) ∧ X.heap[S + 1 + 1]? = some (.cells #[e] 27 (0, 0)) ∧ X.heap[S + 1 + 1 + 1]? = some on ∧ Below S w0 X := by
  refine ⟨?_, ?_, ?_, ?_⟩
  · exact (Below.heap_setCell _ ⟨S + 1 + 1, 0, none⟩ _ (S + 1) (by simp)).trans (putQ_block hq)
  · exact (heap_setCell_same _ (S + 1 + 1) 0 _ 27 e ((putQ_other (by omega)).trans he)).trans (by simp)
  · exact (Below.heap_setCell _ ⟨S + 1 + 1, 0, none⟩ _ (S + 1 + 1 + 1) (by simp)).trans ((putQ_other (by omega)).trans hn)
  · exact (putQ_below hB (by omega)).setCell (p := ⟨S + 1 + 1, 0, none⟩) (by simp; omega) _

set_option maxHeartbeats 8000000 in
theorem replayProg {w : World} {an : Value} {bn bt n : Nat} {z : Int} {l : List Int} (h : Vs w w.heap.size an l) (hl : l.length ≤ 4096) (hn : w.cell? ⟨bn, 0, none⟩ = some (.int .i64 (n : Int))) (ht : w.cell? ⟨bt, 0, none⟩ = some (.int .i64 z)) (h2 : 2 ≤ n) (h256 : n ≤ 256) :
    Calls Try.prog 52 #[an, .func (.func 53) #[] #[], .func (.func 54) #[] #[], .func (.func 24) #[] #[.pointer (some ⟨bn, 0, none⟩), .pointer (some ⟨bt, 0, none⟩)]] w fun e w' => ∃ res, Bis (tries z) n l res ∧ Out w.heap.size w' l res e ∧ Below w.heap.size w w' := by
  have hbn := cell_lt hn
  have hbt := cell_lt ht
  have HV := hide h
  have HN := hide hn
  have HT := hide ht
  have H2 := hide h2
  have H256 := hide h256
  obtain ⟨oa, cap, rfl, -, -, -⟩ := h
  have tl : decide ((4096 : Int) < (l.length : Int)) = false := decide_eq_false (by omega)
  have tl2 : decide (4096 < l.length) = false := decide_eq_false (by omega)
  have hmf : ∀ (fn : Fn) (first cap : Array Value) (w : World), (Instr.makeFunc fn first cap).run Try.prog w = .ok (.func fn first cap) w := fun _ _ _ _ => rfl
  have hmm : ∀ (w : World), (Instr.makeMap 115 none).run Try.prog w = .ok (.map (some w.heap.size)) (w.alloc (.map #[] 0)) := fun _ => rfl
  clear hn ht h2 h256
  go_enter_defers Try.func52, Try.ntmps52
  go_wp2_with fail
  obtain ⟨k0, k1, k2, k3, k5, kB, kS⟩ := six w (.cells #[.func (.func 54) #[] #[]] 96) (boxQ false nilV nilV nilV) (.cells #[.int .i64 0] 27) (boxQ false nilV nilV nilV) (.map #[] 0) (.cells #[.func (.func 53) #[] #[], .slice oa l.length cap, .map (some (w.heap.size + 1 + 1 + 1 + 1))] 117)
  generalize ((((((w.alloc (.cells #[.func (.func 54) #[] #[]] 96)).alloc (boxQ false nilV nilV nilV)).alloc (.cells #[.int .i64 0] 27)).alloc (boxQ false nilV nilV nilV)).alloc (.map #[] 0)).alloc (.cells #[.func (.func 53) #[] #[], .slice oa l.length cap, .map (some (w.heap.size + 1 + 1 + 1 + 1))] 117)) = W at *
  have HB := hide kB
  have HX : Hid (Box W (w.heap.size + 1 + 1 + 1 + 1 + 1) 117 l) := hide ⟨_, _, _, k5, vs_wide HV.out kB (by omega)⟩
  have hnW : W.cell? ⟨bn, 0, none⟩ = some (.int .i64 (n : Int)) := (kB.cell (p := ⟨bn, 0, none⟩) hbn).trans HN.out
  have htW : W.cell? ⟨bt, 0, none⟩ = some (.int .i64 z) := (kB.cell (p := ⟨bt, 0, none⟩) hbt).trans HT.out
  have HNW := hide hnW
  have HTW := hide htW
  have K0 := hide k0
  have K1 := hide k1
  have K2 := hide k2
  have K3 := hide k3
  have KS := hide kS
  clear k0 k1 k2 k3 k5 kB kS hnW htW
  (with_reducible refine (throughProg HX.out HNW.out HTW.out (by omega) (by omega) H2.out H256.out).mono ?_)
  rintro e w1 ⟨res, hbis, hE⟩
  have HBIS := hide hbis
  clear hbis
  cases res with
  | ask v =>
    obtain ⟨a, b, c, d, rfl, hp, hk⟩ := hE
    unfold asks4
    have HP := hide hp
    have K0' := hide (keeps_block hk (by omega) K0.out)
    have K1' := hide (keeps_block hk (by omega) K1.out)
    have K2' := hide (keeps_block hk (by omega) K2.out)
    have HB1 := hide (HB.out.trans (hk.below.mono (by omega)))
    clear hp hk
    go_wp2_with fail
    have hsz := HB1.out.size
    have c0 : w1.cell? ⟨w.heap.size, 0, none⟩ = some (.func (.func 54) #[] #[]) := cell_of K0'.out 0
    refine leaves_cons (f := 69) (args := #[.pointer (some ⟨w.heap.size, 0, none⟩), .pointer (some ⟨w.heap.size + 1, 0, none⟩), .pointer (some ⟨w.heap.size + 1 + 1, 0, none⟩)]) (by simp) (by simp [go_sem]) ?_
    refine (catchAsk HP.out c0 K1'.out K2'.out (by omega)).mono ?_
    rintro e u' w2 ⟨rfl, rfl, hB2, v', hq2, he2, hO2⟩
    have HO2 := hide (own_mono (B' := w.heap.size) hsz hO2)
    have HB2 := hide (HB1.out.trans (hB2.mono (by omega)))
    clear hO2 hB2
    obtain ⟨x0, x1, x2, x3⟩ := q_cells hq2
    have y0 : w2.cell? ⟨w.heap.size + 1 + 1, 0, none⟩ = some (.int .i64 0) := cell_of he2 0
    obtain ⟨oa', cap', hv'⟩ := Go.Il.Own.form HO2.out
    subst hv'
    simp [Leaves, settle, results, Try.results52, go_sem, x0, x1, x2, x3, y0]
    exact ⟨_, HBIS.out, ⟨_, rfl, HO2.out⟩, HB2.out⟩
  | bad =>
    obtain ⟨rfl, hk⟩ := hE
    have J0 := hide (keeps_block hk (by omega) K0.out)
    have J1 := hide (keeps_block hk (by omega) K1.out)
    have J2 := hide (keeps_block hk (by omega) K2.out)
    have J3 := hide (keeps_block hk (by omega) K3.out)
    have JB := hide (HB.out.trans (hk.below.mono (by omega)))
    clear hk
    obtain ⟨q0, q1, q2, q3⟩ := q_cells J1.out
    obtain ⟨r0, r1, r2, r3⟩ := q_cells J3.out
    have s0 := frozen_of J1.out 0
    have s1 := frozen_of J1.out 1
    have s2 := frozen_of J1.out 2
    have s3 := frozen_of J1.out 3
    have z0 := cell_of J2.out 0
    simp at z0
    have z1 := frozen_of J2.out 0
    go_wp2_with fail
    obtain ⟨j1, j2, j3, jB⟩ := putQE (d := false) (a := nilV) (k := nilV) (p := nilV) (e := .int .i64 7) J1.out J2.out J3.out JB.out
    clear q0 q1 q2 q3 r0 r1 r2 r3 s0 s1 s2 s3 z0 z1 J0 J1 J2 J3 JB
    change Code.wp _ _ _ _ ((putQ w1 (w.heap.size + 1) false nilV nilV nilV).setCell ⟨w.heap.size + 1 + 1, 0, none⟩ (.int .i64 7))
    generalize ((putQ w1 (w.heap.size + 1) false nilV nilV nilV).setCell ⟨w.heap.size + 1 + 1, 0, none⟩ (.int .i64 7)) = X at *
    have J1 := hide j1
    have J2 := hide j2
    have J3 := hide j3
    have JB := hide jB
    clear j1 j2 j3 jB
    obtain ⟨q0, q1, q2, q3⟩ := q_cells J1.out
    obtain ⟨r0, r1, r2, r3⟩ := q_cells J3.out
    have s0 := frozen_of J1.out 0
    have s1 := frozen_of J1.out 1
    have s2 := frozen_of J1.out 2
    have s3 := frozen_of J1.out 3
    have z0 := cell_of J2.out 0
    simp at z0
    have z1 := frozen_of J2.out 0
    go_region
    all_goals
      go_wp2_with fail
      obtain ⟨k1, k2, k3, kB⟩ := putQE (d := false) (a := nilV) (k := nilV) (p := nilV) (e := .int .i64 7) J1.out J2.out J3.out JB.out
      clear q0 q1 q2 q3 r0 r1 r2 r3 s0 s1 s2 s3 z0 z1 J1 J2 J3 JB
      change bodyPostD _ _ _ _ _ ((putQ X (w.heap.size + 1) false nilV nilV nilV).setCell ⟨w.heap.size + 1 + 1, 0, none⟩ (.int .i64 7)).drew
      generalize hX : (putQ X (w.heap.size + 1) false nilV nilV nilV).setCell ⟨w.heap.size + 1 + 1, 0, none⟩ (.int .i64 7) = Y at *
      have J1 := hide k1
      have J2 := hide k2
      have JB := hide kB
      clear k1 k2 k3 kB
      have JBD := Below.drew JB.out
      refine leaves_cons (f := 69) (args := #[.pointer (some ⟨w.heap.size, 0, none⟩), .pointer (some ⟨w.heap.size + 1, 0, none⟩), .pointer (some ⟨w.heap.size + 1 + 1, 0, none⟩)]) (by simp) (by simp [go_sem]) ?_
      refine catchIdle.mono ?_
      rintro e u' w3 ⟨rfl, rfl, hB3⟩
      have HB3 := hide hB3
      have n1 := (hB3.block _ (block_lt J1.out)).trans J1.out
      have n2 := (hB3.block _ (block_lt J2.out)).trans J2.out
      clear hB3
      obtain ⟨x0, x1, x2, x3⟩ := q_cells n1
      have y0 := cell_of n2 0
      simp at y0
      simp [Leaves, settle, results, Try.results52, go_sem, x0, x1, x2, x3, y0]
      have HBE := hide (JBD.trans (HB3.out.mono JB.out.size))
      exact ⟨_, HBIS.out, rfl, HBE.out⟩
  | fin lo hi left =>
    obtain ⟨b, rfl, hlh, hbw, hk, hbox⟩ := hE
    have J0 := hide (keeps_block hk (by omega) K0.out)
    have J1 := hide (keeps_block hk (by omega) K1.out)
    have J2 := hide (keeps_block hk (by omega) K2.out)
    have J3 := hide (keeps_block hk (by omega) K3.out)
    have JB := hide (HB.out.trans (hk.below.mono (by omega)))
    have HLH := hide hlh
    have hbS : w.heap.size + 6 ≤ b := by rw [← KS.out]; exact hbw
    obtain ⟨tx3, an3, told3, hb3, oa3, cap3, rfl, hc3, hl3, -⟩ := hbox
    have HG3 := hide hb3
    have g1 := cell_of hb3 1
    simp at g1
    clear hk hlh hbw hb3
    obtain ⟨q0, q1, q2, q3⟩ := q_cells J1.out
    obtain ⟨r0, r1, r2, r3⟩ := q_cells J3.out
    have s0 := frozen_of J1.out 0
    have s1 := frozen_of J1.out 1
    have s2 := frozen_of J1.out 2
    have s3 := frozen_of J1.out 3
    have z0 := cell_of J2.out 0
    simp at z0
    have z1 := frozen_of J2.out 0
    cases left with
    | nil =>
      simp only [List.length_nil] at g1 HG3
      clear hc3 hl3
      go_wp2_with fail
      obtain ⟨j1, j2, j3, jB⟩ := putQE (d := true) (a := nilV) (k := (.slice (some ⟨b, 0, none⟩) 2 2)) (p := nilV) (e := .int .i64 0) J1.out J2.out J3.out JB.out
      obtain ⟨k1, k2, k3, kB⟩ := putQE (d := true) (a := nilV) (k := (.slice (some ⟨b, 0, none⟩) 2 2)) (p := nilV) (e := .int .i64 0) j1 j2 j3 jB
      have hlx : ((putQ ((putQ w1 (w.heap.size + 1) true nilV (.slice (some ⟨b, 0, none⟩) 2 2) nilV).setCell ⟨w.heap.size + 1 + 1, 0, none⟩ (.int .i64 0)) (w.heap.size + 1) true nilV (.slice (some ⟨b, 0, none⟩) 2 2) nilV).setCell ⟨w.heap.size + 1 + 1, 0, none⟩ (.int .i64 0)).heap[b]? = some (.cells #[.int .i64 (lo : Int), .int .i64 (hi : Int)] 3 (0, 0)) :=
        (Below.heap_setCell _ ⟨w.heap.size + 1 + 1, 0, none⟩ _ b (by simp; omega)).trans ((putQ_other (by omega)).trans ((Below.heap_setCell _ ⟨w.heap.size + 1 + 1, 0, none⟩ _ b (by simp; omega)).trans ((putQ_other (by omega)).trans HLH.out)))
      change bodyPostD _ _ _ _ _ ((putQ ((putQ w1 (w.heap.size + 1) true nilV (.slice (some ⟨b, 0, none⟩) 2 2) nilV).setCell ⟨w.heap.size + 1 + 1, 0, none⟩ (.int .i64 0)) (w.heap.size + 1) true nilV (.slice (some ⟨b, 0, none⟩) 2 2) nilV).setCell ⟨w.heap.size + 1 + 1, 0, none⟩ (.int .i64 0))
      clear q0 q1 q2 q3 r0 r1 r2 r3 s0 s1 s2 s3 z0 z1 g1 HG3 J0 J1 J2 J3 JB j1 j2 j3 jB HLH
      generalize ((putQ ((putQ w1 (w.heap.size + 1) true nilV (.slice (some ⟨b, 0, none⟩) 2 2) nilV).setCell ⟨w.heap.size + 1 + 1, 0, none⟩ (.int .i64 0)) (w.heap.size + 1) true nilV (.slice (some ⟨b, 0, none⟩) 2 2) nilV).setCell ⟨w.heap.size + 1 + 1, 0, none⟩ (.int .i64 0)) = Y at *
      have J1 := hide k1
      have J2 := hide k2
      have JB := hide kB
      have HLX := hide hlx
      clear k1 k2 k3 kB hlx
      have JBD := JB.out
      refine leaves_cons (f := 69) (args := #[.pointer (some ⟨w.heap.size, 0, none⟩), .pointer (some ⟨w.heap.size + 1, 0, none⟩), .pointer (some ⟨w.heap.size + 1 + 1, 0, none⟩)]) (by simp) (by simp [go_sem]) ?_
      refine catchIdle.mono ?_
      rintro e u' w3 ⟨rfl, rfl, hB3⟩
      have HB3 := hide hB3
      have n1 := (hB3.block _ (block_lt J1.out)).trans J1.out
      have n2 := (hB3.block _ (block_lt J2.out)).trans J2.out
      clear hB3
      obtain ⟨x0, x1, x2, x3⟩ := q_cells n1
      have y0 := cell_of n2 0
      simp at y0
      simp [Leaves, settle, results, Try.results52, go_sem, x0, x1, x2, x3, y0]
      have HBE := hide (JBD.trans (HB3.out.mono JB.out.size))
      refine ⟨_, HBIS.out, ?_, HBE.out⟩
      rw [Out, if_pos rfl]
      exact ⟨b, rfl, (HB3.out.block _ (block_lt HLX.out)).trans HLX.out, by omega⟩
    | cons y rr =>
      simp only [List.length_cons] at g1 HG3
      clear hc3 hl3
      go_wp2_with fail
      obtain ⟨j1, j2, j3, jB⟩ := putQE (d := true) (a := nilV) (k := (.slice (some ⟨b, 0, none⟩) 2 2)) (p := nilV) (e := .int .i64 0) J1.out J2.out J3.out JB.out
      obtain ⟨k1, k2, k3, kB⟩ := putQE (d := false) (a := nilV) (k := nilV) (p := nilV) (e := .int .i64 8) j1 j2 j3 jB
      have hlx : ((putQ ((putQ w1 (w.heap.size + 1) true nilV (.slice (some ⟨b, 0, none⟩) 2 2) nilV).setCell ⟨w.heap.size + 1 + 1, 0, none⟩ (.int .i64 0)) (w.heap.size + 1) false nilV nilV nilV).setCell ⟨w.heap.size + 1 + 1, 0, none⟩ (.int .i64 8)).heap[b]? = some (.cells #[.int .i64 (lo : Int), .int .i64 (hi : Int)] 3 (0, 0)) :=
        (Below.heap_setCell _ ⟨w.heap.size + 1 + 1, 0, none⟩ _ b (by simp; omega)).trans ((putQ_other (by omega)).trans ((Below.heap_setCell _ ⟨w.heap.size + 1 + 1, 0, none⟩ _ b (by simp; omega)).trans ((putQ_other (by omega)).trans HLH.out)))
      change bodyPostD _ _ _ _ _ ((putQ ((putQ w1 (w.heap.size + 1) true nilV (.slice (some ⟨b, 0, none⟩) 2 2) nilV).setCell ⟨w.heap.size + 1 + 1, 0, none⟩ (.int .i64 0)) (w.heap.size + 1) false nilV nilV nilV).setCell ⟨w.heap.size + 1 + 1, 0, none⟩ (.int .i64 8))
      clear q0 q1 q2 q3 r0 r1 r2 r3 s0 s1 s2 s3 z0 z1 g1 HG3 J0 J1 J2 J3 JB j1 j2 j3 jB HLH
      generalize ((putQ ((putQ w1 (w.heap.size + 1) true nilV (.slice (some ⟨b, 0, none⟩) 2 2) nilV).setCell ⟨w.heap.size + 1 + 1, 0, none⟩ (.int .i64 0)) (w.heap.size + 1) false nilV nilV nilV).setCell ⟨w.heap.size + 1 + 1, 0, none⟩ (.int .i64 8)) = Y at *
      have J1 := hide k1
      have J2 := hide k2
      have JB := hide kB
      have HLX := hide hlx
      clear k1 k2 k3 kB hlx
      have JBD := JB.out
      refine leaves_cons (f := 69) (args := #[.pointer (some ⟨w.heap.size, 0, none⟩), .pointer (some ⟨w.heap.size + 1, 0, none⟩), .pointer (some ⟨w.heap.size + 1 + 1, 0, none⟩)]) (by simp) (by simp [go_sem]) ?_
      refine catchIdle.mono ?_
      rintro e u' w3 ⟨rfl, rfl, hB3⟩
      have HB3 := hide hB3
      have n1 := (hB3.block _ (block_lt J1.out)).trans J1.out
      have n2 := (hB3.block _ (block_lt J2.out)).trans J2.out
      clear hB3
      obtain ⟨x0, x1, x2, x3⟩ := q_cells n1
      have y0 := cell_of n2 0
      simp at y0
      simp [Leaves, settle, results, Try.results52, go_sem, x0, x1, x2, x3, y0]
      have HBE := hide (JBD.trans (HB3.out.mono JB.out.size))
      refine ⟨_, HBIS.out, ?_, HBE.out⟩
      rw [Out, if_neg (by simp)]
end Go.Proofs.Ytdpgcoicbagflaa.Bi
