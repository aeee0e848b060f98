import Derived.Test.YtdpgcoicbagflaaBiJ
set_option maxRecDepth 100000
set_option linter.unusedSimpArgs false
set_option linter.unusedVariables false
namespace Go.Proofs.Ytdpgcoicbagflaa.Bi
open Go Go.Ms Go.Pg Go.Bi Go.ChangeShapes Go.WideShapes Go.ChangeAt Go.RowKit Go.Deep

theorem vs_self {w w' : World} {v : Value} {l : List Int} (h : Vs w w.heap.size v l) (hB : Below w.heap.size w w') : Vs w' w'.heap.size v l := vs_wide h hB hB.size

theorem out_form {B : Nat} {w' : World} {l : List Int} {res : Res} {e : Ending} (h : Out B w' l res e) : ∃ d oa na ca ok nk ck x, e = .returned (.tuple #[questV d (.slice oa na ca) (.slice ok nk ck) nilV, .int .i64 x]) ∧
    ∀ w'' : World, (∀ (b : Nat) cs, w'.heap[b]? = some (Obj.cells cs 3 (0, 0)) → w''.heap[b]? = w'.heap[b]?) → Out B w'' l res e := by
  cases res with
  | ask v =>
    obtain ⟨s, rfl, hO⟩ := h
    obtain ⟨oa, cap, rfl⟩ := Go.Il.Own.form hO
    exact ⟨_, _, _, _, _, _, _, _, rfl, fun w'' hk => ⟨_, rfl, own_same hO fun g cs _ hh => hk g cs hh⟩⟩
  | bad =>
    obtain rfl := h
    exact ⟨_, _, _, _, _, _, _, _, rfl, fun w'' hk => rfl⟩
  | fin lo hi left =>
    rw [Out] at h
    by_cases hl : left = []
    · rw [if_pos hl] at h
      obtain ⟨b, rfl, hh, hb⟩ := h
      refine ⟨_, _, _, _, _, _, _, _, rfl, fun w'' hk => ?_⟩
      rw [Out, if_pos hl]
      exact ⟨b, rfl, (hk b _ hh).trans hh, hb⟩
    · rw [if_neg hl] at h
      obtain rfl := h
      refine ⟨_, _, _, _, _, _, _, _, rfl, fun w'' hk => ?_⟩
      rw [Out, if_neg hl]
theorem out_low {B B' : Nat} {w' : World} {l : List Int} {res : Res} {e : Ending} (hB : B' ≤ B) (h : Out B w' l res e) : Out B' w' l res e := by
  cases res with
  | ask v => obtain ⟨s, rfl, hO⟩ := h; exact ⟨s, rfl, own_mono hB hO⟩
  | bad => exact h
  | fin lo hi left =>
    rw [Out] at h ⊢
    by_cases hl : left = []
    · rw [if_pos hl] at h ⊢
      obtain ⟨b, rfl, hh, hb⟩ := h
      exact ⟨b, rfl, hh, Nat.le_trans hB hb⟩
    · rw [if_neg hl] at h ⊢
      exact h

set_option maxHeartbeats 8000000 in
theorem searchProg {w : World} {an : Value} {bn bt n : Nat} {z : Int} {l : List Int} (h : Vs w w.heap.size an l) (hl : l.length ≤ 4096) (hn : w.cell? ⟨bn, 0, none⟩ = some (.int .i64 (n : Int))) (ht : w.cell? ⟨bt, 0, none⟩ = some (.int .i64 z)) (h2 : 2 ≤ n) (h256 : n ≤ 256) :
    Calls Try.prog 23 #[an, .func (.func 24) #[] #[.pointer (some ⟨bn, 0, none⟩), .pointer (some ⟨bt, 0, none⟩)]] w fun e w' => ∃ res, Bis (tries z) n l res ∧ Out w.heap.size w' l res e ∧ Below w.heap.size w w' := by
  have hB0 : Below w.heap.size w (w.alloc (boxQ false nilV nilV nilV)) := (Below.refl _ _).alloc (Nat.le_refl _) _
  have HB0 := hide hB0
  have HV := hide (vs_self h hB0)
  have HN := hide (cell_old hB0 hn)
  have HT := hide (cell_old hB0 ht)
  have H2 := hide h2
  have H256 := hide h256
  have HL := hide hl
  have H1 := hide (new_block w (boxQ false nilV nilV nilV))
  obtain ⟨oa, cap, rfl, -, -, -⟩ := h
  clear hB0 hn ht h2 h256 hl
  go_enter Try.func23, Try.ntmps23
  go_wp2_with fail
  (with_reducible refine (replayProg HV.out HL.out HN.out HT.out H2.out H256.out).mono ?_)
  rintro e w1 ⟨res, hbis, ho, hB⟩
  have HBIS := hide hbis
  obtain ⟨d, oa1, na, ca, ok, nk, ck, x, rfl, hkeep⟩ := out_form ho
  have HKP := hide hkeep
  have HB1 := hide (HB0.out.trans (hB.mono (by simp)))
  have HR := hide ((hB.block _ (block_lt H1.out)).trans H1.out)
  clear hbis ho hkeep hB
  obtain ⟨q0, q1, q2, q3⟩ := q_cells HR.out
  have s0 := frozen_of HR.out 0
  have s1 := frozen_of HR.out 1
  have s2 := frozen_of HR.out 2
  have s3 := frozen_of HR.out 3
  go_wp2_with fail
  refine final8 (X := putQ w1 w.heap.size d (.slice oa1 na ca) (.slice ok nk ck) nilV) rfl ?_
  have HP := hide (putQ_block (e := d) (b := .slice oa1 na ca) (l := .slice ok nk ck) (q := nilV) HR.out)
  have HQ := hide (putQ_below (d := d) (a := .slice oa1 na ca) (l := .slice ok nk ck) (p := nilV) HB1.out (B := w.heap.size) (Nat.le_refl _))
  have HO := hide (out_low (B' := w.heap.size) (by simp) (HKP.out (putQ w1 w.heap.size d (.slice oa1 na ca) (.slice ok nk ck) nilV) fun b cs hh => putQ_other (fun e => by subst e; rw [HR.out] at hh; injection hh with hh; injection hh with _ ht; cases ht)))
  clear HKP
  generalize putQ w1 w.heap.size d (.slice oa1 na ca) (.slice ok nk ck) nilV = X at *
  obtain ⟨x0, x1, x2, x3⟩ := q_cells HP.out
  refine bodyPost_ret (v := .tuple #[questV d (.slice oa1 na ca) (.slice ok nk ck) nilV, .int .i64 x]) (by simp [results, Try.results23, go_sem, x0, x1, x2, x3]) rfl ?_
  exact ⟨res, HBIS.out, HO.out, HQ.out⟩
end Go.Proofs.Ytdpgcoicbagflaa.Bi
