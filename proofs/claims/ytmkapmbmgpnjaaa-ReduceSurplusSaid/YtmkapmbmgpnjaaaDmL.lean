import Derived.Test.YtmkapmbmgpnjaaaDmK
set_option maxRecDepth 100000
set_option linter.unusedSimpArgs false
set_option linter.unusedVariables false
namespace Go.Proofs.Ytmkapmbmgpnjaaa.Se
open Go Go.Ms Go.Pg Go.Bi Go.Se Go.ChangeShapes Go.WideShapes Go.ChangeAt Go.RowKit Go.Deep Go.Proofs.Ytmkapmbmgpnjaaa.Bi

/-! The law asks Changes. -/
abbrev nilRow (n : Nat) : Obj := .cells (madeCells #[.slice none 0 0] n) 30
theorem make22 (n : Nat) (hn : n ≤ 1000) (W : World) : (Instr.makeSlice 22 (.int .i64 (n : Int)) (.int .i64 (n : Int))).run Try.prog W = .ok (.slice (some ⟨W.heap.size, 0, none⟩) n n) (W.alloc (nilRow n)) := by
  have g : (Try.prog.info? 30).map (fun i => (i.size, i.bytes, i.zero.map fun z => z.cells)) = some (1, 24, some #[.slice none 0 0]) := by kernel_rfl
  cases hi : Try.prog.info? 30 with
  | none => rw [hi] at g; cases g
  | some i =>
    rw [hi] at g
    simp only [Option.map_some, Option.some.injEq, Prod.mk.injEq] at g
    obtain ⟨g1, g2, g3⟩ := g
    cases hz : i.zero with
    | none => rw [hz] at g3; cases g3
    | some z =>
      rw [hz] at g3
      simp only [Option.map_some, Option.some.injEq] at g3
      have h := run_make (P := Try.prog) W 22 30 i z Try.underlying22 hi hz .i64 .i64 n n (by omega) (by omega) (by rw [g2]; omega) (by omega)
      rw [g3, g1, Int.toNat_natCast, Nat.mul_one] at h
      exact h
theorem made_one (v : Value) (n : Nat) : madeCells #[v] n = (List.replicate n v).toArray := by
  apply Array.ext
  · simp [madeCells]
  · intro i h1 h2
    have hm : i % 1 = 0 := Nat.mod_one i
    simp [madeCells, hm]
theorem nilRow_new (w : World) (n : Nat) : NilRow (w.alloc (nilRow n)) (.slice (some ⟨w.heap.size, 0, none⟩) n n) n :=
  ⟨_, n, rfl, fun i hi => ⟨w.heap.size, 0, rfl, (cell_of (new_block w (nilRow n)) (0 + i)).trans (by rw [made_one, List.getElem?_toArray, Nat.zero_add, List.getElem?_replicate, if_pos hi])⟩⟩
--H<
set_option maxHeartbeats 8000000 in
theorem askChanges {w : World} {an : Value} {z st : Int} {n : Nat} {l : List Int} (hz : z ≤ 256) (hn : max z 0 = (n : Int)) (ha : Vs w w.heap.size an l) (hl : l.length ≤ 4096) (hwf : ∀ x ∈ l, 0 ≤ x ∧ x < 256) :
    Calls Try.prog 46 #[.int .u8 3, .int .i64 z, .int .i64 st, an] w fun e w' => ∃ res, res = play (changesN n) l [] ∧ Gives w.heap.size w' res e ∧ Below w.heap.size w w' := by
  have hB0 := ((Below.refl w.heap.size w).alloc (Nat.le_refl _) (boxQ false nilV nilV nilV)).alloc (by simp) (nilRow n)
  have HB0 := hide hB0
  have HR0 : Hid (((w.alloc (boxQ false nilV nilV nilV)).alloc (nilRow n)).heap[w.heap.size]? = some (boxQ false nilV nilV nilV)) := hide (old_block (new_block w _) _)
  have hsz : ((w.alloc (boxQ false nilV nilV nilV)).alloc (nilRow n)).heap.size = w.heap.size + 2 := by simp
  have hm : (if z < 0 then (0 : Int) else z) = (n : Int) := by split <;> omega
  have hmk := make22 n (by omega) (w.alloc (boxQ false nilV nilV nilV))
  have HV : Hid (NilRow ((w.alloc (boxQ false nilV nilV nilV)).alloc (nilRow n)) (.slice (some ⟨w.heap.size + 1, 0, none⟩) n n) n) := hide (by have := nilRow_new (w.alloc (boxQ false nilV nilV nilV)) n; rwa [World.size_alloc] at this)
  have HD := hide (changesProg (w := (w.alloc (boxQ false nilV nilV nilV)).alloc (nilRow n)) HV.out (by omega) (vs_self ha hB0) hl hwf)
  rw [World.size_alloc] at hmk
  obtain ⟨oan, capn, rfl, -, -, -⟩ := ha
  clear hB0 hl hwf hz hn hsz
  go_enter Try.func46, Try.ntmps46
  go_wp2_with fail
  change Calls Try.prog 30 _ ((w.alloc (boxQ false nilV nilV nilV)).alloc (nilRow n)) _
  generalize (w.alloc (boxQ false nilV nilV nilV)).alloc (nilRow n) = W0 at *
  (with_reducible refine HD.out.mono ?_)
  rintro e w1 ⟨res, hres, ho, hB⟩
  have HRES := hide hres
  obtain ⟨dd, oa1, na, ca, ok, nk, ck, op, np, cp, x, rfl, hkeep⟩ := gives_form ho
  have HKP := hide hkeep
  have HB1 := hide (HB0.out.trans (hB.mono HB0.out.size))
  have HR := hide ((hB.block _ (block_lt HR0.out)).trans HR0.out)
  have hws : w.heap.size ≤ W0.heap.size := HB0.out.size
  clear hres ho hkeep hB HD
  obtain ⟨q0, q1, q2, q3⟩ := q_cells HR.out
  have s0 := Bi.frozen_of HR.out 0
  have s1 := Bi.frozen_of HR.out 1
  have s2 := Bi.frozen_of HR.out 2
  have s3 := Bi.frozen_of HR.out 3
  go_wp2_with fail
  refine final8 (X := putQ w1 w.heap.size dd (.slice oa1 na ca) (.slice ok nk ck) (.slice op np cp)) rfl ?_
  have HP := hide (putQ_block (e := dd) (b := .slice oa1 na ca) (l := .slice ok nk ck) (q := .slice op np cp) HR.out)
  have HQ := hide (putQ_below (d := dd) (a := .slice oa1 na ca) (l := .slice ok nk ck) (p := .slice op np cp) HB1.out (B := w.heap.size) (Nat.le_refl _))
  have HO := hide (gives_low hws (HKP.out (putQ w1 w.heap.size dd (.slice oa1 na ca) (.slice ok nk ck) (.slice op np cp)) fun b cs hh => putQ_other (fun e => by subst e; rw [HR.out] at hh; injection hh with hh; injection hh with _ ht; cases ht)))
  clear HKP
  generalize putQ w1 w.heap.size dd (.slice oa1 na ca) (.slice ok nk ck) (.slice op np cp) = X at *
  obtain ⟨x0, x1, x2, x3⟩ := q_cells HP.out
  refine bodyPost_ret (v := .tuple #[questV dd (.slice oa1 na ca) (.slice ok nk ck) (.slice op np cp), .int .i64 x]) (by simp [results, Try.results46, go_sem, x0, x1, x2, x3]) rfl ?_
  exact ⟨res, HRES.out, HO.out, HQ.out⟩
--H>
end Go.Proofs.Ytmkapmbmgpnjaaa.Se
