import Derived.Test.YtmkapmbmgpnjaaaGiS
import Derived.Test.YtmkapmbmgpnjaaaSeA
import Derived.Laws.BitsAllLaws
set_option maxRecDepth 100000
set_option linter.unusedSimpArgs false
set_option linter.unusedVariables false
namespace Go.Proofs.Ytmkapmbmgpnjaaa.Se
open Go Go.Ms Go.Pg Go.Bi Go.Se Go.ChangeShapes Go.WideShapes Go.ChangeAt Go.RowKit Go.Deep Go.Proofs.Ytmkapmbmgpnjaaa.Bi

theorem E8 : Go.Il.IntElem Try.prog 191 5 .u8 1 := Go.Il.IntElem.mk Try.underlying191 (by kernel_rfl)
theorem size37 : ∀ h, (Try.prog.types[46]'h).size = 1 := fun _ => by kernel_rfl
theorem word0 (a b c d : Nat) (w : World) : (Instr.index 98 (setV a b c d) (.int .i64 0)).run Try.prog w = .ok (.int .u64 a) w := by
  simp [Instr.index, go_sem, run_underlying Try.underlying98, Result.andThen, setV]
theorem word1 (a b c d : Nat) (w : World) : (Instr.index 98 (setV a b c d) (.int .i64 1)).run Try.prog w = .ok (.int .u64 b) w := by
  simp [Instr.index, go_sem, run_underlying Try.underlying98, Result.andThen, setV, size37]
theorem word2 (a b c d : Nat) (w : World) : (Instr.index 98 (setV a b c d) (.int .i64 2)).run Try.prog w = .ok (.int .u64 c) w := by
  simp [Instr.index, go_sem, run_underlying Try.underlying98, Result.andThen, setV, size37]
theorem word3 (a b c d : Nat) (w : World) : (Instr.index 98 (setV a b c d) (.int .i64 3)).run Try.prog w = .ok (.int .u64 d) w := by
  simp [Instr.index, go_sem, run_underlying Try.underlying98, Result.andThen, setV, size37]
def wordOf (a b c d : Nat) : Nat → Nat
  | 0 => a
  | 1 => b
  | 2 => c
  | _ => d
theorem wordAt (a b c d k : Nat) (hk : k < 4) (w : World) : (Instr.index 98 (setV a b c d) (.int .i64 (k : Int))).run Try.prog w = .ok (.int .u64 (wordOf a b c d k : Nat)) w := by
  rcases (show k = 0 ∨ k = 1 ∨ k = 2 ∨ k = 3 by omega) with rfl | rfl | rfl | rfl
  · exact word0 a b c d w
  · exact word1 a b c d w
  · exact word2 a b c d w
  · exact word3 a b c d w
def txtK (a b c d k : Nat) : List Int := (List.range k).flatMap fun i => txtW (wordOf a b c d i) 8
theorem txtK_succ (a b c d k : Nat) : txtK a b c d (k + 1) = txtK a b c d k ++ txtW (wordOf a b c d k) 8 := by simp [txtK, List.range_succ]
theorem txtK_four (a b c d : Nat) : txtK a b c d 4 = txt ⟨a, b, c, d⟩ := by simp [txtK, txt, List.range_succ, wordOf]
theorem txtK_length (a b c d : Nat) : ∀ k, (txtK a b c d k).length = 8 * k
  | 0 => rfl
  | k + 1 => by rw [txtK_succ, List.length_append, txtK_length, txtW_length]; omega
theorem wordOf_lt {a b c d : Nat} (ha : a < 2 ^ 64) (hb : b < 2 ^ 64) (hc : c < 2 ^ 64) (hd : d < 2 ^ 64) (k : Nat) : wordOf a b c d k < 2 ^ 64 := by
  unfold wordOf; split <;> assumption

theorem byteEq (x j : Nat) : (((x >>> (8 * j)) % 256 : Nat) : Int) = (x : Int) / 2 ^ (8 * j) % 256 := by
  rw [Nat.shiftRight_eq_div_pow]
  simp
theorem conv8 {w : World} {B : Nat} {v : Value} {l : List Int} (h : Go.Il.Own 5 .u8 B w v l) : (convert 191 9 v).run Try.prog w = .ok (.string (strOfNums l)) w := by
  obtain ⟨oa, cap, rfl, hc⟩ := h.at
  rcases Nat.eq_zero_or_pos l.length with h0 | h0
  · have e : l = [] := List.eq_nil_of_length_eq_zero h0
    subst e
    rcases oa with _ | ⟨g, o, sp⟩
    · exact run_convert_bytes_nil w 191 5 Try.underlying191 Try.underlying5 _ _ 9 Try.underlying9
    · rw [run_convert_bytes_string w 191 9 5 _ _ _ Try.underlying191 Try.underlying5 Try.underlying9]
      rw [run_bytesToString w _ _ _ [] (by simpa using run_loadCells_list (P := Try.prog) w ⟨g, o, sp⟩ [] (fun j v hj => by simp at hj))]
      rfl
  · obtain ⟨g, rfl, _⟩ := hc 0 h0
    exact run_convert_bytes_arg (P := Try.prog) w 191 5 Try.underlying191 Try.underlying5 g 0 l.length cap l rfl (fun i hi => by
      obtain ⟨g', e, c⟩ := hc i hi
      injection e with e
      injection e with e
      subst e
      simpa [hi] using c) 9 Try.underlying9

set_option maxHeartbeats 8000000 in
theorem textProg {w : World} {a b c d : Nat} (ha : a < 2 ^ 64) (hb : b < 2 ^ 64) (hc : c < 2 ^ 64) (hd : d < 2 ^ 64) :
    Calls Try.prog 137 #[setV a b c d] w fun e w' => e = .returned (.string (strOfNums (txt ⟨a, b, c, d⟩))) ∧ Below w.heap.size w w' := by
  have HW := hide (wordOf_lt ha hb hc hd)
  clear ha hb hc hd
  go_enter Try.func137, Try.ntmps137
  go_wp2_with fail
  go_loopw [3, 8] (fun r i wr => ∃ k : Nat, k ≤ 4 ∧ i = .int .i64 (k : Int) ∧ Below w.heap.size w wr ∧ Go.Il.Own 5 .u8 w.heap.size wr r (txtK a b c d k)) (fun _ i _ => 4 - (intOf i).toNat)
  case atStart => exact ⟨0, by omega, rfl, (Below.refl _ _).alloc (Nat.le_refl _) _, Go.Il.Own.nil _ _ _ _⟩
  case round =>
    obtain ⟨k, hk, rfl, hB, hO⟩ := hrel
    have HB := hide hB
    have HO := hide hO
    clear hB hO
    by_cases h4 : k < 4
    · have hi : (k : Int) < 4 := by omega
      have hwd := fun W => wordAt a b c d k h4 W
      have HX := hide (HW.out k)
      have HT := hide (txtK_succ a b c d k)
      have HL := hide (txtK_length a b c d k)
      generalize wordOf a b c d k = x at *
      go_wp2_with fail
      obtain ⟨wo, rfl⟩ : ∃ wo : World, wo = wr := ⟨_, rfl⟩
      go_loopw [3, 6] (fun r i wy => ∃ j : Nat, j ≤ 8 ∧ i = .int .i64 ((8 * j : Nat) : Int) ∧ Below w.heap.size w wy ∧ Go.Il.Own 5 .u8 w.heap.size wy r (txtK a b c d k ++ txtW x j)) (fun _ i _ => 64 - (intOf i).toNat)
      case atStart => exact ⟨0, by omega, rfl, HB.out, by simpa [txtW] using HO.out⟩
      case round =>
        obtain ⟨j, hj, rfl, hB, hO⟩ := hrel
        have HB := hide hB
        have HO := hide hO
        clear hB hO
        by_cases h8 : j < 8
        · have hi8 : ((8 * j : Nat) : Int) < 64 := by omega
          have hi9 : 8 * j < 64 := by omega
          have hsz : w.heap.size ≤ wr.heap.size := HB.out.size
          have hlen : (txtK a b c d k ++ txtW x j).length + [(x : Int) / 2 ^ (8 * j) % 256].length ≤ 10000000 := by
            have := HL.out
            simp [txtW_length]
            omega
          have hw8 : IntKind.i64.wrap (8 * (j : Int) + 8) = 8 * (j : Int) + 8 := wrap_in (by omega) (by omega)
          go_wp2_with (first
            | (at_builtin
               (refine Go.Il.wpl_push E8 (by decide) rfl (.tmp 15) (.tmp 20) rfl HO.out _ _ [(x : Int) / 2 ^ (8 * j) % 256] _ _ rfl rfl rfl rfl rfl hsz hlen ?_
                intro v1 w1 ho1 hs1
                have HO1 := hide ho1
                have HS1 := hide hs1
                clear ho1 hs1 hlen))
            | fail)
          refine ⟨⟨j + 1, by omega, by go_num, HB.out.trans HS1.out.below, ?_⟩, by simp [intOf]; omega⟩
          have := HO1.out
          rw [txtW_succ, byteEq, ← List.append_assoc]
          exact this
        · obtain rfl : j = 8 := by omega
          have hk1 : IntKind.i64.wrap ((k : Int) + 1) = (k : Int) + 1 := wrap_in (by omega) (by omega)
          clear hj h8 hi
          go_wp2_with fail
          refine ⟨⟨k + 1, by omega, by go_num, HB.out, ?_⟩, by simp [intOf]; omega⟩
          rw [HT.out]
          exact HO.out
    · obtain rfl : k = 4 := by omega
      clear hk h4
      rw [txtK_four] at HO
      have hcv := conv8 HO.out
      go_wp2_with fail
      go_ret
      exact ⟨rfl, HB.out⟩
end Go.Proofs.Ytmkapmbmgpnjaaa.Se

set_option maxRecDepth 100000
set_option linter.unusedSimpArgs false
set_option linter.unusedVariables false
namespace Go.Proofs.Ytmkapmbmgpnjaaa.Se
open Go Go.Ms Go.Pg Go.Bi Go.Se Go.ChangeShapes Go.WideShapes Go.ChangeAt Go.RowKit Go.Deep Go.Proofs.Ytmkapmbmgpnjaaa.Bi

structure SBox (w : World) (g m : Nat) (l : List Int) (T : List (Q4 × Int)) : Prop where
  box : ∃ an, w.heap[g]? = some (.cells #[.func (.func 137) #[] #[], an, .map (some m)] 204 (0, 0)) ∧ Vs w m an l
  wf : ∀ x ∈ l, 0 ≤ x ∧ x < 256
  map : w.ownsMap Try.prog 9 (plainElem Try.prog 39) m T.length (told T)
  room : T.length + l.length ≤ 5000
  lt : m < g
  ok : ∀ e ∈ T, e.1.Ok
theorem map_same {w w' : World} {P : Program} {k : TypeId} {R : Value → Option (DataW Unit × List MemPlace)} {b n : Nat} {D : DataW Unit} (h : w.ownsMap P k R b n D) (e : w'.heap[b]? = w.heap[b]?) : w'.ownsMap P k R b n D := by
  obtain ⟨es, clock, hb, F, hs, hD⟩ := h
  exact ⟨es, clock, e.trans hb, F, hs, hD⟩
theorem SBox.gt {w : World} {g m : Nat} {l : List Int} {T : List (Q4 × Int)} (h : SBox w g m l T) : g < w.heap.size := by
  obtain ⟨an, hb, _⟩ := h.box
  exact block_lt hb
theorem SBox.old {w w' : World} {g m : Nat} {l : List Int} {T : List (Q4 × Int)} (h : SBox w g m l T) (hB : Below w.heap.size w w') : SBox w' g m l T := by
  have hg := h.gt
  have hm := h.lt
  obtain ⟨an, hb, hv⟩ := h.box
  exact ⟨⟨an, (hB.block g hg).trans hb, vs_keptM (KeepsM.of_below (g := g) (by omega) hB) hv⟩, h.wf, map_same h.map (hB.block m (by omega)), h.room, h.lt, h.ok⟩
theorem SBox.other {w w' : World} {g m : Nat} {l : List Int} {T : List (Q4 × Int)} (h : SBox w g m l T) (hB : Below m w w') (h1 : w'.heap[m]? = w.heap[m]?) (h2 : w'.heap[g]? = w.heap[g]?) : SBox w' g m l T := by
  obtain ⟨an, hb, oa, cap, rfl, hc, hl, q⟩ := h.box
  exact ⟨⟨_, h2.trans hb, oa, cap, rfl, hc, hl, fun i hi => by
    obtain ⟨b, o, e, hbg, hcell⟩ := q i hi
    exact ⟨b, o, e, hbg, (hB.cell (p := ⟨b, o + i, none⟩) hbg).trans hcell⟩⟩, h.wf, map_same h.map h1, h.room, h.lt, h.ok⟩

theorem tail_endS {w : World} {g m : Nat} {old v : Value} {l : List Int} (hm : m < g) (hb : w.heap[g]? = some (.cells #[.func (.func 137) #[] #[], old, .map (some m)] 204 (0, 0))) (hv : Vs w m v l) (o : Obj) :
    KeepsM m g w ((w.setCell ⟨g, 1, none⟩ v).alloc o) ∧ ((w.setCell ⟨g, 1, none⟩ v).alloc o).heap[g]? = some (.cells #[.func (.func 137) #[] #[], v, .map (some m)] 204 (0, 0)) ∧ Vs ((w.setCell ⟨g, 1, none⟩ v).alloc o) m v l ∧ ((w.setCell ⟨g, 1, none⟩ v).alloc o).heap[m]? = w.heap[m]? := by
  have hg := block_lt hb
  have hs : (w.setCell ⟨g, 1, none⟩ v).heap.size = w.heap.size := by simp [World.setCell]
  have K : KeepsM m g w ((w.setCell ⟨g, 1, none⟩ v).alloc o) := (KeepsM.set (Nat.le_of_lt hm) 1 v).trans (KeepsM.of_below (by rw [hs]; omega) ((Below.refl _ _).alloc (Nat.le_refl _) o))
  refine ⟨K, ?_, vs_keptM K hv, ?_⟩
  · rw [Below.heap_alloc _ _ _ (by rw [hs]; exact hg)]
    simp [World.setCell, Array.getElem?_modify, hb]
  · rw [Below.heap_alloc _ _ _ (by rw [hs]; omega)]
    exact Below.heap_setCell _ ⟨g, 1, none⟩ _ m (by show m ≠ g; omega)

theorem tail_sbox {w : World} {g m : Nat} {old v : Value} {x : Int} {l : List Int} {T : List (Q4 × Int)} (h : SBox w g m (x :: l) T) (hb : w.heap[g]? = some (.cells #[.func (.func 137) #[] #[], old, .map (some m)] 204 (0, 0))) (hv : Vs w m v l) (o : Obj) :
    KeepsM m g w ((w.setCell ⟨g, 1, none⟩ v).alloc o) ∧ SBox ((w.setCell ⟨g, 1, none⟩ v).alloc o) g m l T := by
  obtain ⟨k1, k2, k3, k4⟩ := tail_endS h.lt hb hv o
  exact ⟨k1, ⟨v, k2, k3⟩, fun y hy => h.wf y (by simp [hy]), map_same h.map k4, by have := h.room; simp at this; omega, h.lt, h.ok⟩

set_option maxHeartbeats 4000000 in
theorem answerS {w : World} {g m : Nat} {q : Q4} {x : Int} {l : List Int} {T : List (Q4 × Int)} (h : SBox w g m (x :: l) T) :
    Calls Try.prog 140 #[.pointer (some ⟨g, 0, none⟩), setV q.a q.b q.c q.d] w fun e w' => e = .returned (.int .u8 x) ∧ KeepsM m g w w' ∧ SBox w' g m l T := by
  have H := hide h
  have hlt := h.lt
  have HLT := hide hlt
  obtain ⟨an, hb, hv⟩ := h.box
  have hg := block_lt hb
  have HV := hide hv
  obtain ⟨oa, cap, rfl, hlc, hl, q⟩ := hv
  obtain ⟨b0, o0, rfl, hblt, r0⟩ := q 0 (by simp)
  simp only [List.getElem_cons_zero, Nat.add_zero] at r0
  simp only [List.length_cons] at hlc hl HV
  have hb0 : b0 < w.heap.size := by omega
  obtain ⟨c1, f1⟩ : w.cell? ⟨g, 1, none⟩ = some (.slice (some ⟨b0, o0, none⟩) (l.length + 1) cap) ∧ w.frozen? ⟨g, 1, none⟩ = false := ⟨by simp [World.cell?, hb], Bi.frozen_of hb 1⟩
  have t0 : decide ((l.length : Int) + 1 = 0) = false := decide_eq_false (by omega)
  have HB := hide hb
  clear hb q h hlt
  go_enter Try.func140, Try.ntmps140
  go_wp2_with fail
  all_goals
    go_ret
    exact ⟨rfl, tail_sbox H.out HB.out (by have := vs_tail HV.out; simpa [sliced, h, Addr.add] using this) _⟩

set_option maxHeartbeats 4000000 in
theorem answerE {w : World} {g m : Nat} {q : Q4} {T : List (Q4 × Int)} (h : SBox w g m [] T) :
    Calls Try.prog 140 #[.pointer (some ⟨g, 0, none⟩), setV q.a q.b q.c q.d] w fun e w' => e = asks4 q.a q.b q.c q.d ∧ Below w.heap.size w w' := by
  obtain ⟨an, hb, hv⟩ := h.box
  obtain ⟨oa, cap, rfl, hlc, hl, q⟩ := hv
  have hg := block_lt hb
  obtain ⟨c1, f1⟩ : w.cell? ⟨g, 1, none⟩ = some (.slice oa 0 cap) ∧ w.frozen? ⟨g, 1, none⟩ = false := ⟨by simp [World.cell?, hb], Bi.frozen_of hb 1⟩
  clear hb q hl hlc h
  go_enter Try.func140, Try.ntmps140
  go_wp2_with fail
  exact ⟨rfl, rfl, (Below.refl _ w).alloc (Nat.le_refl _) _⟩

theorem KEY : Maps.Keyed Try.prog 9 := Maps.string_keyed Try.underlying9
theorem MAP : Try.prog.underlying 188 = some (.map 9 39) := by kernel_rfl
theorem zero33 (w : World) : (zeroValue 39).run Try.prog w = .ok (.int .u8 0) w := by kernel_rfl
theorem key_of (q : Q4) : keyOf Try.prog 9 (.string (strOfNums (txt q))) = some (lit q) := by
  have := WideMaps.keyOf_string_mk Try.underlying9 (s := strOfNums (txt q)) (by rw [strOfNums_size, txt_length]; unfold maxLen; omega)
  rw [this]
  rfl
theorem un_drewB {w w' : World} (h : Below w.drew.heap.size w.drew w') : Below w.heap.size w w' := (Below.drew (Below.refl w.heap.size w)).trans h
theorem keeps_grown {m g : Nat} {w w' : World} (h : w.grownBy w' (some m)) (hm : m < w.heap.size) : KeepsM m g w w' :=
  ⟨⟨h.os, h.tape, h.output, h.size, fun k hk => h.block k (by omega) (by simp; omega)⟩, fun b hb hbm _ => h.block b hb (by simpa using hbm)⟩
def Asked (w : World) (g m : Nat) (l : List Int) (T : List (Q4 × Int)) (q : Q4) (e : Ending) (w' : World) (f : Int → Value) : Prop :=
  match memo T q with
  | some v => e = .returned (f v) ∧ KeepsM m g w w' ∧ SBox w' g m l T
  | none => match l with
    | [] => e = asks4 q.a q.b q.c q.d ∧ KeepsM m g w w'
    | x :: l => e = .returned (f x) ∧ KeepsM m g w w' ∧ SBox w' g m l ((q, x) :: T)

set_option maxHeartbeats 8000000 in
theorem verdictS {w : World} {g m : Nat} {q : Q4} {l : List Int} {T : List (Q4 × Int)} (h : SBox w g m l T) (hq : q.Ok) :
    Calls Try.prog 143 #[.pointer (some ⟨g, 0, none⟩), setV q.a q.b q.c q.d] w fun e w' => Asked w g m l T q e w' fun v => .int .u8 v := by
  have hB0 := (Below.refl w.heap.size w).alloc (Nat.le_refl _) (boxV q.a q.b q.c q.d)
  have HB0 := hide hB0
  have H0 := hide (h.old hB0)
  have HQ := hide hq
  have HX := hide (new_block w (boxV q.a q.b q.c q.d))
  have HGW : Hid (g < w.heap.size) := hide h.gt
  obtain ⟨an, hb, hv⟩ := H0.out.box
  obtain ⟨oa, cap, rfl, -, -, -⟩ := hv
  have g0 : (w.alloc (boxV q.a q.b q.c q.d)).cell? ⟨g, 0, none⟩ = some (.func (.func 137) #[] #[]) := cell_of hb 0
  have g2 : (w.alloc (boxV q.a q.b q.c q.d)).cell? ⟨g, 2, none⟩ = some (.map (some m)) := cell_of hb 2
  obtain ⟨x0, x1, x2, x3⟩ := box_cells HX.out
  have HT := hide (fun W => textProg (w := W) hq.a hq.b hq.c hq.d)
  clear hB0 h hq hb
  go_enter Try.func143, Try.ntmps143
  go_wp2_with fail
  go_region_with (first
    | (go_at_call 137
       (with_reducible refine (HT.out _).mono ?_)
       rintro e w1 ⟨rfl, hB1⟩
       have HB1 := hide hB1
       clear hB1)
    | fail)
  all_goals
    have hB2 : Below (w.alloc (boxV q.a q.b q.c q.d)).heap.size (w.alloc (boxV q.a q.b q.c q.d)) w1 := un_drewB HB1.out
    have H1 := hide (H0.out.old hB2)
    have HBW := hide (HB0.out.trans (hB2.mono (by simp)))
    have HX1 := hide ((hB2.block _ (block_lt HX.out)).trans HX.out)
    clear hB2 g0 g2 x0 x1 x2 x3 HB1 HX H0 HB0
    obtain ⟨an1, hb1, hv1⟩ := H1.out.box
    have HB1 := hide hb1
    have g2 : w1.cell? ⟨g, 2, none⟩ = some (.map (some m)) := cell_of hb1 2
    obtain ⟨x0, x1, x2, x3⟩ := box_cells HX1.out
    obtain ⟨hh, hat⟩ := memo_told HQ.out H1.out.ok
    have HM := hide H1.out.map
    have HAT := hide hat
    clear hb1 hv1 hat
    cases hm : memo T q with
    | some v =>
      have HMM := hide hm
      rw [hm] at hh HAT
      simp only [Option.isSome_some] at hh
      clear hm
      go_wp2_with (first
        | (at_lookup
           (refine wpList_lookup_own_ok_int _ rfl _ _ 188 rfl 9 39 .u8 KEY MAP Try.underlying39 (zero33 _) m T.length (told T) rfl HM.out _ _ rfl (key_of q) ?_
            intro c hc hwc
            obtain rfl : c = v := by have := (HAT.out _).symm.trans hc; simpa using this.symm
            clear hc hwc))
        | fail)
      go_ret
      unfold Asked
      rw [HMM.out]
      exact ⟨rfl, KeepsM.of_below (by have := H1.out.lt; have := HGW.out; omega) HBW.out, H1.out⟩
    | none =>
      have HMM := hide hm
      rw [hm] at hh HAT
      simp only [Option.isSome_none] at hh
      clear hm
      cases l with
      | nil =>
        go_wp2_with (first
          | (at_lookup
             (refine wpList_lookup_own_ok_int _ rfl _ _ 188 rfl 9 39 .u8 KEY MAP Try.underlying39 (zero33 _) m T.length (told T) rfl HM.out _ _ rfl (key_of q) ?_
              intro c hc hwc
              clear hc hwc))
          | (go_at_call 140
             (with_reducible refine (answerE (q := q) H1.out).mono ?_)
             rintro e w2 ⟨rfl, hB2⟩
             unfold asks4
             have HB2 := hide (HBW.out.trans (hB2.mono HBW.out.size))
             clear hB2)
          | fail)
        refine ⟨rfl, ?_⟩
        unfold Asked
        rw [HMM.out]
        exact ⟨rfl, KeepsM.of_below (by have := H1.out.lt; have := HGW.out; omega) HB2.out⟩
      | cons x l =>
        go_wp2_with (first
          | (at_lookup
             (refine wpList_lookup_own_ok_int _ rfl _ _ 188 rfl 9 39 .u8 KEY MAP Try.underlying39 (zero33 _) m T.length (told T) rfl HM.out _ _ rfl (key_of q) ?_
              intro c hc hwc
              clear hc hwc))
          | (go_at_call 140
             (with_reducible refine (answerS (q := q) H1.out).mono ?_)
             rintro e w2 ⟨rfl, hk2, hs2⟩
             have HK2 := hide ((KeepsM.of_below (by have := H1.out.lt; have := HGW.out; omega) HBW.out).trans hk2)
             have H2 := hide hs2
             obtain ⟨an2, hb2, hv2⟩ := hs2.box
             have e2 : w2.cell? ⟨g, 2, none⟩ = some (.map (some m)) := cell_of hb2 2
             clear hk2 hs2 hb2 hv2 g2 x0 x1 x2 x3)
          | (at_mapUpdate
             (refine wpList_mapUpdate_own _ rfl _ _ _ 188 rfl 9 39 KEY MAP _ m T.length (told T) rfl H2.out.map (by have := H2.out.room; unfold maxLen; omega) _ _ _ rfl rfl (key_of q) _ [] (plainElem_int Try.underlying39 (by have := H1.out.wf x (by simp); simp [Lit.wf, IntKind.min, IntKind.max, IntKind.signed, IntKind.bits]; omega)) ?_
              intro w3 hown3 hgrow3
              have HO3 := hide hown3
              have HG3 := hide hgrow3
              clear hown3 hgrow3))
          | fail)
        go_ret
        unfold Asked
        rw [HMM.out]
        have hg2 := H2.out.gt
        have hlt := H2.out.lt
        have hk3 := keeps_grown (g := g) HG3.out (by omega)
        refine ⟨rfl, HK2.out.trans hk3, ?_⟩
        obtain ⟨an2, hb2, hv2⟩ := H2.out.box
        exact ⟨⟨an2, (HG3.out.block g hg2 (by simp; omega)).trans hb2, vs_keptM hk3 hv2⟩, H2.out.wf, HO3.out, by have := H1.out.room; simp at this ⊢; omega, hlt, by
          intro e he
          rcases List.mem_cons.1 he with rfl | he
          · exact HQ.out
          · exact H1.out.ok e he⟩

set_option maxHeartbeats 8000000 in
theorem failsS {w : World} {g m : Nat} {q : Q4} {l : List Int} {T : List (Q4 × Int)} (h : SBox w g m l T) (hq : q.Ok) :
    Calls Try.prog 93 #[.pointer (some ⟨g, 0, none⟩), setV q.a q.b q.c q.d] w fun e w' => Asked w g m l T q e w' fun v => .bool (v == 2) := by
  have hB0 := (Below.refl w.heap.size w).alloc (Nat.le_refl _) (boxV q.a q.b q.c q.d)
  have H0 := hide (h.old hB0)
  have HQ := hide hq
  have HX := hide (new_block w (boxV q.a q.b q.c q.d))
  have HK0 : Hid (KeepsM m g w (w.alloc (boxV q.a q.b q.c q.d))) := hide (KeepsM.of_below (by have := h.lt; have := h.gt; omega) hB0)
  obtain ⟨x0, x1, x2, x3⟩ := box_cells HX.out
  clear hB0 h hq
  go_enter Try.func93, Try.ntmps93
  go_wp2_with fail
  (with_reducible refine (verdictS H0.out HQ.out).mono ?_)
  rintro e w1 ha
  unfold Asked at ha
  cases hm : memo T q with
  | some v =>
    rw [hm] at ha
    have HMM := hide hm
    obtain ⟨rfl, hk, hs⟩ := ha
    have HK := hide (HK0.out.trans hk)
    have HS := hide hs
    clear hk hs hm
    go_wp2_with fail
    go_ret
    unfold Asked
    rw [HMM.out]
    exact ⟨rfl, HK.out, HS.out⟩
  | none =>
    rw [hm] at ha
    have HMM := hide hm
    clear hm
    cases l with
    | nil =>
      obtain ⟨rfl, hk⟩ := ha
      have HK := hide (HK0.out.trans hk)
      clear hk
      unfold asks4
      go_wp2_with fail
      refine ⟨rfl, ?_⟩
      unfold Asked
      rw [HMM.out]
      exact ⟨rfl, HK.out⟩
    | cons x l =>
      obtain ⟨rfl, hk, hs⟩ := ha
      have HK := hide (HK0.out.trans hk)
      have HS := hide hs
      clear hk hs
      go_wp2_with fail
      go_ret
      unfold Asked
      rw [HMM.out]
      exact ⟨rfl, HK.out, HS.out⟩
end Go.Proofs.Ytmkapmbmgpnjaaa.Se

set_option maxRecDepth 100000
set_option linter.unusedSimpArgs false
set_option linter.unusedVariables false
namespace Go.Proofs.Ytmkapmbmgpnjaaa.Se
open Go Go.Ms Go.Pg Go.Bi Go.Se Go.ChangeShapes Go.WideShapes Go.ChangeAt Go.RowKit Go.Deep Go.Proofs.Ytmkapmbmgpnjaaa.Bi

def less (a b : Nat) : Nat := a &&& (18446744073709551615 - b)
theorem notAt {x y : Nat} (hx : x < 2 ^ 64) (hy : y < 2 ^ 64) : bits .andNot .u64 (x : Int) (y : Int) = ((less x y : Nat) : Int) := u64_andNot_nat x y (by omega) (by omega)
theorem less_lt {x y : Nat} (hx : x < 2 ^ 64) : less x y < 2 ^ 64 := Nat.lt_of_le_of_lt Nat.and_le_left hx
theorem less_bit {x y r : Nat} (hy : y < 2 ^ 64) (hr : r < 64) : (less x y).testBit r = (x.testBit r && !y.testBit r) := by
  unfold less
  rw [Nat.testBit_and, show 18446744073709551615 - y = 2 ^ 64 - (y + 1) by omega, Nat.testBit_two_pow_sub_succ hy, decide_eq_true hr, Bool.true_and]
theorem Sp_less {p q : Nat → Bool} {a b c d e f g k : Nat} (h : Sp p a b c d) (i : Sp q e f g k) : Sp (fun n => p n && !q n) (less a e) (less b f) (less c g) (less d k) :=
  ⟨less_lt h.ha, less_lt h.hb, less_lt h.hc, less_lt h.hd,
    fun r hr => by simp only [less_bit i.ha hr, ← h.h0 r hr, ← i.h0 r hr], fun r hr => by simp only [less_bit i.hb hr, ← h.h1 r hr, ← i.h1 r hr],
    fun r hr => by simp only [less_bit i.hc hr, ← h.h2 r hr, ← i.h2 r hr], fun r hr => by simp only [less_bit i.hd hr, ← h.h3 r hr, ← i.h3 r hr]⟩
set_option maxHeartbeats 8000000 in
theorem withoutSet {w : World} {p q : Nat → Bool} {a b c d a' b' c' d' : Nat} (h : Sp p a b c d) (g : Sp q a' b' c' d') :
    Calls Try.prog 76 #[setV a b c d, setV a' b' c' d'] w fun e w' => e = .returned (setV (less a a') (less b b') (less c c') (less d d')) ∧ Below w.heap.size w w' := by
  have h0 := notAt h.ha g.ha
  have h1 := notAt h.hb g.hb
  have h2 := notAt h.hc g.hc
  have h3 := notAt h.hd g.hd
  clear h g
  go_enter Try.func76, Try.ntmps76
  go_wp2_with fail
  go_loopw [6] (fun i wr => ∃ k z0 z1 z2 z3 : Nat, k ≤ 4 ∧ i = .int .i64 (k : Int) ∧ Hid (z0 = (if 0 < k then less a a' else a) ∧ z1 = (if 1 < k then less b b' else b) ∧ z2 = (if 2 < k then less c c' else c) ∧ z3 = (if 3 < k then less d d' else d)) ∧ Below w.heap.size w wr ∧ wr.heap[w.heap.size]? = some (boxV z0 z1 z2 z3) ∧ wr.heap[w.heap.size + 1]? = some (boxV a' b' c' d') ∧ wr.heap[w.heap.size + 1 + 1]? = some (boxV 0 0 0 0)) (fun i _ => 4 - (intOf i).toNat)
  case atStart => exact ⟨0, a, b, c, d, by omega, rfl, hide ⟨rfl, rfl, rfl, rfl⟩, (((Below.refl _ w).alloc (Nat.le_refl _) _).alloc (by simp) _).alloc (by simp; omega) _, old_block (old_block (new_block w _) _) _, old_block (alloc_at (by simp)) _, alloc_at (by simp)⟩
  case round =>
    obtain ⟨k, z0, z1, z2, z3, hk, rfl, hz, hB, hb0, hb1, hb2⟩ := hrel
    have HB := hide hB
    have H0 := hide hb0
    have H1 := hide hb1
    have H2 := hide hb2
    clear hB hb0 hb1 hb2
    have hc : k = 0 ∨ k = 1 ∨ k = 2 ∨ k = 3 ∨ k = 4 := by omega
    rcases hc with rfl | rfl | rfl | rfl | rfl
    · obtain ⟨g0, g1, g2, g3⟩ : z0 = a ∧ z1 = b ∧ z2 = c ∧ z3 = d := by simpa using hz.out
      rw [g0, g1, g2, g3] at H0
      clear hz g0 g1 g2 g3
      have q1 : wr.cell? ⟨w.heap.size, 0, none⟩ = some (.int .u64 (a : Int)) := cell_of H0.out 0
      have q2 : wr.cell? ⟨w.heap.size + 1, 0, none⟩ = some (.int .u64 (a' : Int)) := cell_of H1.out 0
      have q3 := Bi.frozen_of H0.out 0
      go_wp2_with fail
      go_region
      all_goals
        go_wp2
        exact ⟨⟨1, less a a', b, c, d, by omega, rfl, hide (by simp), Below.drew (HB.out.setCell (p := ⟨w.heap.size, 0, none⟩) (Nat.le_refl _) _), set0 H0.out, setO H1.out (by omega), setO H2.out (by omega)⟩, by simp [intOf]⟩
    · obtain ⟨g0, g1, g2, g3⟩ : z0 = less a a' ∧ z1 = b ∧ z2 = c ∧ z3 = d := by simpa using hz.out
      rw [g0, g1, g2, g3] at H0
      clear hz g0 g1 g2 g3
      have q1 : wr.cell? ⟨w.heap.size, 1, none⟩ = some (.int .u64 (b : Int)) := cell_of H0.out 1
      have q2 : wr.cell? ⟨w.heap.size + 1, 1, none⟩ = some (.int .u64 (b' : Int)) := cell_of H1.out 1
      have q3 := Bi.frozen_of H0.out 1
      go_wp2_with fail
      go_region
      all_goals
        go_wp2
        exact ⟨⟨2, less a a', less b b', c, d, by omega, rfl, hide (by simp), Below.drew (HB.out.setCell (p := ⟨w.heap.size, 1, none⟩) (Nat.le_refl _) _), set1 H0.out, setO H1.out (by omega), setO H2.out (by omega)⟩, by simp [intOf]⟩
    · obtain ⟨g0, g1, g2, g3⟩ : z0 = less a a' ∧ z1 = less b b' ∧ z2 = c ∧ z3 = d := by simpa using hz.out
      rw [g0, g1, g2, g3] at H0
      clear hz g0 g1 g2 g3
      have q1 : wr.cell? ⟨w.heap.size, 2, none⟩ = some (.int .u64 (c : Int)) := cell_of H0.out 2
      have q2 : wr.cell? ⟨w.heap.size + 1, 2, none⟩ = some (.int .u64 (c' : Int)) := cell_of H1.out 2
      have q3 := Bi.frozen_of H0.out 2
      go_wp2_with fail
      go_region
      all_goals
        go_wp2
        exact ⟨⟨3, less a a', less b b', less c c', d, by omega, rfl, hide (by simp), Below.drew (HB.out.setCell (p := ⟨w.heap.size, 2, none⟩) (Nat.le_refl _) _), set2 H0.out, setO H1.out (by omega), setO H2.out (by omega)⟩, by simp [intOf]⟩
    · obtain ⟨g0, g1, g2, g3⟩ : z0 = less a a' ∧ z1 = less b b' ∧ z2 = less c c' ∧ z3 = d := by simpa using hz.out
      rw [g0, g1, g2, g3] at H0
      clear hz g0 g1 g2 g3
      have q1 : wr.cell? ⟨w.heap.size, 3, none⟩ = some (.int .u64 (d : Int)) := cell_of H0.out 3
      have q2 : wr.cell? ⟨w.heap.size + 1, 3, none⟩ = some (.int .u64 (d' : Int)) := cell_of H1.out 3
      have q3 := Bi.frozen_of H0.out 3
      go_wp2_with fail
      go_region
      all_goals
        go_wp2
        exact ⟨⟨4, less a a', less b b', less c c', less d d', by omega, rfl, hide (by simp), Below.drew (HB.out.setCell (p := ⟨w.heap.size, 3, none⟩) (Nat.le_refl _) _), set3 H0.out, setO H1.out (by omega), setO H2.out (by omega)⟩, by simp [intOf]⟩
    · obtain ⟨g0, g1, g2, g3⟩ : z0 = less a a' ∧ z1 = less b b' ∧ z2 = less c c' ∧ z3 = less d d' := by simpa using hz.out
      rw [g0, g1, g2, g3] at H0
      clear hz g0 g1 g2 g3
      obtain ⟨q1, q2, q3, q4⟩ := box_cells H0.out
      obtain ⟨r1, r2, r3, r4⟩ := box_cells H2.out
      have s1 := Bi.frozen_of H2.out 0
      have s2 := Bi.frozen_of H2.out 1
      have s3 := Bi.frozen_of H2.out 2
      have s4 := Bi.frozen_of H2.out 3
      go_wp2_with fail
      refine final8 (X := putV wr (w.heap.size + 1 + 1) (less a a') (less b b') (less c c') (less d d')) rfl ?_
      have HV := hide (putV_block (e := less a a') (f := less b b') (g := less c c') (h := less d d') H2.out)
      have HQ := hide (putV_below (a := less a a') (b := less b b') (c := less c c') (d := less d d') HB.out (B := w.heap.size + 1 + 1) (by omega))
      generalize putV wr (w.heap.size + 1 + 1) (less a a') (less b b') (less c c') (less d d') = X at *
      obtain ⟨x0, x1, x2, x3⟩ := box_cells HV.out
      refine bodyPost_ret (v := setV (less a a') (less b b') (less c c') (less d d')) (by simp [results, Try.results76, go_sem, x0, x1, x2, x3]) rfl ?_
      exact ⟨rfl, HQ.out⟩
end Go.Proofs.Ytmkapmbmgpnjaaa.Se

set_option maxRecDepth 100000
set_option linter.unusedSimpArgs false
set_option linter.unusedVariables false
namespace Go.Proofs.Ytmkapmbmgpnjaaa.Se
open Go Go.Ms Go.Pg Go.Bi Go.Se Go.ChangeShapes Go.WideShapes Go.ChangeAt Go.RowKit Go.Deep Go.Proofs.Ytmkapmbmgpnjaaa.Bi

inductive Rs where
  | ask (p : Nat → Bool)
  | err (x : Int)
  | fin (kept pass left : List Int)
def Comes (B g m : Nat) (w : World) : Rs → Ending → World → Prop
  | .ask p, e, w' => ∃ a b c d, e = asks4 a b c d ∧ Sp p a b c d ∧ KeepsM m g w w'
  | .err x, e, w' => e = .returned (.tuple #[questV false nilV nilV nilV, .int .i64 x]) ∧ x ≠ 0 ∧ KeepsM m g w w'
  | .fin kept pass left, e, w' => ∃ k p T, e = .returned (.tuple #[questV true nilV k p, .int .i64 0]) ∧ Go.Il.Own 3 .i64 B w' k kept ∧ Go.Il.Own 3 .i64 B w' p pass ∧ KeepsM m g w w' ∧ SBox w' g m left T
def Gives (B : Nat) (w' : World) : Rs → Ending → Prop
  | .ask p, e => ∃ s, e = .returned (.tuple #[questV false s nilV nilV, .int .i64 0]) ∧ Go.Il.Own 3 .i64 B w' s (upTo p 256)
  | .err x, e => e = .returned (.tuple #[questV false nilV nilV nilV, .int .i64 x])
  | .fin kept pass left, e => if left = [] then ∃ k p, e = .returned (.tuple #[questV true nilV k p, .int .i64 0]) ∧ Go.Il.Own 3 .i64 B w' k kept ∧ Go.Il.Own 3 .i64 B w' p pass
      else e = .returned (.tuple #[questV false nilV nilV nilV, .int .i64 8])

theorem own_up {w w' : World} {B : Nat} {v : Value} {l : List Int} (h : Go.Il.Own 3 .i64 B w v l) (hB : Below w.heap.size w w') : Go.Il.Own 3 .i64 B w' v l := Bi.own_same h fun g cs _ hh => hB.block g (block_lt hh)
theorem keepsM_block {m g : Nat} {w w' : World} (h : KeepsM m g w w') {b : Nat} {o : Obj} (hm : b ≠ m) (hb : b ≠ g) (hc : w.heap[b]? = some o) : w'.heap[b]? = some o := (h.kept b (block_lt hc) hm hb).trans hc
theorem own3_put {w : World} {B S : Nat} {v : Value} {l : List Int} (h : Go.Il.Own 3 .i64 B w v l) {d d' : Bool} {a k p a' k' p' e e0 : Value} (hq : w.heap[S + 1]? = some (boxQ d' a' k' p')) (he : w.heap[S + 1 + 1]? = some (.cells #[e0] 27 (0, 0))) :
    Go.Il.Own 3 .i64 B ((putQ w (S + 1) d a k p).setCell ⟨S + 1 + 1, 0, none⟩ e) v l :=
  Bi.own_same h fun b cs _ hh => (Below.heap_setCell _ ⟨S + 1 + 1, 0, none⟩ _ b (fun q => by rw [q] at hh; have := hh.symm.trans he; injection this with this; injection this with _ ht; cases ht)).trans
    (putQ_other (fun q => by rw [q] at hh; have := hh.symm.trans hq; injection this with this; injection this with _ ht; cases ht))

theorem six_map (w : World) (o0 o1 o2 o3 o5 : Obj) : ((((((w.alloc o0).alloc o1).alloc o2).alloc o3).alloc (.map #[] 0)).alloc o5).heap[w.heap.size + 1 + 1 + 1 + 1]? = some (.map #[] 0) := old_block (alloc_at (by simp)) _
theorem map_made {w : World} {m : Nat} (h : w.heap[m]? = some (.map #[] 0)) : w.ownsMap Try.prog 9 (plainElem Try.prog 39) m ([] : List (Q4 × Int)).length (told []) := by
  obtain ⟨es, clock, hb, F, hs, hD⟩ := World.ownsMap_made (H := Unit) w Try.prog 9 (plainElem Try.prog 39)
  have := (new_block w (.map #[] 0)).symm.trans hb
  injection this with this
  injection this with h1 h2
  subst h1 h2
  exact ⟨#[], 0, h, F, hs, hD⟩
set_option maxHeartbeats 8000000 in
theorem replayS {w : World} {an : Value} {fn : FuncId} {caps : Array Value} {l : List Int} {R : Rs → Prop} (h : Vs w w.heap.size an l) (hl : l.length ≤ 4096) (hwf : ∀ x ∈ l, 0 ≤ x ∧ x < 256) (hcf : ∀ args (W : World), (callFunc fn args).run Try.prog W = .ok (.enter fn args) W)
    (hT : ∀ W : World, Below w.heap.size w W → SBox W (w.heap.size + 1 + 1 + 1 + 1 + 1) (w.heap.size + 1 + 1 + 1 + 1) l [] → Calls Try.prog fn (#[.pointer (some ⟨w.heap.size + 1 + 1 + 1 + 1 + 1, 0, none⟩)] ++ caps) W fun e w' => ∃ res, R res ∧ Comes w.heap.size (w.heap.size + 1 + 1 + 1 + 1 + 1) (w.heap.size + 1 + 1 + 1 + 1) W res e w') :
    Calls Try.prog 136 #[an, .func (.func 137) #[] #[], .func (.func 138) #[] #[], .func (.func fn) #[] caps] w fun e w' => ∃ res, R res ∧ Gives w.heap.size w' res e ∧ Below w.heap.size w w' := by
  have HV := hide h
  have HTT := hide hT
  have HL := hide hl
  have HWF := hide hwf
  obtain ⟨oa, cap, rfl, -, -, -⟩ := h
  have tl : decide ((4096 : Int) < (l.length : Int)) = false := decide_eq_false (by omega)
  have tl2 : decide (4096 < l.length) = false := decide_eq_false (by omega)
  have hmf : ∀ (fn : Fn) (first cap : Array Value) (w : World), (Instr.makeFunc fn first cap).run Try.prog w = .ok (.func fn first cap) w := fun _ _ _ _ => rfl
  have hmm : ∀ (w : World), (Instr.makeMap 188 none).run Try.prog w = .ok (.map (some w.heap.size)) (w.alloc (.map #[] 0)) := fun _ => rfl
  clear hT hl hwf
  go_enter_defers Try.func136, Try.ntmps136
  go_wp2_with fail
  obtain ⟨k0, k1, k2, k3, k5, kB, kS⟩ := six w (.cells #[.func (.func 138) #[] #[]] 171) (boxQ false nilV nilV nilV) (.cells #[.int .i64 0] 27) (boxQ false nilV nilV nilV) (.map #[] 0) (.cells #[.func (.func 137) #[] #[], .slice oa l.length cap, .map (some (w.heap.size + 1 + 1 + 1 + 1))] 204)
  have k4 := six_map w (.cells #[.func (.func 138) #[] #[]] 171) (boxQ false nilV nilV nilV) (.cells #[.int .i64 0] 27) (boxQ false nilV nilV nilV) (.cells #[.func (.func 137) #[] #[], .slice oa l.length cap, .map (some (w.heap.size + 1 + 1 + 1 + 1))] 204)
  generalize ((((((w.alloc (.cells #[.func (.func 138) #[] #[]] 171)).alloc (boxQ false nilV nilV nilV)).alloc (.cells #[.int .i64 0] 27)).alloc (boxQ false nilV nilV nilV)).alloc (.map #[] 0)).alloc (.cells #[.func (.func 137) #[] #[], .slice oa l.length cap, .map (some (w.heap.size + 1 + 1 + 1 + 1))] 204)) = W at *
  have HB := hide kB
  have HX : Hid (SBox W (w.heap.size + 1 + 1 + 1 + 1 + 1) (w.heap.size + 1 + 1 + 1 + 1) l []) := hide ⟨⟨_, k5, vs_wide HV.out kB (by omega)⟩, HWF.out, map_made k4, by have := HL.out; simp; omega, by omega, by simp⟩
  have K0 := hide k0
  have K1 := hide k1
  have K2 := hide k2
  have K3 := hide k3
  have KS := hide kS
  clear k0 k1 k2 k3 k4 k5 kB kS
  (with_reducible refine (HTT.out W HB.out HX.out).mono ?_)
  rintro e w1 ⟨res, hres, hE⟩
  have HRES := hide hres
  clear hres
  cases res with
  | ask p =>
    obtain ⟨a, b, c, d, rfl, hp, hk⟩ := hE
    unfold asks4
    have HP := hide hp
    have K0' := hide (keepsM_block hk (by omega) (by omega) K0.out)
    have K1' := hide (keepsM_block hk (by omega) (by omega) K1.out)
    have K2' := hide (keepsM_block hk (by omega) (by omega) K2.out)
    have HB1 := hide (HB.out.trans (hk.below.mono (by omega)))
    clear hp hk
    go_wp2_with fail
    have hsz := HB1.out.size
    have c0 : w1.cell? ⟨w.heap.size, 0, none⟩ = some (.func (.func 138) #[] #[]) := cell_of K0'.out 0
    refine leaves_cons (f := 160) (args := #[.pointer (some ⟨w.heap.size, 0, none⟩), .pointer (some ⟨w.heap.size + 1, 0, none⟩), .pointer (some ⟨w.heap.size + 1 + 1, 0, none⟩)]) (by simp) (by simp [go_sem]) ?_
    refine (catchAsk HP.out c0 K1'.out K2'.out (by omega)).mono ?_
    rintro e u' w2 ⟨rfl, rfl, hB2, v', hq2, he2, hO2⟩
    have HO2 := hide (own_mono (B' := w.heap.size) hsz hO2)
    have HB2 := hide (HB1.out.trans (hB2.mono (by omega)))
    clear hO2 hB2
    obtain ⟨x0, x1, x2, x3⟩ := q_cells hq2
    have y0 : w2.cell? ⟨w.heap.size + 1 + 1, 0, none⟩ = some (.int .i64 0) := cell_of he2 0
    obtain ⟨oa', cap', hv'⟩ := Go.Il.Own.form HO2.out
    subst hv'
    simp [Leaves, settle, results, Try.results136, go_sem, x0, x1, x2, x3, y0]
    exact ⟨_, HRES.out, ⟨_, rfl, HO2.out⟩, HB2.out⟩
  | err x =>
    obtain ⟨rfl, hx0, hk⟩ := hE
    have hxe : (x == (0 : Int)) = false := beq_false_of_ne hx0
    have J0 := hide (keepsM_block hk (by omega) (by omega) K0.out)
    have J1 := hide (keepsM_block hk (by omega) (by omega) K1.out)
    have J2 := hide (keepsM_block hk (by omega) (by omega) K2.out)
    have J3 := hide (keepsM_block hk (by omega) (by omega) K3.out)
    have JB := hide (HB.out.trans (hk.below.mono (by omega)))
    clear hk hx0
    obtain ⟨q0, q1, q2, q3⟩ := q_cells J1.out
    obtain ⟨r0, r1, r2, r3⟩ := q_cells J3.out
    have s0 := Bi.frozen_of J1.out 0
    have s1 := Bi.frozen_of J1.out 1
    have s2 := Bi.frozen_of J1.out 2
    have s3 := Bi.frozen_of J1.out 3
    have z0 := cell_of J2.out 0
    simp at z0
    have z1 := Bi.frozen_of J2.out 0
    go_wp2_with fail
    obtain ⟨j1, j2, j3, jB⟩ := putQE (d := false) (a := nilV) (k := nilV) (p := nilV) (e := .int .i64 x) J1.out J2.out J3.out JB.out
    clear q0 q1 q2 q3 r0 r1 r2 r3 s0 s1 s2 s3 z0 z1 J0 J1 J2 J3 JB
    change Code.wp _ _ _ _ ((putQ w1 (w.heap.size + 1) false nilV nilV nilV).setCell ⟨w.heap.size + 1 + 1, 0, none⟩ (.int .i64 x))
    generalize ((putQ w1 (w.heap.size + 1) false nilV nilV nilV).setCell ⟨w.heap.size + 1 + 1, 0, none⟩ (.int .i64 x)) = X at *
    have J1 := hide j1
    have J2 := hide j2
    have J3 := hide j3
    have JB := hide jB
    clear j1 j2 j3 jB
    obtain ⟨q0, q1, q2, q3⟩ := q_cells J1.out
    obtain ⟨r0, r1, r2, r3⟩ := q_cells J3.out
    have s0 := Bi.frozen_of J1.out 0
    have s1 := Bi.frozen_of J1.out 1
    have s2 := Bi.frozen_of J1.out 2
    have s3 := Bi.frozen_of J1.out 3
    have z0 := cell_of J2.out 0
    simp at z0
    have z1 := Bi.frozen_of J2.out 0
    go_region
    all_goals
      go_wp2_with fail
      obtain ⟨k1, k2, k3, kB⟩ := putQE (d := false) (a := nilV) (k := nilV) (p := nilV) (e := .int .i64 x) J1.out J2.out J3.out JB.out
      clear q0 q1 q2 q3 r0 r1 r2 r3 s0 s1 s2 s3 z0 z1 J1 J2 J3 JB
      change bodyPostD _ _ _ _ _ ((putQ X (w.heap.size + 1) false nilV nilV nilV).setCell ⟨w.heap.size + 1 + 1, 0, none⟩ (.int .i64 x)).drew
      generalize hX : ((putQ X (w.heap.size + 1) false nilV nilV nilV).setCell ⟨w.heap.size + 1 + 1, 0, none⟩ (.int .i64 x)) = Y at *
      have J1 := hide k1
      have J2 := hide k2
      have JB := hide kB
      clear k1 k2 k3 kB
      have JBD := Below.drew JB.out
      refine leaves_cons (f := 160) (args := #[.pointer (some ⟨w.heap.size, 0, none⟩), .pointer (some ⟨w.heap.size + 1, 0, none⟩), .pointer (some ⟨w.heap.size + 1 + 1, 0, none⟩)]) (by simp) (by simp [go_sem]) ?_
      refine catchIdle.mono ?_
      rintro e u' w3 ⟨rfl, rfl, hB3⟩
      have HB3 := hide hB3
      have n1 := (hB3.block _ (block_lt J1.out)).trans J1.out
      have n2 := (hB3.block _ (block_lt J2.out)).trans J2.out
      clear hB3
      obtain ⟨x0, x1, x2, x3⟩ := q_cells n1
      have y0 := cell_of n2 0
      simp at y0
      simp [Leaves, settle, results, Try.results136, go_sem, x0, x1, x2, x3, y0]
      have HBE := hide (JBD.trans (HB3.out.mono JB.out.size))
      exact ⟨_, HRES.out, rfl, HBE.out⟩
  | fin kept pass left =>
    obtain ⟨k, p, T, rfl, hok, hop, hk, hs⟩ := hE
    have J0 := hide (keepsM_block hk (by omega) (by omega) K0.out)
    have J1 := hide (keepsM_block hk (by omega) (by omega) K1.out)
    have J2 := hide (keepsM_block hk (by omega) (by omega) K2.out)
    have J3 := hide (keepsM_block hk (by omega) (by omega) K3.out)
    have JB := hide (HB.out.trans (hk.below.mono (by omega)))
    obtain ⟨oa3, cap3, hkf⟩ := Go.Il.Own.form hok
    obtain ⟨oa4, cap4, hpf⟩ := Go.Il.Own.form hop
    have HOK := hide hok
    have HOP := hide hop
    obtain ⟨an3, hb3, oa5, cap5, rfl, hc3, hl3, -⟩ := hs.box
    have g1 := cell_of hb3 1
    simp at g1
    have HG3 := hide hb3
    generalize kept.length = nk at *
    generalize pass.length = np at *
    subst hkf hpf
    clear hk hok hop hs hb3
    obtain ⟨q0, q1, q2, q3⟩ := q_cells J1.out
    obtain ⟨r0, r1, r2, r3⟩ := q_cells J3.out
    have s0 := Bi.frozen_of J1.out 0
    have s1 := Bi.frozen_of J1.out 1
    have s2 := Bi.frozen_of J1.out 2
    have s3 := Bi.frozen_of J1.out 3
    have z0 := cell_of J2.out 0
    simp at z0
    have z1 := Bi.frozen_of J2.out 0
    cases left with
    | nil =>
      simp only [List.length_nil] at g1 HG3
      clear hc3 hl3
      go_wp2_with fail
      obtain ⟨j1, j2, j3, jB⟩ := putQE (d := true) (a := nilV) (k := .slice oa3 nk cap3) (p := .slice oa4 np cap4) (e := .int .i64 0) J1.out J2.out J3.out JB.out
      obtain ⟨k1, k2, k3, kB⟩ := putQE (d := true) (a := nilV) (k := .slice oa3 nk cap3) (p := .slice oa4 np cap4) (e := .int .i64 0) j1 j2 j3 jB
      have hok2 := own3_put (d := true) (a := nilV) (k := .slice oa3 nk cap3) (p := .slice oa4 np cap4) (e := .int .i64 0) (own3_put (d := true) (a := nilV) (k := .slice oa3 nk cap3) (p := .slice oa4 np cap4) (e := .int .i64 0) HOK.out J1.out J2.out) j1 j2
      have hop2 := own3_put (d := true) (a := nilV) (k := .slice oa3 nk cap3) (p := .slice oa4 np cap4) (e := .int .i64 0) (own3_put (d := true) (a := nilV) (k := .slice oa3 nk cap3) (p := .slice oa4 np cap4) (e := .int .i64 0) HOP.out J1.out J2.out) j1 j2
      change bodyPostD _ _ _ _ _ ((putQ ((putQ w1 (w.heap.size + 1) true nilV (.slice oa3 nk cap3) (.slice oa4 np cap4)).setCell ⟨w.heap.size + 1 + 1, 0, none⟩ (.int .i64 0)) (w.heap.size + 1) true nilV (.slice oa3 nk cap3) (.slice oa4 np cap4)).setCell ⟨w.heap.size + 1 + 1, 0, none⟩ (.int .i64 0))
      clear q0 q1 q2 q3 r0 r1 r2 r3 s0 s1 s2 s3 z0 z1 g1 HG3 J0 J1 J2 J3 JB j1 j2 j3 jB HOK HOP
      generalize ((putQ ((putQ w1 (w.heap.size + 1) true nilV (.slice oa3 nk cap3) (.slice oa4 np cap4)).setCell ⟨w.heap.size + 1 + 1, 0, none⟩ (.int .i64 0)) (w.heap.size + 1) true nilV (.slice oa3 nk cap3) (.slice oa4 np cap4)).setCell ⟨w.heap.size + 1 + 1, 0, none⟩ (.int .i64 0)) = Y at *
      have J1 := hide k1
      have J2 := hide k2
      have JB := hide kB
      have HOK := hide hok2
      have HOP := hide hop2
      clear k1 k2 k3 kB hok2 hop2
      have JBD := JB.out
      refine leaves_cons (f := 160) (args := #[.pointer (some ⟨w.heap.size, 0, none⟩), .pointer (some ⟨w.heap.size + 1, 0, none⟩), .pointer (some ⟨w.heap.size + 1 + 1, 0, none⟩)]) (by simp) (by simp [go_sem]) ?_
      refine catchIdle.mono ?_
      rintro e u' w3 ⟨rfl, rfl, hB3⟩
      have HB3 := hide hB3
      have n1 := (hB3.block _ (block_lt J1.out)).trans J1.out
      have n2 := (hB3.block _ (block_lt J2.out)).trans J2.out
      clear hB3
      obtain ⟨x0, x1, x2, x3⟩ := q_cells n1
      have y0 := cell_of n2 0
      simp at y0
      simp [Leaves, settle, results, Try.results136, go_sem, x0, x1, x2, x3, y0]
      have HBE := hide (JBD.trans (HB3.out.mono JB.out.size))
      refine ⟨_, HRES.out, ?_, HBE.out⟩
      rw [Gives, if_pos rfl]
      exact ⟨_, _, rfl, own_up HOK.out HB3.out, own_up HOP.out HB3.out⟩
    | cons y rr =>
      simp only [List.length_cons] at g1 HG3
      clear hc3 hl3
      go_wp2_with fail
      obtain ⟨j1, j2, j3, jB⟩ := putQE (d := true) (a := nilV) (k := .slice oa3 nk cap3) (p := .slice oa4 np cap4) (e := .int .i64 0) J1.out J2.out J3.out JB.out
      obtain ⟨k1, k2, k3, kB⟩ := putQE (d := false) (a := nilV) (k := nilV) (p := nilV) (e := .int .i64 8) j1 j2 j3 jB
      change bodyPostD _ _ _ _ _ ((putQ ((putQ w1 (w.heap.size + 1) true nilV (.slice oa3 nk cap3) (.slice oa4 np cap4)).setCell ⟨w.heap.size + 1 + 1, 0, none⟩ (.int .i64 0)) (w.heap.size + 1) false nilV nilV nilV).setCell ⟨w.heap.size + 1 + 1, 0, none⟩ (.int .i64 8))
      clear q0 q1 q2 q3 r0 r1 r2 r3 s0 s1 s2 s3 z0 z1 g1 HG3 J0 J1 J2 J3 JB j1 j2 j3 jB HOK HOP
      generalize ((putQ ((putQ w1 (w.heap.size + 1) true nilV (.slice oa3 nk cap3) (.slice oa4 np cap4)).setCell ⟨w.heap.size + 1 + 1, 0, none⟩ (.int .i64 0)) (w.heap.size + 1) false nilV nilV nilV).setCell ⟨w.heap.size + 1 + 1, 0, none⟩ (.int .i64 8)) = Y at *
      have J1 := hide k1
      have J2 := hide k2
      have JB := hide kB
      clear k1 k2 k3 kB
      have JBD := JB.out
      refine leaves_cons (f := 160) (args := #[.pointer (some ⟨w.heap.size, 0, none⟩), .pointer (some ⟨w.heap.size + 1, 0, none⟩), .pointer (some ⟨w.heap.size + 1 + 1, 0, none⟩)]) (by simp) (by simp [go_sem]) ?_
      refine catchIdle.mono ?_
      rintro e u' w3 ⟨rfl, rfl, hB3⟩
      have HB3 := hide hB3
      have n1 := (hB3.block _ (block_lt J1.out)).trans J1.out
      have n2 := (hB3.block _ (block_lt J2.out)).trans J2.out
      clear hB3
      obtain ⟨x0, x1, x2, x3⟩ := q_cells n1
      have y0 := cell_of n2 0
      simp at y0
      simp [Leaves, settle, results, Try.results136, go_sem, x0, x1, x2, x3, y0]
      have HBE := hide (JBD.trans (HB3.out.mono JB.out.size))
      refine ⟨_, HRES.out, ?_, HBE.out⟩
      rw [Gives, if_neg (by simp)]
end Go.Proofs.Ytmkapmbmgpnjaaa.Se

set_option maxRecDepth 100000
set_option linter.unusedSimpArgs false
set_option linter.unusedVariables false
namespace Go.Proofs.Ytmkapmbmgpnjaaa.Se
open Go Go.Ms Go.Pg Go.Bi Go.Se Go.ChangeShapes Go.WideShapes Go.ChangeAt Go.RowKit Go.Deep Go.Proofs.Ytmkapmbmgpnjaaa.Bi

theorem gives_form {B : Nat} {w' : World} {res : Rs} {e : Ending} (h : Gives B w' res e) : ∃ d oa na ca ok nk ck op np cp x, e = .returned (.tuple #[questV d (.slice oa na ca) (.slice ok nk ck) (.slice op np cp), .int .i64 x]) ∧
    ∀ w'' : World, (∀ (b : Nat) cs, w'.heap[b]? = some (Obj.cells cs 3 (0, 0)) → w''.heap[b]? = w'.heap[b]?) → Gives B w'' res e := by
  cases res with
  | ask p =>
    obtain ⟨s, rfl, hO⟩ := h
    obtain ⟨oa, cap, rfl⟩ := Go.Il.Own.form hO
    exact ⟨_, _, _, _, _, _, _, _, _, _, _, rfl, fun w'' hk => ⟨_, rfl, Bi.own_same hO fun g cs _ hh => hk g cs hh⟩⟩
  | err x =>
    obtain rfl := h
    exact ⟨_, _, _, _, _, _, _, _, _, _, _, rfl, fun w'' hk => rfl⟩
  | fin kept pass left =>
    rw [Gives] at h
    by_cases hl : left = []
    · rw [if_pos hl] at h
      obtain ⟨k, p, rfl, hk1, hp1⟩ := h
      obtain ⟨oa, cap, rfl⟩ := Go.Il.Own.form hk1
      obtain ⟨ob, cbp, rfl⟩ := Go.Il.Own.form hp1
      refine ⟨_, _, _, _, _, _, _, _, _, _, _, rfl, fun w'' hk => ?_⟩
      rw [Gives, if_pos hl]
      exact ⟨_, _, rfl, Bi.own_same hk1 fun g cs _ hh => hk g cs hh, Bi.own_same hp1 fun g cs _ hh => hk g cs hh⟩
    · rw [if_neg hl] at h
      obtain rfl := h
      refine ⟨_, _, _, _, _, _, _, _, _, _, _, rfl, fun w'' hk => ?_⟩
      rw [Gives, if_neg hl]
theorem gives_low {B B' : Nat} {w' : World} {res : Rs} {e : Ending} (hB : B' ≤ B) (h : Gives B w' res e) : Gives B' w' res e := by
  cases res with
  | ask v => obtain ⟨s, rfl, hO⟩ := h; exact ⟨s, rfl, own_mono hB hO⟩
  | err x => exact h
  | fin kept pass left =>
    rw [Gives] at h ⊢
    by_cases hl : left = []
    · rw [if_pos hl] at h ⊢
      obtain ⟨k, p, rfl, hk1, hp1⟩ := h
      exact ⟨k, p, rfl, own_mono hB hk1, own_mono hB hp1⟩
    · rw [if_neg hl] at h ⊢
      exact h

set_option maxHeartbeats 8000000 in
theorem searchS {w : World} {an : Value} {fn : FuncId} {caps : Array Value} {l : List Int} {R : Rs → Prop} (h : Vs w w.heap.size an l) (hl : l.length ≤ 4096) (hwf : ∀ x ∈ l, 0 ≤ x ∧ x < 256) (hcf : ∀ args (W : World), (callFunc fn args).run Try.prog W = .ok (.enter fn args) W)
    (hT : ∀ (g m : Nat) (W : World), Below w.heap.size w W → w.heap.size < m → SBox W g m l [] → Calls Try.prog fn (#[.pointer (some ⟨g, 0, none⟩)] ++ caps) W fun e w' => ∃ res, R res ∧ Comes (w.heap.size + 1) g m W res e w') :
    Calls Try.prog 74 #[an, .func (.func fn) #[] caps] w fun e w' => ∃ res, R res ∧ Gives w.heap.size w' res e ∧ Below w.heap.size w w' := by
  have hB0 : Below w.heap.size w (w.alloc (boxQ false nilV nilV nilV)) := (Below.refl _ _).alloc (Nat.le_refl _) _
  have HB0 := hide hB0
  have HV := hide (vs_self h hB0)
  have HL := hide hl
  have HWF := hide hwf
  have H1 := hide (new_block w (boxQ false nilV nilV nilV))
  have hs1 : (w.alloc (boxQ false nilV nilV nilV)).heap.size = w.heap.size + 1 := by simp
  have HR := hide (replayS HV.out hl hwf hcf fun W hW hx => by
    have := hT _ _ W (HB0.out.trans (hW.mono (by omega))) (by omega) hx
    rw [hs1] at this ⊢
    exact this)
  obtain ⟨oa, cap, rfl, -, -, -⟩ := h
  clear hB0 hl hwf hT hs1
  go_enter Try.func74, Try.ntmps74
  go_wp2_with fail
  (with_reducible refine HR.out.mono ?_)
  rintro e w1 ⟨res, hbis, ho, hB⟩
  have HBIS := hide hbis
  obtain ⟨d, oa1, na, ca, ok, nk, ck, op, np, cp, x, rfl, hkeep⟩ := gives_form ho
  have HKP := hide hkeep
  have HB1 := hide (HB0.out.trans (hB.mono (by simp)))
  have HR := hide ((hB.block _ (block_lt H1.out)).trans H1.out)
  clear hbis ho hkeep hB
  obtain ⟨q0, q1, q2, q3⟩ := q_cells HR.out
  have s0 := Bi.frozen_of HR.out 0
  have s1 := Bi.frozen_of HR.out 1
  have s2 := Bi.frozen_of HR.out 2
  have s3 := Bi.frozen_of HR.out 3
  go_wp2_with fail
  refine final8 (X := putQ w1 w.heap.size d (.slice oa1 na ca) (.slice ok nk ck) (.slice op np cp)) rfl ?_
  have HP := hide (putQ_block (e := d) (b := .slice oa1 na ca) (l := .slice ok nk ck) (q := .slice op np cp) HR.out)
  have HQ := hide (putQ_below (d := d) (a := .slice oa1 na ca) (l := .slice ok nk ck) (p := .slice op np cp) HB1.out (B := w.heap.size) (Nat.le_refl _))
  have HO := hide (gives_low (B' := w.heap.size) (by simp) (HKP.out (putQ w1 w.heap.size d (.slice oa1 na ca) (.slice ok nk ck) (.slice op np cp)) fun b cs hh => putQ_other (fun e => by subst e; rw [HR.out] at hh; injection hh with hh; injection hh with _ ht; cases ht)))
  clear HKP
  generalize putQ w1 w.heap.size d (.slice oa1 na ca) (.slice ok nk ck) (.slice op np cp) = X at *
  obtain ⟨x0, x1, x2, x3⟩ := q_cells HP.out
  refine bodyPost_ret (v := .tuple #[questV d (.slice oa1 na ca) (.slice ok nk ck) (.slice op np cp), .int .i64 x]) (by simp [results, Try.results74, go_sem, x0, x1, x2, x3]) rfl ?_
  exact ⟨res, HBIS.out, HO.out, HQ.out⟩
end Go.Proofs.Ytmkapmbmgpnjaaa.Se

