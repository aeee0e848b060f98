import Derived.Test.YtmkapmbmgpnjaaaGeF
import Derived.Deep.RegionHeld3
set_option maxRecDepth 100000
set_option linter.unusedSimpArgs false
set_option linter.unusedVariables false
namespace Go.Proofs.Ytmkapmbmgpnjaaa.Se
open Go Go.Ms Go.Pg Go.Bi Go.Se Go.ChangeShapes Go.WideShapes Go.ChangeAt Go.RowKit Go.Deep Go.Proofs.Ytmkapmbmgpnjaaa.Bi

def lacks (xs : List Nat) (x : Nat) : Nat → Bool := fun i => among xs i && !among [x] i
def rem (all : List Nat) : List Nat → List Int → Rs
  | [], l => .fin [] [] l
  | x :: _, [] => .ask (lacks all x)
  | x :: xs, a :: l => if a = 2 then .fin [(x : Int)] [] l else rem all xs l

theorem Sp.same {p q : Nat → Bool} {a b c d : Nat} (h : Sp p a b c d) (k : Sp q a b c d) {n : Nat} (hn : n < 256) : p n = q n := by
  rcases (show n < 64 ∨ (64 ≤ n ∧ n < 128) ∨ (128 ≤ n ∧ n < 192) ∨ 192 ≤ n by omega) with e | ⟨e, f⟩ | ⟨e, f⟩ | e
  · rw [h.h0 n e, k.h0 n e]
  · rw [show n = 64 + (n - 64) by omega, h.h1 _ (by omega), k.h1 _ (by omega)]
  · rw [show n = 128 + (n - 128) by omega, h.h2 _ (by omega), k.h2 _ (by omega)]
  · rw [show n = 192 + (n - 192) by omega, h.h3 _ (by omega), k.h3 _ (by omega)]
theorem Sp.ok {p : Nat → Bool} {q : Q4} (h : Sp p q.a q.b q.c q.d) : q.Ok := ⟨h.ha, h.hb, h.hc, h.hd⟩
theorem memo_mem {T : List (Q4 × Int)} {q : Q4} {v : Int} (h : memo T q = some v) : ∃ e ∈ T, e.1 = q := by
  induction T with
  | nil => cases h
  | cons e T ih =>
    unfold memo at h
    by_cases c : e.1 = q
    · exact ⟨e, by simp, c⟩
    · rw [if_neg c] at h
      obtain ⟨f, hf, he⟩ := ih h
      exact ⟨f, by simp [hf], he⟩
def Earlier (xs : List Nat) (k : Nat) (T : List (Q4 × Int)) : Prop := ∀ e ∈ T, ∃ j, ∃ h : j < xs.length, j < k ∧ Sp (lacks xs xs[j]) e.1.a e.1.b e.1.c e.1.d
theorem fresh {xs : List Nat} (hx : ∀ n ∈ xs, n < 256) (hd : xs.Pairwise (· < ·)) {k : Nat} (hk : k < xs.length) {T : List (Q4 × Int)} (hT : Earlier xs k T) {q : Q4} (hq : Sp (lacks xs xs[k]) q.a q.b q.c q.d) : memo T q = none := by
  cases hm : memo T q with
  | none => rfl
  | some v =>
    obtain ⟨e, he, rfl⟩ := memo_mem hm
    obtain ⟨j, hj, hjk, hs⟩ := hT e he
    have hlt := List.pairwise_iff_getElem.1 hd j k hj hk hjk
    have := Sp.same hs hq (hx _ (List.getElem_mem hj))
    have e1 : among xs xs[j] = true := by simp [among]
    have e2 : among [xs[k]] xs[j] = false := by simp [among]; omega
    have e3 : among [xs[j]] xs[j] = true := by simp [among]
    simp [lacks, e1, e2, e3] at this
theorem rem_next {all xs : List Nat} {k : Nat} (hk : k < xs.length) {a : Int} {l : List Int} (ha : a ≠ 2) : rem all (xs.drop k) (a :: l) = rem all (xs.drop (k + 1)) l := by
  rw [List.drop_eq_getElem_cons hk]
  simp [rem, ha]
theorem rem_found {all xs : List Nat} {k : Nat} (hk : k < xs.length) {l : List Int} : rem all (xs.drop k) (2 :: l) = .fin [(xs[k] : Int)] [] l := by
  rw [List.drop_eq_getElem_cons hk]
  simp [rem]
theorem rem_asks {all xs : List Nat} {k : Nat} (hk : k < xs.length) : rem all (xs.drop k) [] = .ask (lacks all xs[k]) := by
  rw [List.drop_eq_getElem_cons hk]
  simp [rem]
theorem rem_end {all xs : List Nat} {l : List Int} : rem all (xs.drop xs.length) l = .fin [] [] l := by simp [rem]
theorem own_built {w : World} {B b : Nat} {x : Int} (h : w.heap[b]? = some (.cells #[.int .i64 x] 3 (0, 0))) (hB : B ≤ b) : Go.Il.Own 3 .i64 B w (.slice (some ⟨b, 0, none⟩) 1 1) [x] :=
  ⟨rfl, .inr ⟨b, 1, _, rfl, hB, h, Nat.le_refl _, by simp [maxLen], by simp, by simp⟩⟩
end Go.Proofs.Ytmkapmbmgpnjaaa.Se

set_option maxRecDepth 100000
set_option linter.unusedSimpArgs false
set_option linter.unusedVariables false
namespace Go.Proofs.Ytmkapmbmgpnjaaa.Se
open Go Go.Ms Go.Pg Go.Bi Go.Se Go.ChangeShapes Go.WideShapes Go.ChangeAt Go.RowKit Go.Deep Go.Proofs.Ytmkapmbmgpnjaaa.Bi

theorem takeAt {P : Program} {ops : Array Oper} {Q : Exit → Act → World → Prop} {md : Region.Mode} {S : World → Prop} {i : Nat} {oi : Oper} {d : Option Tmp} {v : Value} {fuel : Nat} {listed : Array Bool} {a : Act} {w : World} (hi : ops[i]? = some oi) (hd : oi.dst = d)
    (hs : Region.noSelect ops = true) (hf : Region.free md ops listed i = true) (hr : (Region.ready md ops listed).contains i = true)
    (hQ : ∀ c a w, Q (.panic c) (a.put d v) w → Q (.panic c) a w) (hy : YieldsIf P ops S oi v a) (hS : S w)
    (h : wpAnyH P md ops Q S fuel (listed.setIfInBounds i true) (a.put d v) w) : wpAnyH P md ops Q S (fuel + 1) listed a w := by
  subst hd
  exact wpAnyH_take hi hs hf hr hQ hy hS h
theorem keepsM_put {m g : Nat} {w0 w : World} {R : Nat} {d : Bool} {a k p : Value} (hm : m ≤ R) (h : KeepsM m g w0 w) (hR : w0.heap.size ≤ R) : KeepsM m g w0 (putQ w R d a k p) :=
  ⟨putQ_below h.below hm, fun b hb h1 h2 => (putQ_other (by omega)).trans (h.kept b hb h1 h2)⟩
theorem sbox_put {g m : Nat} {w : World} {l : List Int} {T : List (Q4 × Int)} {R : Nat} {d : Bool} {a k p : Value} (h : SBox w g m l T) (hR : g < R) : SBox (putQ w R d a k p) g m l T :=
  h.other (putQ_below (Below.refl m w) (by have := h.lt; omega)) (putQ_other (by have := h.lt; omega)) (putQ_other (by omega))
def NatsM (w : World) (m : Nat) (v : Value) (xs : List Nat) : Prop := ∃ oa cap, v = .slice oa xs.length cap ∧ xs.length ≤ 9223372036854775807 ∧ ∀ i (h : i < xs.length), ∃ b o, oa = some ⟨b, o, none⟩ ∧ b < m ∧ w.cell? ⟨b, o + i, none⟩ = some (.int .i64 (xs[i] : Int))
theorem NatsM.nats {w : World} {m : Nat} {v : Value} {xs : List Nat} (h : NatsM w m v xs) : Nats w v xs := by
  obtain ⟨oa, cap, rfl, hl, hc⟩ := h
  exact ⟨oa, cap, rfl, hl, fun i hi => by
    obtain ⟨b, o, e, _, hx⟩ := hc i hi
    exact ⟨b, o, e, hx⟩⟩
theorem NatsM.keep {w w' : World} {m : Nat} {v : Value} {xs : List Nat} (h : NatsM w m v xs) (hB : Below m w w') : NatsM w' m v xs := by
  obtain ⟨oa, cap, rfl, hl, hc⟩ := h
  exact ⟨oa, cap, rfl, hl, fun i hi => by
    obtain ⟨b, o, e, hb, hx⟩ := hc i hi
    exact ⟨b, o, e, hb, (hB.cell (p := ⟨b, o + i, none⟩) hb).trans hx⟩⟩
theorem nats_one {w : World} {B v : Nat} (hc : w.cell? ⟨B, 0, none⟩ = some (.int .i64 (v : Int))) : Nats w (.slice (some ⟨B, 0, none⟩) 1 1) [v] := Bi.nats_one hc
set_option maxHeartbeats 16000000 in
theorem removable1 {B g m c : Nat} {W : World} {v : Value} {xs : List Nat} {l : List Int} (hS : SBox W g m l []) (hc : W.cell? ⟨c, 0, none⟩ = some v) (hcm : c < m) (hv : NatsM W m v xs) (hx : ∀ n ∈ xs, n < 256) (hd : xs.Pairwise (· < ·)) (hB : B ≤ W.heap.size) :
    Calls Try.prog 114 #[.pointer (some ⟨g, 0, none⟩), .pointer (some ⟨c, 0, none⟩)] W fun e w' => ∃ res, res = rem xs xs l ∧ Comes B g m W res e w' := by
  have HX := hide hx
  have HVW := hide hv
  have HD := hide hd
  have HBB := hide hB
  have HCM := hide hcm
  have HMG := hide hS.lt
  have HGW := hide hS.gt
  have hB0 := (Below.refl W.heap.size W).alloc (Nat.le_refl _) (boxQ false nilV nilV nilV)
  have HB0 := hide hB0
  have HS0 := hide (hS.old hB0)
  have HV0 := hide (hv.keep (hB0.mono (by have := hS.lt; have := hS.gt; omega)))
  have c0 := cell_old hB0 hc
  have HC := hide c0
  have HR0 := hide (new_block W (boxQ false nilV nilV nilV))
  obtain ⟨oa, cap, rfl, hlen, -⟩ := hv
  clear hB0 hc hx hd hB hcm hS
  go_enter Try.func114, Try.ntmps114
  go_wp2_with (first
    | (go_at_call 77
       (with_reducible refine (setOfProg HV0.out.nats HX.out).mono ?_)
       rintro e w1 ⟨a, b, c', d, rfl, hp, hB1⟩
       have HP := hide hp
       have hB2 := hB1.trans (((Below.refl w1.heap.size w1).alloc (Nat.le_refl _) (boxV a b c' d)).mono hB1.size)
       have HB2 := hide hB2
       have HSZ := hide hB1.size
       have c1 := cell_old hB2 HC.out
       clear hp hB1 hB2 c0)
    | fail)
  have HK1 : Hid (KeepsM m g W (w1.alloc (boxV a b c' d))) := hide (KeepsM.of_below (by have := HMG.out; have := HGW.out; omega) (HB0.out.trans (HB2.out.mono (by simp))))
  have HS1 := hide (HS0.out.old HB2.out)
  have HR1 := hide ((HB2.out.block _ (block_lt HR0.out)).trans HR0.out)
  have HU1 := hide (new_block w1 (boxV a b c' d))
  have HWU : Hid (W.heap.size < w1.heap.size) := hide (by have := HSZ.out; simp at this; omega)
  have HMU : Hid (m < w1.heap.size) := hide (by have := HWU.out; have := HGW.out; have := HMG.out; omega)
  have HGU : Hid (g < w1.heap.size) := hide (by have := HWU.out; have := HGW.out; omega)
  clear c1 HB2 HB0 HS0 HV0 HR0 HSZ
  generalize w1.alloc (boxV a b c' d) = W1 at *
  generalize w1.heap.size = u at *
  go_loopw [12] (fun s12 wr => ∃ (k : Nat) (T : List (Q4 × Int)) (l' : List Int), k ≤ xs.length ∧ s12 = .int .i64 (k : Int) ∧ Hid (rem xs (xs.drop k) l' = rem xs xs l) ∧ Hid (Earlier xs k T) ∧ KeepsM m g W wr ∧ SBox wr g m l' T ∧ wr.heap[W.heap.size]? = some (boxQ false nilV nilV nilV) ∧ wr.heap[u]? = some (boxV a b c' d)) (fun s12 _ => xs.length - (intOf s12).toNat)
  case atStart => exact ⟨0, [], l, Nat.zero_le _, rfl, hide rfl, hide (fun e he => by simp at he), HK1.out, HS1.out, HR1.out, HU1.out⟩
  case round =>
    obtain ⟨k, T, l', hk, rfl, HL, HE, hK, hS, hR, hU⟩ := hrel
    have HK := hide hK
    have HS := hide hS
    have HR := hide hR
    have HU := hide hU
    clear hK hS hR hU HK1 HS1 HR1 HU1
    by_cases hlt : k < xs.length
    · have hi : (k : Int) < (xs.length : Int) := by omega
      obtain ⟨x, hxk⟩ : ∃ x, x = xs[k] := ⟨_, rfl⟩
      have HXK : Hid (∀ h, xs[k]'h = x) := hide fun _ => hxk.symm
      obtain ⟨oa2, cap2, e2, -, hcell⟩ := HVW.out.keep HK.out.below
      injection e2 with e2 e3 e4
      subst e2 e4
      obtain ⟨bb, o, rfl, hbm, f⟩ := hcell k hlt
      rw [← hxk] at f
      have hw := wrap_upW hlt hlen
      have HX256 : Hid (x < 256) := hide (by rw [hxk]; exact HX.out _ (List.getElem_mem hlt))
      have HLT := hide hlt
      clear hcell e3 hlt hxk hbm
      obtain ⟨x0, x1, x2, x3⟩ := box_cells HU.out
      have hbU := block_lt HU.out
      cases l' with
      | nil =>
        go_wp2_with fail
        refine wp_region_held_drew (S := fun w' => Hid (w'.heap[u]? = some (boxV a b c' d))) (by kernel_rfl) (hide HU.out) (fun hHeld => ?_)
        refine takeAt (i := 0) (d := some 16) (v := .pointer (some ⟨g, 0, none⟩)) rfl rfl (by kernel_rfl) (by kernel_rfl) (by kernel_rfl) (fun _ _ _ h => h) (Or.inl ⟨by rfl, fun w _ => by go_simp⟩) hHeld ?_
        simp only [Act.put, List.setIfInBounds_toArray, List.set_cons_zero, List.set_cons_succ]
        refine takeAt (i := 1) (d := some 17) (v := setV a b c' d) rfl rfl (by kernel_rfl) (by kernel_rfl) (by kernel_rfl) (fun _ _ _ h => h) (Or.inl ⟨by rfl, fun w hS => by obtain ⟨x0, x1, x2, x3⟩ := box_cells hS.out; go_simp⟩) hHeld ?_
        simp only [Act.put, List.setIfInBounds_toArray, List.set_cons_zero, List.set_cons_succ]
        refine takeAt (i := 2) (d := some 18) (v := .int .i64 (x : Int)) rfl rfl (by kernel_rfl) (by kernel_rfl) (by kernel_rfl) (fun _ _ _ h => h) (Or.inl ⟨by rfl, fun w _ => by go_simp⟩) hHeld ?_
        simp only [Act.put, List.setIfInBounds_toArray, List.set_cons_zero, List.set_cons_succ]
        refine wpAnyH_ready (rs := [3]) (by kernel_rfl) (by simp) ?_
        refine AllReadyH.cons rfl (fun K0 hK => ?_) AllReadyH.nil
        go_simp
        have HBA : Hid (Below wr.heap.size wr (wr.alloc (.cells #[.int .i64 (x : Int)] 3)).drew) := hide (Below.drew ((Below.refl wr.heap.size wr).alloc (Nat.le_refl _) _))
        have HCA : Hid ((wr.alloc (.cells #[.int .i64 (x : Int)] 3)).drew.cell? ⟨wr.heap.size, 0, none⟩ = some (.int .i64 (x : Int))) := hide (cell_of (new_block wr (.cells #[.int .i64 (x : Int)] 3)) 0)
        refine hK.out _ _ (hide ((HBA.out.block _ hbU).trans HU.out)) (fun hHeld => ?_)
        clear hK K0
        try simp only [Act.put, List.setIfInBounds_toArray, List.set_cons_zero, List.set_cons_succ]
        refine wpAnyH_ready (rs := [4]) (by kernel_rfl) (by simp) ?_
        refine AllReadyH.cons rfl (fun K0 hK => ?_) AllReadyH.nil
        go_simp
        go_at_call 77
        (with_reducible refine (setOfProg (xs := [x]) (Bi.nats_one HCA.out) (by intro k hk; rw [List.mem_singleton] at hk; rw [hk]; exact HX256.out)).mono ?_)
        rintro e wC ⟨e0, f0, g0, h0, rfl, hp, hBC⟩
        have HP2 := hide hp
        have HBC := hide (HBA.out.trans (hBC.mono HBA.out.size))
        have HUC := hide ((HBC.out.block _ hbU).trans HU.out)
        clear hp hBC
        refine hK.out _ _ HUC (fun hHeld => ?_)
        clear hK K0
        try simp only [Act.put, List.setIfInBounds_toArray, List.set_cons_zero, List.set_cons_succ]
        refine wpAnyH_ready (rs := [5]) (by kernel_rfl) (by simp) ?_
        refine AllReadyH.cons rfl (fun K0 hK => ?_) AllReadyH.nil
        go_simp
        go_at_call 76
        (with_reducible refine (withoutSet HP.out HP2.out).mono ?_)
        rintro e wD ⟨rfl, hBD⟩
        have HBD := hide (HBC.out.trans (hBD.mono HBC.out.size))
        have HUD := hide ((HBD.out.block _ hbU).trans HU.out)
        have HSD := hide (HS.out.old HBD.out)
        have HSQ : Hid (Sp (lacks xs x) (less a e0) (less b f0) (less c' g0) (less d h0)) := hide (Sp_less HP.out HP2.out)
        have HNEW : Hid (memo T ⟨less a e0, less b f0, less c' g0, less d h0⟩ = none) := hide (fresh HX.out HD.out HLT.out HE.out (by rw [HXK.out]; exact HSQ.out))
        clear hBD
        refine hK.out _ _ HUD (fun hHeld => ?_)
        clear hK K0
        try simp only [Act.put, List.setIfInBounds_toArray, List.set_cons_zero, List.set_cons_succ]
        refine wpAnyH_ready (rs := [6]) (by kernel_rfl) (by simp) ?_
        refine AllReadyH.cons rfl (fun K0 hK => ?_) AllReadyH.nil
        go_simp
        go_at_call 93
        (with_reducible refine (failsS (q := ⟨less a e0, less b f0, less c' g0, less d h0⟩) HSD.out (Sp.ok HSQ.out)).mono ?_)
        rintro e wE ha
        unfold Asked at ha
        rw [HNEW.out] at ha
        obtain ⟨rfl, hk5⟩ := ha
        have HK5 := hide (HK.out.trans ((KeepsM.of_below (by have := HMU.out; have := hbU; omega) HBD.out).trans hk5))
        clear hk5
        unfold asks4
        refine ⟨rfl, .ask (lacks xs x), ?_, _, _, _, _, rfl, HSQ.out, HK5.out⟩
        rw [← HL.out, rem_asks HLT.out, HXK.out]
      | cons y l2 =>
        have HYW := hide (HS.out.wf y (by simp))
        by_cases hy : y = 2
        · subst hy
          have hyb : ((2 : Int) == 2) = true := rfl
          go_wp2_with fail
          refine wp_region_held_drew (S := fun w' => Hid (w'.heap[u]? = some (boxV a b c' d))) (by kernel_rfl) (hide HU.out) (fun hHeld => ?_)
          refine takeAt (i := 0) (d := some 16) (v := .pointer (some ⟨g, 0, none⟩)) rfl rfl (by kernel_rfl) (by kernel_rfl) (by kernel_rfl) (fun _ _ _ h => h) (Or.inl ⟨by rfl, fun w _ => by go_simp⟩) hHeld ?_
          simp only [Act.put, List.setIfInBounds_toArray, List.set_cons_zero, List.set_cons_succ]
          refine takeAt (i := 1) (d := some 17) (v := setV a b c' d) rfl rfl (by kernel_rfl) (by kernel_rfl) (by kernel_rfl) (fun _ _ _ h => h) (Or.inl ⟨by rfl, fun w hS => by obtain ⟨x0, x1, x2, x3⟩ := box_cells hS.out; go_simp⟩) hHeld ?_
          simp only [Act.put, List.setIfInBounds_toArray, List.set_cons_zero, List.set_cons_succ]
          refine takeAt (i := 2) (d := some 18) (v := .int .i64 (x : Int)) rfl rfl (by kernel_rfl) (by kernel_rfl) (by kernel_rfl) (fun _ _ _ h => h) (Or.inl ⟨by rfl, fun w _ => by go_simp⟩) hHeld ?_
          simp only [Act.put, List.setIfInBounds_toArray, List.set_cons_zero, List.set_cons_succ]
          refine wpAnyH_ready (rs := [3]) (by kernel_rfl) (by simp) ?_
          refine AllReadyH.cons rfl (fun K0 hK => ?_) AllReadyH.nil
          go_simp
          have HBA : Hid (Below wr.heap.size wr (wr.alloc (.cells #[.int .i64 (x : Int)] 3)).drew) := hide (Below.drew ((Below.refl wr.heap.size wr).alloc (Nat.le_refl _) _))
          have HCA : Hid ((wr.alloc (.cells #[.int .i64 (x : Int)] 3)).drew.cell? ⟨wr.heap.size, 0, none⟩ = some (.int .i64 (x : Int))) := hide (cell_of (new_block wr (.cells #[.int .i64 (x : Int)] 3)) 0)
          refine hK.out _ _ (hide ((HBA.out.block _ hbU).trans HU.out)) (fun hHeld => ?_)
          clear hK K0
          try simp only [Act.put, List.setIfInBounds_toArray, List.set_cons_zero, List.set_cons_succ]
          refine wpAnyH_ready (rs := [4]) (by kernel_rfl) (by simp) ?_
          refine AllReadyH.cons rfl (fun K0 hK => ?_) AllReadyH.nil
          go_simp
          go_at_call 77
          (with_reducible refine (setOfProg (xs := [x]) (Bi.nats_one HCA.out) (by intro k hk; rw [List.mem_singleton] at hk; rw [hk]; exact HX256.out)).mono ?_)
          rintro e wC ⟨e0, f0, g0, h0, rfl, hp, hBC⟩
          have HP2 := hide hp
          have HBC := hide (HBA.out.trans (hBC.mono HBA.out.size))
          have HUC := hide ((HBC.out.block _ hbU).trans HU.out)
          clear hp hBC
          refine hK.out _ _ HUC (fun hHeld => ?_)
          clear hK K0
          try simp only [Act.put, List.setIfInBounds_toArray, List.set_cons_zero, List.set_cons_succ]
          refine wpAnyH_ready (rs := [5]) (by kernel_rfl) (by simp) ?_
          refine AllReadyH.cons rfl (fun K0 hK => ?_) AllReadyH.nil
          go_simp
          go_at_call 76
          (with_reducible refine (withoutSet HP.out HP2.out).mono ?_)
          rintro e wD ⟨rfl, hBD⟩
          have HBD := hide (HBC.out.trans (hBD.mono HBC.out.size))
          have HUD := hide ((HBD.out.block _ hbU).trans HU.out)
          have HSD := hide (HS.out.old HBD.out)
          have HSQ : Hid (Sp (lacks xs x) (less a e0) (less b f0) (less c' g0) (less d h0)) := hide (Sp_less HP.out HP2.out)
          have HNEW : Hid (memo T ⟨less a e0, less b f0, less c' g0, less d h0⟩ = none) := hide (fresh HX.out HD.out HLT.out HE.out (by rw [HXK.out]; exact HSQ.out))
          clear hBD
          refine hK.out _ _ HUD (fun hHeld => ?_)
          clear hK K0
          try simp only [Act.put, List.setIfInBounds_toArray, List.set_cons_zero, List.set_cons_succ]
          refine wpAnyH_ready (rs := [6]) (by kernel_rfl) (by simp) ?_
          refine AllReadyH.cons rfl (fun K0 hK => ?_) AllReadyH.nil
          go_simp
          go_at_call 93
          (with_reducible refine (failsS (q := ⟨less a e0, less b f0, less c' g0, less d h0⟩) HSD.out (Sp.ok HSQ.out)).mono ?_)
          rintro e wE ha
          unfold Asked at ha
          rw [HNEW.out] at ha
          obtain ⟨rfl, hk5, hs5⟩ := ha
          have hkd := (KeepsM.of_below (g := g) (by have := HMU.out; have := hbU; omega) HBD.out).trans hk5
          have HK5 := hide (HK.out.trans hkd)
          have HS5 := hide hs5
          have HR5 := hide (keepsM_block hkd (by have := HMG.out; have := HGW.out; omega) (by have := HGW.out; omega) HR.out)
          have HU5 := hide (keepsM_block hkd (by have := HMU.out; omega) (by have := HGU.out; omega) HU.out)
          have HWE := hide (Nat.le_trans HBD.out.size hk5.below.size)
          refine hK.out _ _ HU5 (fun hHeld => ?_)
          clear hK K0
          try simp only [Act.put, List.setIfInBounds_toArray, List.set_cons_zero, List.set_cons_succ]
          refine wpAnyH_done (by kernel_rfl) ?_ _
          clear hk5 hs5 hkd
          have hbR := block_lt HR5.out
          obtain ⟨q0, q1, q2, q3⟩ := q_cells HR5.out
          have s0 := Bi.frozen_of HR5.out 0
          have s1 := Bi.frozen_of HR5.out 1
          have s2 := Bi.frozen_of HR5.out 2
          have s3 := Bi.frozen_of HR5.out 3
          go_wp2_with fail
          refine final8 (X := (putQ wE W.heap.size true nilV (.slice (some ⟨wE.heap.size, 0, none⟩) 1 1) nilV).alloc (.cells #[.int .i64 (x : Int)] 3)) rfl ?_
          have HP9 := hide (putQ_block (e := true) (b := nilV) (l := .slice (some ⟨wE.heap.size, 0, none⟩) 1 1) (q := nilV) HR5.out)
          have HK9 := hide (keepsM_put (d := true) (a := nilV) (k := .slice (some ⟨wE.heap.size, 0, none⟩) 1 1) (p := nilV) (by have := HMG.out; have := HGW.out; omega) HK5.out (Nat.le_refl W.heap.size))
          have HS9 := hide (sbox_put (d := true) (a := nilV) (k := .slice (some ⟨wE.heap.size, 0, none⟩) 1 1) (p := nilV) HS5.out HGW.out)
          have HZ9 : Hid ((putQ wE W.heap.size true nilV (.slice (some ⟨wE.heap.size, 0, none⟩) 1 1) nilV).heap.size = wE.heap.size) := hide putQ_size
          generalize putQ wE W.heap.size true nilV (.slice (some ⟨wE.heap.size, 0, none⟩) 1 1) nilV = X at *
          have hB := (Below.refl X.heap.size X).alloc (Nat.le_refl _) (.cells #[.int .i64 (x : Int)] 3)
          obtain ⟨y0, y1, y2, y3⟩ := q_cells (old_block HP9.out (.cells #[.int .i64 (x : Int)] 3))
          have HKX := hide (HK9.out.trans (KeepsM.of_below (by have := HZ9.out; have := HMG.out; have := HGW.out; omega) hB))
          have HSX := hide (HS9.out.old hB)
          have HLH : Hid (Go.Il.Own 3 .i64 B (X.alloc (.cells #[.int .i64 (x : Int)] 3)) (.slice (some ⟨wE.heap.size, 0, none⟩) 1 1) [(x : Int)]) := hide (own_built (alloc_at HZ9.out) (by have := HBB.out; omega))
          clear hB
          generalize X.alloc (.cells #[.int .i64 (x : Int)] 3) = Y at *
          refine bodyPost_ret (v := .tuple #[questV true nilV (.slice (some ⟨wE.heap.size, 0, none⟩) 1 1) nilV, .int .i64 0]) (by simp [results, Try.results114, go_sem, y0, y1, y2, y3]) rfl ?_
          refine ⟨.fin [(x : Int)] [] l2, ?_, _, _, _, rfl, HLH.out, Go.Il.Own.nil _ _ _ _, HKX.out, HSX.out⟩
          rw [← HL.out, rem_found HLT.out, HXK.out]
        · have hyb : (y == (2 : Int)) = false := beq_false_of_ne hy
          have HY := hide hy
          clear hy
          go_wp2_with fail
          refine wp_region_held_drew (S := fun w' => Hid (w'.heap[u]? = some (boxV a b c' d))) (by kernel_rfl) (hide HU.out) (fun hHeld => ?_)
          refine takeAt (i := 0) (d := some 16) (v := .pointer (some ⟨g, 0, none⟩)) rfl rfl (by kernel_rfl) (by kernel_rfl) (by kernel_rfl) (fun _ _ _ h => h) (Or.inl ⟨by rfl, fun w _ => by go_simp⟩) hHeld ?_
          simp only [Act.put, List.setIfInBounds_toArray, List.set_cons_zero, List.set_cons_succ]
          refine takeAt (i := 1) (d := some 17) (v := setV a b c' d) rfl rfl (by kernel_rfl) (by kernel_rfl) (by kernel_rfl) (fun _ _ _ h => h) (Or.inl ⟨by rfl, fun w hS => by obtain ⟨x0, x1, x2, x3⟩ := box_cells hS.out; go_simp⟩) hHeld ?_
          simp only [Act.put, List.setIfInBounds_toArray, List.set_cons_zero, List.set_cons_succ]
          refine takeAt (i := 2) (d := some 18) (v := .int .i64 (x : Int)) rfl rfl (by kernel_rfl) (by kernel_rfl) (by kernel_rfl) (fun _ _ _ h => h) (Or.inl ⟨by rfl, fun w _ => by go_simp⟩) hHeld ?_
          simp only [Act.put, List.setIfInBounds_toArray, List.set_cons_zero, List.set_cons_succ]
          refine wpAnyH_ready (rs := [3]) (by kernel_rfl) (by simp) ?_
          refine AllReadyH.cons rfl (fun K0 hK => ?_) AllReadyH.nil
          go_simp
          have HBA : Hid (Below wr.heap.size wr (wr.alloc (.cells #[.int .i64 (x : Int)] 3)).drew) := hide (Below.drew ((Below.refl wr.heap.size wr).alloc (Nat.le_refl _) _))
          have HCA : Hid ((wr.alloc (.cells #[.int .i64 (x : Int)] 3)).drew.cell? ⟨wr.heap.size, 0, none⟩ = some (.int .i64 (x : Int))) := hide (cell_of (new_block wr (.cells #[.int .i64 (x : Int)] 3)) 0)
          refine hK.out _ _ (hide ((HBA.out.block _ hbU).trans HU.out)) (fun hHeld => ?_)
          clear hK K0
          try simp only [Act.put, List.setIfInBounds_toArray, List.set_cons_zero, List.set_cons_succ]
          refine wpAnyH_ready (rs := [4]) (by kernel_rfl) (by simp) ?_
          refine AllReadyH.cons rfl (fun K0 hK => ?_) AllReadyH.nil
          go_simp
          go_at_call 77
          (with_reducible refine (setOfProg (xs := [x]) (Bi.nats_one HCA.out) (by intro k hk; rw [List.mem_singleton] at hk; rw [hk]; exact HX256.out)).mono ?_)
          rintro e wC ⟨e0, f0, g0, h0, rfl, hp, hBC⟩
          have HP2 := hide hp
          have HBC := hide (HBA.out.trans (hBC.mono HBA.out.size))
          have HUC := hide ((HBC.out.block _ hbU).trans HU.out)
          clear hp hBC
          refine hK.out _ _ HUC (fun hHeld => ?_)
          clear hK K0
          try simp only [Act.put, List.setIfInBounds_toArray, List.set_cons_zero, List.set_cons_succ]
          refine wpAnyH_ready (rs := [5]) (by kernel_rfl) (by simp) ?_
          refine AllReadyH.cons rfl (fun K0 hK => ?_) AllReadyH.nil
          go_simp
          go_at_call 76
          (with_reducible refine (withoutSet HP.out HP2.out).mono ?_)
          rintro e wD ⟨rfl, hBD⟩
          have HBD := hide (HBC.out.trans (hBD.mono HBC.out.size))
          have HUD := hide ((HBD.out.block _ hbU).trans HU.out)
          have HSD := hide (HS.out.old HBD.out)
          have HSQ : Hid (Sp (lacks xs x) (less a e0) (less b f0) (less c' g0) (less d h0)) := hide (Sp_less HP.out HP2.out)
          have HNEW : Hid (memo T ⟨less a e0, less b f0, less c' g0, less d h0⟩ = none) := hide (fresh HX.out HD.out HLT.out HE.out (by rw [HXK.out]; exact HSQ.out))
          clear hBD
          refine hK.out _ _ HUD (fun hHeld => ?_)
          clear hK K0
          try simp only [Act.put, List.setIfInBounds_toArray, List.set_cons_zero, List.set_cons_succ]
          refine wpAnyH_ready (rs := [6]) (by kernel_rfl) (by simp) ?_
          refine AllReadyH.cons rfl (fun K0 hK => ?_) AllReadyH.nil
          go_simp
          go_at_call 93
          (with_reducible refine (failsS (q := ⟨less a e0, less b f0, less c' g0, less d h0⟩) HSD.out (Sp.ok HSQ.out)).mono ?_)
          rintro e wE ha
          unfold Asked at ha
          rw [HNEW.out] at ha
          obtain ⟨rfl, hk5, hs5⟩ := ha
          have hkd := (KeepsM.of_below (g := g) (by have := HMU.out; have := hbU; omega) HBD.out).trans hk5
          have HK5 := hide (HK.out.trans hkd)
          have HS5 := hide hs5
          have HR5 := hide (keepsM_block hkd (by have := HMG.out; have := HGW.out; omega) (by have := HGW.out; omega) HR.out)
          have HU5 := hide (keepsM_block hkd (by have := HMU.out; omega) (by have := HGU.out; omega) HU.out)
          have HWE := hide (Nat.le_trans HBD.out.size hk5.below.size)
          refine hK.out _ _ HU5 (fun hHeld => ?_)
          clear hK K0
          try simp only [Act.put, List.setIfInBounds_toArray, List.set_cons_zero, List.set_cons_succ]
          refine wpAnyH_done (by kernel_rfl) ?_ _
          clear hk5 hs5 hkd
          go_wp2_with fail
          refine ⟨⟨k + 1, _, l2, HLT.out, by go_num, hide (by rw [← HL.out, rem_next HLT.out HY.out]), hide ?_, HK5.out, HS5.out, HR5.out, HU5.out⟩, by simp [intOf]; have := HLT.out; omega⟩
          intro e he
          rcases List.mem_cons.1 he with rfl | he
          · exact ⟨k, HLT.out, by omega, by rw [HXK.out]; exact HSQ.out⟩
          · obtain ⟨j, hj, hjk, hs⟩ := HE.out e he
            exact ⟨j, hj, by omega, hs⟩
    · obtain rfl : k = xs.length := by omega
      rw [rem_end] at HL
      obtain ⟨q0, q1, q2, q3⟩ := q_cells HR.out
      have s0 := Bi.frozen_of HR.out 0
      have s1 := Bi.frozen_of HR.out 1
      have s2 := Bi.frozen_of HR.out 2
      have s3 := Bi.frozen_of HR.out 3
      have hbR := block_lt HR.out
      go_wp2_with fail
      refine final8 (X := putQ wr W.heap.size true nilV nilV nilV) rfl ?_
      have HP9 := hide (putQ_block (e := true) (b := nilV) (l := nilV) (q := nilV) HR.out)
      have HK9 := hide (keepsM_put (d := true) (a := nilV) (k := nilV) (p := nilV) (by have := HMG.out; have := HGW.out; omega) HK.out (Nat.le_refl W.heap.size))
      have HS9 := hide (sbox_put (d := true) (a := nilV) (k := nilV) (p := nilV) HS.out HGW.out)
      generalize putQ wr W.heap.size true nilV nilV nilV = X at *
      obtain ⟨y0, y1, y2, y3⟩ := q_cells HP9.out
      refine bodyPost_ret (v := .tuple #[questV true nilV nilV nilV, .int .i64 0]) (by simp [results, Try.results114, go_sem, y0, y1, y2, y3]) rfl ?_
      exact ⟨.fin [] [] l', HL.out, _, _, _, rfl, Go.Il.Own.nil _ _ _ _, Go.Il.Own.nil _ _ _ _, HK9.out, HS9.out⟩
end Go.Proofs.Ytmkapmbmgpnjaaa.Se

