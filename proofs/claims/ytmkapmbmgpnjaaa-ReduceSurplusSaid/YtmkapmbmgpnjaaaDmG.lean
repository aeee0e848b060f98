import Derived.Test.YtmkapmbmgpnjaaaDmF
import Derived.Test.YtmkapmbmgpnjaaaDmR
set_option maxRecDepth 100000
set_option linter.unusedSimpArgs false
set_option linter.unusedVariables false
namespace Go.Proofs.Ytmkapmbmgpnjaaa.Se
open Go Go.Ms Go.Pg Go.Bi Go.Se Go.ChangeShapes Go.WideShapes Go.ChangeAt Go.RowKit Go.Deep Go.Shelf Go.Proofs.Ytmkapmbmgpnjaaa.Bi

attribute [local go_sem] Oper.semAt_some

/-! The first set that fails. -/
def putSB (w : World) (a b : Nat) (q : Q4) (t : Bool) : World := (putV w a q.a q.b q.c q.d).setCell ⟨b, 0, none⟩ (.bool t)
theorem put_set {w : World} {a b : Nat} {p q : Q4} {t s : Bool} (h : w.heap[a]? = some (boxQ4 p)) (k : w.heap[b]? = some (box1 (.bool s) 4)) (hne : a ≠ b) :
    (putSB w a b q t).heap[a]? = some (boxQ4 q) ∧ (putSB w a b q t).heap[b]? = some (box1 (.bool t) 4) ∧ (∀ i, i ≠ a → i ≠ b → (putSB w a b q t).heap[i]? = w.heap[i]?) ∧ ∀ M, M ≤ a → M ≤ b → Below M w (putSB w a b q t) := by
  refine ⟨(Below.heap_setCell _ ⟨b, 0, none⟩ _ _ hne).trans (putV_block h), set1_block ((putV_other hne.symm).trans k), fun i h1 h2 => (Below.heap_setCell _ ⟨b, 0, none⟩ _ _ h2).trans (putV_other h1), fun M h1 h2 => ?_⟩
  exact (putV_below (Below.refl M w) h1).setCell (p := ⟨b, 0, none⟩) h2 _
def FailS (W : World) (g m : Nat) (qs : List (List Nat)) (l : List Int) (T : List (Q4 × Int)) (e : Ending) (w' : World) : Prop :=
  (∃ q : Q4, e = asks4 q.a q.b q.c q.d ∧ q.Ok ∧ KeepsM m g W w' ∧ ∀ k, play (scanT qs k) l T = .ask (memQ q)) ∨
  (∃ c l' T', e = .returned (.tuple #[setQ (ofP (among c)), .bool true]) ∧ c ∈ qs ∧ KeepsM m g W w' ∧ SBox w' g m l' T' ∧ ∀ k, play (scanT qs k) l T = play (k (some c)) l' T') ∨
  (∃ l' T', e = .returned (.tuple #[setV 0 0 0 0, .bool false]) ∧ KeepsM m g W w' ∧ SBox w' g m l' T' ∧ ∀ k, play (scanT qs k) l T = play (k none) l' T')
theorem leaves_eq {F : Fence} {n : Nat} {P : Program} {fn : Func} {tmps : Array Value} {R : Ending → World → Prop} {ds} {u : FrameMode} {X Y : World} (e : Y = X) (h : LeavesInM F n P fn tmps R ds u Y) : LeavesInM F n P fn tmps R ds u X := by subst e; exact h
theorem enters93 (args : Array Value) (W : World) : (callFunc 93 args).run Try.prog W = .ok (.enter 93 args) W := by
  simp [callFunc, go_sem, Try.func93]
  rfl
theorem failsSet {w : World} {g m : Nat} {q : Q4} {l : List Int} {T : List (Q4 × Int)} (h : SBox w g m l T) (hq : q.Ok) :
    Calls Try.prog 93 #[.pointer (some ⟨g, 0, none⟩), setQ q] w (FailsE w g m l T q) :=
  (failsS h hq).mono fun e w' ha => by
    rcases asked_play ha with ⟨rfl, hk, hpl⟩ | ⟨x, l1, T1, rfl, hk, hs, hpl⟩
    · exact .inl ⟨rfl, hk, hpl⟩
    · exact .inr ⟨x, l1, T1, rfl, hk, hs, hpl⟩

set_option maxHeartbeats 16000000 in
theorem failSet {W : World} {g m gf : Nat} {lb : Array Value} {qs : List (List Nat)} {l : List Int} {T : List (Q4 × Int)} (hS : SBox W g m l T)
    (heg : ∀ args w, (callFunc gf args).run Try.prog w = .ok (.enter gf args) w)
    (hseq : ∀ w0 : World, Below W.heap.size W w0 → Rp.StopsT Try.prog gf lb encL (KpS m g w0.heap.size) (TdL qs) (fun ys => ys.length = qs.length) (fun _ => True) qs.length w0) :
    Calls Try.prog 144 #[.func (.func gf) #[] lb, .func (.func 93) #[.pointer (some ⟨g, 0, none⟩)] #[]] W (FailS W g m qs l T) := by
  have HS := hide hS
  have HSEQ := hide hseq
  have HEG := hide heg
  obtain ⟨fv, hfv⟩ : ∃ fv, fv = Value.func (.func 93) #[.pointer (some ⟨g, 0, none⟩)] #[] := ⟨_, rfl⟩
  have HFV := hide hfv
  have hA1 := (Below.refl W.heap.size W).alloc (Nat.le_refl _) (box1 fv 123)
  have hA2 := hA1.alloc hA1.size (boxV 0 0 0 0)
  have hA3 := hA2.alloc hA2.size (box1 (.bool false) 4)
  have HA := hide hA3
  have H3 := hide (old_block (old_block (new_block W (box1 fv 123)) (boxV 0 0 0 0)) (box1 (.bool false) 4))
  have H4 : Hid ((((W.alloc (box1 fv 123)).alloc (boxV 0 0 0 0)).alloc (box1 (.bool false) 4)).heap[W.heap.size + 1]? = some (boxV 0 0 0 0)) := hide (old_block (alloc_at (by simp)) _)
  have H5 : Hid ((((W.alloc (box1 fv 123)).alloc (boxV 0 0 0 0)).alloc (box1 (.bool false) 4)).heap[W.heap.size + 1 + 1]? = some (box1 (.bool false) 4)) := hide (alloc_at (by simp))
  have HW0 : Hid ((((W.alloc (box1 fv 123)).alloc (boxV 0 0 0 0)).alloc (box1 (.bool false) 4)).heap.size = W.heap.size + 3) := hide (by simp)
  rw [← hfv]
  clear hA1 hA2 hA3 hS hseq heg hfv
  refine Rp.calls_of_at (n := 4) (fn := Try.f144) Try.func144 rfl ?_
  simp only [Try.ntmps144, List.size_toArray, List.length_cons, List.length_nil, Nat.reduceAdd, Nat.reduceSub, Array.replicate_succ, Array.replicate_zero, List.push_toArray, List.append_toArray, List.nil_append, List.cons_append]
  refine Rp.At.seqOnly ?_
  go_wp2_with fail
  generalize hW0 : ((W.alloc (box1 fv 123)).alloc (boxV 0 0 0 0)).alloc (box1 (.bool false) 4) = W0 at *
  have HS0 := hide (HS.out.old HA.out)
  have HKW : Hid (KeepsM m g W W0) := hide (KeepsM.of_below (by have := HS.out.lt; have := HS.out.gt; omega) HA.out)
  have HMG := hide HS.out.lt
  have HGW := hide HS.out.gt
  clear hW0
  refine Rp.At.seq (Rp.At.seqOnly ?_)
  go_wp2_with fail
  show Rp.At _ _ _ _ _ _
  refine Rp.At.block ?_
  have hM := HMG.out
  have hG := HGW.out
  have hSZ := HW0.out
  refine Rp.At.rangeFuncB ⟨_, Try.func144⟩ rfl HEG.out (HSEQ.out W0 HA.out) (fun h k => h.trans k) (fun W' o o' h => KpP.put (.inr (.inr (.inr rfl))) h) (fun _ _ _ _ _ _ _ h => h) (fun x => boxQ4 (ofP (among x))) (fun x W' => KpP.below ((Below.refl _ _).alloc (Nat.le_refl _) _)) (fun _ _ _ h => h) (Below.refl _ _) (fun _ => rfl)
    (fun pre W' => ∃ l' T', (∀ k, play (scanT qs k) l T = play (scanT (qs.drop pre.length) k) l' T') ∧ SBox W' g m l' T' ∧ KeepsM m g W0 W')
    (fun cd pre W' => cd = .ret ∧ ∃ c l' T', c ∈ qs ∧ (∀ k, play (scanT qs k) l T = play (k (some c)) l' T') ∧ SBox W' g m l' T' ∧ KeepsM m g W W' ∧ W'.heap[W.heap.size + 1]? = some (boxQ4 (ofP (among c))) ∧ W'.heap[W.heap.size + 1 + 1]? = some (box1 (.bool true) 4))
    (fun ch W' => ∃ q : Q4, Ending.panicked ch = asks4 q.a q.b q.c q.d ∧ q.Ok ∧ (∀ k, play (scanT qs k) l T = .ask (memQ q)) ∧ KeepsM m g W W')
    ?own ?ownx ?ownp ⟨l, T, fun k => by simp, HS0.out, KeepsM.refl _ _ _⟩
    (fun x k => { tmps := #[.func (.func gf) #[] lb, fv, undef, .pointer (some ⟨W.heap.size, 0, none⟩), .pointer (some ⟨W.heap.size + 1, 0, none⟩), .pointer (some ⟨W.heap.size + 1 + 1, 0, none⟩), .pointer (some ⟨k, 0, none⟩), .func (.func gf) #[] lb, setQ (ofP (among x)), undef, undef, undef, undef, undef], defers := [] }) ?assign ?body ?done ?stop ?panic
  case own =>
    rintro pre A A' row ⟨l', T', h1, h2, h3⟩ hg hr
    have hr' : ∀ r, row = some r → W0.heap.size ≤ r := fun r e => (hr r e).1
    exact ⟨l', T', h1, sbox_grown h2 hg (fun r e => by have := hr' r e; exact ⟨by omega, by omega, by omega⟩), keepsM_grown h3 hg (by omega) hr'⟩
  case ownx =>
    rintro cd pre A A' row ⟨rfl, c, l', T', h1, h3, h4, h5, h6, h7⟩ hg hr
    have hr' : ∀ r, row = some r → W0.heap.size ≤ r := fun r e => (hr r e).1
    exact ⟨rfl, c, l', T', h1, h3, sbox_grown h4 hg (fun r e => by have := hr' r e; exact ⟨by omega, by omega, by omega⟩), keepsM_grown h5 hg (by omega) (fun r e => by have := hr' r e; omega), (hg.block _ (block_lt h6) (fun e => by have := hr' _ e.symm; omega)).trans h6, (hg.block _ (block_lt h7) (fun e => by have := hr' _ e.symm; omega)).trans h7⟩
  case ownp =>
    rintro ch A A' row ⟨q, h1, h2, h3, h4⟩ hg hr
    have hr' : ∀ r, row = some r → W0.heap.size ≤ r := fun r e => (hr r e).1
    exact ⟨q, h1, h2, h3, keepsM_grown h4 hg (by omega) (fun r e => by have := hr' r e; omega)⟩
  case assign =>
    intro r x W' K hK
    gi_wp2
    exact hK
  case stop =>
    rintro D cd pre W' hD hpre ⟨rfl, c, l', T', h1, h3, h4, h5, h6, h7⟩ hDef
    have hgr := grownBy_putObj' W' D (.deferred none)
    obtain ⟨y0, y1, y2, y3⟩ := box_cells ((World.putObj_heap_other (w := W') (o := .deferred none) (show W.heap.size + 1 ≠ D by omega)).trans h6)
    have y5 := cell_of ((World.putObj_heap_other (w := W') (o := .deferred none) (show W.heap.size + 1 + 1 ≠ D by omega)).trans h7) 0
    refine wpIn_ret ?_
    refine Rp.leaves_one (by simp) hDef (Rp.leaves_ret (v := .tuple #[setQ (ofP (among c)), .bool true]) (by simp [results, Try.results144, go_sem, y0, y1, y2, y3, y5]) ?_)
    exact .inr (.inl ⟨c, l', T', rfl, h1, keepsM_grown h5 hgr (by omega) (fun r e => by cases e; omega), sbox_grown h4 hgr (fun r e => by cases e; exact ⟨by omega, by omega, by omega⟩), h3⟩)
  case panic =>
    rintro D ch W' hD ⟨q, e, hq, hp, hk⟩ hDef
    have hgr := grownBy_putObj' W' D (.deferred none)
    exact Rp.leaves_one (by simp) hDef (Rp.leaves_panic (.inl ⟨q, e, hq, keepsM_grown hk hgr (by omega) (fun r e => by cases e; omega), hp⟩))
  case done =>
    rintro D ys W' hD hys ⟨l', T', hGo, hS', hk'⟩ hDef
    rw [hys, List.drop_length] at hGo
    have HGO := hide hGo
    have HSS := hide hS'
    have HKK := hide hk'
    have HDE := hide hDef
    have h4 := (hk'.kept _ (block_lt H4.out) (by omega) (by omega)).trans H4.out
    have h5 := (hk'.kept _ (block_lt H5.out) (by omega) (by omega)).trans H5.out
    obtain ⟨x0, x1, x2, x3⟩ := box_cells h4
    have f0 := Bi.frozen_of h4 0
    have f1 := Bi.frozen_of h4 1
    have f2 := Bi.frozen_of h4 2
    have f3 := Bi.frozen_of h4 3
    have x5 := cell_of h5 0
    have f5 := Bi.frozen_of h5 0
    have H4' := hide h4
    have H5' := hide h5
    have HDD := hide hD
    clear hGo hS' hk' hDef hD h4 h5 hM hG hSZ hys
    refine Rp.At.wp ?_
    go_wp2_with fail
    obtain ⟨hY4, hY5, hYO, hYB⟩ := put_set (q := zeroQ) (t := false) (p := zeroQ) H4'.out H5'.out (by omega)
    obtain ⟨Y, hY⟩ : ∃ Y, Y = putSB W' (W.heap.size + 1) (W.heap.size + 1 + 1) zeroQ false := ⟨_, rfl⟩
    refine leaves_eq (X := putSB W' (W.heap.size + 1) (W.heap.size + 1 + 1) zeroQ false) hY ?_
    rw [← hY] at hY4 hY5 hYO hYB
    have hM := HMG.out
    have hG := HGW.out
    have hSZ := HW0.out
    have hD := HDD.out
    have hDY := (hYO D (by omega) (by omega)).trans HDE.out
    have hgr := grownBy_putObj' Y D (.deferred none)
    obtain ⟨y0, y1, y2, y3⟩ := box_cells ((World.putObj_heap_other (w := Y) (o := .deferred none) (show W.heap.size + 1 ≠ D by omega)).trans hY4)
    have y5 := cell_of ((World.putObj_heap_other (w := Y) (o := .deferred none) (show W.heap.size + 1 + 1 ≠ D by omega)).trans hY5) 0
    have hWY := HKW.out.trans HKK.out
    have hKY : KeepsM m g W Y := ⟨hWY.below.trans (hYB m (by omega) (by omega)), fun i hi h1 h2 => (hYO i (by omega) (by omega)).trans (hWY.kept i hi h1 h2)⟩
    have hSY : SBox Y g m l' T' := HSS.out.other (hYB m (by omega) (by omega)) (hYO m (by omega) (by omega)) (hYO g (by omega) (by omega))
    refine Rp.leaves_one (by simp) hDY (Rp.leaves_ret (v := .tuple #[setV 0 0 0 0, .bool false]) (by simp [results, Try.results144, go_sem, y0, y1, y2, y3, y5, zeroQ]) ?_)
    exact .inr (.inr ⟨l', T', rfl, keepsM_grown hKY hgr (by omega) (fun r e => by cases e; omega), sbox_grown hSY hgr (fun r e => by cases e; exact ⟨by omega, by omega, by omega⟩), fun k => HGO.out k⟩)
  case body =>
    rintro r pre x W' k0 ⟨l', T', hGo, hS', hk'⟩ hlen ⟨hl2, hx⟩ hk0 hk0b
    have c3 : W'.cell? ⟨W.heap.size, 0, none⟩ = some fv := cell_of ((hk'.kept _ (block_lt H3.out) (by omega) (by omega)).trans H3.out) 0
    rw [HFV.out] at c3
    have h4 := (hk'.kept _ (block_lt H4.out) (by omega) (by omega)).trans H4.out
    have h5 := (hk'.kept _ (block_lt H5.out) (by omega) (by omega)).trans H5.out
    have HXQ : Hid (x ∈ qs) := hide (by rw [hx]; exact List.getElem_mem hl2)
    have HPL : Hid (∀ k, play (scanT qs k) l T = play (.ask (ofP (among x)) fun v => if v = 2 then k (some x) else scanT (qs.drop (pre.length + 1)) k) l' T') := hide fun k => by rw [hGo k, scan_next hl2, hx]
    have HKK := hide hk'
    have H4' := hide h4
    have H5' := hide h5
    obtain ⟨q, hq⟩ : ∃ q, q = ofP (among x) := ⟨_, rfl⟩
    have HQO : Hid q.Ok := hide (by rw [hq]; exact ofP_ok _)
    have HQE := hide hq
    rw [← hq] at hk0b HPL ⊢
    have HC := hide (failsSet hS' HQO.out)
    have HB6 := hide hk0b
    obtain ⟨z0, z1, z2, z3⟩ := box_cells hk0b
    have HK0 : Hid (W0.heap.size ≤ k0 ∧ k0 ≠ m ∧ k0 ≠ g) := hide ⟨by omega, by omega, by omega⟩
    have hcf := enters93
    clear hGo hS' hk' hl2 h4 h5 hM hG hSZ hlen hx hk0 hk0b hq
    gi_wp2
    refine ⟨trivial, (CallsIn.inRound r (callsIn_wide.2 HC.out)).mono ?_⟩
    rintro e w5 (⟨rfl, hk, hp⟩ | ⟨y, l2, T2, rfl, hk, hs, hp⟩)
    · have HKF : Hid (KeepsFrom W0.heap.size W' w5) := hide (by
        have h1 := HMG.out; have h2 := HGW.out; have h3 := HW0.out
        exact ⟨hk.below.size, fun k o hk1 hk2 _ => (hk.kept k (block_lt hk2) (by omega) (by omega)).trans hk2⟩)
      have HKK5 := hide (HKW.out.trans (HKK.out.trans hk))
      have HP := hide hp
      clear hk hp c3 hcf
      unfold asks4
      gi_wp2
      exact ⟨rfl, HKF.out, _, rfl, HQO.out, fun k => (HPL.out k).trans (HP.out _), HKK5.out⟩
    have HK := hide hk
    have HP := hide hp
    have HS5 := hide hs
    have h4 := (hk.kept _ (block_lt H4'.out) (by have := HMG.out; have := HGW.out; have := HW0.out; omega) (by have := HGW.out; omega)).trans H4'.out
    have h5 := (hk.kept _ (block_lt H5'.out) (by have := HMG.out; have := HGW.out; have := HW0.out; omega) (by have := HGW.out; omega)).trans H5'.out
    have h6 := (hk.kept _ (block_lt HB6.out) HK0.out.2.1 HK0.out.2.2).trans HB6.out
    have H45 := hide h4
    have H55 := hide h5
    clear hk hp hs c3 hcf z0 z1 z2 z3
    rcases Decidable.em (y = 2) with hy | hy
    · have d1 : (y == (2 : Int)) = true := by simp [hy]
      have HPF : Hid (∀ k, play (scanT qs k) l T = play (k (some x)) l2 T2) := hide fun k => by rw [HPL.out k, HP.out]; simp only [if_pos hy]
      obtain ⟨x0, x1, x2, x3⟩ := box_cells h4
      have f0 := Bi.frozen_of h4 0
      have f1 := Bi.frozen_of h4 1
      have f2 := Bi.frozen_of h4 2
      have f3 := Bi.frozen_of h4 3
      have x5 := cell_of h5 0
      have f5 := Bi.frozen_of h5 0
      obtain ⟨z0, z1, z2, z3⟩ := box_cells h6
      clear hy h4 h5 h6
      gi_wp2
      obtain ⟨hY4, hY5, hYO, hYB⟩ := put_set (q := q) (t := true) (p := zeroQ) H45.out H55.out (by omega)
      have h1 := HMG.out
      have h2 := HGW.out
      have h3 := HW0.out
      have hWY := HKW.out.trans (HKK.out.trans HK.out)
      have hz := HKK.out.below.size
      have hz5 := HK.out.below.size
      rw [HQE.out] at hY4
      refine ⟨⟨Nat.le_trans hz5 (hYB m (by omega) (by omega)).size, fun k o hk1 hk2 _ => (hYO k (by omega) (by omega)).trans ((HK.out.kept k (block_lt hk2) (by omega) (by omega)).trans hk2)⟩, rfl, x, l2, T2, HXQ.out, HPF.out, HS5.out.other (hYB m (by omega) (by omega)) (hYO m (by omega) (by omega)) (hYO g (by omega) (by omega)), ⟨hWY.below.trans (hYB m (by omega) (by omega)), fun i hi a b => (hYO i (by omega) (by omega)).trans (hWY.kept i hi a b)⟩, ?_, hY5⟩
      rw [HQE.out]
      exact hY4
    · have d1 : (y == (2 : Int)) = false := beq_false_of_ne hy
      have HPF : Hid (∀ k, play (scanT qs k) l T = play (scanT (qs.drop (pre.length + 1)) k) l2 T2) := hide fun k => by rw [HPL.out k, HP.out]; simp only [if_neg hy]
      clear hy h4 h5 h6
      gi_wp2
      have h1 := HMG.out
      have h2 := HGW.out
      have h3 := HW0.out
      refine ⟨⟨HK.out.below.size, fun k o hk1 hk2 _ => (HK.out.kept k (block_lt hk2) (by omega) (by omega)).trans hk2⟩, ⟨HK.out.below.size, fun i hi a => HK.out.kept i hi (fun q => a (.inl q)) fun q => a (.inr (.inl q))⟩, l2, T2, fun k => by rw [List.length_append]; exact HPF.out k, HS5.out, HKK.out.trans HK.out⟩
end Go.Proofs.Ytmkapmbmgpnjaaa.Se
