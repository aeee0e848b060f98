import Derived.Test.YtmkapmbmgpnjaaaDlD
set_option maxRecDepth 100000
set_option linter.unusedSimpArgs false
set_option linter.unusedVariables false
namespace Go.Proofs.Ytmkapmbmgpnjaaa.Se
open Go Go.Ms Go.Pg Go.Rc Go.Bi Go.Se Go.ChangeShapes Go.WideShapes Go.ChangeAt Go.RowKit Go.Deep Go.Shelf Go.Proofs.Ytmkapmbmgpnjaaa.Bi

attribute [local go_sem] Oper.semAt_some

/-! The complements, one by one. -/
theorem stepIn_round {F : Fence} {nF : Nat} {P : Program} {ops : Array Oper} {o : Oper} {a : Act} {w w' : World} {K : Act → World → Prop} {Q : Exit → Act → World → Prop} {X : Prop} {l : Nat} {f : FuncId} {tmps : Array Value} {assign body : Code} {R : Ending → World → Prop} (hgd : o.guard = none) (hd : ∀ c, o.op ≠ .defer c)
    (hf : ∀ f, o.about P w a.eval = some f → F.fn f) (hdp : F.depth = none) (hr : (execOp a.eval o).run P w = .ok (.round l f tmps assign body) w') (hR : RoundIn F (nF - 1) P l f tmps assign body w' R)
    (h : ∀ e w', R e w' → (∃ v, e = .returned v ∧ K (a.put o.dst v) w') ∨ (∃ ch, e = .panicked ch ∧ Q (.panic ch) a w')) : if Region.wanted o (yielded ops a.tmps) = true then Oper.wpIn F nF P o a w K Q else X := by
  have hw : Region.wanted o (yielded ops a.tmps) = true := by simp [Region.wanted, hgd]
  rw [if_pos hw]
  unfold Oper.wpIn
  refine ⟨hf, ?_⟩
  rw [Oper.semAt_plain F _ _ hd, hr, Oper.uponIn_round]
  refine ⟨fun hq => (by rw [hdp] at hq; cases hq), hR.mono fun e w' hR => ?_⟩
  rcases h e w' hR with ⟨v, rfl, hk⟩ | ⟨ch, rfl, hk⟩
  · exact hk
  · exact hk
theorem roundIn_wide {n n' : Nat} {P : Program} {l : Nat} {f : FuncId} {tmps : Array Value} {assign body : Code} {w : World} {R : Ending → World → Prop} (r : Nat) (h : RoundIn Fence.wide n P l f tmps assign body w R) : RoundIn (Fence.wide.inRound r) n' P l f tmps assign body w R :=
  ⟨trivial, fun c cs _ => h.2 c cs (room_wide _)⟩
theorem own_formE {w : World} {B : Nat} {v : Value} {xs : List Nat} (h : Go.Il.Own 3 .i64 B w v (xs.map Int.ofNat)) : ∃ oa cap, v = .slice oa xs.length cap := by
  obtain ⟨oa, cap, e⟩ := Go.Il.Own.form h
  exact ⟨oa, cap, by rw [e, List.length_map]⟩
theorem own_laidK {w : World} {B m g : Nat} {v : Value} {xs : List Nat} (h : Go.Il.Own 3 .i64 B w v (xs.map Int.ofNat)) (hl : xs.length ≤ 256) (hm : m < B) (hg : g < B) : LaidK w m g v xs := by
  obtain ⟨oa, cap, rfl, hc⟩ := h.at
  have hcap : xs.length ≤ cap := by
    rcases h.2 with ⟨e, h0⟩ | ⟨g, cap', cur, e, hb, hh, hnc, _⟩
    · rw [List.length_map] at h0; omega
    · injection e with e1 e2 e3
      rw [List.length_map] at hnc
      omega
  refine ⟨oa, cap, by rw [List.length_map], hcap, hl, fun i hi => ?_⟩
  obtain ⟨b, e, hx⟩ := hc i (by simpa using hi)
  have hB : B ≤ b := (h.lt b (by rw [e]; rfl)).1
  exact ⟨b, 0, e, by omega, by rw [Nat.zero_add, hx]; simp⟩
theorem grown_below {w w' : World} (h : Below w.heap.size w w') : w.grownBy w' none := ⟨h.os, h.tape, h.output, h.size, fun k hk _ => h.block k hk⟩
theorem KpP.below {Q : Nat → Prop} {w w' : World} (h : Below w.heap.size w w') : KpP Q w w' := ⟨h.size, fun i hi _ => h.block i hi⟩
def Own6 (m g H H2 : Nat) (i : Nat) : Prop := Own4 m g H i ∨ i = H2 ∨ i = H2 + 1
def RoundR (tm : Value → Bool → Array Value) (S : Bool → World → Prop) (Pn : List PanicEntry → World → Prop) : Exit → Act → World → Prop
  | .normal, a, w => ∃ q rv, a = { tmps := tm rv q, defers := [] } ∧ S q w
  | .panic ch, a, w => a.defers = [] ∧ Pn ch w
  | _, _, _ => False

set_option maxHeartbeats 16000000 in
theorem complT {m g S Nb b o cap c : Nat} {z : Int} {d : List Nat} {w0 : World} (hd2 : 2 ≤ d.length) (hc : c = count d.length z) (hds : d.Pairwise (· < ·)) (hS : w0.heap[S]? = some (box1 (.slice (some ⟨b, o, none⟩) d.length cap) 30)) (hN : w0.heap[Nb]? = some (box1 (.int .i64 z) 3)) (hSm : S ≠ m ∧ S ≠ g) (hNm : Nb ≠ m ∧ Nb ≠ g)
    (hL : LaidK w0 m g (.slice (some ⟨b, o, none⟩) d.length cap) d) (hm : m < w0.heap.size) (hg : g < w0.heap.size) :
    Rp.StopsT Try.prog 163 #[.pointer (some ⟨S, 0, none⟩), .pointer (some ⟨Nb, 0, none⟩)] (fun v : Value => #[v]) (KpS m g w0.heap.size) (TdQ m g (((List.range c).map (piece d c)).map (restOf d))) (fun ys => ys.length = (((List.range c).map (piece d c)).map (restOf d)).length) (fun _ => True) (((List.range c).map (piece d c)).map (restOf d)).length w0 := by
  intro l J Jx Jp W hW hH hJ hJx hJp hY h0
  obtain ⟨hcap, hn⟩ : d.length ≤ cap ∧ d.length ≤ 256 := by
    obtain ⟨oa, cap', e, q1, q2, -⟩ := hL
    injection e with e1 e2 e3
    omega
  have hcl : 1 ≤ c ∧ c ≤ d.length := by rw [hc]; unfold count; omega
  refine callsIn_wide.2 ?_
  have hA := (Below.refl W.heap.size W).alloc (Nat.le_refl _) (box1 (.func (.yield l) #[] #[]) 133)
  have hJa : J [] (W.alloc (box1 (.func (.yield l) #[] #[]) 133)) := hJ.alloc _ h0
  have h3 := new_block W (box1 (.func (.yield l) #[] #[]) 133)
  have hSa := (hA.block S (by have := block_lt hS; have := hW.size; omega)).trans ((hW.block S (block_lt hS)).trans hS)
  have hNa := (hA.block Nb (by have := block_lt hN; have := hW.size; omega)).trans ((hW.block Nb (block_lt hN)).trans hN)
  have hsa : (W.alloc (box1 (.func (.yield l) #[] #[]) 133)).heap.size = W.heap.size + 1 := by simp
  have HL0 := hide hL
  have HW := hide hW
  have HA := hide hA
  have HS := hide hSa
  have HN := hide hNa
  have H3 := hide h3
  have HSA := hide hsa
  have HSS := hide hS
  have HNN := hide hN
  have HPRE := hide (And.intro hH (And.intro hJ (And.intro hJx hJp)))
  have HY := hide hY
  have HDS := hide hds
  have HCL := hide hcl
  have HCN := hide hc
  have HJA := hide hJa
  have HMG := hide (And.intro hm hg)
  have HNM := hide (And.intro hSm hNm)
  clear hA h3 hSa hNa hsa hL hW hS hN hH hJ hJx hJp hY hds hcl hc hJa h0 hm hg hSm hNm
  refine Rp.calls_of_at (n := 4) (fn := Try.f163) Try.func163 rfl ?_
  simp only [Try.ntmps163, List.size_toArray, List.length_cons, List.length_nil, Nat.reduceAdd, Nat.reduceSub, Array.replicate_succ, Array.replicate_zero, List.push_toArray, List.append_toArray, List.nil_append, List.cons_append]
  refine Rp.At.seqOnly ?_
  go_wp2_with fail
  change Rp.At _ _ _ _ _ (W.alloc (box1 (.func (.yield l) #[] #[]) 133))
  generalize W.alloc (box1 (.func (.yield l) #[] #[]) 133) = Wa at *
  have c1 := cell_of HS.out 0
  have c2 := cell_of HN.out 0
  refine Rp.At.seqOnly ?_
  go_wp2_with fail
  (with_reducible refine (maker (n := d.length) (by omega)).mono ?_)
  rintro e w3 ⟨rfl, hB3, hs3, hc3, hl3⟩
  rw [← HCN.out] at hc3
  clear c1 c2
  go_wp2_with fail
  show Rp.At _ _ _ _ _ _
  refine Rp.At.block ?_
  have h1 := HPRE.out.1
  obtain ⟨hmm, hgg⟩ := HMG.out
  obtain ⟨⟨hS1, hS2⟩, hN1, hN2⟩ := HNM.out
  have h2 := HW.out.size
  have h4 := HSA.out
  have h5 := hB3.size
  have hSl := block_lt HSS.out
  have hNl := block_lt HNN.out
  have hcc := HCL.out
  have hB03 : Below w0.heap.size w0 w3 := HW.out.trans ((HA.out.mono h2).trans (hB3.mono (by omega)))
  have hL3 : LaidK w3 m g (.slice (some ⟨b, o, none⟩) d.length cap) d := HL0.out.keep fun i hi _ _ => hB03.block i hi
  have hnb : ∀ i, w0.heap.size + 2 ≤ i → i < w3.heap.size → ¬ Own6 m g w0.heap.size w3.heap.size i := fun i hi hi2 q => by
    rcases q with (q | q | q | q) | q | q <;> omega
  have hblk : ∀ i (_ : i < d.length), ∃ b' o', some (⟨b, o, none⟩ : Addr) = some ⟨b', o', none⟩ ∧ b' < w3.heap.size ∧ ¬ Own6 m g w0.heap.size w3.heap.size b' := fun i hi => by
    obtain ⟨oa, cap', e, -, -, hx⟩ := HL0.out
    injection e with e1 e2 e3
    subst e1
    obtain ⟨b', o', e, hb, hx⟩ := hx i hi
    have hl := World.block_lt_of_cell? w0 _ hx
    have hl : b' < w0.heap.size := hl
    exact ⟨b', o', e, by omega, fun q => by rcases q with (q | q | q | q) | q | q <;> omega⟩
  have hJ3 : J [] w3 := HPRE.out.2.1 [] Wa w3 none HJA.out (grown_below hB3) (fun r e => by cases e)
  refine Rp.At.rangeFuncT ⟨_, Try.func163⟩ rfl (enters_of Try.func162 (by kernel_rfl) rfl)
    (chunksT (w0 := w3) (Q := Own6 m g w0.heap.size w3.heap.size) hcap hn hcc.2 ⟨by omega, hnb _ (by omega) (by omega)⟩ ⟨by omega, hnb _ (by omega) (by omega)⟩ hc3 hl3 hL3 hblk) (fun h k => h.trans k) (fun W' o o' h => KpP.put (.inr (.inr rfl)) h) ?td (Below.refl _ _) (fun _ => rfl)
    (fun pre' W' => ∃ pre : List Value, pre.length = pre'.length ∧ J pre W' ∧ KpP (Own4 m g w0.heap.size) w3 W')
    (fun cd _ W' => cd = .ret ∧ ∃ pre : List Value, Jx pre W')
    (fun ch W' => Jp ch W')
    ?own ?ownx ?ownp ⟨[], rfl, hJ3, KpP.refl _ _⟩
    (fun v : Value => { tmps := #[.func (.yield l) #[] #[], .pointer (some ⟨S, 0, none⟩), .pointer (some ⟨Nb, 0, none⟩), .pointer (some ⟨W.heap.size, 0, none⟩), v, .slice (some ⟨b, o, none⟩) d.length cap, .int .i64 z, .func (.func 162) #[] #[.pointer (some ⟨W.heap.size + 1 + 1, 0, none⟩), .pointer (some ⟨W.heap.size + 1, 0, none⟩)], v, undef, undef, undef, undef, undef, undef], defers := [] }) ?assign ?body ?done ?stop ?panic
  case td =>
    rintro pre x W' o o' h hc ⟨q1, q2⟩
    exact ⟨q1, q2.grown (grownBy_putObj' W' _ o') fun r e => by cases e; exact ⟨o, h, hc⟩⟩
  case own =>
    rintro pre' A A' row ⟨pre, q1, q2, q3⟩ hg hr
    refine ⟨pre, q1, HPRE.out.2.1 pre A A' row q2 hg fun r e => ⟨by have := (hr r e).1; omega, (hr r e).2⟩, Nat.le_trans q3.1 hg.size, fun i hi hq => (hg.block i (Nat.lt_of_lt_of_le hi q3.1) fun e => by have := (hr i e.symm).1; omega).trans (q3.2 i hi hq)⟩
  case ownx =>
    rintro cd pre' A A' row ⟨rfl, pre, q2⟩ hg hr
    exact ⟨rfl, pre, HPRE.out.2.2.1 pre A A' row q2 hg fun r e => ⟨by have := (hr r e).1; omega, (hr r e).2⟩⟩
  case ownp =>
    rintro ch A A' row q2 hg hr
    exact HPRE.out.2.2.2 ch A A' row q2 hg fun r e => ⟨by have := (hr r e).1; omega, (hr r e).2⟩
  case assign =>
    intro r x W' K hK
    gi_wp2
    exact hK
  case stop =>
    rintro D cd pre' W' hD hpre ⟨rfl, pre, q2⟩ hDef
    refine wpIn_ret ?_
    refine Rp.leaves_one (by simp) hDef (Rp.leaves_ret (v := .tuple #[]) (results_none rfl _ _ _) ?_)
    have hq := HPRE.out.2.2.1.putObj (.deferred none) q2 (by omega) hDef rfl
    exact .inl ⟨⟨_, rfl⟩, .inr ⟨pre, by first | exact ⟨trivial, hq⟩ | exact hq⟩⟩
  case panic =>
    rintro D ch W' hD q2 hDef
    exact Rp.leaves_one (by simp) hDef (Rp.leaves_panic (.inr ⟨ch, rfl, HPRE.out.2.2.2.putObj _ q2 (by omega) hDef rfl⟩))
  case done =>
    rintro D ys W' hD hys ⟨pre, q1, q2, q3⟩ hDef
    refine Rp.leaves_one (by simp) hDef (Rp.leaves_ret (v := .tuple #[]) (results_none rfl _ _ _) ?_)
    exact .inl ⟨⟨_, rfl⟩, .inl ⟨pre, by rw [q1, hys]; simp, HPRE.out.2.1.putObj _ q2 (by omega) hDef rfl⟩⟩
  case body =>
    rintro r pre' x W' ⟨pre, hpl, hJ', hk'⟩ hlen ⟨hl2, hLaid⟩
    have hkc : pre'.length < c := by simpa using hl2
    obtain ⟨k, hk⟩ : ∃ k, k = pre'.length := ⟨_, rfl⟩
    have hQ : ∀ i, i < w3.heap.size → i ≠ m → i ≠ g → i ≠ w0.heap.size → i ≠ w0.heap.size + 1 → W'.heap[i]? = w3.heap[i]? := fun i hi a b' c' d' => hk'.2 i hi fun q => by rcases q with q | q | q | q <;> omega
    have c3 : W'.drew.cell? ⟨W.heap.size, 0, none⟩ = some (.func (.yield l) #[] #[]) := cell_of ((hQ _ (by omega) (by omega) (by omega) (by omega) (by omega)).trans ((hB3.block _ (by omega)).trans H3.out)) 0
    have c1 : W'.drew.cell? ⟨S, 0, none⟩ = some (.slice (some ⟨b, o, none⟩) d.length cap) := cell_of ((hQ _ (by omega) hS1 hS2 (by omega) (by omega)).trans ((hB3.block _ (by omega)).trans HS.out)) 0
    have hLs : LaidK W'.drew m g (.slice (some ⟨b, o, none⟩) d.length cap) d := by
      obtain ⟨oa, cap', e, q1, q2, hx⟩ := HL0.out
      injection e with e1 e2 e3
      subst e1 e3
      refine ⟨_, _, rfl, q1, q2, fun i hi => ?_⟩
      obtain ⟨b1, o1, e1, hb1, hc1⟩ := hx i hi
      have hl : b1 < w0.heap.size := World.block_lt_of_cell? w0 _ hc1
      exact ⟨b1, o1, e1, hb1, (World.cell?_of_block (a := ⟨b1, o1 + i, none⟩) ((hQ b1 (by omega) hb1.1 hb1.2 (by omega) (by omega)).trans (hB03.block b1 hl))).trans hc1⟩
    have eP : ((List.range c).map (piece d c))[pre'.length]'hl2 = piece d c k := by simp [hk]
    rw [eP] at hLaid
    have C3 := hide c3
    have C1 := hide c1
    have HPN : Hid (pre.length < (((List.range c).map (piece d c)).map (restOf d)).length) := hide (by simp; omega)
    have HRE : Hid ((((List.range c).map (piece d c)).map (restOf d))[pre.length]'HPN.out = restOf d (piece d c k)) := hide (by simp [hpl, hk])
    have HWP := hide (withoutProg (w := W'.drew) hLs.laid (hLaid.laid.old (Below.drew (Below.refl W'.heap.size W'))))
    have HWR : Hid (withoutL d (piece d c k) = restOf d (piece d c k)) := hide (without_rest d _ HDS.out piece_list)
    have hz' := hk'.1
    have HTD : Hid (∀ (w4 : World) (rv : Value), Below W'.heap.size W' w4 → Go.Il.Own 3 .i64 W'.heap.size w4 rv ((restOf d (piece d c k)).map Int.ofNat) → TdQ m g (((List.range c).map (piece d c)).map (restOf d)) pre rv w4) := hide fun w4 rv h4 hro => ⟨HPN.out, by
      rw [HRE.out]
      exact own_laidK hro (by unfold restOf; exact Nat.le_trans (List.length_filter_le _ _) hn) (by omega) (by omega)⟩
    have HJB : Hid (∀ w4 : World, Below W'.heap.size W' w4 → J pre w4) := hide fun w4 h4 => HPRE.out.2.1 pre W' w4 none hJ' (grown_below h4) (fun r e => by cases e)
    have HKK := hide hk'
    have HPL := hide hpl
    have HB3 := hide hB3
    have hY := HY.out
    have HNUM : Hid (w0.heap.size + 2 ≤ W.heap.size ∧ W.heap.size + 1 ≤ w3.heap.size ∧ m < w0.heap.size ∧ g < w0.heap.size) := hide ⟨h1, by omega, hmm, hgg⟩
    obtain ⟨ox, cx, rfl, -, -, -⟩ := hLaid
    clear hl2 hkc hQ hLs eP hpl hJ' hk' hlen h1 hmm hgg hS1 hS2 hN1 hN2 h2 h4 h5 hSl hNl hcc hB03 hL3 hnb hblk hJ3 hB3 hs3 hc3 hl3 hz' hk hcap hn hd2
    gi_wp2
    refine wpIn_mono (Q := RoundR (fun rv q => #[.func (.yield l) #[] #[], .pointer (some ⟨S, 0, none⟩), .pointer (some ⟨Nb, 0, none⟩), .pointer (some ⟨W.heap.size, 0, none⟩), .slice ox (piece d c k).length cx, .slice (some ⟨b, o, none⟩) d.length cap, .int .i64 z, .func (.func 162) #[] #[.pointer (some ⟨W.heap.size + 1 + 1, 0, none⟩), .pointer (some ⟨W.heap.size + 1, 0, none⟩)], .slice ox (piece d c k).length cx, .func (.yield l) #[] #[], .slice (some ⟨b, o, none⟩) d.length cap, .slice ox (piece d c k).length cx, rv, .bool (!q), .bool q]) (fun q w5 => (q = false ∧ ∃ rv, ∃ w4, Below W'.heap.size W' w4 ∧ J (pre ++ [rv]) w5 ∧ KpP (Own4 m g w0.heap.size) w4 w5) ∨ (q = true ∧ ∃ rv, ∃ w4, Below W'.heap.size W' w4 ∧ Jx (pre ++ [rv]) w5 ∧ KeepsFrom W.heap.size w4 w5))
      (fun ch w5 => ∃ w4, Below W'.heap.size W' w4 ∧ Jp ch w5 ∧ KeepsFrom W.heap.size w4 w5)) ?_ ?_
    · refine wpIn_region_any mixedS ?_
      refine wpAnyIn_ready (rs := [0, 1, 2]) (by kernel_rfl) (by simp) (AllReadyIn.cons rfl (fun K hK => ?_) (AllReadyIn.cons rfl (fun K hK => ?_) (AllReadyIn.cons rfl (fun K hK => ?_) (AllReadyIn.nil))))
      · skip
        refine Rp.stepIn_value rfl (fun _ h => by cases h) rfl (v := .func (.yield l) #[] #[]) (w' := W'.drew) (by go_simp) ?_
        refine hK _ _ ?_
        clear hK K
        refine wpAnyIn_ready (rs := [1, 2]) (by kernel_rfl) (by simp) (AllReadyIn.cons rfl (fun K hK => ?_) (AllReadyIn.cons rfl (fun K hK => ?_) (AllReadyIn.nil)))
        · skip
          refine Rp.stepIn_value rfl (fun _ h => by cases h) rfl (v := .slice (some ⟨b, o, none⟩) d.length cap) (w' := W'.drew) (by go_simp) ?_
          refine hK _ _ ?_
          clear hK K
          refine wpAnyIn_ready (rs := [2]) (by kernel_rfl) (by simp) (AllReadyIn.cons rfl (fun K hK => ?_) (AllReadyIn.nil))
          refine Rp.stepIn_value rfl (fun _ h => by cases h) rfl (v := .slice ox (piece d c k).length cx) (w' := W'.drew) (by go_simp) ?_
          refine hK _ _ ?_
          clear hK K
          refine wpAnyIn_ready (rs := [3]) (by kernel_rfl) (by simp) (AllReadyIn.cons rfl (fun K hK => ?_) (AllReadyIn.nil))
          refine Rp.stepIn_callP rfl (fun _ h => by cases h) (g := 110) (args := #[.slice (some ⟨b, o, none⟩) d.length cap, .slice ox (piece d c k).length cx]) (by go_simp) trivial rfl (by go_simp) (CallsIn.inRound r (callsIn_wide.2 HWP.out)) ?_
          rintro e w4 ⟨rv, rfl, hro, hB4⟩
          rw [HWR.out] at hro
          obtain ⟨orv, crv, rfl⟩ := own_formE hro
          have HB4 := hide ((Below.drew (Below.refl W'.heap.size W')).trans hB4)
          have HRV := hide (HTD.out _ _ HB4.out hro)
          have c3 : w4.cell? ⟨W.heap.size, 0, none⟩ = some (.func (.yield l) #[] #[]) := cell_old HB4.out C3.out
          have c1 : w4.cell? ⟨S, 0, none⟩ = some (.slice (some ⟨b, o, none⟩) d.length cap) := cell_old HB4.out C1.out
          have hJ4 := HJB.out w4 HB4.out
          clear hB4 hro
          refine .inl ⟨_, rfl, ?_⟩
          refine hK _ _ ?_
          clear hK K
          refine wpAnyIn_ready (rs := [4]) (by kernel_rfl) (by simp) (AllReadyIn.cons rfl (fun K hK => ?_) AllReadyIn.nil)
          obtain ⟨fy, ty, ay, by', hy, hR⟩ := hY pre _ w4 hJ4 HPN.out HRV.out
          refine stepIn_round (l := l) (f := fy) (tmps := ty) (assign := ay) (body := by') rfl (fun _ h => by cases h) (fun _ _ => trivial) rfl (by go_simp) (roundIn_wide r hR) ?_
          rintro e w5 (⟨rfl, hJ5, hk5⟩ | ⟨rfl, hJ5, hf5⟩ | ⟨ch, rfl, hJ5, hf5⟩)
          · refine .inl ⟨_, rfl, ?_⟩
            refine hK _ _ ?_
            clear hK K
            refine wpAnyIn_ready (rs := [5]) (by kernel_rfl) (by simp) (AllReadyIn.cons rfl (fun K hK => ?_) AllReadyIn.nil)
            refine Rp.stepIn_value rfl (fun _ h => by cases h) rfl (v := .bool false) (w' := w5) (by go_simp) ?_
            refine hK _ _ ?_
            clear hK K
            refine wpAnyIn_done (by kernel_rfl) ?_ _
            exact ⟨false, .slice orv (restOf d (piece d c k)).length crv, by simp [Act.put], .inl ⟨rfl, _, w4, HB4.out, hJ5, hk5⟩⟩
          · refine .inl ⟨_, rfl, ?_⟩
            refine hK _ _ ?_
            clear hK K
            refine wpAnyIn_ready (rs := [5]) (by kernel_rfl) (by simp) (AllReadyIn.cons rfl (fun K hK => ?_) AllReadyIn.nil)
            refine Rp.stepIn_value rfl (fun _ h => by cases h) rfl (v := .bool true) (w' := w5) (by go_simp) ?_
            refine hK _ _ ?_
            clear hK K
            refine wpAnyIn_done (by kernel_rfl) ?_ _
            exact ⟨true, .slice orv (restOf d (piece d c k)).length crv, by simp [Act.put], .inr ⟨rfl, _, w4, HB4.out, hJ5, hf5⟩⟩
          · exact .inr ⟨_, rfl, rfl, w4, HB4.out, hJ5, hf5⟩
        · skip
          refine Rp.stepIn_value rfl (fun _ h => by cases h) rfl (v := .slice ox (piece d c k).length cx) (w' := W'.drew) (by go_simp) ?_
          refine hK _ _ ?_
          clear hK K
          refine wpAnyIn_ready (rs := [1]) (by kernel_rfl) (by simp) (AllReadyIn.cons rfl (fun K hK => ?_) (AllReadyIn.nil))
          refine Rp.stepIn_value rfl (fun _ h => by cases h) rfl (v := .slice (some ⟨b, o, none⟩) d.length cap) (w' := W'.drew) (by go_simp) ?_
          refine hK _ _ ?_
          clear hK K
          refine wpAnyIn_ready (rs := [3]) (by kernel_rfl) (by simp) (AllReadyIn.cons rfl (fun K hK => ?_) (AllReadyIn.nil))
          refine Rp.stepIn_callP rfl (fun _ h => by cases h) (g := 110) (args := #[.slice (some ⟨b, o, none⟩) d.length cap, .slice ox (piece d c k).length cx]) (by go_simp) trivial rfl (by go_simp) (CallsIn.inRound r (callsIn_wide.2 HWP.out)) ?_
          rintro e w4 ⟨rv, rfl, hro, hB4⟩
          rw [HWR.out] at hro
          obtain ⟨orv, crv, rfl⟩ := own_formE hro
          have HB4 := hide ((Below.drew (Below.refl W'.heap.size W')).trans hB4)
          have HRV := hide (HTD.out _ _ HB4.out hro)
          have c3 : w4.cell? ⟨W.heap.size, 0, none⟩ = some (.func (.yield l) #[] #[]) := cell_old HB4.out C3.out
          have c1 : w4.cell? ⟨S, 0, none⟩ = some (.slice (some ⟨b, o, none⟩) d.length cap) := cell_old HB4.out C1.out
          have hJ4 := HJB.out w4 HB4.out
          clear hB4 hro
          refine .inl ⟨_, rfl, ?_⟩
          refine hK _ _ ?_
          clear hK K
          refine wpAnyIn_ready (rs := [4]) (by kernel_rfl) (by simp) (AllReadyIn.cons rfl (fun K hK => ?_) AllReadyIn.nil)
          obtain ⟨fy, ty, ay, by', hy, hR⟩ := hY pre _ w4 hJ4 HPN.out HRV.out
          refine stepIn_round (l := l) (f := fy) (tmps := ty) (assign := ay) (body := by') rfl (fun _ h => by cases h) (fun _ _ => trivial) rfl (by go_simp) (roundIn_wide r hR) ?_
          rintro e w5 (⟨rfl, hJ5, hk5⟩ | ⟨rfl, hJ5, hf5⟩ | ⟨ch, rfl, hJ5, hf5⟩)
          · refine .inl ⟨_, rfl, ?_⟩
            refine hK _ _ ?_
            clear hK K
            refine wpAnyIn_ready (rs := [5]) (by kernel_rfl) (by simp) (AllReadyIn.cons rfl (fun K hK => ?_) AllReadyIn.nil)
            refine Rp.stepIn_value rfl (fun _ h => by cases h) rfl (v := .bool false) (w' := w5) (by go_simp) ?_
            refine hK _ _ ?_
            clear hK K
            refine wpAnyIn_done (by kernel_rfl) ?_ _
            exact ⟨false, .slice orv (restOf d (piece d c k)).length crv, by simp [Act.put], .inl ⟨rfl, _, w4, HB4.out, hJ5, hk5⟩⟩
          · refine .inl ⟨_, rfl, ?_⟩
            refine hK _ _ ?_
            clear hK K
            refine wpAnyIn_ready (rs := [5]) (by kernel_rfl) (by simp) (AllReadyIn.cons rfl (fun K hK => ?_) AllReadyIn.nil)
            refine Rp.stepIn_value rfl (fun _ h => by cases h) rfl (v := .bool true) (w' := w5) (by go_simp) ?_
            refine hK _ _ ?_
            clear hK K
            refine wpAnyIn_done (by kernel_rfl) ?_ _
            exact ⟨true, .slice orv (restOf d (piece d c k)).length crv, by simp [Act.put], .inr ⟨rfl, _, w4, HB4.out, hJ5, hf5⟩⟩
          · exact .inr ⟨_, rfl, rfl, w4, HB4.out, hJ5, hf5⟩
      · skip
        refine Rp.stepIn_value rfl (fun _ h => by cases h) rfl (v := .slice (some ⟨b, o, none⟩) d.length cap) (w' := W'.drew) (by go_simp) ?_
        refine hK _ _ ?_
        clear hK K
        refine wpAnyIn_ready (rs := [0, 2]) (by kernel_rfl) (by simp) (AllReadyIn.cons rfl (fun K hK => ?_) (AllReadyIn.cons rfl (fun K hK => ?_) (AllReadyIn.nil)))
        · skip
          refine Rp.stepIn_value rfl (fun _ h => by cases h) rfl (v := .func (.yield l) #[] #[]) (w' := W'.drew) (by go_simp) ?_
          refine hK _ _ ?_
          clear hK K
          refine wpAnyIn_ready (rs := [2]) (by kernel_rfl) (by simp) (AllReadyIn.cons rfl (fun K hK => ?_) (AllReadyIn.nil))
          refine Rp.stepIn_value rfl (fun _ h => by cases h) rfl (v := .slice ox (piece d c k).length cx) (w' := W'.drew) (by go_simp) ?_
          refine hK _ _ ?_
          clear hK K
          refine wpAnyIn_ready (rs := [3]) (by kernel_rfl) (by simp) (AllReadyIn.cons rfl (fun K hK => ?_) (AllReadyIn.nil))
          refine Rp.stepIn_callP rfl (fun _ h => by cases h) (g := 110) (args := #[.slice (some ⟨b, o, none⟩) d.length cap, .slice ox (piece d c k).length cx]) (by go_simp) trivial rfl (by go_simp) (CallsIn.inRound r (callsIn_wide.2 HWP.out)) ?_
          rintro e w4 ⟨rv, rfl, hro, hB4⟩
          rw [HWR.out] at hro
          obtain ⟨orv, crv, rfl⟩ := own_formE hro
          have HB4 := hide ((Below.drew (Below.refl W'.heap.size W')).trans hB4)
          have HRV := hide (HTD.out _ _ HB4.out hro)
          have c3 : w4.cell? ⟨W.heap.size, 0, none⟩ = some (.func (.yield l) #[] #[]) := cell_old HB4.out C3.out
          have c1 : w4.cell? ⟨S, 0, none⟩ = some (.slice (some ⟨b, o, none⟩) d.length cap) := cell_old HB4.out C1.out
          have hJ4 := HJB.out w4 HB4.out
          clear hB4 hro
          refine .inl ⟨_, rfl, ?_⟩
          refine hK _ _ ?_
          clear hK K
          refine wpAnyIn_ready (rs := [4]) (by kernel_rfl) (by simp) (AllReadyIn.cons rfl (fun K hK => ?_) AllReadyIn.nil)
          obtain ⟨fy, ty, ay, by', hy, hR⟩ := hY pre _ w4 hJ4 HPN.out HRV.out
          refine stepIn_round (l := l) (f := fy) (tmps := ty) (assign := ay) (body := by') rfl (fun _ h => by cases h) (fun _ _ => trivial) rfl (by go_simp) (roundIn_wide r hR) ?_
          rintro e w5 (⟨rfl, hJ5, hk5⟩ | ⟨rfl, hJ5, hf5⟩ | ⟨ch, rfl, hJ5, hf5⟩)
          · refine .inl ⟨_, rfl, ?_⟩
            refine hK _ _ ?_
            clear hK K
            refine wpAnyIn_ready (rs := [5]) (by kernel_rfl) (by simp) (AllReadyIn.cons rfl (fun K hK => ?_) AllReadyIn.nil)
            refine Rp.stepIn_value rfl (fun _ h => by cases h) rfl (v := .bool false) (w' := w5) (by go_simp) ?_
            refine hK _ _ ?_
            clear hK K
            refine wpAnyIn_done (by kernel_rfl) ?_ _
            exact ⟨false, .slice orv (restOf d (piece d c k)).length crv, by simp [Act.put], .inl ⟨rfl, _, w4, HB4.out, hJ5, hk5⟩⟩
          · refine .inl ⟨_, rfl, ?_⟩
            refine hK _ _ ?_
            clear hK K
            refine wpAnyIn_ready (rs := [5]) (by kernel_rfl) (by simp) (AllReadyIn.cons rfl (fun K hK => ?_) AllReadyIn.nil)
            refine Rp.stepIn_value rfl (fun _ h => by cases h) rfl (v := .bool true) (w' := w5) (by go_simp) ?_
            refine hK _ _ ?_
            clear hK K
            refine wpAnyIn_done (by kernel_rfl) ?_ _
            exact ⟨true, .slice orv (restOf d (piece d c k)).length crv, by simp [Act.put], .inr ⟨rfl, _, w4, HB4.out, hJ5, hf5⟩⟩
          · exact .inr ⟨_, rfl, rfl, w4, HB4.out, hJ5, hf5⟩
        · skip
          refine Rp.stepIn_value rfl (fun _ h => by cases h) rfl (v := .slice ox (piece d c k).length cx) (w' := W'.drew) (by go_simp) ?_
          refine hK _ _ ?_
          clear hK K
          refine wpAnyIn_ready (rs := [0, 3]) (by kernel_rfl) (by simp) (AllReadyIn.cons rfl (fun K hK => ?_) (AllReadyIn.cons rfl (fun K hK => ?_) (AllReadyIn.nil)))
          · skip
            refine Rp.stepIn_value rfl (fun _ h => by cases h) rfl (v := .func (.yield l) #[] #[]) (w' := W'.drew) (by go_simp) ?_
            refine hK _ _ ?_
            clear hK K
            refine wpAnyIn_ready (rs := [3]) (by kernel_rfl) (by simp) (AllReadyIn.cons rfl (fun K hK => ?_) (AllReadyIn.nil))
            refine Rp.stepIn_callP rfl (fun _ h => by cases h) (g := 110) (args := #[.slice (some ⟨b, o, none⟩) d.length cap, .slice ox (piece d c k).length cx]) (by go_simp) trivial rfl (by go_simp) (CallsIn.inRound r (callsIn_wide.2 HWP.out)) ?_
            rintro e w4 ⟨rv, rfl, hro, hB4⟩
            rw [HWR.out] at hro
            obtain ⟨orv, crv, rfl⟩ := own_formE hro
            have HB4 := hide ((Below.drew (Below.refl W'.heap.size W')).trans hB4)
            have HRV := hide (HTD.out _ _ HB4.out hro)
            have c3 : w4.cell? ⟨W.heap.size, 0, none⟩ = some (.func (.yield l) #[] #[]) := cell_old HB4.out C3.out
            have c1 : w4.cell? ⟨S, 0, none⟩ = some (.slice (some ⟨b, o, none⟩) d.length cap) := cell_old HB4.out C1.out
            have hJ4 := HJB.out w4 HB4.out
            clear hB4 hro
            refine .inl ⟨_, rfl, ?_⟩
            refine hK _ _ ?_
            clear hK K
            refine wpAnyIn_ready (rs := [4]) (by kernel_rfl) (by simp) (AllReadyIn.cons rfl (fun K hK => ?_) AllReadyIn.nil)
            obtain ⟨fy, ty, ay, by', hy, hR⟩ := hY pre _ w4 hJ4 HPN.out HRV.out
            refine stepIn_round (l := l) (f := fy) (tmps := ty) (assign := ay) (body := by') rfl (fun _ h => by cases h) (fun _ _ => trivial) rfl (by go_simp) (roundIn_wide r hR) ?_
            rintro e w5 (⟨rfl, hJ5, hk5⟩ | ⟨rfl, hJ5, hf5⟩ | ⟨ch, rfl, hJ5, hf5⟩)
            · refine .inl ⟨_, rfl, ?_⟩
              refine hK _ _ ?_
              clear hK K
              refine wpAnyIn_ready (rs := [5]) (by kernel_rfl) (by simp) (AllReadyIn.cons rfl (fun K hK => ?_) AllReadyIn.nil)
              refine Rp.stepIn_value rfl (fun _ h => by cases h) rfl (v := .bool false) (w' := w5) (by go_simp) ?_
              refine hK _ _ ?_
              clear hK K
              refine wpAnyIn_done (by kernel_rfl) ?_ _
              exact ⟨false, .slice orv (restOf d (piece d c k)).length crv, by simp [Act.put], .inl ⟨rfl, _, w4, HB4.out, hJ5, hk5⟩⟩
            · refine .inl ⟨_, rfl, ?_⟩
              refine hK _ _ ?_
              clear hK K
              refine wpAnyIn_ready (rs := [5]) (by kernel_rfl) (by simp) (AllReadyIn.cons rfl (fun K hK => ?_) AllReadyIn.nil)
              refine Rp.stepIn_value rfl (fun _ h => by cases h) rfl (v := .bool true) (w' := w5) (by go_simp) ?_
              refine hK _ _ ?_
              clear hK K
              refine wpAnyIn_done (by kernel_rfl) ?_ _
              exact ⟨true, .slice orv (restOf d (piece d c k)).length crv, by simp [Act.put], .inr ⟨rfl, _, w4, HB4.out, hJ5, hf5⟩⟩
            · exact .inr ⟨_, rfl, rfl, w4, HB4.out, hJ5, hf5⟩
          · skip
            refine Rp.stepIn_callP rfl (fun _ h => by cases h) (g := 110) (args := #[.slice (some ⟨b, o, none⟩) d.length cap, .slice ox (piece d c k).length cx]) (by go_simp) trivial rfl (by go_simp) (CallsIn.inRound r (callsIn_wide.2 HWP.out)) ?_
            rintro e w4 ⟨rv, rfl, hro, hB4⟩
            rw [HWR.out] at hro
            obtain ⟨orv, crv, rfl⟩ := own_formE hro
            have HB4 := hide ((Below.drew (Below.refl W'.heap.size W')).trans hB4)
            have HRV := hide (HTD.out _ _ HB4.out hro)
            have c3 : w4.cell? ⟨W.heap.size, 0, none⟩ = some (.func (.yield l) #[] #[]) := cell_old HB4.out C3.out
            have c1 : w4.cell? ⟨S, 0, none⟩ = some (.slice (some ⟨b, o, none⟩) d.length cap) := cell_old HB4.out C1.out
            have hJ4 := HJB.out w4 HB4.out
            clear hB4 hro
            refine .inl ⟨_, rfl, ?_⟩
            refine hK _ _ ?_
            clear hK K
            refine wpAnyIn_ready (rs := [0]) (by kernel_rfl) (by simp) (AllReadyIn.cons rfl (fun K hK => ?_) (AllReadyIn.nil))
            refine Rp.stepIn_value rfl (fun _ h => by cases h) rfl (v := .func (.yield l) #[] #[]) (w' := w4) (by go_simp) ?_
            refine hK _ _ ?_
            clear hK K
            refine wpAnyIn_ready (rs := [4]) (by kernel_rfl) (by simp) (AllReadyIn.cons rfl (fun K hK => ?_) AllReadyIn.nil)
            obtain ⟨fy, ty, ay, by', hy, hR⟩ := hY pre _ w4 hJ4 HPN.out HRV.out
            refine stepIn_round (l := l) (f := fy) (tmps := ty) (assign := ay) (body := by') rfl (fun _ h => by cases h) (fun _ _ => trivial) rfl (by go_simp) (roundIn_wide r hR) ?_
            rintro e w5 (⟨rfl, hJ5, hk5⟩ | ⟨rfl, hJ5, hf5⟩ | ⟨ch, rfl, hJ5, hf5⟩)
            · refine .inl ⟨_, rfl, ?_⟩
              refine hK _ _ ?_
              clear hK K
              refine wpAnyIn_ready (rs := [5]) (by kernel_rfl) (by simp) (AllReadyIn.cons rfl (fun K hK => ?_) AllReadyIn.nil)
              refine Rp.stepIn_value rfl (fun _ h => by cases h) rfl (v := .bool false) (w' := w5) (by go_simp) ?_
              refine hK _ _ ?_
              clear hK K
              refine wpAnyIn_done (by kernel_rfl) ?_ _
              exact ⟨false, .slice orv (restOf d (piece d c k)).length crv, by simp [Act.put], .inl ⟨rfl, _, w4, HB4.out, hJ5, hk5⟩⟩
            · refine .inl ⟨_, rfl, ?_⟩
              refine hK _ _ ?_
              clear hK K
              refine wpAnyIn_ready (rs := [5]) (by kernel_rfl) (by simp) (AllReadyIn.cons rfl (fun K hK => ?_) AllReadyIn.nil)
              refine Rp.stepIn_value rfl (fun _ h => by cases h) rfl (v := .bool true) (w' := w5) (by go_simp) ?_
              refine hK _ _ ?_
              clear hK K
              refine wpAnyIn_done (by kernel_rfl) ?_ _
              exact ⟨true, .slice orv (restOf d (piece d c k)).length crv, by simp [Act.put], .inr ⟨rfl, _, w4, HB4.out, hJ5, hf5⟩⟩
            · exact .inr ⟨_, rfl, rfl, w4, HB4.out, hJ5, hf5⟩
      · skip
        refine Rp.stepIn_value rfl (fun _ h => by cases h) rfl (v := .slice ox (piece d c k).length cx) (w' := W'.drew) (by go_simp) ?_
        refine hK _ _ ?_
        clear hK K
        refine wpAnyIn_ready (rs := [0, 1]) (by kernel_rfl) (by simp) (AllReadyIn.cons rfl (fun K hK => ?_) (AllReadyIn.cons rfl (fun K hK => ?_) (AllReadyIn.nil)))
        · skip
          refine Rp.stepIn_value rfl (fun _ h => by cases h) rfl (v := .func (.yield l) #[] #[]) (w' := W'.drew) (by go_simp) ?_
          refine hK _ _ ?_
          clear hK K
          refine wpAnyIn_ready (rs := [1]) (by kernel_rfl) (by simp) (AllReadyIn.cons rfl (fun K hK => ?_) (AllReadyIn.nil))
          refine Rp.stepIn_value rfl (fun _ h => by cases h) rfl (v := .slice (some ⟨b, o, none⟩) d.length cap) (w' := W'.drew) (by go_simp) ?_
          refine hK _ _ ?_
          clear hK K
          refine wpAnyIn_ready (rs := [3]) (by kernel_rfl) (by simp) (AllReadyIn.cons rfl (fun K hK => ?_) (AllReadyIn.nil))
          refine Rp.stepIn_callP rfl (fun _ h => by cases h) (g := 110) (args := #[.slice (some ⟨b, o, none⟩) d.length cap, .slice ox (piece d c k).length cx]) (by go_simp) trivial rfl (by go_simp) (CallsIn.inRound r (callsIn_wide.2 HWP.out)) ?_
          rintro e w4 ⟨rv, rfl, hro, hB4⟩
          rw [HWR.out] at hro
          obtain ⟨orv, crv, rfl⟩ := own_formE hro
          have HB4 := hide ((Below.drew (Below.refl W'.heap.size W')).trans hB4)
          have HRV := hide (HTD.out _ _ HB4.out hro)
          have c3 : w4.cell? ⟨W.heap.size, 0, none⟩ = some (.func (.yield l) #[] #[]) := cell_old HB4.out C3.out
          have c1 : w4.cell? ⟨S, 0, none⟩ = some (.slice (some ⟨b, o, none⟩) d.length cap) := cell_old HB4.out C1.out
          have hJ4 := HJB.out w4 HB4.out
          clear hB4 hro
          refine .inl ⟨_, rfl, ?_⟩
          refine hK _ _ ?_
          clear hK K
          refine wpAnyIn_ready (rs := [4]) (by kernel_rfl) (by simp) (AllReadyIn.cons rfl (fun K hK => ?_) AllReadyIn.nil)
          obtain ⟨fy, ty, ay, by', hy, hR⟩ := hY pre _ w4 hJ4 HPN.out HRV.out
          refine stepIn_round (l := l) (f := fy) (tmps := ty) (assign := ay) (body := by') rfl (fun _ h => by cases h) (fun _ _ => trivial) rfl (by go_simp) (roundIn_wide r hR) ?_
          rintro e w5 (⟨rfl, hJ5, hk5⟩ | ⟨rfl, hJ5, hf5⟩ | ⟨ch, rfl, hJ5, hf5⟩)
          · refine .inl ⟨_, rfl, ?_⟩
            refine hK _ _ ?_
            clear hK K
            refine wpAnyIn_ready (rs := [5]) (by kernel_rfl) (by simp) (AllReadyIn.cons rfl (fun K hK => ?_) AllReadyIn.nil)
            refine Rp.stepIn_value rfl (fun _ h => by cases h) rfl (v := .bool false) (w' := w5) (by go_simp) ?_
            refine hK _ _ ?_
            clear hK K
            refine wpAnyIn_done (by kernel_rfl) ?_ _
            exact ⟨false, .slice orv (restOf d (piece d c k)).length crv, by simp [Act.put], .inl ⟨rfl, _, w4, HB4.out, hJ5, hk5⟩⟩
          · refine .inl ⟨_, rfl, ?_⟩
            refine hK _ _ ?_
            clear hK K
            refine wpAnyIn_ready (rs := [5]) (by kernel_rfl) (by simp) (AllReadyIn.cons rfl (fun K hK => ?_) AllReadyIn.nil)
            refine Rp.stepIn_value rfl (fun _ h => by cases h) rfl (v := .bool true) (w' := w5) (by go_simp) ?_
            refine hK _ _ ?_
            clear hK K
            refine wpAnyIn_done (by kernel_rfl) ?_ _
            exact ⟨true, .slice orv (restOf d (piece d c k)).length crv, by simp [Act.put], .inr ⟨rfl, _, w4, HB4.out, hJ5, hf5⟩⟩
          · exact .inr ⟨_, rfl, rfl, w4, HB4.out, hJ5, hf5⟩
        · skip
          refine Rp.stepIn_value rfl (fun _ h => by cases h) rfl (v := .slice (some ⟨b, o, none⟩) d.length cap) (w' := W'.drew) (by go_simp) ?_
          refine hK _ _ ?_
          clear hK K
          refine wpAnyIn_ready (rs := [0, 3]) (by kernel_rfl) (by simp) (AllReadyIn.cons rfl (fun K hK => ?_) (AllReadyIn.cons rfl (fun K hK => ?_) (AllReadyIn.nil)))
          · skip
            refine Rp.stepIn_value rfl (fun _ h => by cases h) rfl (v := .func (.yield l) #[] #[]) (w' := W'.drew) (by go_simp) ?_
            refine hK _ _ ?_
            clear hK K
            refine wpAnyIn_ready (rs := [3]) (by kernel_rfl) (by simp) (AllReadyIn.cons rfl (fun K hK => ?_) (AllReadyIn.nil))
            refine Rp.stepIn_callP rfl (fun _ h => by cases h) (g := 110) (args := #[.slice (some ⟨b, o, none⟩) d.length cap, .slice ox (piece d c k).length cx]) (by go_simp) trivial rfl (by go_simp) (CallsIn.inRound r (callsIn_wide.2 HWP.out)) ?_
            rintro e w4 ⟨rv, rfl, hro, hB4⟩
            rw [HWR.out] at hro
            obtain ⟨orv, crv, rfl⟩ := own_formE hro
            have HB4 := hide ((Below.drew (Below.refl W'.heap.size W')).trans hB4)
            have HRV := hide (HTD.out _ _ HB4.out hro)
            have c3 : w4.cell? ⟨W.heap.size, 0, none⟩ = some (.func (.yield l) #[] #[]) := cell_old HB4.out C3.out
            have c1 : w4.cell? ⟨S, 0, none⟩ = some (.slice (some ⟨b, o, none⟩) d.length cap) := cell_old HB4.out C1.out
            have hJ4 := HJB.out w4 HB4.out
            clear hB4 hro
            refine .inl ⟨_, rfl, ?_⟩
            refine hK _ _ ?_
            clear hK K
            refine wpAnyIn_ready (rs := [4]) (by kernel_rfl) (by simp) (AllReadyIn.cons rfl (fun K hK => ?_) AllReadyIn.nil)
            obtain ⟨fy, ty, ay, by', hy, hR⟩ := hY pre _ w4 hJ4 HPN.out HRV.out
            refine stepIn_round (l := l) (f := fy) (tmps := ty) (assign := ay) (body := by') rfl (fun _ h => by cases h) (fun _ _ => trivial) rfl (by go_simp) (roundIn_wide r hR) ?_
            rintro e w5 (⟨rfl, hJ5, hk5⟩ | ⟨rfl, hJ5, hf5⟩ | ⟨ch, rfl, hJ5, hf5⟩)
            · refine .inl ⟨_, rfl, ?_⟩
              refine hK _ _ ?_
              clear hK K
              refine wpAnyIn_ready (rs := [5]) (by kernel_rfl) (by simp) (AllReadyIn.cons rfl (fun K hK => ?_) AllReadyIn.nil)
              refine Rp.stepIn_value rfl (fun _ h => by cases h) rfl (v := .bool false) (w' := w5) (by go_simp) ?_
              refine hK _ _ ?_
              clear hK K
              refine wpAnyIn_done (by kernel_rfl) ?_ _
              exact ⟨false, .slice orv (restOf d (piece d c k)).length crv, by simp [Act.put], .inl ⟨rfl, _, w4, HB4.out, hJ5, hk5⟩⟩
            · refine .inl ⟨_, rfl, ?_⟩
              refine hK _ _ ?_
              clear hK K
              refine wpAnyIn_ready (rs := [5]) (by kernel_rfl) (by simp) (AllReadyIn.cons rfl (fun K hK => ?_) AllReadyIn.nil)
              refine Rp.stepIn_value rfl (fun _ h => by cases h) rfl (v := .bool true) (w' := w5) (by go_simp) ?_
              refine hK _ _ ?_
              clear hK K
              refine wpAnyIn_done (by kernel_rfl) ?_ _
              exact ⟨true, .slice orv (restOf d (piece d c k)).length crv, by simp [Act.put], .inr ⟨rfl, _, w4, HB4.out, hJ5, hf5⟩⟩
            · exact .inr ⟨_, rfl, rfl, w4, HB4.out, hJ5, hf5⟩
          · skip
            refine Rp.stepIn_callP rfl (fun _ h => by cases h) (g := 110) (args := #[.slice (some ⟨b, o, none⟩) d.length cap, .slice ox (piece d c k).length cx]) (by go_simp) trivial rfl (by go_simp) (CallsIn.inRound r (callsIn_wide.2 HWP.out)) ?_
            rintro e w4 ⟨rv, rfl, hro, hB4⟩
            rw [HWR.out] at hro
            obtain ⟨orv, crv, rfl⟩ := own_formE hro
            have HB4 := hide ((Below.drew (Below.refl W'.heap.size W')).trans hB4)
            have HRV := hide (HTD.out _ _ HB4.out hro)
            have c3 : w4.cell? ⟨W.heap.size, 0, none⟩ = some (.func (.yield l) #[] #[]) := cell_old HB4.out C3.out
            have c1 : w4.cell? ⟨S, 0, none⟩ = some (.slice (some ⟨b, o, none⟩) d.length cap) := cell_old HB4.out C1.out
            have hJ4 := HJB.out w4 HB4.out
            clear hB4 hro
            refine .inl ⟨_, rfl, ?_⟩
            refine hK _ _ ?_
            clear hK K
            refine wpAnyIn_ready (rs := [0]) (by kernel_rfl) (by simp) (AllReadyIn.cons rfl (fun K hK => ?_) (AllReadyIn.nil))
            refine Rp.stepIn_value rfl (fun _ h => by cases h) rfl (v := .func (.yield l) #[] #[]) (w' := w4) (by go_simp) ?_
            refine hK _ _ ?_
            clear hK K
            refine wpAnyIn_ready (rs := [4]) (by kernel_rfl) (by simp) (AllReadyIn.cons rfl (fun K hK => ?_) AllReadyIn.nil)
            obtain ⟨fy, ty, ay, by', hy, hR⟩ := hY pre _ w4 hJ4 HPN.out HRV.out
            refine stepIn_round (l := l) (f := fy) (tmps := ty) (assign := ay) (body := by') rfl (fun _ h => by cases h) (fun _ _ => trivial) rfl (by go_simp) (roundIn_wide r hR) ?_
            rintro e w5 (⟨rfl, hJ5, hk5⟩ | ⟨rfl, hJ5, hf5⟩ | ⟨ch, rfl, hJ5, hf5⟩)
            · refine .inl ⟨_, rfl, ?_⟩
              refine hK _ _ ?_
              clear hK K
              refine wpAnyIn_ready (rs := [5]) (by kernel_rfl) (by simp) (AllReadyIn.cons rfl (fun K hK => ?_) AllReadyIn.nil)
              refine Rp.stepIn_value rfl (fun _ h => by cases h) rfl (v := .bool false) (w' := w5) (by go_simp) ?_
              refine hK _ _ ?_
              clear hK K
              refine wpAnyIn_done (by kernel_rfl) ?_ _
              exact ⟨false, .slice orv (restOf d (piece d c k)).length crv, by simp [Act.put], .inl ⟨rfl, _, w4, HB4.out, hJ5, hk5⟩⟩
            · refine .inl ⟨_, rfl, ?_⟩
              refine hK _ _ ?_
              clear hK K
              refine wpAnyIn_ready (rs := [5]) (by kernel_rfl) (by simp) (AllReadyIn.cons rfl (fun K hK => ?_) AllReadyIn.nil)
              refine Rp.stepIn_value rfl (fun _ h => by cases h) rfl (v := .bool true) (w' := w5) (by go_simp) ?_
              refine hK _ _ ?_
              clear hK K
              refine wpAnyIn_done (by kernel_rfl) ?_ _
              exact ⟨true, .slice orv (restOf d (piece d c k)).length crv, by simp [Act.put], .inr ⟨rfl, _, w4, HB4.out, hJ5, hf5⟩⟩
            · exact .inr ⟨_, rfl, rfl, w4, HB4.out, hJ5, hf5⟩
    · rintro e a5 w5 hq
      have hkf : ∀ w4, Below W'.heap.size W' w4 → KeepsFrom W.heap.size w4 w5 → KeepsFrom w3.heap.size W' w5 := fun w4 h4 h5 => ⟨Nat.le_trans h4.size h5.size, fun k o hk1 hk2 hk3 => h5.same k o (by have := HNUM.out; omega) ((h4.block k (block_lt hk2)).trans hk2) hk3⟩
      cases e with
      | normal =>
        obtain ⟨q, rv, rfl, (⟨rfl, rv', w4, h4, hJ5, hk5⟩ | ⟨rfl, rv', w4, h4, hJ5, hf5⟩)⟩ := hq
        · have hk1 : KpP (Own4 m g w0.heap.size) W' w5 := (KpP.below h4).trans hk5
          have HF : Hid (KeepsFrom w3.heap.size W' w5 ∧ KpP (Own6 m g w0.heap.size w3.heap.size) W' w5 ∧ ∃ pre2 : List Value, pre2.length = (pre' ++ ([.slice ox (piece d c k).length cx] : List Value)).length ∧ J pre2 w5 ∧ KpP (Own4 m g w0.heap.size) w3 w5) := hide
            ⟨⟨hk1.1, fun k o hk2 hk3 hk4 => (hk1.2 k (block_lt hk3) fun q => by have := HNUM.out; rcases q with q | q | q | q <;> omega).trans hk3⟩, hk1.weak fun i q => .inl q, pre ++ [rv'], by simp [HPL.out], hJ5, HKK.out.trans hk1⟩
          clear hJ5 hk5 h4 hk1 hkf
          gi_wp2
          exact HF.out
        · have HF : Hid (KeepsFrom w3.heap.size W' w5 ∧ ∃ pre2 : List Value, Jx pre2 w5) := hide ⟨hkf w4 h4 hf5, _, hJ5⟩
          clear hJ5 hf5 h4 hkf
          gi_wp2
          exact ⟨HF.out.1, rfl, HF.out.2⟩
      | panic ch =>
        obtain ⟨h6, w4, h4, hJ5, hf5⟩ := hq
        exact ⟨h6, hkf w4 h4 hf5, hJ5⟩
      | ret => exact hq.elim
      | exit _ => exact hq.elim
      | goto _ => exact hq.elim
      | outgrown => exact hq.elim
end Go.Proofs.Ytmkapmbmgpnjaaa.Se

set_option maxRecDepth 100000
set_option linter.unusedSimpArgs false
set_option linter.unusedVariables false
namespace Go.Proofs.Ytmkapmbmgpnjaaa.Se
open Go Go.Ms Go.Pg Go.Rc Go.Bi Go.Se Go.ChangeShapes Go.WideShapes Go.ChangeAt Go.RowKit Go.Deep Go.Shelf Go.Proofs.Ytmkapmbmgpnjaaa.Bi

/-! minimized: from chunk to chunk, from complement to complement. -/
set_option maxHeartbeats 4000000 in
theorem compMaker {w : World} {oa : Option Addr} {n cap : Nat} {z : Int} :
    Calls Try.prog 148 #[.slice oa n cap, .int .i64 z] w fun e w' => e = .returned (.func (.func 163) #[] #[.pointer (some ⟨w.heap.size, 0, none⟩), .pointer (some ⟨w.heap.size + 1, 0, none⟩)]) ∧
      Below w.heap.size w w' ∧ w'.heap[w.heap.size]? = some (box1 (.slice oa n cap) 30) ∧ w'.heap[w.heap.size + 1]? = some (box1 (.int .i64 z) 3) := by
  have HA := hide (two w (box1 (.slice oa n cap) 30) (box1 (.int .i64 z) 3))
  have H1 := hide (old_block (new_block w (box1 (.slice oa n cap) 30)) (box1 (.int .i64 z) 3))
  have H2 : Hid (((w.alloc (box1 (.slice oa n cap) 30)).alloc (box1 (.int .i64 z) 3)).heap[w.heap.size + 1]? = some (box1 (.int .i64 z) 3)) := hide (alloc_at (by simp))
  have hmf : ∀ (fn : Fn) (first cap : Array Value) (w : World), (Instr.makeFunc fn first cap).run Try.prog w = .ok (.func fn first cap) w := fun _ _ _ _ => rfl
  go_enter Try.func148, Try.ntmps148
  go_wp2_with fail
  go_ret
  exact ⟨rfl, HA.out, H1.out, H2.out⟩
theorem laidK_blocks {w : World} {m g b o n cap H : Nat} {d : List Nat} (h : LaidK w m g (.slice (some ⟨b, o, none⟩) n cap) d) (hw : w.heap.size ≤ H) : ∀ i (_ : i < d.length), ∃ b' o', some (⟨b, o, none⟩ : Addr) = some ⟨b', o', none⟩ ∧ b' < H ∧ ¬ Own4 m g H b' := fun i hi => by
  obtain ⟨oa, cap', e, -, -, hx⟩ := h
  injection e with e1 e2 e3
  subst e1
  obtain ⟨b', o', e, hb, hx⟩ := hx i hi
  have hl := World.block_lt_of_cell? w _ hx
  have hl : b' < w.heap.size := hl
  exact ⟨b', o', e, by omega, fun q => by rcases q with q | q | q | q <;> omega⟩
theorem LaidK.old {w w' : World} {m g : Nat} {v : Value} {xs : List Nat} (h : LaidK w m g v xs) (hB : Below w.heap.size w w') : LaidK w' m g v xs := h.keep fun i hi _ _ => hB.block i hi
theorem count_is (l : List Nat) (g : Nat) : count l.length (g : Int) = countL l g := by
  unfold count countL
  omega
theorem minT_scan {f : Nat} {l : List Nat} {g : Nat} (h : 2 ≤ l.length) : minT (f + 1) l g = scanT (chunksOf l g) fun
    | some c => minT f c 2
    | none => scanT (complsOf l g) fun
      | some r => minT f r (max (g - 1) 2)
      | none => if g < l.length then minT f l (min (2 * g) l.length) else endT l := by
  rw [minT, if_neg (by omega)]
  rfl
def lenV0 : Value → Nat
  | .slice _ n _ => n
  | _ => 0
def MinE (W : World) (g m : Nat) (t : Tr) (l : List Int) (T : List (Q4 × Int)) (e : Ending) (w' : World) : Prop :=
  (∃ q, e = asks4 q.a q.b q.c q.d ∧ q.Ok ∧ KeepsM m g W w' ∧ play t l T = .ask (memQ q)) ∨
  (∃ v k l' T', e = .returned v ∧ LaidK w' m g v k ∧ (∀ i ∈ k, i < 256) ∧ KeepsM m g W w' ∧ SBox w' g m l' T' ∧ play t l T = .fin (k.map Int.ofNat) [] l')

set_option maxHeartbeats 16000000 in
theorem minProg {W : World} {g m X n f0 : Nat} {v : Value} {d : List Nat} {l : List Int} {T : List (Q4 × Int)} (hX : W.heap[X]? = some (.cells #[.pointer (some ⟨g, 0, none⟩)] 101 (0, 0))) (hgX : g < X) (hS : SBox W g m l T) (hv : LaidK W m g v d) (hf : FitL n d 2) (hn : n ≤ 256) (hf0 : leftL d 2 < f0) :
    Calls Try.prog 106 #[v, .func (.func 104) #[] #[.pointer (some ⟨X, 0, none⟩)]] W (MinE W g m (minT f0 d 2) l T) := by
  have HX := hide hX
  have HGX := hide hgX
  have HS := hide hS
  have HV := hide hv
  have HF := hide hf
  have HN := hide hn
  have HF0 := hide hf0
  have HMG := hide hS.lt
  have HGW := hide hS.gt
  obtain ⟨oa, cap, rfl, -, -, -⟩ := hv
  clear hX hgX hS hf hn hf0
  go_enter Try.func106, Try.ntmps106
  go_wp2_with fail
  go_loopw [0, 5] (fun s0 s5 wr => ∃ (c : List Nat) (gr f : Nat) (l' : List Int) (T' : List (Q4 × Int)), s5 = .int .i64 (gr : Int) ∧ Hid (LaidK wr m g s0 c) ∧ Hid (FitL n c gr) ∧ Hid (leftL c gr < f) ∧ Hid (play (minT f0 d 2) l T = play (minT f c gr) l' T') ∧ Hid (SBox wr g m l' T') ∧ Hid (KeepsM m g W wr)) (fun s0 s5 _ => lenV0 s0 * 257 + (257 - (intOf s5).toNat))
  case atStart => exact ⟨d, 2, f0, l, T, rfl, HV, HF, HF0, hide rfl, HS, hide (KeepsM.refl _ _ _)⟩
  case round =>
    obtain ⟨c, gr, f, l', T', rfl, HL, HFC, HLF, HPL, HSB, HK⟩ := hrel
    obtain ⟨f, rfl⟩ : ∃ f', f = f' + 1 := ⟨f - 1, by have := HLF.out; omega⟩
    obtain ⟨oc, cc, rfl, -, hc256, -⟩ := HL.out
    have HC256 := hide hc256
    have HXW := hide (keepsM_block HK.out (by have := HMG.out; have := HGX.out; omega) (by have := HGX.out; omega) HX.out)
    clear hc256
    by_cases h2 : 2 ≤ c.length
    · have d1 : decide ((1 : Int) < (c.length : Int)) = true := decide_eq_true (by omega)
      have d11 : decide (1 < c.length) = true := decide_eq_true (by omega)
      have H2 := hide h2
      have HPS : Hid (play (minT f0 d 2) l T = play (scanT (chunksOf c gr) fun
          | some x => minT f x 2
          | none => scanT (complsOf c gr) fun
            | some r => minT f r (max (gr - 1) 2)
            | none => if gr < c.length then minT f c (min (2 * gr) c.length) else endT c) l' T') := hide (by rw [HPL.out, minT_scan h2])
      clear h2
      go_wp2_with fail
      (with_reducible refine (maker (n := c.length) (by have := HC256.out; omega)).mono ?_)
      rintro e w1 ⟨rfl, hB1, hs1, hc1, hl1⟩
      rw [count_is] at hc1
      clear d1 d11
      obtain ⟨b, o, hoc⟩ : ∃ b o, oc = some ⟨b, o, none⟩ := by
        obtain ⟨oa, cap', e, -, -, hx⟩ := HL.out
        injection e with e1 e2 e3
        subst e1
        obtain ⟨b, o, e, -⟩ := hx 0 (by have := H2.out; omega)
        exact ⟨b, o, e⟩
      subst hoc
      have hzr := HK.out.below.size
      have HNB : Hid (m < wr.heap.size ∧ g < wr.heap.size) := hide (by have := HMG.out; have := HGW.out; omega)
      have HL1 := hide (HL.out.old hB1)
      have HCC : Hid (c.length ≤ cc ∧ countL c gr ≤ c.length) := hide ⟨by obtain ⟨oa, cap', e, q, -⟩ := HL.out; injection e with e1 e2 e3; omega, (count_of HFC.out H2.out).2⟩
      have HS1 := hide (HSB.out.old hB1)
      have HX1 := hide ((hB1.block _ (block_lt HXW.out)).trans HXW.out)
      have HK1 : Hid (KeepsM m g W w1) := hide (HK.out.trans (KeepsM.of_below (by have := HNB.out; omega) hB1))
      have HQL : Hid (∀ q ∈ chunksOf c gr, ∀ i ∈ q, i < 256) := hide fun q hq i hi => Nat.lt_of_lt_of_le ((fit_chunk HFC.out H2.out hq).1.low i hi) HN.out
      have HSQ : Hid (∀ w0 : World, Below w1.heap.size w1 w0 → Rp.StopsT Try.prog 162 #[.pointer (some ⟨wr.heap.size + 1, 0, none⟩), .pointer (some ⟨wr.heap.size, 0, none⟩)] (fun v : Value => #[v]) (KpS m g w0.heap.size) (TdQ m g (chunksOf c gr)) (fun ys => ys.length = (chunksOf c gr).length) (fun _ => True) (chunksOf c gr).length w0) := hide fun w0 hw => by
        have hnb := HNB.out
        have hz := hw.size
        exact chunksT (w0 := w0) (Q := Own4 m g w0.heap.size) HCC.out.1 HC256.out HCC.out.2 ⟨by omega, fun q => by rcases q with q | q | q | q <;> omega⟩ ⟨by omega, fun q => by rcases q with q | q | q | q <;> omega⟩ ((hw.cell (p := ⟨wr.heap.size + 1, 0, none⟩) (by show wr.heap.size + 1 < w1.heap.size; omega)).trans hc1) ((hw.cell (p := ⟨wr.heap.size, 0, none⟩) (by show wr.heap.size < w1.heap.size; omega)).trans hl1) (HL1.out.old hw) (laidK_blocks HL1.out hz)
      have HFP := hide (failingProg (W := w1) HX1.out HGX.out HS1.out (enters_of Try.func162 (by kernel_rfl) rfl) HQL.out HSQ.out)
      clear hB1 hs1 hc1 hl1 hzr HQL HSQ HS1
      go_wp2_with fail
      (with_reducible refine HFP.out.mono ?_)
      rintro e w2 (⟨q, rfl, hq, hk, hp⟩ | ⟨v2, c2, l2, T2, rfl, hc2, hl2, hk, hs, hp⟩ | ⟨l2, T2, rfl, hk, hs, hp⟩)
      · have HKK := hide (HK1.out.trans hk)
        have HP := hide (HPS.out.trans (hp _))
        have HQ := hide hq
        clear HFP hq hk hp
        unfold asks4
        go_wp2_with fail
        exact ⟨rfl, .inl ⟨q, rfl, HQ.out, HKK.out, HP.out⟩⟩
      · have HKK := hide (HK1.out.trans hk)
        have HP := hide (HPS.out.trans (hp _))
        have HL2 := hide hl2
        have HS2 := hide hs
        have HFK := hide (fit_chunk HFC.out H2.out hc2)
        obtain ⟨o2, k2, rfl, -, -, -⟩ := hl2
        clear HFP hc2 hk hp hs
        go_wp2_with fail
        have hg := HFC.out.gran
        refine ⟨⟨c2, 2, f, l2, T2, rfl, HL2, hide HFK.out.1, hide ?_, HP, HS2, HKK⟩, ?_⟩
        · have := HLF.out; have := HFK.out.2; have := HC256.out; unfold leftL at *; omega
        · have := HFK.out.2; have := HC256.out; simp [lenV0, intOf]; omega
      · have HKK := hide (HK1.out.trans hk)
        have HP := hide (HPS.out.trans (hp _))
        have HS2 := hide hs
        have HL2 := hide (HL1.out.keep hk.kept)
        have HX2 := hide (keepsM_block hk (by have := HMG.out; have := HGX.out; omega) (by have := HGX.out; omega) HX1.out)
        have HNB2 : Hid (m < w2.heap.size ∧ g < w2.heap.size) := hide (by have := HMG.out; have := HGW.out; have := HKK.out.below.size; omega)
        clear HFP hk hp hs HK1 HL1 HX1
        go_wp2_with fail
        (with_reducible refine (compMaker (z := (gr : Int)) (n := c.length)).mono ?_)
        rintro e w3 ⟨rfl, hB3, hb3, hb4⟩
        have HL3 := hide (HL2.out.old hB3)
        have HS3 := hide (HS2.out.old hB3)
        have HX3 := hide ((hB3.block _ (block_lt HX2.out)).trans HX2.out)
        have HK3 : Hid (KeepsM m g W w3) := hide (HKK.out.trans (KeepsM.of_below (by have := HNB2.out; omega) hB3))
        have HQL : Hid (∀ q ∈ complsOf c gr, ∀ i ∈ q, i < 256) := hide fun q hq i hi => Nat.lt_of_lt_of_le ((fit_compl HFC.out H2.out hq).1.low i hi) HN.out
        have HSQ : Hid (∀ w0 : World, Below w3.heap.size w3 w0 → Rp.StopsT Try.prog 163 #[.pointer (some ⟨w2.heap.size, 0, none⟩), .pointer (some ⟨w2.heap.size + 1, 0, none⟩)] (fun v : Value => #[v]) (KpS m g w0.heap.size) (TdQ m g (complsOf c gr)) (fun ys => ys.length = (complsOf c gr).length) (fun _ => True) (complsOf c gr).length w0) := hide fun w0 hw => by
          have hnb := HNB2.out
          have hz := hw.size
          have hz3 := hB3.size
          exact complT (w0 := w0) (c := countL c gr) (z := (gr : Int)) H2.out (count_is c gr).symm HFC.out.sorted ((hw.block _ (block_lt hb3)).trans hb3) ((hw.block _ (block_lt hb4)).trans hb4) ⟨by omega, by omega⟩ ⟨by omega, by omega⟩ (HL3.out.old hw) (by omega) (by omega)
        have HFP := hide (failingProg (W := w3) HX3.out HGX.out HS3.out (enters_of Try.func163 (by kernel_rfl) rfl) HQL.out HSQ.out)
        clear hB3 hb3 hb4 HQL HSQ HS3 HS2 HX2 HL2
        go_wp2_with fail
        (with_reducible refine HFP.out.mono ?_)
        rintro e w4 (⟨q, rfl, hq, hk, hp⟩ | ⟨v2, c2, l3, T3, rfl, hc2, hl2, hk, hs, hp⟩ | ⟨l3, T3, rfl, hk, hs, hp⟩)
        · have HK4 := hide (HK3.out.trans hk)
          have HP4 := hide (HP.out.trans (hp _))
          have HQ := hide hq
          clear HFP hq hk hp
          unfold asks4
          go_wp2_with fail
          exact ⟨rfl, .inl ⟨q, rfl, HQ.out, HK4.out, HP4.out⟩⟩
        · have HK4 := hide (HK3.out.trans hk)
          have HP4 := hide (HP.out.trans (hp _))
          have HL4 := hide hl2
          have HS4 := hide hs
          have HFK := hide (fit_compl HFC.out H2.out hc2)
          obtain ⟨o2, k2, rfl, -, -, -⟩ := hl2
          have hg := HFC.out.gran
          have hw : IntKind.i64.wrap ((gr : Int) - 1) = (gr : Int) - 1 := by simp [IntKind.wrap, IntKind.signed, IntKind.bits]; omega
          clear HFP hc2 hk hp hs
          go_wp2_with fail
          refine ⟨⟨c2, max (gr - 1) 2, f, l3, T3, ?_, HL4, hide HFK.out.1, hide ?_, HP4, HS4, HK4⟩, ?_⟩
          · congr 1; split <;> omega
          · have := HLF.out; have := HFK.out.2; have := HC256.out; unfold leftL at *; omega
          · have := HFK.out.2; have := HC256.out; simp [lenV0, intOf]; split <;> omega
        · have HK4 := hide (HK3.out.trans hk)
          have HP4 : Hid (play (minT f0 d 2) l T = play (if gr < c.length then minT f c (min (2 * gr) c.length) else endT c) l3 T3) := hide (HP.out.trans (hp _))
          have HS4 := hide hs
          have HL4 := hide (HL3.out.keep hk.kept)
          have hg := HFC.out.gran
          have hw : IntKind.i64.wrap (2 * (gr : Int)) = 2 * (gr : Int) := by simp [IntKind.wrap, IntKind.signed, IntKind.bits]; omega
          clear HFP hk hp hs
          by_cases hgl : gr < c.length
          · have d1 : decide ((gr : Int) < (c.length : Int)) = true := decide_eq_true (by omega)
            have d11 : decide (gr < c.length) = true := decide_eq_true hgl
            rw [if_pos hgl] at HP4
            have HGL := hide hgl
            clear hgl
            go_wp2_with fail
            refine ⟨⟨c, min (2 * gr) c.length, f, l3, T3, ?_, HL4, hide ⟨HFC.out.sorted, HFC.out.low, by have := HGL.out; have := HC256.out; omega⟩, hide ?_, HP4, HS4, HK4⟩, ?_⟩
            · congr 1; split <;> omega
            · have := HLF.out; have := HGL.out; have := HC256.out; unfold leftL at *; omega
            · have := HGL.out; have := HC256.out; simp [lenV0, intOf]; split <;> omega
          · have d1 : decide ((gr : Int) < (c.length : Int)) = false := decide_eq_false (by omega)
            have d11 : decide (gr < c.length) = false := decide_eq_false hgl
            have hc1 : ¬ c.length = 1 := by have := H2.out; omega
            rw [if_neg hgl, endT, if_neg hc1] at HP4
            have e1 : ((c.length : Int) == 1) = false := beq_false_of_ne (by omega)
            clear hgl hc1
            go_wp2_with fail
            go_ret
            exact .inr ⟨_, c, l3, T3, rfl, HL4.out, (fun i hi => Nat.lt_of_lt_of_le (HFC.out.low i hi) HN.out), HK4.out, HS4.out, HP4.out⟩
    · have d1 : decide ((1 : Int) < (c.length : Int)) = false := decide_eq_false (by omega)
      have d11 : decide (1 < c.length) = false := decide_eq_false (by omega)
      have HPE : Hid (play (minT f0 d 2) l T = play (endT c) l' T') := hide (by rw [HPL.out, minT, if_pos (by omega)])
      by_cases hc1 : c.length = 1
      · have e1 : ((c.length : Int) == 1) = true := by simp [hc1]
        have HPF : Hid (play (minT f0 d 2) l T = play (.ask (ofP (among [])) fun v => if v = 2 then .fin [] [] else .fin (c.map Int.ofNat) []) l' T') := hide (by rw [HPE.out, endT, if_pos hc1])
        have HFS := hide (failsProg (w := wr) (v := .slice none 0 0) (xs := []) HXW.out HSB.out HGX.out ⟨none, 0, rfl, Nat.zero_le _, by simp, fun i hi => absurd hi (Nat.not_lt_zero i)⟩ (by simp))
        have hcf := enters104
        clear h2 hc1
        go_wp2_with fail
        (with_reducible refine HFS.out.mono ?_)
        rintro e w5 (⟨rfl, hk, hp⟩ | ⟨y, l2, T2, rfl, hk, hs, hp⟩)
        · have HKK := hide (HK.out.trans hk)
          have HP := hide (HPF.out.trans (hp _))
          clear hk hp HFS
          unfold asks4
          go_wp2_with fail
          exact ⟨rfl, .inl ⟨_, rfl, ofP_ok _, HKK.out, HP.out⟩⟩
        · have HKK := hide (HK.out.trans hk)
          have HP := hide (HPF.out.trans (hp _))
          have HSS := hide hs
          have HL5 := hide (HL.out.keep hk.kept)
          clear hk hp hs HFS
          rcases Decidable.em (y = 2) with hy | hy
          · have d2 : (y == (2 : Int)) = true := by simp [hy]
            have HPG : Hid (play (minT f0 d 2) l T = .fin [] [] l2) := hide (by rw [HP.out]; simp only [if_pos hy]; rfl)
            clear hy
            go_wp2_with fail
            go_ret
            exact .inr ⟨_, [], l2, T2, rfl, ⟨none, 0, rfl, Nat.zero_le _, by simp, fun i hi => absurd hi (Nat.not_lt_zero i)⟩, by simp, HKK.out, HSS.out, HPG.out⟩
          · have d2 : (y == (2 : Int)) = false := beq_false_of_ne hy
            have HPG : Hid (play (minT f0 d 2) l T = .fin (c.map Int.ofNat) [] l2) := hide (by rw [HP.out]; simp only [if_neg hy]; rfl)
            clear hy
            go_wp2_with fail
            go_ret
            exact .inr ⟨_, c, l2, T2, rfl, HL5.out, (fun i hi => Nat.lt_of_lt_of_le (HFC.out.low i hi) HN.out), HKK.out, HSS.out, HPG.out⟩
      · have e1 : ((c.length : Int) == 1) = false := beq_false_of_ne (by omega)
        have HPG : Hid (play (minT f0 d 2) l T = .fin (c.map Int.ofNat) [] l') := hide (by rw [HPE.out, endT, if_neg hc1]; rfl)
        clear h2 hc1
        go_wp2_with fail
        go_ret
        exact .inr ⟨_, c, l', T', rfl, HL.out, (fun i hi => Nat.lt_of_lt_of_le (HFC.out.low i hi) HN.out), HK.out, HSB.out, HPG.out⟩
end Go.Proofs.Ytmkapmbmgpnjaaa.Se

