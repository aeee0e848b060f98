import Derived.Test.YtmkapmbmgpnjaaaDsH
import Derived.Test.YtmkapmbmgpnjaaaDsE
set_option maxRecDepth 100000
set_option linter.unusedSimpArgs false
set_option linter.unusedVariables false
namespace Go.Rp
open Go Go.RowKit
variable {P : Program} {f : FuncId} {Q : Exit → Act → World → Prop} {a : Act} {w : World}
theorem At.seqOnly {x y : Code} (h : x.wp P (Exit.then (At f P y Q) (fun _ _ _ => False)) a w) : At f P (.seq x y) Q a w :=
  At.seq ((At.of (n := 4) (wpIn_wide.2 h)).mono fun e a w hq => by cases e <;> first | exact hq | exact hq.elim)
theorem At.wp {x : Code} (h : x.wp P Q a w) : At f P x Q a w := At.of (n := 4) (wpIn_wide.2 h)
theorem At.block {id : Nat} {c : Code} (h : At f P c (Exit.inBlock id Q) a w) : At f P (.block id c) Q a w := by
  intro b k cs hro hb
  have h0 : (lone (b.atR a (.code (.block id c) :: k)) cs w).fenced P Fence.wide := fenced_wide _ _
  obtain ⟨e, a₁, w₁, hq, harr⟩ := h b (.inBlock id :: k) cs hro hb
  cases e with
  | normal => exact ⟨.normal, a₁, w₁, hq, .head h0 stepR_block (StepsIn.trans harr (.one (fenced_wide _ _) stepR_inBlock))⟩
  | exit id' =>
    by_cases hid : id' = id
    · simp only [Exit.inBlock, hid, if_true] at hq
      exact ⟨.normal, a₁, w₁, hq, .head h0 stepR_block (harr.1 k (by simp [exitTo, hid]))⟩
    · simp only [Exit.inBlock, hid, if_false] at hq
      have this : (id == id') = false := by simp; exact fun h => hid h.symm
      have hx : exitTo id' (.inBlock id :: k) = exitTo id' k := by simp [exitTo, this]
      exact ⟨.exit id', a₁, w₁, hq, fun k' hk => .head h0 stepR_block (harr.1 k' (by rw [hx]; exact hk)),
        fun hr' hk => let ⟨k₁, h1, h2⟩ := harr.2 hr' (by rw [hx]; exact hk); ⟨k₁, h1, .head h0 stepR_block h2⟩⟩
  | goto l =>
    have hx : gotoIn l (.inBlock id :: k) = gotoIn l k := by simp [gotoIn]
    exact ⟨_, a₁, w₁, hq, fun k' hk => .head h0 stepR_block (harr.1 k' (by rw [hx]; exact hk)),
      fun hr' hk => let ⟨k₁, h1, h2⟩ := harr.2 hr' (by rw [hx]; exact hk); ⟨k₁, h1, .head h0 stepR_block h2⟩⟩
  | ret => exact ⟨_, a₁, w₁, hq, .of_steps (.one h0 stepR_block) harr⟩
  | panic ch => exact ⟨_, a₁, w₁, hq, .of_steps (.one h0 stepR_block) harr⟩
  | outgrown => exact ⟨_, a₁, w₁, hq, .of_steps (.one h0 stepR_block) harr⟩
theorem leaves_ret {F : Fence} {n : Nat} {fn : Func} {tmps : Array Value} {R : Ending → World → Prop} {v : Value} (h : (results fn tmps).run P w = .ok v w) (hR : R (.returned v) w) : LeavesInM F n P fn tmps R [] .returning w := ⟨v, h, hR⟩
theorem leaves_panic {F : Fence} {n : Nat} {fn : Func} {tmps : Array Value} {R : Ending → World → Prop} {ch : List PanicEntry} (hR : R (.panicked ch) w) : LeavesInM F n P fn tmps R [] (.panicking ch) w := hR
theorem leaves_one {F : Fence} {n : Nat} {fn : Func} {tmps : Array Value} {R : Ending → World → Prop} {D : Nat} {u : FrameMode} (hu : u ≠ .run) (hK : w.heap[D]? = some (.deferred (some []))) (h : LeavesInM F n P fn tmps R [] u (w.putObj D (.deferred none))) :
    LeavesInM F n P fn tmps R [{ target := .collected D, args := #[] }] u w := ⟨hu, .inl ⟨_, _, rfl, run_takeDeferred hK, h⟩⟩
section
variable {F : Fence} {nF : Nat} {ops : Array Oper} {o : Oper} {K : Act → World → Prop} {X : Prop}
theorem stepIn_value {w' : World} {v : Value} (hgd : o.guard = none) (hd : ∀ c, o.op ≠ .defer c) (hab : o.about P w a.eval = none)
    (hr : (execOp a.eval o).run P w = .ok (.value v) w') (h : K (a.put o.dst v) w') : if Region.wanted o (yielded ops a.tmps) = true then Oper.wpIn F nF P o a w K Q else X := by
  have hw : Region.wanted o (yielded ops a.tmps) = true := by simp [Region.wanted, hgd]
  rw [if_pos hw]
  unfold Oper.wpIn
  refine ⟨fun f hf => (by rw [hab] at hf; cases hf), ?_⟩
  rw [Oper.semAt_plain F _ _ hd, hr]
  exact h
theorem stepIn_callP {g : Nat} {args : Array Value} {R : Ending → World → Prop} (hgd : o.guard = none) (hd : ∀ c, o.op ≠ .defer c) (hab : o.about P w a.eval = some g) (hf : F.fn g) (hdp : F.depth = none)
    (hr : (execOp a.eval o).run P w = .ok (.enter g args) w) (hc : CallsIn F (nF - 1) P g args w R) (h : ∀ e w', R e w' → (∃ v, e = .returned v ∧ K (a.put o.dst v) w') ∨ (∃ ch, e = .panicked ch ∧ Q (.panic ch) a w')) : if Region.wanted o (yielded ops a.tmps) = true then Oper.wpIn F nF P o a w K Q else X := by
  have hw : Region.wanted o (yielded ops a.tmps) = true := by simp [Region.wanted, hgd]
  rw [if_pos hw]
  unfold Oper.wpIn
  refine ⟨fun g hg => (by rw [hab] at hg; cases hg; exact hf), ?_⟩
  rw [Oper.semAt_plain F _ _ hd, hr]
  refine ⟨fun hq => (by rw [hdp] at hq; cases hq), hc.mono fun e w' hR => ?_⟩
  rcases h e w' hR with ⟨v, rfl, hk⟩ | ⟨ch, rfl, hk⟩
  · exact hk
  · exact hk
end
theorem prefix_last {c : Nat} {pre : List (Fin c)} {x : Fin c} (h : pre ++ [x] <+: List.finRange c) : x.val = pre.length := by
  have h1 := h.getElem (i := pre.length) (by simp)
  simp at h1
  rw [h1]
end Go.Rp
namespace Go.Proofs.Ytmkapmbmgpnjaaa.Se
open Go Go.Ms Go.Pg Go.Rc Go.Bi Go.Se Go.ChangeShapes Go.WideShapes Go.ChangeAt Go.RowKit Go.Deep Go.Shelf Go.Proofs.Ytmkapmbmgpnjaaa.Bi

/-! One cut of the difference: what is said between two rounds. -/

def nextT (f : Nat) (b : Bs) : Option Bs → Tr
  | some b' => diffT f b'
  | none => if b.g < (between b).length then diffT f (finer b) else doneT b
theorem diffT_two {f : Nat} {b : Bs} (h : 2 ≤ (between b).length) : diffT (f + 1) b = rounds b (between b) (countOf b) (nextT f b) (countOf b) 0 := by
  rw [diffT, if_neg (by omega)]
  rfl
theorem diffT_less {f : Nat} {b : Bs} (h : (between b).length < 2) : diffT (f + 1) b = doneT b := by rw [diffT, if_pos h]
theorem play_round {b : Bs} {L : List Nat} {c m i : Nat} {k : Option Bs → Tr} {l l' : List Int} {T T' : List (Q4 × Int)} {x y : Int}
    (h : ∀ k, play (moveT b (pieceQ L c i) k) l T = play (k (moved b (pieceQ L c i) x y)) l' T') :
    play (rounds b L c k (m + 1) i) l T = play (match moved b (pieceQ L c i) x y with
      | some b' => k (some b')
      | none => rounds b L c k m (i + 1)) l' T' := h _
def Goes (b : Bs) (l : List Int) (T : List (Q4 × Int)) (i : Nat) (l' : List Int) (T' : List (Q4 × Int)) : Prop :=
  ∀ f, play (diffT (f + 1) b) l T = play (rounds b (between b) (countOf b) (nextT f b) (countOf b - i) i) l' T'
theorem Goes.zero {b : Bs} {l : List Int} {T : List (Q4 × Int)} (h : 2 ≤ (between b).length) : Goes b l T 0 l T := fun f => by rw [diffT_two h]; rfl
theorem Goes.stop {b : Bs} {l l' : List Int} {T T' : List (Q4 × Int)} {i : Nat} {q : Q4} (h : Goes b l T i l' T') (hi : i < countOf b) (hq : ∀ k, play (moveT b (pieceQ (between b) (countOf b) i) k) l' T' = .ask (memQ q)) (f : Nat) :
    play (diffT (f + 1) b) l T = .ask (memQ q) := by
  obtain ⟨m, hm⟩ : ∃ m, countOf b - i = m + 1 := ⟨countOf b - i - 1, by omega⟩
  rw [h f, hm]
  exact hq _
theorem Goes.found {b b' : Bs} {l l' l2 : List Int} {T T' T2 : List (Q4 × Int)} {i : Nat} {x y : Int} (h : Goes b l T i l' T') (hi : i < countOf b) (hq : ∀ k, play (moveT b (pieceQ (between b) (countOf b) i) k) l' T' = play (k (moved b (pieceQ (between b) (countOf b) i) x y)) l2 T2)
    (hm : moved b (pieceQ (between b) (countOf b) i) x y = some b') (f : Nat) : play (diffT (f + 1) b) l T = play (diffT f b') l2 T2 := by
  obtain ⟨m, hm'⟩ : ∃ m, countOf b - i = m + 1 := ⟨countOf b - i - 1, by omega⟩
  rw [h f, hm', play_round hq, hm]
  rfl
theorem Goes.next {b : Bs} {l l' l2 : List Int} {T T' T2 : List (Q4 × Int)} {i : Nat} {x y : Int} (h : Goes b l T i l' T') (hi : i < countOf b) (hq : ∀ k, play (moveT b (pieceQ (between b) (countOf b) i) k) l' T' = play (k (moved b (pieceQ (between b) (countOf b) i) x y)) l2 T2)
    (hm : moved b (pieceQ (between b) (countOf b) i) x y = none) : Goes b l T (i + 1) l2 T2 := fun f => by
  obtain ⟨m, hm'⟩ : ∃ m, countOf b - i = m + 1 := ⟨countOf b - i - 1, by omega⟩
  rw [h f, hm', play_round hq, hm, show countOf b - (i + 1) = m by omega]
theorem Goes.finer {b : Bs} {l l' : List Int} {T T' : List (Q4 × Int)} (h : Goes b l T (countOf b) l' T') (hg : b.g < (between b).length) (f : Nat) : play (diffT (f + 1) b) l T = play (diffT f (finer b)) l' T' := by
  rw [h f, Nat.sub_self, rounds, nextT, if_pos hg]
theorem Goes.done {b : Bs} {l l' : List Int} {T T' : List (Q4 × Int)} (h : Goes b l T (countOf b) l' T') (hg : ¬ b.g < (between b).length) (f : Nat) : play (diffT (f + 1) b) l T = play (doneT b) l' T' := by
  rw [h f, Nat.sub_self, rounds, nextT, if_neg hg]
theorem KeepsB.grown {m g b : Nat} {w W W' : World} {row : Option Nat} (h : KeepsB m g b w W) (hg : W.grownBy W' row) (hm : m ≤ w.heap.size) (hr : ∀ r, row = some r → w.heap.size ≤ r) : KeepsB m g b w W' :=
  ⟨h.below.grown hg (Nat.le_trans hm h.below.size) fun k e => Nat.le_trans hm (hr k e), fun i hi h1 h2 h3 => (hg.block i (Nat.lt_of_lt_of_le hi h.below.size) fun e => by have := hr i e.symm; omega).trans (h.kept i hi h1 h2 h3)⟩
theorem KeepsB.same {m g b : Nat} {w w' : World} (h : KeepsB m g b w w') {i : Nat} {o : Obj} (hi : w.heap[i]? = some o) (h1 : i ≠ m) (h2 : i ≠ g) (h3 : i ≠ b) : w'.heap[i]? = some o := (h.kept i (block_lt hi) h1 h2 h3).trans hi
theorem KeepsB.of_below {m g b : Nat} {w w' : World} (hm : m ≤ w.heap.size) (h : Below w.heap.size w w') : KeepsB m g b w w' := ⟨h.mono hm, fun i hi _ _ _ => h.block i hi⟩
theorem KeepsB.of_below' {m g b B k : Nat} {w w' : World} (hm : m ≤ B) (h : Below B w w') (ho : ∀ i, i ≠ k → w'.heap[i]? = w.heap[i]?) : ∀ {v : World}, KeepsB m g b v w → v.heap.size ≤ k → KeepsB m g b v w' :=
  fun hv hk => ⟨hv.below.trans (h.mono hm), fun i hi h1 h2 h3 => (ho i (by omega)).trans (hv.kept i hi h1 h2 h3)⟩
abbrev box1 (v : Value) (t : TypeId) : Obj := .cells #[v] t (0, 0)
theorem mixedS : Try.prog.follows .mixedOrders = true := by kernel_rfl
theorem allQ_among (n : Nat) : ofP (among (List.range n)) = allQ n := by
  unfold allQ
  congr 1
  funext i
  simp [among]
theorem set1_block {w : World} {B : Nat} {t : TypeId} {u v : Value} (h : w.heap[B]? = some (.cells #[u] t (0, 0))) : (w.setCell ⟨B, 0, none⟩ v).heap[B]? = some (.cells #[v] t (0, 0)) := by
  refine (heap_setCell_same _ B 0 _ t v h).trans ?_
  simp
theorem own_cells {w : World} {B n cap : Nat} {oa : Option Addr} {l : List Int} (h : Go.Il.Own 3 .i64 B w (.slice oa n cap) l) (hp : 0 < n) : ∃ gl, oa = some ⟨gl, 0, none⟩ ∧ B ≤ gl ∧ gl < w.heap.size ∧ n = l.length ∧ n ≤ cap ∧ ∀ j (hj : j < l.length), w.cell? ⟨gl, 0 + j, none⟩ = some (.int .i64 l[j]) := by
  obtain ⟨oa', cap', e0, hc⟩ := h.at
  injection e0 with e1 e2 e3
  subst e1 e3
  rcases h.2 with ⟨e, h0⟩ | ⟨g, cap', cur, e, hb, hh, hnc, hcap, hr⟩
  · omega
  · injection e with e1 e2 e3
    subst e1
    refine ⟨g, rfl, hb, block_lt hh, e2, by omega, fun i hi => ?_⟩
    obtain ⟨g', e, hcell⟩ := hc i hi
    injection e with e
    injection e with e _
    subst e
    simpa using hcell
theorem nats_piece {w : World} {gl cap c k : Nat} {d : List Nat} (h : ∀ j (hj : j < d.length), w.cell? ⟨gl, 0 + j, none⟩ = some (.int .i64 (d[j] : Int))) (hk : k < c) (hl : d.length ≤ 256) :
    Nats w (.slice (some ⟨gl, cut d.length c k, none⟩) (cut d.length c (k + 1) - cut d.length c k) (cap - cut d.length c k)) (piece d c k) := by
  have e := piece_length (l := d) hk
  have hle : (k + 1) * d.length / c ≤ d.length := by
    apply Nat.div_le_of_le_mul
    exact Nat.mul_le_mul_right _ hk
  refine ⟨_, _, by rw [e]; rfl, by rw [e]; exact Nat.le_trans (Nat.sub_le _ _) (by omega), fun i hi => ⟨_, _, rfl, ?_⟩⟩
  rw [e] at hi
  have hj : cut d.length c k + i < d.length := by
    unfold cut
    omega
  have hg : (piece d c k)[i]'(by rw [e]; exact hi) = d[cut d.length c k + i] := by
    simp [piece, cut]
  rw [hg]
  have := h _ hj
  rw [Nat.zero_add] at this
  exact this
theorem setOfQ {w : World} {v : Value} {xs : List Nat} (h : Nats w v xs) (hx : ∀ n ∈ xs, n < 256) : Calls Try.prog 77 #[v] w fun e w' => e = .returned (setV (ofP (among xs)).a (ofP (among xs)).b (ofP (among xs)).c (ofP (among xs)).d) ∧ Below w.heap.size w w' := by
  refine (setOfProg h hx).mono ?_
  rintro e w' ⟨a, b, c, d, rfl, hs, hB⟩
  have := is_of (s := ⟨a, b, c, d⟩) hs
  rw [← this]
  exact ⟨rfl, hB⟩
theorem setOfPiece {w : World} {v : Value} {d : List Nat} {c k : Nat} (h : Nats w v (piece d c k)) (hx : ∀ n ∈ piece d c k, n < 256) : Calls Try.prog 77 #[v] w fun e w' => e = .returned (setV (pieceQ d c k).a (pieceQ d c k).b (pieceQ d c k).c (pieceQ d c k).d) ∧ Below w.heap.size w w' := setOfQ h hx
theorem sbox_grown {w w' : World} {g m : Nat} {l : List Int} {T : List (Q4 × Int)} {row : Option Nat} (h : SBox w g m l T) (hg : w.grownBy w' row) (hr : ∀ r, row = some r → r ≠ m ∧ r ≠ g ∧ m ≤ r) : SBox w' g m l T := by
  have h1 := h.gt
  have h2 := h.lt
  exact h.other ((Below.refl m w).grown hg (by omega) fun k e => (hr k e).2.2) (hg.block m (by omega) fun e => (hr m e.symm).1 rfl) (hg.block g h1 fun e => (hr g e.symm).2.1 rfl)
end Go.Proofs.Ytmkapmbmgpnjaaa.Se
