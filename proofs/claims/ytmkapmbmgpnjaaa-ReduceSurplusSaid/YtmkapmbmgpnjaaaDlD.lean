import Derived.Test.YtmkapmbmgpnjaaaDsI
import Derived.Test.YtmkapmbmgpnjaaaDlA
import Derived.Test.YtmkapmbmgpnjaaaDcE
set_option maxRecDepth 100000
namespace Go.Rp
open Go Go.Shelf Go.RowKit

/-! A range over a function whose rounds may panic; the iterator tells the round of the world. -/
variable {P : Program}

def StopsT {α : Type} (P : Program) (g : Nat) (lb : Array Value) (encs : α → Array Value) (Kp : World → World → Prop) (Td : List α → α → World → Prop) (S Sp : List α → Prop) (N : Nat) (w : World) : Prop :=
  ∀ (l : Nat) (J Jx : List α → World → Prop) (Jp : List PanicEntry → World → Prop) (W : World), Below w.heap.size w W → w.heap.size + 2 ≤ W.heap.size → OwnFrom W.heap.size J → OwnFrom W.heap.size Jx → OwnFrom W.heap.size Jp →
    (∀ pre x W1, J pre W1 → pre.length < N → Td pre x W1 → YieldAt Fence.wide 2 P l (encs x) W1 fun e W' =>
      (e = .returned (.bool true) ∧ J (pre ++ [x]) W' ∧ Kp W1 W') ∨ (e = .returned (.bool false) ∧ Jx (pre ++ [x]) W' ∧ KeepsFrom W.heap.size W1 W') ∨ (∃ ch, e = .panicked ch ∧ Jp ch W' ∧ KeepsFrom W.heap.size W1 W')) →
    J [] W →
    CallsIn Fence.wide 3 P g (#[.func (.yield l) #[] #[]] ++ lb) W fun e W' => ((∃ v, e = .returned v) ∧ ((∃ xs, S xs ∧ J xs W') ∨ (∃ pre, Sp pre ∧ Jx pre W'))) ∨ (∃ ch, e = .panicked ch ∧ Jp ch W')

theorem At.rangeFuncT {f : FuncId} (hf : ∃ fn, P.funcs[f]? = some fn) {α : Type} {g : Operand} {ps : Array Tmp} {assign body : Code} {Q : Exit → Act → World → Prop} {a : Act} {w : World}
    {gf : Nat} {lb : Array Value} (hg : a.eval g = .func (.func gf) #[] lb) (eg : ∀ args w, (callFunc gf args).run P w = .ok (.enter gf args) w)
    {encs : α → Array Value} {Kp : World → World → Prop} {Td : List α → α → World → Prop} {S Sp : List α → Prop} {N : Nat} {w0 : World} (hseq : StopsT P gf lb encs Kp Td S Sp N w0)
    (hKt : ∀ {A B C : World}, Kp A B → Kp B C → Kp A C) (hKb : ∀ (W : World) (o o' : Obj), W.heap[w.heap.size + 1]? = some o → Kp W (W.putObj (w.heap.size + 1) o')) (hTd : ∀ pre x (W : World) (o o' : Obj), W.heap[w.heap.size + 1]? = some o → o.isCells = false → Td pre x W → Td pre x (W.putObj (w.heap.size + 1) o')) (hb0 : Below w0.heap.size w0 w) (hps : ∀ x, (encs x).size = ps.size)
    (I : List α → World → Prop) (Ix : Code → List α → World → Prop) (Ip : List PanicEntry → World → Prop) (hI : OwnFrom w.heap.size I) (hIx : ∀ c, OwnFrom w.heap.size (Ix c)) (hIp : OwnFrom w.heap.size Ip) (h0 : I [] w) (a₁ : α → Act)
    (hassign : ∀ (l : Nat) (x : α) (W : World) (K : Act → World → Prop), K (a₁ x) W →
      assign.wpIn (Fence.wide.inRound l) 2 P (Exit.then K (fun _ _ _ => False)) { tmps := (ps.zip (encs x)).foldl (fun t (p, v) => t.setIfInBounds p v) a.tmps, defers := [] } W)
    (hbody : ∀ (l : Nat) (pre : List α) (x : α) (W : World), I pre W → pre.length < N → Td pre x W → body.wpIn (Fence.wide.inRound l) 2 P (ownPostP w.heap.size Kp I Ix Ip (pre ++ [x]) W) (a₁ x) W)
    (hdone : ∀ (D : Nat) (xs : List α) (W : World), w.heap.size ≤ D → S xs → I xs W → W.heap[D]? = some (.deferred (some [])) → Q .normal { a with defers := { target := .collected D, args := #[] } :: a.defers } W)
    (hstop : ∀ (D : Nat) (c : Code) (pre : List α) (W : World), w.heap.size ≤ D → Sp pre → Ix c pre W → W.heap[D]? = some (.deferred (some [])) → c.wpIn Fence.wide 4 P Q { a with defers := { target := .collected D, args := #[] } :: a.defers } W)
    (hpanic : ∀ (D : Nat) (ch : List PanicEntry) (W : World), w.heap.size ≤ D → Ip ch W → W.heap[D]? = some (.deferred (some [])) → Q (.panic ch) { a with defers := { target := .collected D, args := #[] } :: a.defers } W) :
    At f P (Code.rangeFunc g ps assign body) Q a w := by
  intro b k cs hro hb
  obtain ⟨rec, hrec⟩ : ∃ rec : LoopState → Option Code → Loop, rec = fun st pe => { state := st, pending := pe, fn := f, tmps := a.tmps, params := ps, assign, body, defers := w.heap.size } := ⟨_, rfl⟩
  obtain ⟨W1, hW1⟩ : ∃ W1, (w.alloc (.deferred (some []))).alloc (.loop (rec .ready none)) = W1 := ⟨_, rfl⟩
  have hL1 : W1.heap[w.heap.size + 1]? = some (.loop (rec .ready none)) := by
    rw [← hW1]; have := World.alloc_heap_new (w.alloc (.deferred (some []))) (.loop (rec .ready none)); rwa [World.size_alloc] at this
  have hK1 : W1.heap[w.heap.size]? = some (.deferred (some [])) := by
    rw [← hW1]; exact (Below.heap_alloc _ _ _ (by simp)).trans (World.alloc_heap_new w _)
  have hI1 : I [] W1 := by rw [← hW1]; exact hI.alloc _ (hI.alloc _ h0)
  have hb1 : Below w0.heap.size w0 W1 := by
    rw [← hW1]; exact hb0.trans ((((Below.refl _ w).alloc (Nat.le_refl _) _).alloc (by simp) _).mono hb0.size)
  have he : (Instr.enterLoop b.fn a.tmps ps assign body b.roundOf).run P w = .ok (w.heap.size + 1, [{ target := .collected w.heap.size, args := #[] }]) W1 := by
    rw [← hW1, hrec, hro, hb]; exact run_enterLoop_outer _ _ _ _ _
  have hres : (resolve a.eval (rangeCall g (w.heap.size + 1)) 0).run P W1 = .ok { target := .fn (.func gf) lb, args := #[.func (.yield (w.heap.size + 1)) #[] #[]] } W1 := by
    simp only [resolve, hg]
    simp [go_sem]
  have hinv : (invoke (Target.fn (.func gf) lb) #[.func (.yield (w.heap.size + 1)) #[] #[]]).run P W1 = .ok (.enter gf (#[.func (.yield (w.heap.size + 1)) #[] #[]] ++ lb)) W1 := by simp [invoke, go_sem, eg]
  have hcall : CallsIn Fence.wide 3 P gf (#[.func (.yield (w.heap.size + 1)) #[] #[]] ++ lb) W1 (fun e W2 => match e with
      | .returned _ => ∃ jump w₄, (Instr.endLoop (w.heap.size + 1)).run P W2 = .ok jump w₄ ∧ (match jump with
          | none => Q .normal { a with defers := { target := .collected w.heap.size, args := #[] } :: a.defers } w₄
          | some c => c.wpIn Fence.wide 4 P Q { a with defers := { target := .collected w.heap.size, args := #[] } :: a.defers } w₄)
      | .panicked ch => Q (.panic ch) { a with defers := { target := .collected w.heap.size, args := #[] } :: a.defers } W2
      | .outgrown => False) := by
    have hs1 : W1.heap.size = w.heap.size + 2 := by rw [← hW1]; simp
    have low : ∀ {A : World} {row : Option Nat}, (∀ r, row = some r → W1.heap.size ≤ r ∧ ∃ o : Obj, A.heap[r]? = some o ∧ o.isCells = false) → (∀ r, row = some r → w.heap.size ≤ r ∧ ∃ o : Obj, A.heap[r]? = some o ∧ o.isCells = false) :=
      fun hr r e => ⟨by have := (hr r e).1; omega, (hr r e).2⟩
    have same : ∀ {A B : World} {row : Option Nat} {i : Nat} {o : Obj}, A.grownBy B row → (∀ r, row = some r → W1.heap.size ≤ r ∧ ∃ o : Obj, A.heap[r]? = some o ∧ o.isCells = false) → i < W1.heap.size → A.heap[i]? = some o → B.heap[i]? = some o :=
      fun hg hr hi h => (hg.block _ (Array.getElem?_eq_some_iff.1 h).1 fun e => by have := (hr _ e.symm).1; omega).trans h
    refine (hseq (w.heap.size + 1)
      (fun pre W => I pre W ∧ W.heap[w.heap.size + 1]? = some (.loop (rec .ready none)) ∧ W.heap[w.heap.size]? = some (.deferred (some [])))
      (fun pre W => ∃ c, Ix c pre W ∧ W.heap[w.heap.size + 1]? = some (.loop (rec .done (some c))) ∧ W.heap[w.heap.size]? = some (.deferred (some [])))
      (fun ch W => Ip ch W ∧ W.heap[w.heap.size]? = some (.deferred (some [])))
      W1 hb1 (by have := hb0.size; omega)
      (fun s A B row hs hg' hr => ⟨hI s A B row hs.1 hg' (low hr), same hg' hr (by omega) hs.2.1, same hg' hr (by omega) hs.2.2⟩)
      (fun s A B row ⟨c, hx, hl, hk⟩ hg' hr => ⟨c, hIx c s A B row hx hg' (low hr), same hg' hr (by omega) hl, same hg' hr (by omega) hk⟩)
      (fun s A B row ⟨hx, hk⟩ hg' hr => ⟨hIp s A B row hx hg' (low hr), same hg' hr (by omega) hk⟩)
      ?_ ⟨hI1, hL1, hK1⟩).mono ?_
    · rintro pre x W ⟨hi, hl, hk⟩ hlen hsp
      have hlt : w.heap.size + 1 < W.heap.size := (Array.getElem?_eq_some_iff.1 hl).1
      have hy := run_yield (P := P) (args := encs x) hl (by rw [hrec]; exact hps x)
      rw [hrec] at hy
      refine ⟨f, _, assign, body, hy, roundIn_of_wpP hf (hassign _ x W _ ?_)⟩
      refine ⟨_, run_beginRound hl (by rw [hrec]), ?_⟩
      have hl2 : (W.putObj (w.heap.size + 1) (.loop { rec .ready none with state := .busy })).heap[w.heap.size + 1]? = some (.loop { rec .ready none with state := .busy }) := World.putObj_heap_same hlt
      have hk2 : (W.putObj (w.heap.size + 1) (.loop { rec .ready none with state := .busy })).heap[w.heap.size]? = some (.deferred (some [])) := (World.putObj_heap_other (by omega)).trans hk
      have hw2 : Kp W (W.putObj (w.heap.size + 1) (.loop { rec .ready none with state := .busy })) := hKb _ _ _ hl
      refine wpIn_mono (hbody _ pre x _ (hI.putObj _ hi (by omega) hl rfl) hlen (hTd _ _ _ _ _ hl rfl hsp)) ?_
      have fin : ∀ (jump : Option Code) (W3 : World), KeepsFrom w.heap.size (W.putObj (w.heap.size + 1) (.loop { rec .ready none with state := .busy })) W3 →
          (Instr.endRound (w.heap.size + 1) jump).run P W3 = .ok (.bool jump.isNone) (W3.putObj (w.heap.size + 1) (.loop (rec (if jump.isNone then .ready else .done) jump))) ∧
          W3.heap[w.heap.size + 1]? = some (.loop { rec .ready none with state := .busy }) ∧
          (W3.putObj (w.heap.size + 1) (.loop (rec (if jump.isNone then .ready else .done) jump))).heap[w.heap.size + 1]? = some (.loop (rec (if jump.isNone then .ready else .done) jump)) ∧
          (W3.putObj (w.heap.size + 1) (.loop (rec (if jump.isNone then .ready else .done) jump))).heap[w.heap.size]? = some (.deferred (some [])) := fun jump W3 hk3 => by
        have hl3 := hk3.same _ _ (by omega) hl2 rfl
        have := run_endRound (P := P) jump hl3
        rw [hrec] at this ⊢
        exact ⟨this, by rw [hrec] at hl3; exact hl3, World.putObj_heap_same (Array.getElem?_eq_some_iff.1 hl3).1, (World.putObj_heap_other (by omega)).trans (hk3.same _ _ (Nat.le_refl _) hk2 rfl)⟩
      have out : ∀ (o3 : Obj) (W3 : World), KeepsFrom w.heap.size (W.putObj (w.heap.size + 1) (.loop { rec .ready none with state := .busy })) W3 → KeepsFrom W1.heap.size W (W3.putObj (w.heap.size + 1) o3) := fun o3 W3 hk3 =>
        ⟨Nat.le_trans (grownBy_putObj' W (w.heap.size + 1) _).size (Nat.le_trans hk3.size (grownBy_putObj' W3 (w.heap.size + 1) o3).size), fun k o hB hk hc => (World.putObj_heap_other (by omega)).trans (hk3.same k o (by omega) ((World.putObj_heap_other (by omega)).trans hk) hc)⟩
      have out' : ∀ (W3 : World), KeepsFrom w.heap.size (W.putObj (w.heap.size + 1) (.loop { rec .ready none with state := .busy })) W3 → KeepsFrom W1.heap.size W W3 := fun W3 hk3 =>
        ⟨Nat.le_trans (grownBy_putObj' W (w.heap.size + 1) _).size hk3.size, fun k o hB hk hc => hk3.same k o (by omega) ((World.putObj_heap_other (by omega)).trans hk) hc⟩
      rintro e a3 W3 hp
      cases e with
      | normal =>
        obtain ⟨hk3, hkp3, hi3⟩ := hp
        obtain ⟨hr, hl3, hl4, hk4⟩ := fin none W3 hk3
        exact ⟨_, _, hr, .inl ⟨rfl, ⟨hI.putObj _ hi3 (by omega) hl3 rfl, hl4, hk4⟩, hKt (hKt hw2 hkp3) (hKb _ _ _ hl3)⟩⟩
      | ret =>
        obtain ⟨hk3, hi3⟩ := hp
        obtain ⟨hr, hl3, hl4, hk4⟩ := fin (some .ret) W3 hk3
        exact ⟨_, _, hr, .inr (.inl ⟨rfl, ⟨.ret, (hIx _).putObj _ hi3 (by omega) hl3 rfl, hl4, hk4⟩, out _ _ hk3⟩)⟩
      | exit id =>
        obtain ⟨hk3, hi3⟩ := hp
        obtain ⟨hr, hl3, hl4, hk4⟩ := fin (some (.exit id)) W3 hk3
        exact ⟨_, _, hr, .inr (.inl ⟨rfl, ⟨.exit id, (hIx _).putObj _ hi3 (by omega) hl3 rfl, hl4, hk4⟩, out _ _ hk3⟩)⟩
      | goto t =>
        obtain ⟨hk3, hi3⟩ := hp
        obtain ⟨hr, hl3, hl4, hk4⟩ := fin (some (.goto t)) W3 hk3
        exact ⟨_, _, hr, .inr (.inl ⟨rfl, ⟨.goto t, (hIx _).putObj _ hi3 (by omega) hl3 rfl, hl4, hk4⟩, out _ _ hk3⟩)⟩
      | panic ch =>
        obtain ⟨hd, hk3, hi3⟩ := hp
        exact ⟨hd, .inr (.inr ⟨ch, rfl, ⟨hi3, hk3.same _ _ (Nat.le_refl _) hk2 rfl⟩, out' _ hk3⟩)⟩
      | outgrown => exact hp.elim
    · rintro e W2 (⟨⟨v, rfl⟩, (⟨xs, hS, hi, hl, hk⟩ | ⟨pre, hSp, c, hi, hl, hk⟩)⟩ | ⟨ch, rfl, hi, hk⟩)
      · exact ⟨none, _, by have := run_endLoop (P := P) hl (by rw [hrec]; simp); rw [hrec] at this; exact this, hdone _ xs _ (Nat.le_refl _) hS (hI.putObj _ hi (by omega) hl rfl) ((World.putObj_heap_other (by omega)).trans hk)⟩
      · exact ⟨some c, _, by have := run_endLoop (P := P) hl (by rw [hrec]; simp); rw [hrec] at this; exact this, hstop _ c pre _ (Nat.le_refl _) hSp ((hIx c).putObj _ hi (by omega) hl rfl) ((World.putObj_heap_other (by omega)).trans hk)⟩
      · exact hpanic _ ch _ (Nat.le_refl _) hi hk
  have henter := stepR_rangeFunc (P := P) (b := b) (a := a) (k := k) (cs := cs) (w := w) he hres hinv
  obtain ⟨e, w₃, fr, hR, hsteps, hfn, hleave⟩ := hcall.2 (b.atR { a with defers := [{ target := .collected w.heap.size, args := #[] }] ++ a.defers } (.inRangeFunc (w.heap.size + 1) :: k) :: cs) (room_wide _)
  cases e with
  | outgrown => exact hR.elim
  | returned v =>
    obtain ⟨jump, w₄, hend, hj⟩ := hR
    have sback : StepsIn (Machine.fenced P Fence.wide) P (lone (b.atR a (.code (.rangeFunc g ps assign body) :: k)) cs w) (lone (b.atR { a with defers := [{ target := .collected w.heap.size, args := #[] }] ++ a.defers } ((jump.map Item.code).toList ++ k)) cs w₄) := by
      refine .head (fenced_wide _ _) henter (StepsIn.trans hsteps (.head (fenced_wide _ _) ?_ (.one (fenced_wide _ _) (stepR_endRangeFunc hend))))
      rw [← finish_atR_inRangeFunc (w.heap.size + 1) v]; exact step_leave_returned hleave
    cases jump with
    | none => exact ⟨.normal, _, w₄, hj, sback⟩
    | some c =>
      obtain ⟨e', a'', w₅, hq, harr⟩ := hj b k cs hro trivial (room_wide _)
      exact ⟨e', a'', w₅, hq, .of_steps sback harr⟩
  | panicked chain =>
    refine ⟨.panic chain, _, w₃, hR, .inRangeFunc (w.heap.size + 1) :: k, .head (fenced_wide _ _) henter (StepsIn.trans hsteps (.one (fenced_wide _ _) ?_))⟩
    rw [← Frame.raise_atR]; exact step_leave_panicked hleave

end Go.Rp

set_option maxRecDepth 100000
set_option linter.unusedSimpArgs false
set_option linter.unusedVariables false
namespace Go.Proofs.Ytmkapmbmgpnjaaa.Se
open Go Go.Ms Go.Pg Go.Bi Go.Se Go.ChangeShapes Go.WideShapes Go.ChangeAt Go.RowKit Go.Deep Go.Proofs.Ytmkapmbmgpnjaaa.Bi

/-! The first candidate that fails. -/
def LaidK (w : World) (m g : Nat) (v : Value) (xs : List Nat) : Prop := ∃ oa cap, v = .slice oa xs.length cap ∧ xs.length ≤ cap ∧ xs.length ≤ 256 ∧ ∀ i (h : i < xs.length), ∃ b o, oa = some ⟨b, o, none⟩ ∧ (b ≠ m ∧ b ≠ g) ∧ w.cell? ⟨b, o + i, none⟩ = some (.int .i64 (xs[i] : Int))
theorem LaidK.laid {w : World} {m g : Nat} {v : Value} {xs : List Nat} (h : LaidK w m g v xs) : Laid w v xs := by
  obtain ⟨oa, cap, e, h1, h2, hc⟩ := h
  exact ⟨oa, cap, e, h1, h2, fun i hi => by
    obtain ⟨b, o, e, _, hx⟩ := hc i hi
    exact ⟨b, o, e, hx⟩⟩
theorem LaidK.keep {w w' : World} {m g : Nat} {v : Value} {xs : List Nat} (h : LaidK w m g v xs) (k : ∀ i, i < w.heap.size → i ≠ m → i ≠ g → w'.heap[i]? = w.heap[i]?) : LaidK w' m g v xs := by
  obtain ⟨oa, cap, e, h1, h2, hc⟩ := h
  exact ⟨oa, cap, e, h1, h2, fun i hi => by
    obtain ⟨b, o, e, hb, hx⟩ := hc i hi
    exact ⟨b, o, e, hb, (World.cell?_of_block (a := ⟨b, o + i, none⟩) (k b (World.block_lt_of_cell? w _ hx) hb.1 hb.2)).trans hx⟩⟩
theorem laid_natsD {w : World} {v : Value} {xs : List Nat} (h : Laid w v xs) : Nats w v xs := by
  obtain ⟨oa, cap, e, _, hl, hc⟩ := h
  exact ⟨oa, cap, e, by omega, hc⟩
theorem laidK_part {w : World} {m g b o cap c k : Nat} {d : List Nat} (h : LaidK w m g (.slice (some ⟨b, o, none⟩) d.length cap) d) (hk : k < c) : LaidK w m g (.slice (some ⟨b, o + Rc.cut d.length c k, none⟩) (Rc.cut d.length c (k + 1) - Rc.cut d.length c k) (cap - Rc.cut d.length c k)) (piece d c k) := by
  obtain ⟨oa, cap', e, hcap, hl, hc⟩ := h
  injection e with e1 e2 e3
  subst e1 e3
  have e := piece_length (l := d) hk
  have hle : (k + 1) * d.length / c ≤ d.length := by
    apply Nat.div_le_of_le_mul
    exact Nat.mul_le_mul_right _ hk
  refine ⟨_, _, by rw [e]; rfl, by rw [e]; unfold Rc.cut; omega, by rw [e]; exact Nat.le_trans (Nat.sub_le _ _) (by omega), fun i hi => ⟨_, _, rfl, ?_⟩⟩
  rw [e] at hi
  have hj : Rc.cut d.length c k + i < d.length := by
    unfold Rc.cut
    omega
  have hg : (piece d c k)[i]'(by rw [e]; exact hi) = d[Rc.cut d.length c k + i] := by
    simp [piece, Rc.cut]
  obtain ⟨b', o', e4, hb, hx⟩ := hc _ hj
  injection e4 with e4
  injection e4 with e5 e6
  subst e5 e6
  refine ⟨hb, ?_⟩
  rw [hg, Nat.add_assoc]
  exact hx
def KpP (Q : Nat → Prop) (w w' : World) : Prop := w.heap.size ≤ w'.heap.size ∧ ∀ i, i < w.heap.size → ¬ Q i → w'.heap[i]? = w.heap[i]?
theorem KpP.refl (Q : Nat → Prop) (w : World) : KpP Q w w := ⟨Nat.le_refl _, fun _ _ _ => rfl⟩
theorem KpP.trans {Q : Nat → Prop} {x y z : World} (h : KpP Q x y) (k : KpP Q y z) : KpP Q x z :=
  ⟨Nat.le_trans h.1 k.1, fun i hi h1 => (k.2 i (Nat.lt_of_lt_of_le hi h.1) h1).trans (h.2 i hi h1)⟩
theorem KpP.put {Q : Nat → Prop} {H : Nat} {w : World} {o o' : Obj} (hQ : Q (H + 1)) (_h : w.heap[H + 1]? = some o) : KpP Q w (w.putObj (H + 1) o') :=
  ⟨(grownBy_putObj' w (H + 1) o').size, fun i _ h1 => World.putObj_heap_other fun e => h1 (e ▸ hQ)⟩
theorem KpP.weak {Q R : Nat → Prop} {w w' : World} (h : KpP Q w w') (k : ∀ i, Q i → R i) : KpP R w w' := ⟨h.1, fun i hi h1 => h.2 i hi fun q => h1 (k i q)⟩
def Own4 (m g H : Nat) (i : Nat) : Prop := i = m ∨ i = g ∨ i = H ∨ i = H + 1
abbrev KpS (m g H : Nat) : World → World → Prop := KpP (Own4 m g H)
def TdQ (m g : Nat) (qs : List (List Nat)) (pre : List Value) (v : Value) (w : World) : Prop := ∃ h : pre.length < qs.length, LaidK w m g v qs[pre.length]

def FailsE (w : World) (g m : Nat) (l : List Int) (T : List (Q4 × Int)) (q : Q4) (e : Ending) (w' : World) : Prop :=
  (e = asks4 q.a q.b q.c q.d ∧ KeepsM m g w w' ∧ ∀ k, play (.ask q k) l T = .ask (memQ q)) ∨
  (∃ x l' T', e = .returned (.bool (x == (2 : Int))) ∧ KeepsM m g w w' ∧ SBox w' g m l' T' ∧ ∀ k, play (.ask q k) l T = play (k x) l' T')
set_option maxHeartbeats 8000000 in
theorem failsProg {w : World} {g m X : Nat} {v : Value} {xs : List Nat} {l : List Int} {T : List (Q4 × Int)} (hX : w.heap[X]? = some (.cells #[.pointer (some ⟨g, 0, none⟩)] 101 (0, 0))) (hS : SBox w g m l T) (hgX : g < X) (hv : Laid w v xs) (hx : ∀ i ∈ xs, i < 256) :
    Calls Try.prog 104 #[v, .pointer (some ⟨X, 0, none⟩)] w (FailsE w g m l T (ofP (among xs))) := by
  have HGX := hide hgX
  have HX := hide hX
  have HS := hide hS
  have HV := hide hv
  have HXX := hide hx
  obtain ⟨oa, cap, rfl, -, -, -⟩ := hv
  clear hX hS hx hgX
  go_enter Try.func104, Try.ntmps104
  go_upto_region 1 with (fail)
  refine wp_region_held_drew (S := fun w' => Hid (w'.heap[X]? = some (.cells #[.pointer (some ⟨g, 0, none⟩)] 101 (0, 0)))) (by kernel_rfl) HX (fun hHeld => ?_)
  refine takeAt (i := 0) (d := some 4) (v := .pointer (some ⟨g, 0, none⟩)) rfl rfl (by kernel_rfl) (by kernel_rfl) (by kernel_rfl) (fun _ _ _ h => h) (Or.inl ⟨by rfl, fun w hS => by have c0 := cell_of hS.out 0; go_simp⟩) hHeld ?_
  simp only [Act.put, List.setIfInBounds_toArray, List.set_cons_zero, List.set_cons_succ]
  refine takeAt (i := 1) (d := some 5) (v := .slice oa xs.length cap) rfl rfl (by kernel_rfl) (by kernel_rfl) (by kernel_rfl) (fun _ _ _ h => h) (Or.inl ⟨by rfl, fun w hS => by go_simp⟩) hHeld ?_
  simp only [Act.put, List.setIfInBounds_toArray, List.set_cons_zero, List.set_cons_succ]
  refine wpAnyH_ready (rs := [2]) (by kernel_rfl) (by simp) ?_
  refine AllReadyH.cons rfl (fun K0 hK => ?_) AllReadyH.nil
  go_simp
  go_at_call 77
  (with_reducible refine (setOfQ (w := w.drew) (laid_natsD (HV.out.old (Below.drew (Below.refl w.heap.size w)))) HXX.out).mono ?_)
  rintro e w1 ⟨rfl, hB1⟩
  have HB1 := hide ((Below.drew (Below.refl w.heap.size w)).trans hB1)
  have HX1 := hide ((HB1.out.block _ (block_lt HX.out)).trans HX.out)
  have HS1 := hide (HS.out.old HB1.out)
  clear hB1
  refine hK.out _ _ HX1 (fun hHeld => ?_)
  clear hK K0
  try simp only [Act.put, List.setIfInBounds_toArray, List.set_cons_zero, List.set_cons_succ]
  refine wpAnyH_ready (rs := [3]) (by kernel_rfl) (by simp) ?_
  refine AllReadyH.cons rfl (fun K0 hK => ?_) AllReadyH.nil
  go_simp
  go_at_call 93
  (with_reducible refine (failsS (q := ofP (among xs)) HS1.out (ofP_ok _)).mono ?_)
  rintro e w2 ha
  have HKW : Hid (KeepsM m g w w1) := hide (KeepsM.of_below (by have := HS.out.lt; have := HS.out.gt; omega) HB1.out)
  have HXG : Hid (X ≠ m ∧ X ≠ g) := hide (by have := HS.out.lt; have := HGX.out; omega)
  rcases asked_play ha with ⟨rfl, hk, hpl⟩ | ⟨x, l1, T1, rfl, hk, hs, hpl⟩
  · have HK := hide (HKW.out.trans hk)
    have HP := hide hpl
    clear ha hk hpl
    unfold asks4
    go_wp2_with fail
    exact ⟨rfl, .inl ⟨rfl, HK.out, HP.out⟩⟩
  have HK := hide (HKW.out.trans hk)
  have HP := hide hpl
  have HS2 := hide hs
  have HX2 := hide (keepsM_block HK.out HXG.out.1 HXG.out.2 HX.out)
  clear ha hk hpl hs
  refine hK.out _ _ HX2 (fun hHeld => ?_)
  clear hK K0
  try simp only [Act.put, List.setIfInBounds_toArray, List.set_cons_zero, List.set_cons_succ]
  refine wpAnyH_ready (rs := [4]) (by kernel_rfl) (by simp) ?_
  refine AllReadyH.cons rfl (fun K0 hK => ?_) AllReadyH.nil
  go_simp
  refine hK.out _ _ HX2 (fun hHeld => ?_)
  clear hK K0
  try simp only [Act.put, List.setIfInBounds_toArray, List.set_cons_zero, List.set_cons_succ]
  refine wpAnyH_done (by kernel_rfl) ?_ _
  go_wp2_with fail
  go_ret
  exact .inr ⟨x, l1, T1, rfl, HK.out, HS2.out, HP.out⟩
end Go.Proofs.Ytmkapmbmgpnjaaa.Se

set_option maxRecDepth 100000
set_option linter.unusedSimpArgs false
set_option linter.unusedVariables false
namespace Go.Proofs.Ytmkapmbmgpnjaaa.Se
open Go Go.Ms Go.Pg Go.Bi Go.Se Go.ChangeShapes Go.WideShapes Go.ChangeAt Go.RowKit Go.Deep Go.Shelf Go.Proofs.Ytmkapmbmgpnjaaa.Bi

attribute [local go_sem] Oper.semAt_some

theorem cell_cells {w : World} {b o : Nat} {v : Value} (h : w.cell? ⟨b, o, none⟩ = some v) : ∃ obj, w.heap[b]? = some obj ∧ obj.isCells = true := by
  unfold World.cell? at h
  cases hb : w.heap[b]? with
  | none => rw [hb] at h; simp at h
  | some obj =>
    refine ⟨obj, rfl, ?_⟩
    rw [hb] at h
    cases obj <;> first | rfl | (simp at h)
theorem LaidK.grown {w w' : World} {m g : Nat} {v : Value} {xs : List Nat} {row : Option Nat} (h : LaidK w m g v xs) (hg : w.grownBy w' row) (hr : ∀ r, row = some r → ∃ o : Obj, w.heap[r]? = some o ∧ o.isCells = false) : LaidK w' m g v xs := by
  obtain ⟨oa, cap, e, h1, h2, hc⟩ := h
  exact ⟨oa, cap, e, h1, h2, fun i hi => by
    obtain ⟨b, o, e, hb, hx⟩ := hc i hi
    refine ⟨b, o, e, hb, hg.cell hx fun q => ?_⟩
    obtain ⟨ob, h3, h4⟩ := cell_cells hx
    obtain ⟨ob', h5, h6⟩ := hr b q.symm
    rw [h3] at h5
    cases h5
    rw [h4] at h6
    cases h6⟩
theorem keepsM_grown {m g : Nat} {w W W' : World} {row : Option Nat} (h : KeepsM m g w W) (hg : W.grownBy W' row) (hm : m ≤ w.heap.size) (hr : ∀ r, row = some r → w.heap.size ≤ r) : KeepsM m g w W' :=
  ⟨h.below.grown hg (Nat.le_trans hm h.below.size) fun k e => Nat.le_trans hm (hr k e), fun i hi h1 h2 => (hg.block i (Nat.lt_of_lt_of_le hi h.below.size) fun e => by have := hr i e.symm; omega).trans (h.kept i hi h1 h2)⟩
theorem scan_next {qs : List (List Nat)} {i : Nat} {k : Option (List Nat) → Tr} (hi : i < qs.length) : scanT (qs.drop i) k = .ask (ofP (among qs[i])) fun v => if v = 2 then k (some qs[i]) else scanT (qs.drop (i + 1)) k := by
  rw [List.drop_eq_getElem_cons hi]
  rfl
theorem not_box {w : World} {a j : Nat} {x : Value} {t : TypeId} {z : Int} (h : w.heap[a]? = some (box1 x t)) (hx : ∀ z, x ≠ .int .i64 z) : w.cell? ⟨a, j, none⟩ ≠ some (.int .i64 z) := by
  intro e
  have := (cell_of h j).symm.trans e
  cases j with
  | zero => simp at this; exact hx z this
  | succ j => simp at this
theorem LaidK.apart {w w' : World} {m g a b : Nat} {v x y : Value} {t u : TypeId} {xs : List Nat} (h : LaidK w m g v xs) (ha : w.heap[a]? = some (box1 x t)) (hb : w.heap[b]? = some (box1 y u)) (hx : ∀ z, x ≠ .int .i64 z) (hy : ∀ z, y ≠ .int .i64 z) (k : ∀ i, i ≠ a → i ≠ b → w'.heap[i]? = w.heap[i]?) : LaidK w' m g v xs := by
  obtain ⟨oa, cap, e, h1, h2, hc⟩ := h
  exact ⟨oa, cap, e, h1, h2, fun i hi => by
    obtain ⟨b', o, e, hb', hc'⟩ := hc i hi
    refine ⟨b', o, e, hb', (World.cell?_of_block (a := ⟨b', o + i, none⟩) (k b' (fun q => ?_) fun q => ?_)).trans hc'⟩
    · subst q; exact not_box ha hx hc'
    · subst q; exact not_box hb hy hc'⟩
theorem put_two {w : World} {a b : Nat} {t u : TypeId} {x y x' y' : Value} (h : w.heap[a]? = some (box1 x t)) (k : w.heap[b]? = some (box1 y u)) (hne : a ≠ b) :
    ((w.setCell ⟨a, 0, none⟩ x').setCell ⟨b, 0, none⟩ y').heap[a]? = some (box1 x' t) ∧ ((w.setCell ⟨a, 0, none⟩ x').setCell ⟨b, 0, none⟩ y').heap[b]? = some (box1 y' u) ∧
    (∀ i, i ≠ a → i ≠ b → ((w.setCell ⟨a, 0, none⟩ x').setCell ⟨b, 0, none⟩ y').heap[i]? = w.heap[i]?) ∧ ∀ M, M ≤ a → M ≤ b → Below M w ((w.setCell ⟨a, 0, none⟩ x').setCell ⟨b, 0, none⟩ y') := by
  refine ⟨(Below.heap_setCell _ ⟨b, 0, none⟩ _ _ hne).trans (set1_block h), set1_block ((Below.heap_setCell _ ⟨a, 0, none⟩ _ _ hne.symm).trans k), fun i h1 h2 => (Below.heap_setCell _ ⟨b, 0, none⟩ _ _ h2).trans (Below.heap_setCell _ ⟨a, 0, none⟩ _ _ h1), fun M h1 h2 => ?_⟩
  exact ((Below.refl M w).setCell (p := ⟨a, 0, none⟩) h1 _).setCell (p := ⟨b, 0, none⟩) h2 _
def FailingE (W : World) (g m : Nat) (qs : List (List Nat)) (l : List Int) (T : List (Q4 × Int)) (e : Ending) (w' : World) : Prop :=
  (∃ q, e = asks4 q.a q.b q.c q.d ∧ q.Ok ∧ KeepsM m g W w' ∧ ∀ k, play (scanT qs k) l T = .ask (memQ q)) ∨
  (∃ v c l' T', e = .returned (.tuple #[v, .bool true]) ∧ c ∈ qs ∧ LaidK w' m g v c ∧ KeepsM m g W w' ∧ SBox w' g m l' T' ∧ ∀ k, play (scanT qs k) l T = play (k (some c)) l' T') ∨
  (∃ l' T', e = .returned (.tuple #[.slice none 0 0, .bool false]) ∧ KeepsM m g W w' ∧ SBox w' g m l' T' ∧ ∀ k, play (scanT qs k) l T = play (k none) l' T')
theorem enters104 (args : Array Value) (W : World) : (callFunc 104 args).run Try.prog W = .ok (.enter 104 args) W := by
  simp [callFunc, go_sem, Try.func104]
  rfl

set_option maxHeartbeats 16000000 in
theorem failingProg {W : World} {g m X gf : Nat} {lb : Array Value} {qs : List (List Nat)} {l : List Int} {T : List (Q4 × Int)} (hX : W.heap[X]? = some (.cells #[.pointer (some ⟨g, 0, none⟩)] 101 (0, 0))) (hgX : g < X) (hS : SBox W g m l T)
    (heg : ∀ args w, (callFunc gf args).run Try.prog w = .ok (.enter gf args) w) (hq : ∀ q ∈ qs, ∀ i ∈ q, i < 256)
    (hseq : ∀ w0 : World, Below W.heap.size W w0 → Rp.StopsT Try.prog gf lb (fun v : Value => #[v]) (KpS m g w0.heap.size) (TdQ m g qs) (fun ys => ys.length = qs.length) (fun _ => True) qs.length w0) :
    Calls Try.prog 147 #[.func (.func gf) #[] lb, .func (.func 104) #[] #[.pointer (some ⟨X, 0, none⟩)]] W (FailingE W g m qs l T) := by
  have HX := hide hX
  have HGX := hide hgX
  have HS := hide hS
  have HQ := hide hq
  have HSEQ := hide hseq
  have HEG := hide heg
  have hA1 := (Below.refl W.heap.size W).alloc (Nat.le_refl _) (box1 (.func (.func 104) #[] #[.pointer (some ⟨X, 0, none⟩)]) 133)
  have hA2 := hA1.alloc hA1.size (box1 (.slice none 0 0) 30)
  have hA3 := hA2.alloc hA2.size (box1 (.bool false) 4)
  have HA := hide hA3
  have H3 := hide (old_block (old_block (new_block W (box1 (.func (.func 104) #[] #[.pointer (some ⟨X, 0, none⟩)]) 133)) (box1 (.slice none 0 0) 30)) (box1 (.bool false) 4))
  have H4 : Hid ((((W.alloc (box1 (.func (.func 104) #[] #[.pointer (some ⟨X, 0, none⟩)]) 133)).alloc (box1 (.slice none 0 0) 30)).alloc (box1 (.bool false) 4)).heap[W.heap.size + 1]? = some (box1 (.slice none 0 0) 30)) := hide (old_block (alloc_at (by simp)) _)
  have H5 : Hid ((((W.alloc (box1 (.func (.func 104) #[] #[.pointer (some ⟨X, 0, none⟩)]) 133)).alloc (box1 (.slice none 0 0) 30)).alloc (box1 (.bool false) 4)).heap[W.heap.size + 1 + 1]? = some (box1 (.bool false) 4)) := hide (alloc_at (by simp))
  have HW0 : Hid ((((W.alloc (box1 (.func (.func 104) #[] #[.pointer (some ⟨X, 0, none⟩)]) 133)).alloc (box1 (.slice none 0 0) 30)).alloc (box1 (.bool false) 4)).heap.size = W.heap.size + 3) := hide (by simp)
  clear hA1 hA2 hA3 hX hgX hS hq hseq heg
  refine Rp.calls_of_at (n := 4) (fn := Try.f147) Try.func147 rfl ?_
  simp only [Try.ntmps147, List.size_toArray, List.length_cons, List.length_nil, Nat.reduceAdd, Nat.reduceSub, Array.replicate_succ, Array.replicate_zero, List.push_toArray, List.append_toArray, List.nil_append, List.cons_append]
  refine Rp.At.seqOnly ?_
  go_wp2_with fail
  generalize hW0 : ((W.alloc (box1 (.func (.func 104) #[] #[.pointer (some ⟨X, 0, none⟩)]) 133)).alloc (box1 (.slice none 0 0) 30)).alloc (box1 (.bool false) 4) = W0 at *
  have HS0 := hide (HS.out.old HA.out)
  have HX0 := hide ((HA.out.block _ (block_lt HX.out)).trans HX.out)
  have HKW : Hid (KeepsM m g W W0) := hide (KeepsM.of_below (by have := HS.out.lt; have := HS.out.gt; omega) HA.out)
  have HMG := hide HS.out.lt
  have HGW := hide HS.out.gt
  have HXW := hide (block_lt HX.out)
  clear hW0
  refine Rp.At.seq (Rp.At.seqOnly ?_)
  go_wp2_with fail
  show Rp.At _ _ _ _ _ _
  refine Rp.At.block ?_
  have hM := HMG.out
  have hG := HGW.out
  have hGX := HGX.out
  have hXW := HXW.out
  have hSZ := HW0.out
  refine Rp.At.rangeFuncT ⟨_, Try.func147⟩ rfl HEG.out (HSEQ.out W0 HA.out) (fun h k => h.trans k) (fun W' o o' h => KpP.put (.inr (.inr (.inr rfl))) h) ?td (Below.refl _ _) (fun _ => rfl)
    (fun pre W' => ∃ l' T', (∀ k, play (scanT qs k) l T = play (scanT (qs.drop pre.length) k) l' T') ∧ SBox W' g m l' T' ∧ KeepsM m g W0 W')
    (fun cd pre W' => cd = .ret ∧ ∃ v c l' T', c ∈ qs ∧ LaidK W' m g v c ∧ (∀ k, play (scanT qs k) l T = play (k (some c)) l' T') ∧ SBox W' g m l' T' ∧ KeepsM m g W W' ∧ W'.heap[W.heap.size + 1]? = some (box1 v 30) ∧ W'.heap[W.heap.size + 1 + 1]? = some (box1 (.bool true) 4))
    (fun ch W' => ∃ q : Q4, Ending.panicked ch = asks4 q.a q.b q.c q.d ∧ q.Ok ∧ (∀ k, play (scanT qs k) l T = .ask (memQ q)) ∧ KeepsM m g W W')
    ?own ?ownx ?ownp ⟨l, T, fun k => by simp, HS0.out, KeepsM.refl _ _ _⟩
    (fun v : Value => { tmps := #[.func (.func gf) #[] lb, .func (.func 104) #[] #[.pointer (some ⟨X, 0, none⟩)], undef, .pointer (some ⟨W.heap.size, 0, none⟩), .pointer (some ⟨W.heap.size + 1, 0, none⟩), .pointer (some ⟨W.heap.size + 1 + 1, 0, none⟩), v, .func (.func gf) #[] lb, v, undef, undef, undef, undef, undef], defers := [] }) ?assign ?body ?done ?stop ?panic
  case td =>
    rintro pre x W' o o' h hc ⟨h1, h2⟩
    exact ⟨h1, h2.grown (grownBy_putObj' W' _ o') fun r e => by cases e; exact ⟨o, h, hc⟩⟩
  case own =>
    rintro pre A A' row ⟨l', T', h1, h2, h3⟩ hg hr
    have hr' : ∀ r, row = some r → W0.heap.size ≤ r := fun r e => (hr r e).1
    exact ⟨l', T', h1, sbox_grown h2 hg (fun r e => by have := hr' r e; exact ⟨by omega, by omega, by omega⟩), keepsM_grown h3 hg (by omega) hr'⟩
  case ownx =>
    rintro cd pre A A' row ⟨rfl, v, c, l', T', h1, h2, h3, h4, h5, h6, h7⟩ hg hr
    have hr' : ∀ r, row = some r → W0.heap.size ≤ r := fun r e => (hr r e).1
    exact ⟨rfl, v, c, l', T', h1, h2.grown hg fun r e => (hr r e).2, h3, sbox_grown h4 hg (fun r e => by have := hr' r e; exact ⟨by omega, by omega, by omega⟩), keepsM_grown h5 hg (by omega) (fun r e => by have := hr' r e; omega), (hg.block _ (block_lt h6) (fun e => by have := hr' _ e.symm; omega)).trans h6, (hg.block _ (block_lt h7) (fun e => by have := hr' _ e.symm; omega)).trans h7⟩
  case ownp =>
    rintro ch A A' row ⟨q, h1, h2, h3, h4⟩ hg hr
    have hr' : ∀ r, row = some r → W0.heap.size ≤ r := fun r e => (hr r e).1
    exact ⟨q, h1, h2, h3, keepsM_grown h4 hg (by omega) (fun r e => by have := hr' r e; omega)⟩
  case assign =>
    intro r x W' K hK
    gi_wp2
    exact hK
  case stop =>
    rintro D cd pre W' hD hpre ⟨rfl, v, c, l', T', h1, h2, h3, h4, h5, h6, h7⟩ hDef
    have hgr := grownBy_putObj' W' D (.deferred none)
    have y4 := cell_of ((World.putObj_heap_other (w := W') (o := .deferred none) (show W.heap.size + 1 ≠ D by omega)).trans h6) 0
    have y5 := cell_of ((World.putObj_heap_other (w := W') (o := .deferred none) (show W.heap.size + 1 + 1 ≠ D by omega)).trans h7) 0
    refine wpIn_ret ?_
    refine Rp.leaves_one (by simp) hDef (Rp.leaves_ret (v := .tuple #[v, .bool true]) (by simp [results, Try.results147, go_sem, y4, y5]) ?_)
    exact .inr (.inl ⟨v, c, l', T', rfl, h1, h2.grown hgr fun r e => by cases e; exact ⟨_, hDef, rfl⟩, keepsM_grown h5 hgr (by omega) (fun r e => by cases e; omega), sbox_grown h4 hgr (fun r e => by cases e; exact ⟨by omega, by omega, by omega⟩), h3⟩)
  case panic =>
    rintro D ch W' hD ⟨q, e, hq, hp, hk⟩ hDef
    have hgr := grownBy_putObj' W' D (.deferred none)
    exact Rp.leaves_one (by simp) hDef (Rp.leaves_panic (.inl ⟨q, e, hq, keepsM_grown hk hgr (by omega) (fun r e => by cases e; omega), hp⟩))
  case done =>
    rintro D ys W' hD hys ⟨l', T', hGo, hS', hk'⟩ hDef
    rw [hys, List.drop_length] at hGo
    have HGO := hide hGo
    have HSS := hide hS'
    have HKK := hide hk'
    have HDE := hide hDef
    have h4 := (hk'.kept _ (block_lt H4.out) (by omega) (by omega)).trans H4.out
    have h5 := (hk'.kept _ (block_lt H5.out) (by omega) (by omega)).trans H5.out
    have x4 := cell_of h4 0
    have f4 := Bi.frozen_of h4 0
    have x5 := cell_of h5 0
    have f5 := Bi.frozen_of h5 0
    have H4' := hide h4
    have H5' := hide h5
    have HDD := hide hD
    clear hGo hS' hk' hDef hD h4 h5 hM hG hGX hXW hSZ hys
    refine Rp.At.wp ?_
    go_wp2_with fail
    obtain ⟨hY4, hY5, hYO, hYB⟩ := put_two (x' := .slice none 0 0) (y' := .bool false) H4'.out H5'.out (by omega)
    generalize (W'.setCell ⟨W.heap.size + 1, 0, none⟩ (.slice none 0 0)).setCell ⟨W.heap.size + 1 + 1, 0, none⟩ (.bool false) = Y at *
    have hM := HMG.out
    have hG := HGW.out
    have hSZ := HW0.out
    have hD := HDD.out
    have hDY := (hYO D (by omega) (by omega)).trans HDE.out
    have hgr := grownBy_putObj' Y D (.deferred none)
    have y4 := cell_of ((World.putObj_heap_other (w := Y) (o := .deferred none) (show W.heap.size + 1 ≠ D by omega)).trans hY4) 0
    have y5 := cell_of ((World.putObj_heap_other (w := Y) (o := .deferred none) (show W.heap.size + 1 + 1 ≠ D by omega)).trans hY5) 0
    have hWY := HKW.out.trans HKK.out
    have hKY : KeepsM m g W Y := ⟨hWY.below.trans (hYB m (by omega) (by omega)), fun i hi h1 h2 => (hYO i (by omega) (by omega)).trans (hWY.kept i hi h1 h2)⟩
    have hSY : SBox Y g m l' T' := HSS.out.other (hYB m (by omega) (by omega)) (hYO m (by omega) (by omega)) (hYO g (by omega) (by omega))
    refine Rp.leaves_one (by simp) hDY (Rp.leaves_ret (v := .tuple #[.slice none 0 0, .bool false]) (by simp [results, Try.results147, go_sem, y4, y5]) ?_)
    exact .inr (.inr ⟨l', T', rfl, keepsM_grown hKY hgr (by omega) (fun r e => by cases e; omega), sbox_grown hSY hgr (fun r e => by cases e; exact ⟨by omega, by omega, by omega⟩), fun k => HGO.out k⟩)
  case body =>
    rintro r pre x W' ⟨l', T', hGo, hS', hk'⟩ hlen ⟨hl2, hLaid⟩
    have c3 : W'.cell? ⟨W.heap.size, 0, none⟩ = some (.func (.func 104) #[] #[.pointer (some ⟨X, 0, none⟩)]) := cell_of ((hk'.kept _ (block_lt H3.out) (by omega) (by omega)).trans H3.out) 0
    have h4 := (hk'.kept _ (block_lt H4.out) (by omega) (by omega)).trans H4.out
    have h5 := (hk'.kept _ (block_lt H5.out) (by omega) (by omega)).trans H5.out
    have hX' := (hk'.kept _ (block_lt HX0.out) (by omega) (by omega)).trans HX0.out
    obtain ⟨c, hc⟩ : ∃ c, c = qs[pre.length] := ⟨_, rfl⟩
    rw [← hc] at hLaid
    have HCQ : Hid (c ∈ qs) := hide (by rw [hc]; exact List.getElem_mem hl2)
    have HPL : Hid (∀ k, play (scanT qs k) l T = play (.ask (ofP (among c)) fun v => if v = 2 then k (some c) else scanT (qs.drop (pre.length + 1)) k) l' T') := hide fun k => by rw [hGo k, scan_next hl2, hc]
    have HKK := hide hk'
    have HLD := hide hLaid
    have H4' := hide h4
    have H5' := hide h5
    have HC := hide (failsProg hX' hS' HGX.out hLaid.laid (HQ.out c HCQ.out))
    have hcf := enters104
    obtain ⟨ov, cv, rfl, -, -, -⟩ := hLaid
    clear hGo hS' hk' hl2 h4 h5 hX' hM hG hGX hXW hSZ hlen hc
    gi_wp2
    refine ⟨trivial, (CallsIn.inRound r (callsIn_wide.2 HC.out)).mono ?_⟩
    rintro e w5 (⟨rfl, hk, hp⟩ | ⟨y, l2, T2, rfl, hk, hs, hp⟩)
    · have HKF : Hid (KeepsFrom W0.heap.size W' w5) := hide (by
        have h1 := HMG.out; have h2 := HGW.out; have h3 := HW0.out
        exact ⟨hk.below.size, fun k o hk1 hk2 _ => (hk.kept k (block_lt hk2) (by omega) (by omega)).trans hk2⟩)
      have HKK5 := hide (HKW.out.trans (HKK.out.trans hk))
      have HP := hide hp
      clear hk hp c3 hcf
      unfold asks4
      gi_wp2
      exact ⟨rfl, HKF.out, _, rfl, ofP_ok _, fun k => (HPL.out k).trans (HP.out _), HKK5.out⟩
    have HK := hide hk
    have HP := hide hp
    have HS5 := hide hs
    have HLD5 := hide (HLD.out.keep hk.kept)
    have h4 := (hk.kept _ (block_lt H4'.out) (by have := HMG.out; have := HGW.out; have := HW0.out; omega) (by have := HGW.out; omega)).trans H4'.out
    have h5 := (hk.kept _ (block_lt H5'.out) (by have := HMG.out; have := HGW.out; have := HW0.out; omega) (by have := HGW.out; omega)).trans H5'.out
    have H45 := hide h4
    have H55 := hide h5
    clear hk hp hs c3 hcf
    rcases Decidable.em (y = 2) with hy | hy
    · have d1 : (y == (2 : Int)) = true := by simp [hy]
      have HPF : Hid (∀ k, play (scanT qs k) l T = play (k (some c)) l2 T2) := hide fun k => by rw [HPL.out k, HP.out]; simp only [if_pos hy]
      have x4 := cell_of h4 0
      have f4 := Bi.frozen_of h4 0
      have x5 := cell_of h5 0
      have f5 := Bi.frozen_of h5 0
      clear hy h4 h5
      gi_wp2
      obtain ⟨hY4, hY5, hYO, hYB⟩ := put_two (x' := .slice ov c.length cv) (y' := .bool true) H45.out H55.out (by omega)
      have h1 := HMG.out
      have h2 := HGW.out
      have h3 := HW0.out
      have hWY := HKW.out.trans (HKK.out.trans HK.out)
      have hz := HKK.out.below.size
      have hz5 := HK.out.below.size
      refine ⟨⟨Nat.le_trans hz5 (hYB m (by omega) (by omega)).size, fun k o hk1 hk2 _ => (hYO k (by omega) (by omega)).trans ((HK.out.kept k (block_lt hk2) (by omega) (by omega)).trans hk2)⟩, rfl, _, c, l2, T2, HCQ.out, HLD5.out.apart H45.out H55.out (fun _ q => by cases q) (fun _ q => by cases q) hYO, HPF.out, HS5.out.other (hYB m (by omega) (by omega)) (hYO m (by omega) (by omega)) (hYO g (by omega) (by omega)), ⟨hWY.below.trans (hYB m (by omega) (by omega)), fun i hi a b => (hYO i (by omega) (by omega)).trans (hWY.kept i hi a b)⟩, hY4, hY5⟩
    · have d1 : (y == (2 : Int)) = false := beq_false_of_ne hy
      have HPF : Hid (∀ k, play (scanT qs k) l T = play (scanT (qs.drop (pre.length + 1)) k) l2 T2) := hide fun k => by rw [HPL.out k, HP.out]; simp only [if_neg hy]
      clear hy h4 h5
      gi_wp2
      have h1 := HMG.out
      have h2 := HGW.out
      have h3 := HW0.out
      refine ⟨⟨HK.out.below.size, fun k o hk1 hk2 _ => (HK.out.kept k (block_lt hk2) (by omega) (by omega)).trans hk2⟩, ⟨HK.out.below.size, fun i hi a => HK.out.kept i hi (fun q => a (.inl q)) fun q => a (.inr (.inl q))⟩, l2, T2, fun k => by rw [List.length_append]; exact HPF.out k, HS5.out, HKK.out.trans HK.out⟩
end Go.Proofs.Ytmkapmbmgpnjaaa.Se

set_option maxRecDepth 100000
set_option linter.unusedSimpArgs false
set_option linter.unusedVariables false
namespace Go.Proofs.Ytmkapmbmgpnjaaa.Se
open Go Go.Ms Go.Pg Go.Rc Go.Bi Go.Se Go.ChangeShapes Go.WideShapes Go.ChangeAt Go.RowKit Go.Deep Go.Shelf Go.Proofs.Ytmkapmbmgpnjaaa.Bi

attribute [local go_sem] Oper.semAt_some

/-! The chunks, one by one, with what lies in them. -/
theorem chunks_get {d : List Nat} {c k : Nat} (hk : k < c) : ((List.range c).map (piece d c))[k]'(by simpa using hk) = piece d c k := by simp

set_option maxHeartbeats 4000000 in
theorem chunksT1 {l m g H B1 B2 b o cap c : Nat} {Q : Nat → Prop} {W0 : World} {d : List Nat} (hcap : d.length ≤ cap) (hn : d.length ≤ 256) (hc : c ≤ d.length) (hB1 : B1 < H ∧ ¬ Q B1) (hB2 : B2 < H ∧ ¬ Q B2) (J Jx : List Value → World → Prop) (Jp : List PanicEntry → World → Prop)
    (hY : ∀ pre x W, J pre W → pre.length < ((List.range c).map (piece d c)).length → TdQ m g ((List.range c).map (piece d c)) pre x W → YieldAt Fence.wide 2 Try.prog l #[x] W fun e W' => (e = .returned (.bool true) ∧ J (pre ++ [x]) W' ∧ KpP Q W W') ∨ (e = .returned (.bool false) ∧ Jx (pre ++ [x]) W' ∧ KeepsFrom W0.heap.size W W') ∨ (∃ ch, e = .panicked ch ∧ Jp ch W' ∧ KeepsFrom W0.heap.size W W'))
    (W : World) (hW : H ≤ W.heap.size) (h1 : W.cell? ⟨B1, 0, none⟩ = some (.int .i64 c)) (h2 : W.cell? ⟨B2, 0, none⟩ = some (.slice (some ⟨b, o, none⟩) d.length cap)) (hL : ∀ wr, KpP Q W wr → LaidK wr m g (.slice (some ⟨b, o, none⟩) d.length cap) d) (h0 : J [] W) (hd : ∀ pre W, J pre W → J pre W.drew) :
    CallsIn Fence.wide 3 Try.prog 162 #[.func (.yield l) #[] #[], .pointer (some ⟨B1, 0, none⟩), .pointer (some ⟨B2, 0, none⟩)] W fun e W' => ((∃ v, e = .returned v) ∧
      ((∃ ys : List Value, ys.length = ((List.range c).map (piece d c)).length ∧ J ys W') ∨ (∃ pre : List Value, True ∧ Jx pre W'))) ∨ (∃ ch, e = .panicked ch ∧ Jp ch W') := by
  refine callsIn_of_wp Try.func162 rfl trivial ?_ rfl
  simp only [Try.ntmps162, List.size_toArray, List.length_cons, List.length_nil, Nat.reduceAdd, Nat.reduceSub, Array.replicate_succ, Array.replicate_zero, List.push_toArray, List.append_toArray, List.nil_append, List.cons_append]
  gi_wp2
  gi_loopw [6] (fun i wr => ∃ (k : Nat) (pre : List Value), k ≤ c ∧ i = .int .i64 (k : Int) ∧ pre.length = k ∧ J pre wr ∧ KpP Q W wr) (fun i _ => c - (intOf i).toNat)
  case atStart => exact ⟨0, [], Nat.zero_le _, rfl, rfl, h0, KpP.refl _ _⟩
  case round =>
    obtain ⟨k, pre, hk, rfl, hpre, hJ, hB⟩ := hrel
    by_cases hlt : k < c
    · have hk64 : (k : Int) < (c : Int) := by omega
      have hTd : TdQ m g ((List.range c).map (piece d c)) pre (.slice (some ⟨b, o + cut d.length c k, none⟩) (cut d.length c (k + 1) - cut d.length c k) (cap - cut d.length c k)) wr.drew := ⟨by simp; omega, by
        have hp := laidK_part (c := c) (k := k) ((hL wr hB).keep (w' := wr.drew) fun _ _ _ _ => rfl) hlt
        have e : ((List.range c).map (piece d c))[pre.length]'(by simp; omega) = piece d c k := by simp [hpre]
        rw [e]
        exact hp⟩
      obtain ⟨fn, tmps, assign, body, hy, hR⟩ := hY pre _ wr.drew (hd _ _ hJ) (by simp; omega) hTd
      have g1 := (World.cell?_of_block (a := ⟨B1, 0, none⟩) (hB.2 B1 (by omega) hB1.2)).trans h1
      have g2 := (World.cell?_of_block (a := ⟨B2, 0, none⟩) (hB.2 B2 (by omega) hB2.2)).trans h2
      have hc0 : ¬ c = 0 := by omega
      have hw1 : IntKind.i64.wrap ((k : Int) * (d.length : Int)) = (k : Int) * (d.length : Int) := wrap_mul (by omega) (by omega)
      have hw2 : IntKind.i64.wrap ((k : Int) + 1) = (k : Int) + 1 := wrap_small (by omega) (by omega)
      have hw3 : IntKind.i64.wrap (((k : Int) + 1) * (d.length : Int)) = ((k : Int) + 1) * (d.length : Int) := wrap_mul (k := k + 1) (by omega) (by omega)
      have hq1 : IntKind.i64.wrap (((k : Int) * (d.length : Int)).tdiv (c : Int)) = (cut d.length c k : Int) := wrap_div (by omega) (by omega)
      have hq2 : IntKind.i64.wrap ((((k : Int) + 1) * (d.length : Int)).tdiv (c : Int)) = (cut d.length c (k + 1) : Int) := wrap_div (k := k + 1) (by omega) (by omega)
      have hl1 : cut d.length c k < cut d.length c (k + 1) := cut_lt (by omega) hc
      have hl2 : cut d.length c (k + 1) ≤ cap := Nat.le_trans (cut_le (by omega) hlt) hcap
      have hl3 : ¬ cap = cut d.length c k := by omega
      have hl4 : cut d.length c k ≤ cut d.length c (k + 1) := by omega
      gi_wp2
      refine Dr.wpIn_region_head 16 { tmps := #[.func (.yield l) #[] #[], .pointer (some ⟨B1, 0, none⟩), .pointer (some ⟨B2, 0, none⟩), undef, .int .i64 (k : Int), .int .i64 (c : Int), .int .i64 (k : Int), .bool true, .int .i64 (k : Int),
          .func (.yield l) #[] #[], .slice (some ⟨b, o, none⟩) d.length cap, .int .i64 (k : Int), .slice (some ⟨b, o, none⟩) d.length cap, .int .i64 (d.length : Int), .int .i64 ((k * d.length : Nat) : Int), .int .i64 (c : Int), .int .i64 (cut d.length c k : Int),
          .int .i64 (k : Int), .int .i64 ((k + 1 : Nat) : Int), .slice (some ⟨b, o, none⟩) d.length cap, .int .i64 (d.length : Int), .int .i64 (((k + 1) * d.length : Nat) : Int), .int .i64 (c : Int), .int .i64 (cut d.length c (k + 1) : Int),
          .slice (some ⟨b, o + cut d.length c k, none⟩) (cut d.length c (k + 1) - cut d.length c k) (cap - cut d.length c k), u25, u26, u27], defers := [] } rfl (by kernel_rfl) (by kernel_rfl) rfl rfl ?_ ?_ ?_
      · intro t h
        match t, h with
        | 0, _ => rfl
        | 1, _ => rfl
        | 2, _ => rfl
        | 3, _ => rfl
        | 4, _ => rfl
        | 5, _ => rfl
        | 6, _ => rfl
        | 7, _ => rfl
        | 8, _ => rfl
        | 9, h => exact absurd rfl (h 0 (by omega))
        | 10, h => exact absurd rfl (h 1 (by omega))
        | 11, h => exact absurd rfl (h 2 (by omega))
        | 12, h => exact absurd rfl (h 3 (by omega))
        | 13, h => exact absurd rfl (h 4 (by omega))
        | 14, h => exact absurd rfl (h 5 (by omega))
        | 15, h => exact absurd rfl (h 6 (by omega))
        | 16, h => exact absurd rfl (h 7 (by omega))
        | 17, h => exact absurd rfl (h 8 (by omega))
        | 18, h => exact absurd rfl (h 9 (by omega))
        | 19, h => exact absurd rfl (h 10 (by omega))
        | 20, h => exact absurd rfl (h 11 (by omega))
        | 21, h => exact absurd rfl (h 12 (by omega))
        | 22, h => exact absurd rfl (h 13 (by omega))
        | 23, h => exact absurd rfl (h 14 (by omega))
        | 24, h => exact absurd rfl (h 15 (by omega))
        | 25, _ => rfl
        | 26, _ => rfl
        | 27, _ => rfl
        | t + 28, _ => simp
      · intro i hi
        match i, hi with
        | 0, _ => exact ⟨_, _, _, rfl, rfl, rfl, (fun _ _ h => by cases h), rfl, rfl⟩
        | 1, _ => exact ⟨_, _, _, rfl, rfl, rfl, (fun _ _ h => by cases h), by go_simp, rfl⟩
        | 2, _ => exact ⟨_, _, _, rfl, rfl, rfl, (fun _ _ h => by cases h), rfl, rfl⟩
        | 3, _ => exact ⟨_, _, _, rfl, rfl, rfl, (fun _ _ h => by cases h), by go_simp, rfl⟩
        | 4, _ => exact ⟨_, _, _, rfl, rfl, rfl, (fun _ _ h => by cases h), by go_simp, by go_simp⟩
        | 5, _ => exact ⟨_, _, _, rfl, rfl, rfl, (fun _ _ h => by cases h), by go_simp, rfl⟩
        | 6, _ => exact ⟨_, _, _, rfl, rfl, rfl, (fun _ _ h => by cases h), by go_simp, rfl⟩
        | 7, _ => exact ⟨_, _, _, rfl, rfl, rfl, (fun _ _ h => by cases h), by go_simp, rfl⟩
        | 8, _ => exact ⟨_, _, _, rfl, rfl, rfl, (fun _ _ h => by cases h), rfl, rfl⟩
        | 9, _ => exact ⟨_, _, _, rfl, rfl, rfl, (fun _ _ h => by cases h), by go_simp, rfl⟩
        | 10, _ => exact ⟨_, _, _, rfl, rfl, rfl, (fun _ _ h => by cases h), by go_simp, rfl⟩
        | 11, _ => exact ⟨_, _, _, rfl, rfl, rfl, (fun _ _ h => by cases h), by go_simp, by go_simp⟩
        | 12, _ => exact ⟨_, _, _, rfl, rfl, rfl, (fun _ _ h => by cases h), by go_simp, rfl⟩
        | 13, _ => exact ⟨_, _, _, rfl, rfl, rfl, (fun _ _ h => by cases h), by go_simp, rfl⟩
        | 14, _ => exact ⟨_, _, _, rfl, rfl, rfl, (fun _ _ h => by cases h), by go_simp, rfl⟩
        | 15, _ => exact ⟨_, _, _, rfl, rfl, rfl, (fun _ _ h => by cases h), by go_simp, rfl⟩
        | i + 16, hi => exact absurd hi (by omega)
      · clear hTd
        gi_wp2
        refine hR.mono ?_
        rintro e W3 (⟨rfl, hJ3, hk3⟩ | ⟨rfl, hJx3, -⟩ | ⟨ch, rfl, hJp3, -⟩)
        · gi_wp2
          go_roundw
          case rel => exact ⟨k + 1, _, by omega, by go_num, by simp [hpre], hJ3, hB.trans ⟨hk3.1, hk3.2⟩⟩
          case measure => simp [intOf]; omega
        · gi_wp2
          refine bodyPost_ret (results_none rfl _ _ _) rfl ?_
          exact .inl ⟨⟨_, rfl⟩, .inr ⟨_, trivial, hJx3⟩⟩
        · gi_wp2
          exact ⟨rfl, .inr ⟨_, rfl, hJp3⟩⟩
    · obtain rfl : k = c := by omega
      gi_wp2
      go_end0
      exact .inl ⟨⟨_, rfl⟩, .inl ⟨pre, by simp [hpre], hJ⟩⟩


theorem chunksT {m g B1 B2 b o cap c : Nat} {Q : Nat → Prop} {d : List Nat} {w0 : World} (hcap : d.length ≤ cap) (hn : d.length ≤ 256) (hc : c ≤ d.length) (hB1 : B1 < w0.heap.size ∧ ¬ Q B1) (hB2 : B2 < w0.heap.size ∧ ¬ Q B2)
    (h1 : w0.cell? ⟨B1, 0, none⟩ = some (.int .i64 c)) (h2 : w0.cell? ⟨B2, 0, none⟩ = some (.slice (some ⟨b, o, none⟩) d.length cap)) (hL : LaidK w0 m g (.slice (some ⟨b, o, none⟩) d.length cap) d) (hH : ∀ i (_ : i < d.length), ∃ b' o', some (⟨b, o, none⟩ : Addr) = some ⟨b', o', none⟩ ∧ b' < w0.heap.size ∧ ¬ Q b') :
    Rp.StopsT Try.prog 162 #[.pointer (some ⟨B1, 0, none⟩), .pointer (some ⟨B2, 0, none⟩)] (fun v : Value => #[v]) (KpP Q) (TdQ m g ((List.range c).map (piece d c))) (fun ys => ys.length = ((List.range c).map (piece d c)).length) (fun _ => True) ((List.range c).map (piece d c)).length w0 := by
  intro l J Jx Jp W hW _ hJ _ _ hY h0
  have hL0 : ∀ wr, KpP Q W wr → LaidK wr m g (.slice (some ⟨b, o, none⟩) d.length cap) d := fun wr hk => by
    obtain ⟨oa, cap', e, q1, q2, hx⟩ := hL
    injection e with e1 e2 e3
    subst e1 e3
    refine ⟨_, _, rfl, q1, q2, fun i hi => ?_⟩
    obtain ⟨b1, o1, e1, hb1, hc1⟩ := hx i hi
    obtain ⟨b2, o2, e2, hb2, hq2⟩ := hH i hi
    injection e1 with e1
    injection e1 with e3 e4
    subst e3 e4
    injection e2 with e2
    injection e2 with e3 e4
    subst e3 e4
    exact ⟨_, _, rfl, hb1, (World.cell?_of_block (a := ⟨b, o + i, none⟩) ((hk.2 b (by have := hW.size; omega) hq2).trans (hW.block b hb2))).trans hc1⟩
  exact chunksT1 (W0 := W) (H := w0.heap.size) hcap hn hc hB1 hB2 J Jx Jp hY W hW.size ((hW.cell (p := ⟨B1, 0, none⟩) hB1.1).trans h1) ((hW.cell (p := ⟨B2, 0, none⟩) hB2.1).trans h2) hL0 h0
    fun pre W1 h => hJ pre W1 W1.drew none h ⟨rfl, rfl, rfl, Nat.le_refl _, fun _ _ _ => rfl⟩ (fun r e => by cases e)
end Go.Proofs.Ytmkapmbmgpnjaaa.Se

