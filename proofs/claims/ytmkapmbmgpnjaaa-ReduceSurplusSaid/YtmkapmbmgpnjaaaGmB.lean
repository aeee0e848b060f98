import Derived.Test.YtmkapmbmgpnjaaaGeF
import Derived.Deep.RegionHeld3
set_option maxRecDepth 100000
set_option linter.unusedSimpArgs false
set_option linter.unusedVariables false
namespace Go.Proofs.Ytmkapmbmgpnjaaa.Se
open Go Go.Ms Go.Pg Go.Bi Go.Se Go.ChangeShapes Go.WideShapes Go.ChangeAt Go.RowKit Go.Deep Go.Proofs.Ytmkapmbmgpnjaaa.Bi

def lacks (xs : List Nat) (x : Nat) : Nat → Bool := fun i => among xs i && !among [x] i
def rem (all : List Nat) : List Nat → List Int → Rs
  | [], l => .fin [] [] l
  | x :: _, [] => .ask (lacks all x)
  | x :: xs, a :: l => if a = 2 then .fin [(x : Int)] [] l else rem all xs l

theorem Sp.same {p q : Nat → Bool} {a b c d : Nat} (h : Sp p a b c d) (k : Sp q a b c d) {n : Nat} (hn : n < 256) : p n = q n := by
  rcases (show n < 64 ∨ (64 ≤ n ∧ n < 128) ∨ (128 ≤ n ∧ n < 192) ∨ 192 ≤ n by omega) with e | ⟨e, f⟩ | ⟨e, f⟩ | e
  · rw [h.h0 n e, k.h0 n e]
  · rw [show n = 64 + (n - 64) by omega, h.h1 _ (by omega), k.h1 _ (by omega)]
  · rw [show n = 128 + (n - 128) by omega, h.h2 _ (by omega), k.h2 _ (by omega)]
  · rw [show n = 192 + (n - 192) by omega, h.h3 _ (by omega), k.h3 _ (by omega)]
theorem Sp.ok {p : Nat → Bool} {q : Q4} (h : Sp p q.a q.b q.c q.d) : q.Ok := ⟨h.ha, h.hb, h.hc, h.hd⟩
theorem memo_mem {T : List (Q4 × Int)} {q : Q4} {v : Int} (h : memo T q = some v) : ∃ e ∈ T, e.1 = q := by
  induction T with
  | nil => cases h
  | cons e T ih =>
    unfold memo at h
    by_cases c : e.1 = q
    · exact ⟨e, by simp, c⟩
    · rw [if_neg c] at h
      obtain ⟨f, hf, he⟩ := ih h
      exact ⟨f, by simp [hf], he⟩
def Earlier (xs : List Nat) (k : Nat) (T : List (Q4 × Int)) : Prop := ∀ e ∈ T, ∃ j, ∃ h : j < xs.length, j < k ∧ Sp (lacks xs xs[j]) e.1.a e.1.b e.1.c e.1.d
theorem fresh {xs : List Nat} (hx : ∀ n ∈ xs, n < 256) (hd : xs.Pairwise (· < ·)) {k : Nat} (hk : k < xs.length) {T : List (Q4 × Int)} (hT : Earlier xs k T) {q : Q4} (hq : Sp (lacks xs xs[k]) q.a q.b q.c q.d) : memo T q = none := by
  cases hm : memo T q with
  | none => rfl
  | some v =>
    obtain ⟨e, he, rfl⟩ := memo_mem hm
    obtain ⟨j, hj, hjk, hs⟩ := hT e he
    have hlt := List.pairwise_iff_getElem.1 hd j k hj hk hjk
    have := Sp.same hs hq (hx _ (List.getElem_mem hj))
    have e1 : among xs xs[j] = true := by simp [among]
    have e2 : among [xs[k]] xs[j] = false := by simp [among]; omega
    have e3 : among [xs[j]] xs[j] = true := by simp [among]
    simp [lacks, e1, e2, e3] at this
theorem rem_next {all xs : List Nat} {k : Nat} (hk : k < xs.length) {a : Int} {l : List Int} (ha : a ≠ 2) : rem all (xs.drop k) (a :: l) = rem all (xs.drop (k + 1)) l := by
  rw [List.drop_eq_getElem_cons hk]
  simp [rem, ha]
theorem rem_found {all xs : List Nat} {k : Nat} (hk : k < xs.length) {l : List Int} : rem all (xs.drop k) (2 :: l) = .fin [(xs[k] : Int)] [] l := by
  rw [List.drop_eq_getElem_cons hk]
  simp [rem]
theorem rem_asks {all xs : List Nat} {k : Nat} (hk : k < xs.length) : rem all (xs.drop k) [] = .ask (lacks all xs[k]) := by
  rw [List.drop_eq_getElem_cons hk]
  simp [rem]
theorem rem_end {all xs : List Nat} {l : List Int} : rem all (xs.drop xs.length) l = .fin [] [] l := by simp [rem]
theorem own_built {w : World} {B b : Nat} {x : Int} (h : w.heap[b]? = some (.cells #[.int .i64 x] 3 (0, 0))) (hB : B ≤ b) : Go.Il.Own 3 .i64 B w (.slice (some ⟨b, 0, none⟩) 1 1) [x] :=
  ⟨rfl, .inr ⟨b, 1, _, rfl, hB, h, Nat.le_refl _, by simp [maxLen], by simp, by simp⟩⟩
end Go.Proofs.Ytmkapmbmgpnjaaa.Se

set_option maxRecDepth 100000
set_option linter.unusedSimpArgs false
set_option linter.unusedVariables false
namespace Go.Proofs.Ytmkapmbmgpnjaaa.Se
open Go Go.Ms Go.Pg Go.Bi Go.Se Go.ChangeShapes Go.WideShapes Go.ChangeAt Go.RowKit Go.Deep Go.Proofs.Ytmkapmbmgpnjaaa.Bi

theorem takeAt {P : Program} {ops : Array Oper} {Q : Exit → Act → World → Prop} {md : Region.Mode} {S : World → Prop} {i : Nat} {oi : Oper} {d : Option Tmp} {v : Value} {fuel : Nat} {listed : Array Bool} {a : Act} {w : World} (hi : ops[i]? = some oi) (hd : oi.dst = d)
    (hs : Region.noSelect ops = true) (hf : Region.free md ops listed i = true) (hr : (Region.ready md ops listed).contains i = true)
    (hQ : ∀ c a w, Q (.panic c) (a.put d v) w → Q (.panic c) a w) (hy : YieldsIf P ops S oi v a) (hS : S w)
    (h : wpAnyH P md ops Q S fuel (listed.setIfInBounds i true) (a.put d v) w) : wpAnyH P md ops Q S (fuel + 1) listed a w := by
  subst hd
  exact wpAnyH_take hi hs hf hr hQ hy hS h
theorem keepsM_put {m g : Nat} {w0 w : World} {R : Nat} {d : Bool} {a k p : Value} (hm : m ≤ R) (h : KeepsM m g w0 w) (hR : w0.heap.size ≤ R) : KeepsM m g w0 (putQ w R d a k p) :=
  ⟨putQ_below h.below hm, fun b hb h1 h2 => (putQ_other (by omega)).trans (h.kept b hb h1 h2)⟩
theorem sbox_put {g m : Nat} {w : World} {l : List Int} {T : List (Q4 × Int)} {R : Nat} {d : Bool} {a k p : Value} (h : SBox w g m l T) (hR : g < R) : SBox (putQ w R d a k p) g m l T :=
  h.other (putQ_below (Below.refl m w) (by have := h.lt; omega)) (putQ_other (by have := h.lt; omega)) (putQ_other (by omega))
def NatsM (w : World) (m : Nat) (v : Value) (xs : List Nat) : Prop := ∃ oa cap, v = .slice oa xs.length cap ∧ xs.length ≤ 9223372036854775807 ∧ ∀ i (h : i < xs.length), ∃ b o, oa = some ⟨b, o, none⟩ ∧ b < m ∧ w.cell? ⟨b, o + i, none⟩ = some (.int .i64 (xs[i] : Int))
theorem NatsM.nats {w : World} {m : Nat} {v : Value} {xs : List Nat} (h : NatsM w m v xs) : Nats w v xs := by
  obtain ⟨oa, cap, rfl, hl, hc⟩ := h
  exact ⟨oa, cap, rfl, hl, fun i hi => by
    obtain ⟨b, o, e, _, hx⟩ := hc i hi
    exact ⟨b, o, e, hx⟩⟩
theorem NatsM.keep {w w' : World} {m : Nat} {v : Value} {xs : List Nat} (h : NatsM w m v xs) (hB : Below m w w') : NatsM w' m v xs := by
  obtain ⟨oa, cap, rfl, hl, hc⟩ := h
  exact ⟨oa, cap, rfl, hl, fun i hi => by
    obtain ⟨b, o, e, hb, hx⟩ := hc i hi
    exact ⟨b, o, e, hb, (hB.cell (p := ⟨b, o + i, none⟩) hb).trans hx⟩⟩
theorem nats_one {w : World} {B v : Nat} (hc : w.cell? ⟨B, 0, none⟩ = some (.int .i64 (v : Int))) : Nats w (.slice (some ⟨B, 0, none⟩) 1 1) [v] := Bi.nats_one hc
end Go.Proofs.Ytmkapmbmgpnjaaa.Se

