import Derived.WalkKit
import Derived.ProofKit
import Derived.OpenShut
import Derived.Deep.Slices
import Derived.Deep.Strs
import Derived.Below
set_option maxRecDepth 100000
namespace Go.Pg
open Go Go.ChangeShapes Go.WideShapes Go.ChangeAt Go.RowKit

/-! Programs as they lie in memory: trees of nodes. -/

inductive Nd where
  | mk (kind : Int) (text : ByteArray) (num : Int) (subs : List Nd) (params : List ByteArray) (body els : List Nd)

namespace Nd
def kind : Nd → Int | mk k _ _ _ _ _ _ => k
def text : Nd → ByteArray | mk _ t _ _ _ _ _ => t
def num : Nd → Int | mk _ _ n _ _ _ _ => n
def subs : Nd → List Nd | mk _ _ _ s _ _ _ => s
def params : Nd → List ByteArray | mk _ _ _ _ p _ _ => p
def body : Nd → List Nd | mk _ _ _ _ _ b _ => b
def els : Nd → List Nd | mk _ _ _ _ _ _ e => e
instance : Inhabited Nd := ⟨mk 0 .empty 0 [] [] [] []⟩
theorem eq_iff {a b : Nd} : a = b ↔ a.kind = b.kind ∧ a.text = b.text ∧ a.num = b.num ∧ a.params = b.params ∧ a.subs = b.subs ∧ a.body = b.body ∧ a.els = b.els := by
  cases a; cases b
  simp only [Nd.mk.injEq, kind, text, num, subs, params, body, els]
  constructor
  · rintro ⟨h1, h2, h3, h4, h5, h6, h7⟩; exact ⟨h1, h2, h3, h5, h4, h6, h7⟩
  · rintro ⟨h1, h2, h3, h5, h4, h6, h7⟩; exact ⟨h1, h2, h3, h4, h5, h6, h7⟩
end Nd

structure Fd where
  name : ByteArray
  params : List ByteArray
  body : List Nd
instance : Inhabited Fd := ⟨⟨.empty, [], []⟩⟩

def StrsAt (w : World) (v : Value) (l : List ByteArray) : Prop :=
  ∃ (oa : Option Addr) (cap : Nat), v = .slice oa l.length cap ∧ l.length ≤ maxLen ∧ ∀ i (h : i < l.length), ∃ b o, oa = some ⟨b, o, none⟩ ∧ w.cell? ⟨b, o + i, none⟩ = some (.string l[i]) ∧ l[i].size ≤ maxLen

structure NodeAt (w : World) (K : Value → List Nd → Prop) (b p : Nat) (x : Nd) (vs vp vb ve : Value) : Prop where
  kind : w.cell? ⟨b, p, none⟩ = some (.int .u8 x.kind)
  text : w.cell? ⟨b, p + 1, none⟩ = some (.string x.text)
  num : w.cell? ⟨b, p + 2, none⟩ = some (.int .i64 x.num)
  subs : w.cell? ⟨b, p + 3, none⟩ = some vs
  params : w.cell? ⟨b, p + 4, none⟩ = some vp
  body : w.cell? ⟨b, p + 5, none⟩ = some vb
  els : w.cell? ⟨b, p + 6, none⟩ = some ve
  wfk : (Lit.int .u8 x.kind).wf = true
  wft : x.text.size ≤ maxLen
  wfn : (Lit.int .i64 x.num).wf = true
  ksubs : K vs x.subs
  kparams : StrsAt w vp x.params
  kbody : K vb x.body
  kels : K ve x.els

def NodesAt (w : World) : Nat → Value → List Nd → Prop
  | 0, _, _ => False
  | n + 1, v, l => ∃ (oa : Option Addr) (cap : Nat), v = .slice oa l.length cap ∧ l.length ≤ maxLen ∧ ∀ i (h : i < l.length), ∃ b o vs vp vb ve, oa = some ⟨b, o, none⟩ ∧ NodeAt w (NodesAt w n) b (o + i * 7) l[i] vs vp vb ve

structure FuncAt (w : World) (n : Nat) (b p : Nat) (x : Fd) (vp vb : Value) : Prop where
  name : w.cell? ⟨b, p, none⟩ = some (.string x.name)
  params : w.cell? ⟨b, p + 1, none⟩ = some vp
  body : w.cell? ⟨b, p + 2, none⟩ = some vb
  wft : x.name.size ≤ maxLen
  kparams : StrsAt w vp x.params
  kbody : NodesAt w n vb x.body

def FuncsAt (w : World) (n : Nat) (v : Value) (l : List Fd) : Prop :=
  ∃ (oa : Option Addr) (cap : Nat), v = .slice oa l.length cap ∧ l.length ≤ maxLen ∧ ∀ i (h : i < l.length), ∃ b o vp vb, oa = some ⟨b, o, none⟩ ∧ FuncAt w n b (o + i * 3) l[i] vp vb

theorem NodeAt.imp {w : World} {K K' : Value → List Nd → Prop} (h : ∀ v l, K v l → K' v l) {b p : Nat} {x : Nd} {vs vp vb ve : Value} (k : NodeAt w K b p x vs vp vb ve) : NodeAt w K' b p x vs vp vb ve :=
  ⟨k.kind, k.text, k.num, k.subs, k.params, k.body, k.els, k.wfk, k.wft, k.wfn, h _ _ k.ksubs, k.kparams, h _ _ k.kbody, h _ _ k.kels⟩

theorem NodesAt.succ {w : World} : ∀ (n : Nat) (v : Value) (l : List Nd), NodesAt w n v l → NodesAt w (n + 1) v l
  | 0, _, _, h => h.elim
  | n + 1, v, l, ⟨oa, cap, h1, h2, h3⟩ => by
    refine ⟨oa, cap, h1, h2, fun i hi => ?_⟩
    obtain ⟨b, o, vs, vp, vb, ve, e, k⟩ := h3 i hi
    exact ⟨b, o, vs, vp, vb, ve, e, k.imp (NodesAt.succ n)⟩
theorem NodesAt.le {w : World} {n m : Nat} (h : n ≤ m) {v : Value} {l : List Nd} (k : NodesAt w n v l) : NodesAt w m v l := by
  induction h with
  | refl => exact k
  | step _ ih => exact NodesAt.succ _ _ _ ih

structure NT (P : Program) (tNs tN tK tS tI tSs : TypeId) (f0 f1 f2 f3 f4 f5 f6 : Field) : Prop where
  uNs : P.underlying tNs = some (.slice tN)
  uN : P.underlying tN = some (.struct #[f0, f1, f2, f3, f4, f5, f6])
  cN : P.cellsOf tN = 7
  uK : P.underlying tK = some (.int .u8)
  uS : P.underlying tS = some .string
  uI : P.underlying tI = some (.int .i64)
  uSs : P.underlying tSs = some (.slice tS)
  cS : P.cellsOf tS = 1
  q0 : f0.type = tK ∧ f0.offset = 0 ∧ P.cellsOf tK = 1
  q1 : f1.type = tS ∧ f1.offset = 1
  q2 : f2.type = tI ∧ f2.offset = 2 ∧ P.cellsOf tI = 1
  q3 : f3.type = tNs ∧ f3.offset = 3 ∧ P.cellsOf tNs = 1
  q4 : f4.type = tSs ∧ f4.offset = 4 ∧ P.cellsOf tSs = 1
  q5 : f5.type = tNs ∧ f5.offset = 5
  q6 : f6.type = tNs ∧ f6.offset = 6

section
variable {H : Type} {enc : TypeId × Value → H} {P : Program} {w : World} {base : Nat} {spare : Nat → Bool} {held : Bool}

theorem seven {cs : List Value} (h : cs.length = 7) : ∃ c0 c1 c2 c3 c4 c5 c6, cs = [c0, c1, c2, c3, c4, c5, c6] := by
  match cs, h with
  | [c0, c1, c2, c3, c4, c5, c6], _ => exact ⟨c0, c1, c2, c3, c4, c5, c6, rfl⟩

theorem three {cs : List Value} (h : cs.length = 3) : ∃ c0 c1 c2, cs = [c0, c1, c2] := by
  match cs, h with
  | [c0, c1, c2], _ => exact ⟨c0, c1, c2, rfl⟩

end
/-! What was there stays. -/
theorem cell_lt {w : World} {b o : Nat} {v : Value} (h : w.cell? ⟨b, o, none⟩ = some v) : b < w.heap.size := by
  unfold World.cell? at h
  split at h
  · rename_i q; exact (Array.getElem?_eq_some_iff.1 q).1
  · cases h
theorem cell_below {w w' : World} (hB : Below w.heap.size w w') {b o : Nat} {v : Value} (h : w.cell? ⟨b, o, none⟩ = some v) : w'.cell? ⟨b, o, none⟩ = some v := by
  rw [hB.cell (p := ⟨b, o, none⟩) (cell_lt h)]; exact h

theorem StrsAt.below {w w' : World} (hB : Below w.heap.size w w') {v : Value} {l : List ByteArray} (h : StrsAt w v l) : StrsAt w' v l := by
  obtain ⟨oa, cap, h1, h2, h3⟩ := h
  refine ⟨oa, cap, h1, h2, fun i hi => ?_⟩
  obtain ⟨b, o, e, c, s⟩ := h3 i hi
  exact ⟨b, o, e, cell_below hB c, s⟩

theorem NodeAt.below {w w' : World} (hB : Below w.heap.size w w') {K K' : Value → List Nd → Prop} (hK : ∀ v l, K v l → K' v l) {b p : Nat} {x : Nd} {vs vp vb ve : Value} (k : NodeAt w K b p x vs vp vb ve) : NodeAt w' K' b p x vs vp vb ve :=
  ⟨cell_below hB k.kind, cell_below hB k.text, cell_below hB k.num, cell_below hB k.subs, cell_below hB k.params, cell_below hB k.body, cell_below hB k.els, k.wfk, k.wft, k.wfn, hK _ _ k.ksubs, k.kparams.below hB, hK _ _ k.kbody, hK _ _ k.kels⟩

theorem NodesAt.below {w w' : World} (hB : Below w.heap.size w w') : ∀ (n : Nat) (v : Value) (l : List Nd), NodesAt w n v l → NodesAt w' n v l
  | 0, _, _, h => h.elim
  | n + 1, v, l, ⟨oa, cap, h1, h2, h3⟩ => by
    refine ⟨oa, cap, h1, h2, fun i hi => ?_⟩
    obtain ⟨b, o, vs, vp, vb, ve, e, k⟩ := h3 i hi
    exact ⟨b, o, vs, vp, vb, ve, e, k.below hB (NodesAt.below hB n)⟩

theorem FuncAt.below {w w' : World} (hB : Below w.heap.size w w') {n b p : Nat} {x : Fd} {vp vb : Value} (k : FuncAt w n b p x vp vb) : FuncAt w' n b p x vp vb :=
  ⟨cell_below hB k.name, cell_below hB k.params, cell_below hB k.body, k.wft, k.kparams.below hB, k.kbody.below hB⟩
theorem FuncsAt.below {w w' : World} (hB : Below w.heap.size w w') {n : Nat} {v : Value} {l : List Fd} (h : FuncsAt w n v l) : FuncsAt w' n v l := by
  obtain ⟨oa, cap, h1, h2, h3⟩ := h
  refine ⟨oa, cap, h1, h2, fun i hi => ?_⟩
  obtain ⟨b, o, vp, vb, e, k⟩ := h3 i hi
  exact ⟨b, o, vp, vb, e, k.below hB⟩

theorem eq_of_get {α : Type} {l m : List α} (h : l.length = m.length) (k : ∀ j, j < l.length → l[j]? = m[j]?) : l = m := by
  apply List.ext_getElem?
  intro j
  by_cases q : j < l.length
  · exact k j q
  · rw [List.getElem?_eq_none (by omega), List.getElem?_eq_none (by omega)]
theorem get_succ {α : Type} {l m : List α} {k : Nat} (h : ∀ j, j < k → l[j]? = m[j]?) (hl : k < l.length) (hm : k < m.length) (e : l[k] = m[k]) : ∀ j, j < k + 1 → l[j]? = m[j]? := by
  intro j hj
  by_cases q : j = k
  · subst q; rw [List.getElem?_eq_getElem hl, List.getElem?_eq_getElem hm, e]
  · exact h j (by omega)
theorem ne_of_get {α : Type} {l m : List α} {k : Nat} (hl : k < l.length) (hm : k < m.length) (e : ¬ l[k] = m[k]) : ¬ l = m := by
  rintro rfl; exact e rfl
theorem ne_of_length {α : Type} {l m : List α} (h : ((l.length : Int) != (m.length : Int)) = true) : ¬ l = m := by
  rintro rfl; simp at h
theorem length_of {α β : Type} {l : List α} {m : List β} (h : ((l.length : Int) != (m.length : Int)) = false) : l.length = m.length := by
  simp at h; omega

theorem bytes_toList (s : ByteArray) : s.toList = s.data.toList := by
  have h : ∀ (n i : Nat) (r : List UInt8), s.size - i ≤ n → ByteArray.toList.loop s i r = r.reverse ++ s.data.toList.drop i := by
    intro n
    induction n with
    | zero =>
      intro i r h
      rw [ByteArray.toList.loop]
      have : ¬ i < s.size := by omega
      rw [if_neg this]
      have hl : s.data.toList.length ≤ i := by
        have : s.data.toList.length = s.size := by simp
        omega
      rw [List.drop_eq_nil_of_le hl]
      simp
    | succ n ih =>
      intro i r h
      rw [ByteArray.toList.loop]
      by_cases q : i < s.size
      · rw [if_pos q, ih (i + 1) _ (by omega)]
        have hl : i < s.data.toList.length := by
          have : s.data.toList.length = s.size := by simp
          omega
        have hd := List.drop_eq_getElem_cons hl
        rw [hd]
        have hg : s.get! i = s.data.toList[i] := by
          show s.data[i]! = _
          rw [getElem!_pos s.data i (by simpa using hl)]
          simp
        rw [hg]
        simp
      · rw [if_neg q]
        have hl : s.data.toList.length ≤ i := by
          have : s.data.toList.length = s.size := by simp
          omega
        rw [List.drop_eq_nil_of_le hl]
        simp
  unfold ByteArray.toList
  rw [h _ 0 [] (Nat.le_refl _)]
  simp
theorem beq_bytes {a b : ByteArray} : (a.toList == b.toList) = true ↔ a = b := by
  rw [beq_iff_eq, bytes_toList, bytes_toList]
  constructor
  · intro h; exact ByteArray.ext (Array.toList_inj.1 h)
  · rintro rfl; rfl
theorem nbeq_bytes {a b : ByteArray} (h : (!a.toList == b.toList) = true) : ¬ a = b := by
  rintro rfl; simp at h
theorem beq_bytes' {a b : ByteArray} (h : (!a.toList == b.toList) = false) : a = b := by
  simp only [Bool.not_eq_eq_eq_not, Bool.not_false] at h; exact beq_bytes.1 h
theorem NodesAt.slice {w : World} : ∀ {n : Nat} {v : Value} {l : List Nd}, NodesAt w n v l → ∃ oa cap, v = .slice oa l.length cap
  | 0, _, _, h => h.elim
  | _ + 1, _, _, ⟨oa, cap, h, _⟩ => ⟨oa, cap, h⟩
theorem StrsAt.slice {w : World} {v : Value} {l : List ByteArray} (h : StrsAt w v l) : ∃ oa cap, v = .slice oa l.length cap := by
  obtain ⟨oa, cap, h, _⟩ := h; exact ⟨oa, cap, h⟩
end Go.Pg
