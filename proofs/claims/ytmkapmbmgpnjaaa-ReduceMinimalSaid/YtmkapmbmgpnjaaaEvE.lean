import Derived.Calls
import Derived.Below
import Derived.Orders
namespace Go.Ev
open Go.RowKit

structure Loc where
  block : Nat
  shift : Nat
  sz : Nat
  csize : Nat

structure Ren where
  n : Nat
  f : Nat → Loc
  on : Nat → Prop
  lt : ∀ i, on i → i < n

def Ren.le (r s : Ren) : Prop := r.n ≤ s.n ∧ ∀ i, r.on i → s.on i ∧ s.f i = r.f i

theorem Ren.le_refl (r : Ren) : r.le r := ⟨Nat.le_refl _, fun _ h => ⟨h, rfl⟩⟩
theorem Ren.le_trans {r s t : Ren} (h : r.le s) (k : s.le t) : r.le t :=
  ⟨Nat.le_trans h.1 k.1, fun i hi => ⟨(k.2 i (h.2 i hi).1).1, (k.2 i (h.2 i hi).1).2.trans (h.2 i hi).2⟩⟩

abbrev junk : Value := .tuple #[.tuple #[]]

def isJunk : Value → Bool
  | .tuple vs => vs.size == 1 && (match (vs[0]? : Option Value) with | some (.tuple us) => us.size == 0 | _ => false)
  | _ => false

theorem isJunk_junk : isJunk junk = true := rfl

def AR (ρ : Ren) (a a' : Addr) : Prop :=
  ρ.on a.block ∧ a'.block = (ρ.f a.block).block ∧ a'.off = a.off + (ρ.f a.block).shift ∧ a'.spot = a.spot

def BR (ρ : Ren) (r r' : Nat) : Prop := ρ.on r ∧ r' = (ρ.f r).block

def SLR (ρ : Ren) (a : Addr) (cap : Nat) (a' : Addr) (cap' : Nat) : Prop :=
  AR ρ a a' ∧ cap ≤ cap' ∧ (cap' = cap ∨ (0 < (ρ.f a.block).sz ∧ a'.off + cap' * (ρ.f a.block).sz ≤ (ρ.f a.block).csize))

def FnR (ρ : Ren) : Fn → Fn → Prop
  | .yield l, .yield l' => BR ρ l l'
  | .yield _, _ => False
  | _, .yield _ => False
  | f, f' => f = f'

inductive VR (ρ : Ren) : Value → Value → Prop
  | junk (v' : Value) : VR ρ junk v'
  | bool (b : Bool) : VR ρ (.bool b) (.bool b)
  | int (k : IntKind) (n : Int) : VR ρ (.int k n) (.int k n)
  | float (k : FloatKind) (n : Nat) : VR ρ (.float k n) (.float k n)
  | complex (k : FloatKind) (m n : Nat) : VR ρ (.complex k m n) (.complex k m n)
  | string (s : ByteArray) : VR ρ (.string s) (.string s)
  | pnone : VR ρ (.pointer none) (.pointer none)
  | psome {a a' : Addr} : AR ρ a a' → VR ρ (.pointer (some a)) (.pointer (some a'))
  | snone (n c : Nat) : VR ρ (.slice none n c) (.slice none n c)
  | ssome {a a' : Addr} {n c c' : Nat} : SLR ρ a c a' c' → VR ρ (.slice (some a) n c) (.slice (some a') n c')
  | mnone : VR ρ (.map none) (.map none)
  | msome {r r' : Nat} : BR ρ r r' → VR ρ (.map (some r)) (.map (some r'))
  | cnone : VR ρ (.chan none) (.chan none)
  | nilFunc : VR ρ .nilFunc .nilFunc
  | nilIface : VR ρ .nilIface .nilIface
  | func {f f' : Fn} {x x' y y' : Array Value} : FnR ρ f f' → x.size = x'.size → (∀ (i : Nat) (v v' : Value), x[i]? = some v → x'[i]? = some v' → VR ρ v v') →
      y.size = y'.size → (∀ (i : Nat) (v v' : Value), y[i]? = some v → y'[i]? = some v' → VR ρ v v') → VR ρ (.func f x y) (.func f' x' y')
  | iface (t : TypeId) {v v' : Value} : VR ρ v v' → VR ρ (.iface t v) (.iface t v')
  | agg {x x' : Array Value} : x.size = x'.size → (∀ (i : Nat) (v v' : Value), x[i]? = some v → x'[i]? = some v' → VR ρ v v') → VR ρ (.agg x) (.agg x')
  | tuple {x x' : Array Value} : x.size = x'.size → (∀ (i : Nat) (v v' : Value), x[i]? = some v → x'[i]? = some v' → VR ρ v v') → VR ρ (.tuple x) (.tuple x')

def AsR (ρ : Ren) (x x' : Array Value) : Prop := x.size = x'.size ∧ ∀ (i : Nat) (v v' : Value), x[i]? = some v → x'[i]? = some v' → VR ρ v v'

theorem AR.mono {ρ σ : Ren} (h : ρ.le σ) {a a' : Addr} (k : AR ρ a a') : AR σ a a' := by
  obtain ⟨h1, h2, h3, h4⟩ := k
  refine ⟨(h.2 _ h1).1, ?_, ?_, h4⟩ <;> rw [(h.2 _ h1).2] <;> assumption

theorem BR.mono {ρ σ : Ren} (h : ρ.le σ) {a a' : Nat} (k : BR ρ a a') : BR σ a a' := by
  obtain ⟨h1, h2⟩ := k
  exact ⟨(h.2 _ h1).1, by rw [(h.2 _ h1).2]; exact h2⟩

theorem SLR.mono {ρ σ : Ren} (h : ρ.le σ) {a a' : Addr} {c c' : Nat} (k : SLR ρ a c a' c') : SLR σ a c a' c' := by
  obtain ⟨h1, h2, h3⟩ := k
  exact ⟨h1.mono h, h2, by rw [(h.2 _ h1.1).2]; exact h3⟩

theorem FnR.mono {ρ σ : Ren} (h : ρ.le σ) {f f' : Fn} (k : FnR ρ f f') : FnR σ f f' := by
  cases f <;> cases f' <;> simp only [FnR] at k ⊢ <;> first | exact k | exact k.mono h

theorem VR.mono {ρ σ : Ren} (h : ρ.le σ) {v v' : Value} (k : VR ρ v v') : VR σ v v' := by
  induction k with
  | junk v' => exact .junk v'
  | bool b => exact .bool b
  | int k n => exact .int k n
  | float k n => exact .float k n
  | complex k m n => exact .complex k m n
  | string s => exact .string s
  | pnone => exact .pnone
  | psome a => exact .psome (a.mono h)
  | snone n c => exact .snone n c
  | ssome a => exact .ssome (a.mono h)
  | mnone => exact .mnone
  | msome a => exact .msome (a.mono h)
  | cnone => exact .cnone
  | nilFunc => exact .nilFunc
  | nilIface => exact .nilIface
  | func f hx _ hy _ ihx ihy => exact .func (f.mono h) hx ihx hy ihy
  | iface t _ ih => exact .iface t ih
  | agg hs _ ih => exact .agg hs ih
  | tuple hs _ ih => exact .tuple hs ih

theorem AsR.mono {ρ σ : Ren} (h : ρ.le σ) {x x' : Array Value} (k : AsR ρ x x') : AsR σ x x' := ⟨k.1, fun i v v' a b => (k.2 i v v' a b).mono h⟩

theorem AsR.get {ρ : Ren} {x x' : Array Value} (h : AsR ρ x x') {i : Nat} {v : Value} (hi : x[i]? = some v) : ∃ v', x'[i]? = some v' ∧ VR ρ v v' := by
  have hl : i < x'.size := by
    have := (Array.getElem?_eq_some_iff.1 hi).1
    have := h.1
    omega
  exact ⟨x'[i], Array.getElem?_eq_getElem hl, h.2 i v _ hi (Array.getElem?_eq_getElem hl)⟩

theorem AsR.get_none {ρ : Ren} {x x' : Array Value} (h : AsR ρ x x') {i : Nat} (hi : x[i]? = none) : x'[i]? = none := by
  simp only [Array.getElem?_eq_none_iff] at hi ⊢
  have := h.1
  omega

theorem VR.undef (ρ : Ren) : VR ρ undef undef := .tuple rfl (by simp)

theorem AsR.getD {ρ : Ren} {x x' : Array Value} (h : AsR ρ x x') (i : Nat) {d d' : Value} (hd : VR ρ d d') : VR ρ (x.getD i d) (x'.getD i d') := by
  simp only [Array.getD_eq_getD_getElem?]
  cases hi : x[i]? with
  | none => rw [h.get_none hi]; exact hd
  | some v => obtain ⟨v', hv', hr⟩ := h.get hi; rw [hv']; exact hr

theorem AsR.set {ρ : Ren} {x x' : Array Value} (h : AsR ρ x x') (i : Nat) {v v' : Value} (hv : VR ρ v v') : AsR ρ (x.setIfInBounds i v) (x'.setIfInBounds i v') := by
  refine ⟨by simp [h.1], fun j a b ha hb => ?_⟩
  rw [Array.getElem?_setIfInBounds] at ha hb
  by_cases e : i = j
  · subst e
    simp only [if_true] at ha hb
    by_cases hl : i < x.size
    · have hl' : i < x'.size := by have := h.1; omega
      simp only [hl, hl', if_true, Option.some.injEq] at ha hb
      subst ha hb
      exact hv
    · simp [hl] at ha
  · simp only [e, if_false] at ha hb
    exact h.2 j a b ha hb

theorem AsR.nil (ρ : Ren) : AsR ρ #[] #[] := ⟨rfl, by simp⟩

theorem AsR.push {ρ : Ren} {x x' : Array Value} (h : AsR ρ x x') {v v' : Value} (hv : VR ρ v v') : AsR ρ (x.push v) (x'.push v') := by
  refine ⟨by simp [h.1], fun j a b ha hb => ?_⟩
  rw [Array.getElem?_push] at ha hb
  have hs := h.1
  by_cases e : j = x.size
  · have e' : j = x'.size := by omega
    rw [if_pos e] at ha
    rw [if_pos e'] at hb
    cases ha; cases hb
    exact hv
  · have e' : ¬ j = x'.size := by omega
    rw [if_neg e] at ha
    rw [if_neg e'] at hb
    exact h.2 j a b ha hb

theorem AsR.append {ρ : Ren} {x x' y y' : Array Value} (h : AsR ρ x x') (k : AsR ρ y y') : AsR ρ (x ++ y) (x' ++ y') := by
  have hs := h.1
  refine ⟨by simp [h.1, k.1], fun j a b ha hb => ?_⟩
  rw [Array.getElem?_append] at ha hb
  by_cases e : j < x.size
  · rw [if_pos e] at ha
    rw [if_pos (by omega)] at hb
    exact h.2 j a b ha hb
  · rw [if_neg e] at ha
    rw [if_neg (by omega)] at hb
    rw [hs] at ha
    exact k.2 _ a b ha hb

theorem AsR.extract {ρ : Ren} {x x' : Array Value} (h : AsR ρ x x') (i j : Nat) : AsR ρ (x.extract i j) (x'.extract i j) := by
  have hs := h.1
  refine ⟨by simp [hs], fun k a b ha hb => ?_⟩
  rw [Array.getElem?_extract] at ha hb
  rw [hs] at ha
  split at ha
  · rename_i c
    rw [if_pos c] at hb
    exact h.2 _ a b ha hb
  · simp at ha

theorem AsR.replicate {ρ : Ren} (n : Nat) {v v' : Value} (hv : VR ρ v v') : AsR ρ (Array.replicate n v) (Array.replicate n v') := by
  refine ⟨by simp, fun k a b ha hb => ?_⟩
  rw [Array.getElem?_replicate] at ha hb
  split at ha
  · rename_i c
    rw [if_pos c] at hb
    cases ha; cases hb
    exact hv
  · simp at ha

theorem AsR.of_agg {ρ : Ren} {x x' : Array Value} (h : VR ρ (.agg x) (.agg x')) : AsR ρ x x' := by
  cases h with
  | agg a b => exact ⟨a, b⟩

theorem AsR.to_agg {ρ : Ren} {x x' : Array Value} (h : AsR ρ x x') : VR ρ (.agg x) (.agg x') := .agg h.1 h.2
theorem AsR.to_tuple {ρ : Ren} {x x' : Array Value} (h : AsR ρ x x') : VR ρ (.tuple x) (.tuple x') := .tuple h.1 h.2

theorem AR.add {ρ : Ren} {a a' : Addr} (h : AR ρ a a') (n : Nat) : AR ρ (a.add n) (a'.add n) := by
  obtain ⟨h1, h2, h3, h4⟩ := h
  unfold Addr.add
  by_cases e : n = 0
  · simp only [e, if_true]; exact ⟨h1, h2, h3, h4⟩
  · simp only [e, if_false]; exact ⟨h1, h2, by simp only; omega, rfl⟩

end Go.Ev

namespace Go.Ev

inductive Trie (α : Type) where
  | leaf
  | node (l : Trie α) (v : Option α) (r : Trie α)

namespace Trie
variable {α : Type}

def get : Trie α → Nat → Option α
  | .leaf, _ => none
  | .node l v r, n => if n = 0 then v else if n % 2 = 1 then l.get (n / 2) else r.get (n / 2 - 1)

def left : Trie α → Trie α
  | .leaf => .leaf
  | .node l _ _ => l
def right : Trie α → Trie α
  | .leaf => .leaf
  | .node _ _ r => r
def top : Trie α → Option α
  | .leaf => none
  | .node _ v _ => v

def setF : Nat → Trie α → Nat → α → Trie α
  | 0, t, _, x => .node t.left (some x) t.right
  | k + 1, t, n, x =>
    if n = 0 then .node t.left (some x) t.right
    else if n % 2 = 1 then .node (setF k t.left (n / 2) x) t.top t.right
    else .node t.left t.top (setF k t.right (n / 2 - 1) x)

def set (t : Trie α) (n : Nat) (x : α) : Trie α := setF n t n x

theorem top_node (l : Trie α) (v : Option α) (r : Trie α) : (Trie.node l v r).top = v := rfl
theorem left_node (l : Trie α) (v : Option α) (r : Trie α) : (Trie.node l v r).left = l := rfl
theorem right_node (l : Trie α) (v : Option α) (r : Trie α) : (Trie.node l v r).right = r := rfl

theorem get_node (t : Trie α) (n : Nat) : t.get n = if n = 0 then t.top else if n % 2 = 1 then t.left.get (n / 2) else t.right.get (n / 2 - 1) := by
  cases t with
  | leaf => simp [get, top, left, right]
  | node l v r => simp [get, top, left, right]

theorem get_setF : ∀ (k : Nat) (t : Trie α) (n : Nat) (x : α) (m : Nat), n ≤ k → (setF k t n x).get m = if m = n then some x else t.get m := by
  intro k
  induction k with
  | zero =>
    intro t n x m h
    have hn : n = 0 := by omega
    subst hn
    rw [get_node, get_node t]
    simp only [setF, top_node, left_node, right_node]
    by_cases m0 : m = 0 <;> simp [m0]
  | succ k ih =>
    intro t n x m h
    rw [get_node, get_node t]
    unfold setF
    by_cases e : n = 0
    · subst e
      simp only [if_true, top_node, left_node, right_node]
      by_cases m0 : m = 0 <;> simp [m0]
    · by_cases o : n % 2 = 1
      · simp only [e, o, if_true, if_false, top_node, left_node, right_node]
        rw [ih _ _ _ _ (by omega)]
        by_cases m0 : m = 0
        · simp [m0]; omega
        · by_cases mo : m % 2 = 1
          · simp only [m0, mo, if_true, if_false]
            by_cases q : m = n
            · subst q; simp
            · have : ¬ m / 2 = n / 2 := by omega
              simp [q, this]
          · have : m ≠ n := by intro q; subst q; exact mo o
            simp [m0, mo, this]
      · simp only [e, o, if_false, top_node, left_node, right_node]
        rw [ih _ _ _ _ (by omega)]
        by_cases m0 : m = 0
        · simp [m0]; omega
        · by_cases mo : m % 2 = 1
          · have : m ≠ n := by intro q; subst q; exact o mo
            simp [m0, mo, this]
          · simp only [m0, mo, if_false]
            by_cases q : m = n
            · subst q; simp
            · have : ¬ m / 2 - 1 = n / 2 - 1 := by omega
              simp [q, this]

theorem get_set (t : Trie α) (n : Nat) (x : α) (m : Nat) : (t.set n x).get m = if m = n then some x else t.get m := get_setF n t n x m (Nat.le_refl _)

theorem get_set_self (t : Trie α) (n : Nat) (x : α) : (t.set n x).get n = some x := by rw [get_set, if_pos rfl]
theorem get_set_ne (t : Trie α) {n m : Nat} (x : α) (h : m ≠ n) : (t.set n x).get m = t.get m := by rw [get_set, if_neg h]

end Trie
end Go.Ev

namespace Go.Ev
open Go.RowKit

inductive TR (ρ : Ren) : Target → Target → Prop
  | fn {f f' : Fn} {x x' : Array Value} : FnR ρ f f' → AsR ρ x x' → TR ρ (.fn f x) (.fn f' x')
  | nil : TR ρ .nil .nil
  | collected {r r' : Nat} : BR ρ r r' → TR ρ (.collected r) (.collected r')
  | builtin (b : Builtin) (ts : Array TypeId) (t : TypeId) (cs : Array Bool) : TR ρ (.builtin b ts t cs) (.builtin b ts t cs)

def DR (ρ : Ren) (d d' : Deferred) : Prop := TR ρ d.target d'.target ∧ AsR ρ d.args d'.args

def DsR (ρ : Ren) : List Deferred → List Deferred → Prop
  | [], [] => True
  | d :: ds, e :: es => DR ρ d e ∧ DsR ρ ds es
  | _, _ => False

structure LR (ρ : Ren) (l l' : Loop) : Prop where
  state : l'.state = l.state
  pending : l'.pending = l.pending
  fn : l'.fn = l.fn
  tmps : AsR ρ l.tmps l'.tmps
  params : l'.params = l.params
  assign : l'.assign = l.assign
  body : l'.body = l.body
  defers : BR ρ l.defers l'.defers

def EntR (ρ : Ren) (e e' : MapEntry) : Prop := VR ρ e.key e'.key ∧ VR ρ e.val e'.val ∧ e'.born = e.born

def EntsR (ρ : Ren) (x x' : Array MapEntry) : Prop := x.size = x'.size ∧ ∀ (i : Nat) (v v' : MapEntry), x[i]? = some v → x'[i]? = some v' → EntR ρ v v'

inductive OR (ρ : Ren) : Obj → Obj → Prop
  | map {es es' : Array MapEntry} (k : Nat) : EntsR ρ es es' → OR ρ (.map es k) (.map es' k)
  | stringIter (s : ByteArray) (n : Nat) : OR ρ (.stringIter s n) (.stringIter s n)
  | mapIterNone (a : Nat) (b : Array Nat) (c : Nat) : OR ρ (.mapIter none a b c) (.mapIter none a b c)
  | mapIter {r r' : Nat} (a : Nat) (b : Array Nat) (c : Nat) : BR ρ r r' → OR ρ (.mapIter (some r) a b c) (.mapIter (some r') a b c)
  | loop {l l' : Loop} : LR ρ l l' → OR ρ (.loop l) (.loop l')
  | deferredNone : OR ρ (.deferred none) (.deferred none)
  | deferred {ds ds' : List Deferred} : DsR ρ ds ds' → OR ρ (.deferred (some ds)) (.deferred (some ds'))

def isCells : Obj → Bool
  | .cells .. => true
  | _ => false

theorem OR.notCells {ρ : Ren} {o o' : Obj} (h : OR ρ o o') : isCells o = false ∧ isCells o' = false := by cases h <;> exact ⟨rfl, rfl⟩

inductive ObR (ρ : Ren) : Obj → Obj → Prop
  | cells {c c' : Array Value} (e : TypeId) : AsR ρ c c' → ObR ρ (.cells c e (0, 0)) (.cells c' e (0, 0))
  | obj {o o' : Obj} : OR ρ o o' → ObR ρ o o'

theorem TR.mono {ρ σ : Ren} (h : ρ.le σ) {t t' : Target} (k : TR ρ t t') : TR σ t t' := by
  cases k with
  | fn a b => exact .fn (a.mono h) (b.mono h)
  | nil => exact .nil
  | collected a => exact .collected (a.mono h)
  | builtin b ts t cs => exact .builtin b ts t cs
theorem DR.mono {ρ σ : Ren} (h : ρ.le σ) {d d' : Deferred} (k : DR ρ d d') : DR σ d d' := ⟨k.1.mono h, k.2.mono h⟩
theorem DsR.mono {ρ σ : Ren} (h : ρ.le σ) : ∀ {d d' : List Deferred}, DsR ρ d d' → DsR σ d d'
  | [], [], _ => trivial
  | _ :: _, _ :: _, k => ⟨k.1.mono h, DsR.mono h k.2⟩
theorem LR.mono {ρ σ : Ren} (h : ρ.le σ) {l l' : Loop} (k : LR ρ l l') : LR σ l l' :=
  ⟨k.state, k.pending, k.fn, k.tmps.mono h, k.params, k.assign, k.body, k.defers.mono h⟩
theorem EntR.mono {ρ σ : Ren} (h : ρ.le σ) {l l' : MapEntry} (k : EntR ρ l l') : EntR σ l l' := ⟨k.1.mono h, k.2.1.mono h, k.2.2⟩
theorem EntsR.mono {ρ σ : Ren} (h : ρ.le σ) {l l' : Array MapEntry} (k : EntsR ρ l l') : EntsR σ l l' := ⟨k.1, fun i v v' a b => (k.2 i v v' a b).mono h⟩
theorem OR.mono {ρ σ : Ren} (h : ρ.le σ) {o o' : Obj} (k : OR ρ o o') : OR σ o o' := by
  cases k with
  | map c a => exact .map c (a.mono h)
  | stringIter s n => exact .stringIter s n
  | mapIterNone a b c => exact .mapIterNone a b c
  | mapIter a b c r => exact .mapIter a b c (r.mono h)
  | loop l => exact .loop (l.mono h)
  | deferredNone => exact .deferredNone
  | deferred a => exact .deferred (a.mono h)
theorem ObR.mono {ρ σ : Ren} (h : ρ.le σ) {o o' : Obj} (k : ObR ρ o o') : ObR σ o o' := by
  cases k with
  | cells e a => exact .cells e (a.mono h)
  | obj a => exact .obj (a.mono h)

structure Grp where
  mem : List (Nat × Nat)
  flo : Nat
  fhi : Nat

structure ABlk where
  obj : Obj
  root : Nat
  org : Nat
  ro : Bool
  sz : Nat

structure AHeap where
  next : Nat
  blks : Trie ABlk
  grps : Trie Grp

def AHeap.blk (H : AHeap) (i : Nat) : Option ABlk := H.blks.get i
def AHeap.grp (H : AHeap) (i : Nat) : Option Grp := H.grps.get i
def AHeap.setBlk (H : AHeap) (i : Nat) (b : ABlk) : AHeap := { H with blks := H.blks.set i b }

theorem AHeap.blk_setBlk (H : AHeap) (i : Nat) (b : ABlk) (j : Nat) : (H.setBlk i b).blk j = if j = i then some b else H.blk j := Trie.get_set _ _ _ _
theorem AHeap.grp_setBlk (H : AHeap) (i : Nat) (b : ABlk) (j : Nat) : (H.setBlk i b).grp j = H.grp j := rfl
theorem AHeap.next_setBlk (H : AHeap) (i : Nat) (b : ABlk) : (H.setBlk i b).next = H.next := rfl

def AHeap.cell (H : AHeap) (a : Addr) : Option Value :=
  match H.blk a.block with
  | some b => match b.obj with
    | .cells c _ _ => if a.spot.isSome then none else c[a.off]?
    | _ => none
  | none => none

def poison (self virt : Nat) : List (Nat × Nat) → AHeap → AHeap
  | [], H => H
  | (j, org) :: rest, H =>
    if j = self ∨ virt < org then poison self virt rest H else
    match H.blk j with
    | some b => match b.obj with
      | .cells c e f => if virt - org < c.size then poison self virt rest (H.setBlk j { b with obj := .cells (c.setIfInBounds (virt - org) junk) e f }) else poison self virt rest H
      | _ => poison self virt rest H
    | none => poison self virt rest H

def AHeap.store (H : AHeap) (a : Addr) (v : Value) : Option AHeap :=
  match H.blk a.block with
  | some b => match b.obj with
    | .cells c e fr =>
      if b.ro = true ∨ a.spot.isSome = true ∨ ¬ a.off < c.size then none else
      match H.grp b.root with
      | some g =>
        if g.flo ≤ a.off + b.org ∧ a.off + b.org < g.fhi then none else
        some ((poison a.block (a.off + b.org) g.mem H).setBlk a.block { b with obj := .cells (c.setIfInBounds a.off v) e fr })
      | none => none
    | _ => none
  | none => none

def freshBlk (id : Nat) (o : Obj) : ABlk := { obj := o, root := id, org := 0, ro := false, sz := 0 }

def AHeap.new (H : AHeap) (o : Obj) : AHeap :=
  { next := H.next + 1, blks := H.blks.set H.next (freshBlk H.next o), grps := H.grps.set H.next { mem := [(H.next, 0)], flo := 0, fhi := 0 } }

def CellsR (ρ : Ren) (shift : Nat) (c c' : Array Value) : Prop :=
  ∀ (j : Nat) (v : Value), c[j]? = some v → ∃ v', c'[j + shift]? = some v' ∧ VR ρ v v'

def FzR (l : Loc) (org : Nat) (g : Grp) (w : World) : Prop :=
  ∀ c e lo hi, w.heap[l.block]? = some (.cells c e (lo, hi)) → lo ≤ hi ∧ (lo < hi → g.flo + l.shift ≤ lo + org ∧ hi + org ≤ g.fhi + l.shift)

theorem FzR.frozen {l : Loc} {org : Nat} {g : Grp} {w : World} (h : FzR l org g w) {k : Nat} (hk : w.frozen? ⟨l.block, k, none⟩ = true) :
    g.flo + l.shift ≤ k + org ∧ k + org < g.fhi + l.shift := by
  unfold World.frozen? at hk
  split at hk
  · rename_i c e lo hi q
    simp only [Bool.and_eq_true, decide_eq_true_eq] at hk
    obtain ⟨h1, h2⟩ := h c e lo hi q
    have := h2 (by omega)
    omega
  · cases hk

structure Base where
  w : World
  off : Nat → Prop

structure HR (N : Nat) (w0 : Base) (ρ : Ren) (H : AHeap) (w : World) : Prop where
  n : H.next = ρ.n
  base : N ≤ w0.w.heap.size
  below : Below N w0.w w
  lt : ∀ i, ρ.on i → (ρ.f i).block < w.heap.size
  dom : ∀ i b, H.blk i = some b → i < ρ.n
  cells : ∀ i b c e fr, ρ.on i → H.blk i = some b → b.obj = .cells c e fr → ∃ c' e' fr', w.heap[(ρ.f i).block]? = some (.cells c' e' fr') ∧ c'.size = (ρ.f i).csize ∧
    CellsR ρ (ρ.f i).shift c c' ∧ (ρ.f i).sz = b.sz ∧ (e' = e ∧ (b.sz = 0 → c'.size = c.size ∧ (ρ.f i).shift = 0))
  objs : ∀ i b, ρ.on i → H.blk i = some b → isCells b.obj = false → ∃ o', w.heap[(ρ.f i).block]? = some o' ∧ OR ρ b.obj o' ∧ (ρ.f i).shift = 0
  own : ∀ i b, ρ.on i → H.blk i = some b → b.ro = false → N ≤ (ρ.f i).block
  old : ∀ i b, ρ.on i → H.blk i = some b → b.ro = true → (ρ.f i).block < N
  sep : ∀ i j bi bj, ρ.on i → ρ.on j → H.blk i = some bi → H.blk j = some bj → i ≠ j → bi.ro = false → bj.ro = false → (ρ.f i).block = (ρ.f j).block →
    isCells bi.obj = true ∧ isCells bj.obj = true ∧ bi.root = bj.root ∧ (ρ.f i).shift + bj.org = (ρ.f j).shift + bi.org
  grp : ∀ i b, ρ.on i → H.blk i = some b → b.ro = false → isCells b.obj = true → ∃ g, H.grp b.root = some g ∧ (i, b.org) ∈ g.mem ∧
    FzR (ρ.f i) b.org g w
  root : ∀ i b, H.blk i = some b → b.root < H.next
  off : ∀ i, w0.off i → i < ρ.n ∧ ¬ ρ.on i

theorem isCells_eq {o : Obj} (h : isCells o = true) : ∃ c e fr, o = .cells c e fr := by
  cases o <;> first | exact ⟨_, _, _, rfl⟩ | (simp [isCells] at h)

theorem cell?_of {w : World} {b : Nat} {c : Array Value} {e : TypeId} {fr : Nat × Nat} (h : w.heap[b]? = some (.cells c e fr)) (o : Nat) :
    w.cell? ⟨b, o, none⟩ = c[o]? := by
  simp [World.cell?, h]

section
variable {N : Nat} {w0 : Base} {ρ : Ren} {H : AHeap} {w : World}

theorem HR.load (h : HR N w0 ρ H w) {a a' : Addr} (ha : AR ρ a a') {v : Value} (hv : H.cell a = some v) : ∃ v', w.cell? a' = some v' ∧ VR ρ v v' := by
  obtain ⟨h1, h2, h3, h4⟩ := ha
  unfold AHeap.cell at hv
  split at hv
  · rename_i b hb
    split at hv
    · rename_i c e fr ho
      split at hv
      · cases hv
      · rename_i hs
        obtain ⟨c', e', fr', hw, _, hc, _⟩ := h.cells _ _ _ _ _ h1 hb ho
        obtain ⟨v', hv', hr⟩ := hc _ _ hv
        refine ⟨v', ?_, hr⟩
        have hsp : a.spot = none := by simpa using hs
        have ea : a' = ⟨(ρ.f a.block).block, a.off + (ρ.f a.block).shift, none⟩ := by
          cases a'; simp only at h2 h3 h4; rw [h2, h3, h4, hsp]
        rw [ea, cell?_of hw, hv']
    · cases hv
  · cases hv

structure Weaker (H' H : AHeap) : Prop where
  next : H'.next = H.next
  grp : ∀ i, H'.grp i = H.grp i
  gone : ∀ i, H.blk i = none → H'.blk i = none
  has : ∀ i b, H.blk i = some b → ∃ b', H'.blk i = some b' ∧ b'.root = b.root ∧ b'.org = b.org ∧ b'.ro = b.ro ∧ b'.sz = b.sz ∧
    (b'.obj = b.obj ∨ ∃ c c' e fr, b.obj = .cells c e fr ∧ b'.obj = .cells c' e fr ∧ c'.size = c.size ∧ ∀ (k : Nat) (v : Value), c'[k]? = some v → v = junk ∨ c[k]? = some v)

theorem Weaker.refl (H : AHeap) : Weaker H H := ⟨rfl, fun _ => rfl, fun _ h => h, fun _ b h => ⟨b, h, rfl, rfl, rfl, rfl, .inl rfl⟩⟩

theorem Weaker.trans {H1 H2 H3 : AHeap} (h : Weaker H1 H2) (k : Weaker H2 H3) : Weaker H1 H3 := by
  refine ⟨h.next.trans k.next, fun i => (h.grp i).trans (k.grp i), fun i e => h.gone i (k.gone i e), fun i b hb => ?_⟩
  obtain ⟨b2, hb2, r2, o2, ro2, s2, ob2⟩ := k.has i b hb
  obtain ⟨b1, hb1, r1, o1, ro1, s1, ob1⟩ := h.has i b2 hb2
  refine ⟨b1, hb1, r1.trans r2, o1.trans o2, ro1.trans ro2, s1.trans s2, ?_⟩
  rcases ob2 with e2 | ⟨c, c2, e, fr, hc, hc2, hs2, hv2⟩
  · rw [e2] at ob1; exact ob1
  · rcases ob1 with e1 | ⟨c3, c1, e', fr', hc3, hc1, hs1, hv1⟩
    · exact .inr ⟨c, c2, e, fr, hc, e1.trans hc2, hs2, hv2⟩
    · rw [hc2] at hc3
      cases hc3
      refine .inr ⟨c, c1, e, fr, hc, hc1, hs1.trans hs2, fun k v hk => ?_⟩
      rcases hv1 k v hk with q | q
      · exact .inl q
      · exact hv2 k v q

theorem Weaker.back {H' H : AHeap} (h : Weaker H' H) {i : Nat} {b' : ABlk} (hb : H'.blk i = some b') : ∃ b, H.blk i = some b ∧ b'.root = b.root ∧ b'.org = b.org ∧ b'.ro = b.ro ∧ b'.sz = b.sz ∧
    (b'.obj = b.obj ∨ ∃ c c' e fr, b.obj = .cells c e fr ∧ b'.obj = .cells c' e fr ∧ c'.size = c.size ∧ ∀ (k : Nat) (v : Value), c'[k]? = some v → v = junk ∨ c[k]? = some v) := by
  cases hq : H.blk i with
  | none => rw [h.gone i hq] at hb; cases hb
  | some b =>
    obtain ⟨b2, hb2, r⟩ := h.has i b hq
    rw [hb] at hb2
    cases hb2
    exact ⟨b, rfl, r⟩

theorem Weaker.isCells {b b' : ABlk} (h : b'.obj = b.obj ∨ ∃ c c' e fr, b.obj = .cells c e fr ∧ b'.obj = .cells c' e fr ∧ c'.size = c.size ∧ ∀ (k : Nat) (v : Value), c'[k]? = some v → v = junk ∨ c[k]? = some v) :
    Ev.isCells b'.obj = Ev.isCells b.obj := by
  rcases h with h | ⟨c, c', e, fr, h1, h2, _⟩
  · rw [h]
  · rw [h1, h2]; rfl

theorem HR.weaker (h : HR N w0 ρ H w) {H' : AHeap} (k : Weaker H' H) : HR N w0 ρ H' w := by
  refine ⟨k.next.trans h.n, h.base, h.below, h.lt, ?_, ?_, ?_, ?_, ?_, ?_, ?_, ?_, h.off⟩
  · intro i b' hb'
    obtain ⟨b, hb, _⟩ := k.back hb'
    exact h.dom i b hb
  · intro i b' c' e fr hon hb' ho'
    obtain ⟨b, hb, hr, hor, hro, hsz, ho⟩ := k.back hb'
    rcases ho with ho | ⟨c, c2, e2, fr2, h1, h2, hs, hv⟩
    · rw [hsz]; exact h.cells i b c' e fr hon hb (ho ▸ ho')
    · rw [ho'] at h2
      cases h2
      obtain ⟨cw, ew, frw, hw, hcs, hc, hz, hx⟩ := h.cells i b c e fr hon hb h1
      refine ⟨cw, ew, frw, hw, hcs, fun j v hj => ?_, by rw [hsz]; exact hz, hx.1, fun e0 => ?_⟩
      · rcases hv j v hj with q | q
        · have hl : j < c.size := by have := (Array.getElem?_eq_some_iff.1 hj).1; omega
          obtain ⟨v', hv', _⟩ := hc j _ (Array.getElem?_eq_getElem hl)
          exact ⟨v', hv', q ▸ .junk v'⟩
        · exact hc j v q
      · rw [hs]; exact hx.2 (hsz ▸ e0)
  · intro i b' hon hb' hn
    obtain ⟨b, hb, _, _, _, _, ho⟩ := k.back hb'
    rcases ho with ho | ⟨c, c2, e2, fr2, h1, h2, _⟩
    · rw [ho] at hn ⊢; exact h.objs i b hon hb hn
    · rw [h2] at hn; cases hn
  · intro i b' hon hb' hr
    obtain ⟨b, hb, _, _, hro, _⟩ := k.back hb'
    exact h.own i b hon hb (hro ▸ hr)
  · intro i b' hon hb' hr
    obtain ⟨b, hb, _, _, hro, _⟩ := k.back hb'
    exact h.old i b hon hb (hro ▸ hr)
  · intro i j bi' bj' hon hon2 hi' hj' hne hri hrj he
    obtain ⟨bi, hi, r1, o1, ro1, _, ob1⟩ := k.back hi'
    obtain ⟨bj, hj, r2, o2, ro2, _, ob2⟩ := k.back hj'
    obtain ⟨q1, q2, q3, q4⟩ := h.sep i j bi bj hon hon2 hi hj hne (ro1 ▸ hri) (ro2 ▸ hrj) he
    refine ⟨?_, ?_, ?_, ?_⟩
    · rw [Weaker.isCells ob1]; exact q1
    · rw [Weaker.isCells ob2]; exact q2
    · rw [r1, r2]; exact q3
    · rw [o1, o2]; exact q4
  · intro i b' hon hb' hr hc
    obtain ⟨b, hb, r1, o1, ro1, _, ob1⟩ := k.back hb'
    obtain ⟨g, hg, hm, hf⟩ := h.grp i b hon hb (ro1 ▸ hr) (by rw [← Weaker.isCells ob1]; exact hc)
    exact ⟨g, by rw [k.grp, r1]; exact hg, by rw [o1]; exact hm, by rw [o1]; exact hf⟩
  · intro i b' hb'
    obtain ⟨b, hb, r1, _⟩ := k.back hb'
    rw [r1, k.next]; exact h.root i b hb

theorem weaker_setBlk_junk {j : Nat} {b : ABlk} {c : Array Value} {e : TypeId} {f : Nat × Nat} (hb : H.blk j = some b) (ho : b.obj = .cells c e f) (k : Nat) :
    Weaker (H.setBlk j { b with obj := .cells (c.setIfInBounds k junk) e f }) H := by
  refine ⟨rfl, fun _ => rfl, fun i hi => ?_, fun i b' hi => ?_⟩
  · rw [AHeap.blk_setBlk, if_neg (by intro q; rw [q, hb] at hi; cases hi)]; exact hi
  · by_cases q : i = j
    · subst q
      rw [hb] at hi
      cases hi
      refine ⟨{ b with obj := .cells (c.setIfInBounds k junk) e f }, by rw [AHeap.blk_setBlk, if_pos rfl], rfl, rfl, rfl, rfl, .inr ⟨c, c.setIfInBounds k junk, e, f, ho, rfl, by simp, fun m v hv => ?_⟩⟩
      rw [Array.getElem?_setIfInBounds] at hv
      split at hv
      · split at hv
        · cases hv; exact .inl rfl
        · cases hv
      · exact .inr hv
    · exact ⟨b', by rw [AHeap.blk_setBlk, if_neg q]; exact hi, rfl, rfl, rfl, rfl, .inl rfl⟩

theorem poison_weaker (self virt : Nat) : ∀ (l : List (Nat × Nat)) (H : AHeap), Weaker (poison self virt l H) H ∧ (poison self virt l H).blk self = H.blk self := by
  intro l
  induction l with
  | nil => intro H; exact ⟨Weaker.refl H, rfl⟩
  | cons p rest ih =>
    intro H
    obtain ⟨j, org⟩ := p
    unfold poison
    split
    · exact ih H
    · rename_i hn
      split
      · rename_i b hb
        split
        · rename_i c e f ho
          split
          · obtain ⟨h1, h2⟩ := ih (H.setBlk j { b with obj := .cells (c.setIfInBounds (virt - org) junk) e f })
            refine ⟨h1.trans (weaker_setBlk_junk hb ho _), h2.trans ?_⟩
            rw [AHeap.blk_setBlk, if_neg (fun q => hn (.inl q.symm))]
          · exact ih H
        · exact ih H
      · exact ih H

theorem junk_stays {H1 H2 : AHeap} (h : Weaker H1 H2) {j k : Nat} (hj : ∀ b c e fr, H2.blk j = some b → b.obj = .cells c e fr → ∀ v : Value, c[k]? = some v → v = junk) :
    ∀ b c e fr, H1.blk j = some b → b.obj = .cells c e fr → ∀ v : Value, c[k]? = some v → v = junk := by
  intro b c e fr hb ho v hv
  obtain ⟨b2, hb2, _, _, _, _, ob⟩ := h.back hb
  rcases ob with ob | ⟨c2, c1, e2, fr2, h1, h2, _, hx⟩
  · exact hj b2 c e fr hb2 (ob ▸ ho) v hv
  · rw [ho] at h2
    cases h2
    rcases hx k v hv with q | q
    · exact q
    · exact hj b2 c2 e fr hb2 h1 v q

theorem set_self_junk {c : Array Value} {k : Nat} {v : Value} (h : (c.setIfInBounds k junk)[k]? = some v) : v = junk := by
  rw [Array.getElem?_setIfInBounds] at h
  simp at h
  exact h.2.symm

theorem poison_junk (self virt : Nat) : ∀ (l : List (Nat × Nat)) (H : AHeap) (j org : Nat), (j, org) ∈ l → j ≠ self → org ≤ virt →
    ∀ b c e fr, (poison self virt l H).blk j = some b → b.obj = .cells c e fr → ∀ v : Value, c[virt - org]? = some v → v = junk := by
  intro l
  induction l with
  | nil => intro H j org hm; cases hm
  | cons p rest ih =>
    intro H j org hm hne hle
    obtain ⟨j', org'⟩ := p
    by_cases q : (j, org) = (j', org')
    · cases q
      unfold poison
      rw [if_neg (by intro q; rcases q with q | q; exact hne q; omega)]
      cases hb : H.blk j with
      | none =>
        simp only
        refine junk_stays (poison_weaker self virt rest H).1 ?_
        intro b c e fr hb2; rw [hb] at hb2; cases hb2
      | some b =>
        simp only
        cases ho : b.obj with
        | cells c e f =>
          simp only
          split
          · refine junk_stays (poison_weaker self virt rest _).1 ?_
            intro b2 c2 e2 fr2 hb2 ho2 v hv
            rw [AHeap.blk_setBlk, if_pos rfl] at hb2
            cases hb2
            cases ho2
            exact set_self_junk hv
          · rename_i hlt
            refine junk_stays (poison_weaker self virt rest _).1 ?_
            intro b2 c2 e2 fr2 hb2 ho2 v hv
            rw [hb] at hb2
            cases hb2
            rw [ho] at ho2
            cases ho2
            exact absurd (Array.getElem?_eq_some_iff.1 hv).1 hlt
        | _ =>
          simp only
          refine junk_stays (poison_weaker self virt rest H).1 ?_
          intro b2 c2 e2 fr2 hb2 ho2
          rw [hb] at hb2
          cases hb2
          rw [ho] at ho2
          cases ho2
    · have hm' : (j, org) ∈ rest := by
        cases hm with
        | head => exact absurd rfl q
        | tail _ h => exact h
      unfold poison
      split
      · exact ih H j org hm' hne hle
      · split
        · split
          · split
            · exact ih _ j org hm' hne hle
            · exact ih H j org hm' hne hle
          · exact ih H j org hm' hne hle
        · exact ih H j org hm' hne hle

end
end Go.Ev

namespace Go.Ev
open Go.RowKit

section
variable {N : Nat} {w0 : Base} {ρ : Ren} {H : AHeap} {w : World}

theorem heap_setCell_at {B O : Nat} {v' : Value} {c' : Array Value} {e : TypeId} {fr : Nat × Nat} (h : w.heap[B]? = some (.cells c' e fr)) (k : Nat) :
    (w.setCell ⟨B, O, none⟩ v').heap[k]? = if k = B then some (.cells (c'.setIfInBounds O v') e fr) else w.heap[k]? := by
  simp only [World.setCell, Array.getElem?_modify]
  by_cases q : B = k
  · subst q; simp [h]
  · simp [q, Ne.symm q]

theorem AR.eq_mk {a a' : Addr} (h : AR ρ a a') (hs : a.spot = none) : a' = ⟨(ρ.f a.block).block, a.off + (ρ.f a.block).shift, none⟩ := by
  obtain ⟨_, h2, h3, h4⟩ := h
  cases a'
  simp only at h2 h3 h4
  rw [h2, h3, h4, hs]

theorem HR.store (h : HR N w0 ρ H w) {a a' : Addr} (ha : AR ρ a a') {v v' : Value} (hv : VR ρ v v') {H' : AHeap} (hs : H.store a v = some H') :
    (∃ x, w.cell? a' = some x) ∧ w.frozen? a' = false ∧ HR N w0 ρ H' (w.setCell a' v') := by
  unfold AHeap.store at hs
  split at hs
  case h_2 => cases hs
  rename_i b hb
  split at hs
  case h_2 => cases hs
  rename_i c e fr ho
  split at hs
  case isTrue => cases hs
  rename_i hcond
  split at hs
  case h_2 => cases hs
  rename_i g hg
  split at hs
  case isTrue => cases hs
  rename_i hfr
  simp only [Option.some.injEq] at hs
  have hro : b.ro = false := by
    cases q : b.ro
    · rfl
    · exact absurd (.inl q) hcond
  have hsp : a.spot = none := by
    cases q : a.spot
    · rfl
    · exact absurd (.inr (.inl (by simp [q]))) hcond
  have hlt : a.off < c.size := Decidable.byContradiction fun q => hcond (.inr (.inr q))
  have ea := ha.eq_mk hsp
  obtain ⟨c', e', fr', hw, hcs, hc, hz, hx⟩ := h.cells _ _ _ _ _ ha.1 hb ho
  obtain ⟨hW, hself⟩ := poison_weaker a.block (a.off + b.org) g.mem H
  have hj := poison_junk a.block (a.off + b.org) g.mem H
  have h1 := h.weaker hW
  generalize hH1 : poison a.block (a.off + b.org) g.mem H = H1 at *
  have hb1 : H1.blk a.block = some b := hself.trans hb
  subst hs
  subst ea
  have hcell : b.obj = .cells c e fr := ho
  have hisc : isCells b.obj = true := by rw [ho]; rfl
  obtain ⟨g', hg', hmem, hfz⟩ := h.grp _ _ ha.1 hb hro hisc
  rw [hg] at hg'
  cases hg'
  have hh := fun k => heap_setCell_at (O := a.off + (ρ.f a.block).shift) (v' := v') hw k
  have hNB := h.own _ _ ha.1 hb hro
  refine ⟨?_, ?_, ?_⟩
  · obtain ⟨x, hx', _⟩ := hc _ _ (Array.getElem?_eq_getElem hlt)
    exact ⟨x, by rw [cell?_of hw]; exact hx'⟩
  · cases q : w.frozen? ⟨(ρ.f a.block).block, a.off + (ρ.f a.block).shift, none⟩ with
    | false => rfl
    | true =>
      have := hfz.frozen q
      exact absurd ⟨by omega, by omega⟩ hfr
  refine ⟨h1.n, h.base, ?_, ?_, ?_, ?_, ?_, ?_, ?_, ?_, ?_, ?_, h.off⟩
  · exact h.below.setCell (p := ⟨(ρ.f a.block).block, a.off + (ρ.f a.block).shift, none⟩) hNB v'
  · intro i hi
    have := h.lt i hi
    simpa [World.setCell] using this
  · intro i bi hi
    rw [AHeap.blk_setBlk] at hi
    split at hi
    · rename_i q; subst q; exact ρ.lt _ ha.1
    · exact h1.dom i bi hi
  · intro i bi ci ei fi hon hi hoi
    rw [AHeap.blk_setBlk] at hi
    split at hi
    · rename_i q
      subst q
      cases hi
      simp only [Obj.cells.injEq] at hoi
      obtain ⟨q1, q2, q3⟩ := hoi
      subst q1 q2 q3
      refine ⟨_, e', fr', by rw [hh, if_pos rfl], by simpa using hcs, ?_, hz, hx.1, fun z => ?_⟩
      · intro j u hu
        rw [Array.getElem?_setIfInBounds] at hu
        by_cases q : a.off = j
        · subst q
          simp only [if_true, hlt, Option.some.injEq] at hu
          subst hu
          obtain ⟨x, hx', _⟩ := hc _ _ (Array.getElem?_eq_getElem hlt)
          have := (Array.getElem?_eq_some_iff.1 hx').1
          exact ⟨v', by rw [Array.getElem?_setIfInBounds]; simp [this], hv⟩
        · simp only [q, if_false] at hu
          obtain ⟨x, hx', hr⟩ := hc _ _ hu
          exact ⟨x, by rw [Array.getElem?_setIfInBounds, if_neg (by omega)]; exact hx', hr⟩
      · obtain ⟨z1, z2⟩ := hx.2 z
        exact ⟨by simpa using z1, z2⟩
    · rename_i hne
      obtain ⟨ci', ei', fi', hwi, hcsi, hci, hzi, hxi⟩ := h1.cells i bi ci ei fi hon hi hoi
      by_cases q : (ρ.f i).block = (ρ.f a.block).block
      · rw [q, hw] at hwi
        cases hwi
        have hroi : bi.ro = false := by
          cases r : bi.ro
          · rfl
          · have := h1.old i bi hon hi r
            omega
        obtain ⟨_, _, s3, s4⟩ := h1.sep i a.block bi b hon ha.1 hi hb1 hne hroi hro q
        obtain ⟨gi, hgi, hmi, _⟩ := h1.grp i bi hon hi hroi (by rw [hoi]; rfl)
        rw [hW.grp, s3, hg] at hgi
        cases hgi
        refine ⟨_, _, _, by rw [hh, if_pos q], by simpa using hcsi, ?_, hzi, hxi.1, fun z => ?_⟩
        · intro j u hu
          obtain ⟨x, hx', hr⟩ := hci j u hu
          by_cases q2 : j + (ρ.f i).shift = a.off + (ρ.f a.block).shift
          · have hle : bi.org ≤ a.off + b.org := by omega
            have ej : j = a.off + b.org - bi.org := by omega
            have := hj i bi.org hmi hne hle bi ci ei fi hi hoi u (by rw [← ej]; exact hu)
            subst this
            have hl2 := (Array.getElem?_eq_some_iff.1 hx').1
            exact ⟨v', by rw [Array.getElem?_setIfInBounds, if_pos q2.symm, if_pos (by omega)], .junk v'⟩
          · exact ⟨x, by rw [Array.getElem?_setIfInBounds, if_neg (by omega)]; exact hx', hr⟩
        · obtain ⟨z1, z2⟩ := hxi.2 z
          exact ⟨by simpa using z1, z2⟩
      · exact ⟨ci', ei', fi', by rw [hh, if_neg q]; exact hwi, hcsi, hci, hzi, hxi⟩
  · intro i bi hon hi hn
    rw [AHeap.blk_setBlk] at hi
    split at hi
    · cases hi; cases hn
    · obtain ⟨o', hwo, hor⟩ := h1.objs i bi hon hi hn
      refine ⟨o', ?_, hor⟩
      rw [hh]
      split
      · rename_i q
        rw [q, hw] at hwo
        cases hwo
        have := hor.1.notCells.2
        cases this
      · exact hwo
  · intro i bi hon hi hr
    rw [AHeap.blk_setBlk] at hi
    split at hi
    · rename_i q; subst q; exact hNB
    · exact h1.own i bi hon hi hr
  · intro i bi hon hi hr
    rw [AHeap.blk_setBlk] at hi
    split at hi
    · cases hi; simp only at hr; rw [hro] at hr; cases hr
    · exact h1.old i bi hon hi hr
  · intro i j bi bj hon hon2 hi hj' hne hri hrj he
    rw [AHeap.blk_setBlk] at hi hj'
    split at hi
    · rename_i q
      subst q
      cases hi
      split at hj'
      · rename_i q; exact absurd q.symm hne
      · obtain ⟨_, r2, r3, r4⟩ := h1.sep _ j b bj ha.1 hon2 hb1 hj' hne hro hrj he
        exact ⟨rfl, r2, r3, r4⟩
    · split at hj'
      · rename_i q
        subst q
        cases hj'
        obtain ⟨r1, _, r3, r4⟩ := h1.sep i _ bi b hon ha.1 hi hb1 hne hri hro he
        exact ⟨r1, rfl, r3, r4⟩
      · exact h1.sep i j bi bj hon hon2 hi hj' hne hri hrj he
  · intro i bi hon hi hr hc2
    rw [AHeap.blk_setBlk] at hi
    have hfz' : ∀ l org gg, FzR l org gg w → FzR l org gg (w.setCell ⟨(ρ.f a.block).block, a.off + (ρ.f a.block).shift, none⟩ v') := by
      intro l org gg hl cc ee lo hi hq
      rw [hh] at hq
      split at hq
      · rename_i q
        cases hq
        exact hl _ _ _ _ (by rw [q]; exact hw)
      · exact hl _ _ _ _ hq
    split at hi
    · rename_i q
      subst q
      cases hi
      obtain ⟨gi, hgi, hmi, hfi⟩ := h1.grp _ b ha.1 hb1 hro hisc
      exact ⟨gi, hgi, hmi, hfz' _ _ _ hfi⟩
    · obtain ⟨gi, hgi, hmi, hfi⟩ := h1.grp i bi hon hi hr hc2
      exact ⟨gi, hgi, hmi, hfz' _ _ _ hfi⟩
  · intro i bi hi
    rw [AHeap.blk_setBlk] at hi
    split at hi
    · cases hi; exact h1.root _ b hb1
    · exact h1.root i bi hi

def Ren.ext (ρ : Ren) (l : Loc) : Ren :=
  { n := ρ.n + 1, f := fun i => if i = ρ.n then l else ρ.f i, on := fun i => ρ.on i ∨ i = ρ.n, lt := fun i h => h.elim (fun h => Nat.lt_succ_of_lt (ρ.lt i h)) (fun h => by omega) }

theorem Ren.le_ext (ρ : Ren) (l : Loc) : ρ.le (ρ.ext l) := ⟨Nat.le_succ _, fun i hi => ⟨.inl hi, by have := ρ.lt i hi; simp only [Ren.ext]; rw [if_neg (by omega)]⟩⟩
theorem Ren.ext_self (ρ : Ren) (l : Loc) : (ρ.ext l).f ρ.n = l := by simp [Ren.ext]
theorem Ren.ext_of_lt (ρ : Ren) (l : Loc) {i : Nat} (h : ρ.on i) : (ρ.ext l).f i = ρ.f i := ((ρ.le_ext l).2 i h).2
theorem Ren.on_self (ρ : Ren) (l : Loc) : (ρ.ext l).on ρ.n := .inr rfl
theorem Ren.off_ext {ρ : Ren} (l : Loc) {i : Nat} (h : i < ρ.n ∧ ¬ ρ.on i) : i < (ρ.ext l).n ∧ ¬ (ρ.ext l).on i := ⟨Nat.lt_succ_of_lt h.1, fun q => q.elim h.2 (fun e => by have := h.1; omega)⟩
theorem Ren.on_of (ρ : Ren) (l : Loc) {i : Nat} (h : (ρ.ext l).on i) (hne : i ≠ ρ.n) : ρ.on i := h.resolve_right hne

def objSize : Obj → Nat
  | .cells c _ _ => c.size
  | _ => 0

theorem AHeap.blk_new (H : AHeap) (o : Obj) (i : Nat) : (H.new o).blk i = if i = H.next then some (freshBlk H.next o) else H.blk i := Trie.get_set _ _ _ _
theorem AHeap.grp_new (H : AHeap) (o : Obj) (i : Nat) : (H.new o).grp i = if i = H.next then some { mem := [(H.next, 0)], flo := 0, fhi := 0 } else H.grp i := Trie.get_set _ _ _ _

theorem heap_push (w : World) (o : Obj) (k : Nat) : ({ w with heap := w.heap.push o } : World).heap[k]? = if k = w.heap.size then some o else w.heap[k]? := by
  simp only [Array.getElem?_push]

theorem frozen_push (w : World) (o : Obj) (b k : Nat) (h : b < w.heap.size) : ({ w with heap := w.heap.push o } : World).frozen? ⟨b, k, none⟩ = w.frozen? ⟨b, k, none⟩ := by
  unfold World.frozen?
  simp only [Array.getElem?_push]
  rw [if_neg (by omega)]

theorem CellsR.mono {σ : Ren} (h : ρ.le σ) {s : Nat} {c c' : Array Value} (k : CellsR ρ s c c') : CellsR σ s c c' := fun j v hj =>
  let ⟨v', h1, h2⟩ := k j v hj
  ⟨v', h1, h2.mono h⟩

theorem HR.new (h : HR N w0 ρ H w) {o o' : Obj} (ho : ObR ρ o o') :
    HR N w0 (ρ.ext ⟨w.heap.size, 0, 0, objSize o⟩) (H.new o) { w with heap := w.heap.push o' } := by
  have hn := h.n
  have hle := Ren.le_ext ρ ⟨w.heap.size, 0, 0, objSize o⟩
  have hext : ∀ i, ρ.on i → (ρ.ext ⟨w.heap.size, 0, 0, objSize o⟩).f i = ρ.f i := fun i hi => Ren.ext_of_lt _ _ hi
  have hself := Ren.ext_self ρ ⟨w.heap.size, 0, 0, objSize o⟩
  have hNs : N ≤ w.heap.size := Nat.le_trans h.base h.below.size
  have hp := fun k => heap_push w o' k
  refine ⟨?_, h.base, ?_, ?_, ?_, ?_, ?_, ?_, ?_, ?_, ?_, ?_, fun i hi => Ren.off_ext _ (h.off i hi)⟩
  · simp [AHeap.new, Ren.ext, hn]
  · exact h.below.alloc hNs o'
  · intro i hi
    simp only [Array.size_push]
    by_cases q : i = ρ.n
    · subst q; rw [hself]; simp
    · have hi' : ρ.on i := Ren.on_of _ _ hi q
      rw [hext i hi']
      have := h.lt i hi'
      omega
  · intro i b hb
    rw [AHeap.blk_new] at hb
    split at hb
    · rename_i q; show i < ρ.n + 1; omega
    · have := h.dom i b hb
      show i < ρ.n + 1
      omega
  · intro i b c e fr hon hb hob
    rw [AHeap.blk_new] at hb
    split at hb
    · rename_i q
      cases hb
      simp only [freshBlk] at hob ⊢
      subst hob
      rw [q, hn, hself]
      cases ho with
      | cells e hA =>
        rename_i c'
        refine ⟨c', e, (0, 0), by rw [hp, if_pos rfl], ?_, ?_, rfl, rfl, fun _ => ⟨hA.1.symm, rfl⟩⟩
        · exact hA.1.symm
        · intro j v hj
          obtain ⟨v', hv', hr⟩ := hA.get hj
          exact ⟨v', hv', hr.mono hle⟩
      | obj k => have := k.notCells.1; cases this
    · rename_i q
      have hi := Ren.on_of _ _ hon (by omega)
      obtain ⟨c', e', fr', hw, hcs, hc, hz, hx⟩ := h.cells i b c e fr hi hb hob
      rw [hext i hi]
      have := h.lt i hi
      exact ⟨c', e', fr', by rw [hp, if_neg (by omega)]; exact hw, hcs, hc.mono hle, hz, hx⟩
  · intro i b hon hb hnc
    rw [AHeap.blk_new] at hb
    split at hb
    · rename_i q
      cases hb
      simp only [freshBlk] at hnc ⊢
      rw [q, hn, hself]
      cases ho with
      | cells e hA => cases hnc
      | obj k => exact ⟨o', by rw [hp, if_pos rfl], k.mono hle, rfl⟩
    · rename_i q
      have hi := Ren.on_of _ _ hon (by omega)
      obtain ⟨o1, hw, hor⟩ := h.objs i b hi hb hnc
      rw [hext i hi]
      have := h.lt i hi
      exact ⟨o1, by rw [hp, if_neg (by omega)]; exact hw, hor.1.mono hle, hor.2⟩
  · intro i b hon hb hr
    rw [AHeap.blk_new] at hb
    split at hb
    · rename_i q
      rw [q, hn, hself]
      exact hNs
    · rename_i q
      have hi := Ren.on_of _ _ hon (by omega)
      rw [hext i hi]
      exact h.own i b hi hb hr
  · intro i b hon hb hr
    rw [AHeap.blk_new] at hb
    split at hb
    · cases hb; cases hr
    · rename_i q
      have hi := Ren.on_of _ _ hon (by omega)
      rw [hext i hi]
      exact h.old i b hi hb hr
  · intro i j bi bj hon hon2 hi hj hne hri hrj he
    rw [AHeap.blk_new] at hi hj
    split at hi
    · rename_i q
      split at hj
      · rename_i q2; exact absurd (q.trans q2.symm) hne
      · rename_i q2
        have hj' := Ren.on_of _ _ hon2 (by omega)
        rw [q, hn, hself, hext j hj'] at he
        have := h.lt j hj'
        simp only at he
        omega
    · rename_i q2
      have hi' := Ren.on_of _ _ hon (by omega)
      split at hj
      · rename_i q
        rw [q, hn, hself, hext i hi'] at he
        have := h.lt i hi'
        simp only at he
        omega
      · rename_i q3
        have hj' := Ren.on_of _ _ hon2 (by omega)
        rw [hext i hi', hext j hj'] at he
        rw [hext i hi', hext j hj']
        exact h.sep i j bi bj hi' hj' hi hj hne hri hrj he
  · intro i b hon hb hr hc
    rw [AHeap.blk_new] at hb
    split at hb
    · rename_i q
      cases hb
      refine ⟨{ mem := [(H.next, 0)], flo := 0, fhi := 0 }, by rw [AHeap.grp_new]; simp [freshBlk], by simp [freshBlk, q], ?_⟩
      intro cc ee lo hi hk
      rw [q, hn, hself] at hk
      rw [hp] at hk
      simp only [if_true] at hk
      cases ho with
      | cells e hA => cases hk; exact ⟨Nat.le_refl _, fun hlt => absurd hlt (Nat.lt_irrefl _)⟩
      | obj k2 => have := k2.notCells.1; simp only [freshBlk] at hc; rw [this] at hc; cases hc
    · rename_i q
      have hi := Ren.on_of _ _ hon (by omega)
      obtain ⟨g, hg, hm, hf⟩ := h.grp i b hi hb hr hc
      have hrt := h.root i b hb
      refine ⟨g, by rw [AHeap.grp_new, if_neg (by omega)]; exact hg, hm, ?_⟩
      intro cc ee lo hi2 hk
      rw [hext i hi] at hk ⊢
      have := h.lt i hi
      rw [hp, if_neg (by omega)] at hk
      exact hf cc ee lo hi2 hk
  · intro i b hb
    rw [AHeap.blk_new] at hb
    show b.root < H.next + 1
    split at hb
    · cases hb; simp [freshBlk]
    · have := h.root i b hb; omega

def Ren.more (ρ : Ren) : Ren := { n := ρ.n + 1, f := ρ.f, on := ρ.on, lt := fun i h => Nat.lt_succ_of_lt (ρ.lt i h) }

theorem Ren.le_more (ρ : Ren) : ρ.le ρ.more := ⟨Nat.le_succ _, fun _ h => ⟨h, rfl⟩⟩

theorem HR.reserve (h : HR N w0 ρ H w) (o : Obj) : HR N w0 ρ.more (H.new o) w := by
  have hn := h.n
  have hle := Ren.le_more ρ
  have hne : ∀ i, ρ.on i → ¬ i = H.next := fun i hi e => by have := ρ.lt i hi; omega
  have hblk : ∀ i b, ρ.on i → (H.new o).blk i = some b → H.blk i = some b := by
    intro i b hi hb
    rw [AHeap.blk_new, if_neg (hne i hi)] at hb
    exact hb
  refine ⟨?_, h.base, h.below, h.lt, ?_, ?_, ?_, ?_, ?_, ?_, ?_, ?_, fun i hi => ⟨Nat.lt_succ_of_lt (h.off i hi).1, (h.off i hi).2⟩⟩
  · show H.next + 1 = ρ.n + 1
    omega
  · intro i b hb
    rw [AHeap.blk_new] at hb
    show i < ρ.n + 1
    split at hb
    · omega
    · have := h.dom i b hb; omega
  · intro i b c e fr hon hb ho
    obtain ⟨a1, a2, a3, a4, a5, a6, a7⟩ := h.cells i b c e fr hon (hblk i b hon hb) ho
    exact ⟨a1, a2, a3, a4, a5, a6.mono hle, a7⟩
  · intro i b hon hb hnc
    obtain ⟨a1, a2, a3⟩ := h.objs i b hon (hblk i b hon hb) hnc
    exact ⟨a1, a2, a3.1.mono hle, a3.2⟩
  · intro i b hon hb; exact h.own i b hon (hblk i b hon hb)
  · intro i b hon hb; exact h.old i b hon (hblk i b hon hb)
  · intro i j bi bj hon hon2 hi hj
    exact h.sep i j bi bj hon hon2 (hblk i bi hon hi) (hblk j bj hon2 hj)
  · intro i b hon hb hr hc
    have hb := hblk i b hon hb
    obtain ⟨g, hg, hm, hf⟩ := h.grp i b hon hb hr hc
    have hrt := h.root i b hb
    exact ⟨g, by rw [AHeap.grp_new, if_neg (by omega)]; exact hg, hm, hf⟩
  · intro i b hb
    rw [AHeap.blk_new] at hb
    show b.root < H.next + 1
    split at hb
    · cases hb; simp [freshBlk]
    · have := h.root i b hb; omega

def Ren.settle (ρ : Ren) (b : Nat) (l : Loc) (hb : b < ρ.n) : Ren :=
  { n := ρ.n, f := fun i => if i = b then l else ρ.f i, on := fun i => ρ.on i ∨ i = b, lt := fun i h => h.elim (fun h => ρ.lt i h) (fun h => by omega) }

theorem Ren.le_settle (ρ : Ren) {b : Nat} (l : Loc) (hb : b < ρ.n) (hoff : ¬ ρ.on b) : ρ.le (ρ.settle b l hb) :=
  ⟨Nat.le_refl _, fun i hi => ⟨.inl hi, if_neg (fun (e : i = b) => hoff (by rw [← e]; exact hi))⟩⟩

theorem HR.settle (h : HR N w0 ρ H w) {b : Nat} (hoff : ¬ ρ.on b) (hbn : b < ρ.n) (hw0 : ¬ w0.off b) {c c' : Array Value} {e : TypeId} (hb : H.blk b = some ⟨.cells c e (0, 0), b, 0, false, 0⟩) (hg : H.grp b = some ⟨[(b, 0)], 0, 0⟩) (hc : AsR ρ c c') :
    HR N w0 (ρ.settle b ⟨w.heap.size, 0, 0, c.size⟩ hbn) H { w with heap := w.heap.push (.cells c' e (0, 0)) } := by
  have hle := Ren.le_settle ρ ⟨w.heap.size, 0, 0, c.size⟩ hbn hoff
  have hself : (ρ.settle b ⟨w.heap.size, 0, 0, c.size⟩ hbn).f b = ⟨w.heap.size, 0, 0, c.size⟩ := if_pos rfl
  have hext : ∀ i, ρ.on i → (ρ.settle b ⟨w.heap.size, 0, 0, c.size⟩ hbn).f i = ρ.f i := fun i hi => (hle.2 i hi).2
  have hNs : N ≤ w.heap.size := Nat.le_trans h.base h.below.size
  have hp := fun k => heap_push w (.cells c' e (0, 0)) k
  refine ⟨h.n, h.base, h.below.alloc hNs _, ?_, h.dom, ?_, ?_, ?_, ?_, ?_, ?_, h.root, ?_⟩
  · intro i hi
    simp only [Array.size_push]
    rcases hi with hi | rfl
    · rw [hext i hi]; have := h.lt i hi; omega
    · rw [hself]; simp
  · intro i bi ci ei fi hon hi ho
    rcases hon with hon | rfl
    · obtain ⟨a1, a2, a3, a4, a5, a6, a7⟩ := h.cells i bi ci ei fi hon hi ho
      have := h.lt i hon
      rw [hext i hon]
      exact ⟨a1, a2, a3, by rw [hp, if_neg (by omega)]; exact a4, a5, a6.mono hle, a7⟩
    · rw [hb] at hi
      cases hi
      cases ho
      rw [hself]
      refine ⟨c', e, (0, 0), by rw [hp, if_pos rfl], hc.1.symm, ?_, rfl, rfl, fun _ => ⟨hc.1.symm, rfl⟩⟩
      intro j v hj
      obtain ⟨v', hv', hr⟩ := hc.get hj
      exact ⟨v', hv', hr.mono hle⟩
  · intro i bi hon hi hn
    rcases hon with hon | rfl
    · obtain ⟨a1, a2, a3⟩ := h.objs i bi hon hi hn
      have := h.lt i hon
      rw [hext i hon]
      exact ⟨a1, by rw [hp, if_neg (by omega)]; exact a2, a3.1.mono hle, a3.2⟩
    · rw [hb] at hi
      cases hi
      cases hn
  · intro i bi hon hi hr
    rcases hon with hon | rfl
    · rw [hext i hon]; exact h.own i bi hon hi hr
    · rw [hself]; exact hNs
  · intro i bi hon hi hr
    rcases hon with hon | rfl
    · rw [hext i hon]; exact h.old i bi hon hi hr
    · rw [hb] at hi; cases hi; cases hr
  · intro i j bi bj hon hon2 hi hj hne hri hrj he
    rcases hon with hon | rfl
    · rcases hon2 with hon2 | rfl
      · rw [hext i hon, hext j hon2] at he ⊢
        exact h.sep i j bi bj hon hon2 hi hj hne hri hrj he
      · rw [hext i hon, hself] at he
        have := h.lt i hon
        simp only at he
        omega
    · rcases hon2 with hon2 | rfl
      · rw [hext j hon2, hself] at he
        have := h.lt j hon2
        simp only at he
        omega
      · exact absurd rfl hne
  · intro i bi hon hi hr hic
    rcases hon with hon | rfl
    · obtain ⟨g, a1, a2, a3⟩ := h.grp i bi hon hi hr hic
      have := h.lt i hon
      rw [hext i hon]
      refine ⟨g, a1, a2, ?_⟩
      intro cc ee lo hi2 hk
      rw [hp, if_neg (by omega)] at hk
      exact a3 cc ee lo hi2 hk
    · rw [hb] at hi
      cases hi
      refine ⟨_, hg, by simp, ?_⟩
      intro cc ee lo hi2 hk
      rw [hself] at hk
      rw [hp, if_pos rfl] at hk
      cases hk
      exact ⟨Nat.le_refl _, fun hlt => absurd hlt (Nat.lt_irrefl _)⟩
  · intro i hi
    obtain ⟨h1, h2⟩ := h.off i hi
    refine ⟨h1, fun q => q.elim h2 (fun e => ?_)⟩
    subst e
    exact hw0 hi

theorem HR.settleMap (h : HR N w0 ρ H w) {b : Nat} (hoff : ¬ ρ.on b) (hbn : b < ρ.n) (hw0 : ¬ w0.off b) (hb : H.blk b = some ⟨.map #[] 0, b, 0, false, 0⟩) :
    HR N w0 (ρ.settle b ⟨w.heap.size, 0, 0, 0⟩ hbn) H { w with heap := w.heap.push (.map #[] 0) } := by
  have hle := Ren.le_settle ρ ⟨w.heap.size, 0, 0, 0⟩ hbn hoff
  have hself : (ρ.settle b ⟨w.heap.size, 0, 0, 0⟩ hbn).f b = ⟨w.heap.size, 0, 0, 0⟩ := if_pos rfl
  have hext : ∀ i, ρ.on i → (ρ.settle b ⟨w.heap.size, 0, 0, 0⟩ hbn).f i = ρ.f i := fun i hi => (hle.2 i hi).2
  have hNs : N ≤ w.heap.size := Nat.le_trans h.base h.below.size
  have hp := fun k => heap_push w (.map #[] 0) k
  refine ⟨h.n, h.base, h.below.alloc hNs _, ?_, h.dom, ?_, ?_, ?_, ?_, ?_, ?_, h.root, ?_⟩
  · intro i hi
    simp only [Array.size_push]
    rcases hi with hi | rfl
    · rw [hext i hi]; have := h.lt i hi; omega
    · rw [hself]; simp
  · intro i bi ci ei fi hon hi ho
    rcases hon with hon | rfl
    · obtain ⟨a1, a2, a3, a4, a5, a6, a7⟩ := h.cells i bi ci ei fi hon hi ho
      have := h.lt i hon
      rw [hext i hon]
      exact ⟨a1, a2, a3, by rw [hp, if_neg (by omega)]; exact a4, a5, a6.mono hle, a7⟩
    · rw [hb] at hi
      cases hi
      cases ho
  · intro i bi hon hi hn
    rcases hon with hon | rfl
    · obtain ⟨a1, a2, a3⟩ := h.objs i bi hon hi hn
      have := h.lt i hon
      rw [hext i hon]
      exact ⟨a1, by rw [hp, if_neg (by omega)]; exact a2, a3.1.mono hle, a3.2⟩
    · rw [hb] at hi
      cases hi
      rw [hself]
      exact ⟨.map #[] 0, by rw [hp, if_pos rfl], .map 0 ⟨rfl, fun i v v' hv => by simp at hv⟩, rfl⟩
  · intro i bi hon hi hr
    rcases hon with hon | rfl
    · rw [hext i hon]; exact h.own i bi hon hi hr
    · rw [hself]; exact hNs
  · intro i bi hon hi hr
    rcases hon with hon | rfl
    · rw [hext i hon]; exact h.old i bi hon hi hr
    · rw [hb] at hi; cases hi; cases hr
  · intro i j bi bj hon hon2 hi hj hne hri hrj he
    rcases hon with hon | rfl
    · rcases hon2 with hon2 | rfl
      · rw [hext i hon, hext j hon2] at he ⊢
        exact h.sep i j bi bj hon hon2 hi hj hne hri hrj he
      · rw [hext i hon, hself] at he
        have := h.lt i hon
        simp only at he
        omega
    · rcases hon2 with hon2 | rfl
      · rw [hext j hon2, hself] at he
        have := h.lt j hon2
        simp only at he
        omega
      · exact absurd rfl hne
  · intro i bi hon hi hr hic
    rcases hon with hon | rfl
    · obtain ⟨g, a1, a2, a3⟩ := h.grp i bi hon hi hr hic
      have := h.lt i hon
      rw [hext i hon]
      refine ⟨g, a1, a2, ?_⟩
      intro cc ee lo hi2 hk
      rw [hp, if_neg (by omega)] at hk
      exact a3 cc ee lo hi2 hk
    · rw [hb] at hi
      cases hi
      cases hic
  · intro i hi
    obtain ⟨h1, h2⟩ := h.off i hi
    refine ⟨h1, fun q => q.elim h2 (fun e => ?_)⟩
    subst e
    exact hw0 hi

theorem HR.pin (h : HR N w0 ρ H w) (off : Nat → Prop) (ho : ∀ i, off i → i < ρ.n ∧ ¬ ρ.on i) : HR N ⟨w0.w, off⟩ ρ H w :=
  ⟨h.n, h.base, h.below, h.lt, h.dom, h.cells, h.objs, h.own, h.old, h.sep, h.grp, h.root, ho⟩

theorem BR.ext (ρ : Ren) (l : Loc) : BR (ρ.ext l) ρ.n l.block := ⟨Ren.on_self _ _, by rw [Ren.ext_self]⟩

def AHeap.getObj (H : AHeap) (r : Nat) : Option Obj :=
  match H.blk r with
  | some b => if isCells b.obj then none else some b.obj
  | none => none

def AHeap.setObj (H : AHeap) (r : Nat) (o : Obj) : Option AHeap :=
  match H.blk r with
  | some b => if isCells b.obj || isCells o || b.ro then none else some (H.setBlk r { b with obj := o })
  | none => none

theorem HR.getObj (h : HR N w0 ρ H w) {r r' : Nat} (hr : BR ρ r r') {o : Obj} (ho : H.getObj r = some o) : ∃ o', w.heap[r']? = some o' ∧ OR ρ o o' := by
  unfold AHeap.getObj at ho
  split at ho
  case h_2 => cases ho
  rename_i b hb
  split at ho
  case isTrue => cases ho
  rename_i hc
  cases ho
  obtain ⟨o', hw, hor⟩ := h.objs r b hr.1 hb (by simpa using hc)
  exact ⟨o', by rw [hr.2]; exact hw, hor.1⟩

theorem HR.flat (h : HR N w0 ρ H w) {r : Nat} (hr : ρ.on r) {o : Obj} (ho : H.getObj r = some o) : (ρ.f r).shift = 0 := by
  unfold AHeap.getObj at ho
  split at ho
  case h_2 => cases ho
  rename_i b hb
  split at ho
  case isTrue => cases ho
  rename_i hc
  exact (h.objs r b hr hb (by simpa using hc)).choose_spec.2.2

theorem HR.setObj (h : HR N w0 ρ H w) {r r' : Nat} (hr : BR ρ r r') {o o' : Obj} (ho : OR ρ o o') {H' : AHeap} (hs : H.setObj r o = some H') :
    (∃ x, w.heap[r']? = some x ∧ isCells x = false) ∧ HR N w0 ρ H' { w with heap := w.heap.setIfInBounds r' o' } := by
  unfold AHeap.setObj at hs
  split at hs
  case h_2 => cases hs
  rename_i b hb
  split at hs
  case isTrue => cases hs
  rename_i hc
  cases hs
  simp only [Bool.or_eq_true, not_or, Bool.not_eq_true] at hc
  obtain ⟨⟨hc1, hc2⟩, hro⟩ := hc
  obtain ⟨x, hx, hox⟩ := h.objs r b hr.1 hb hc1
  have hrr := hr.2
  subst hrr
  have hlt := h.lt r hr.1
  have hp : ∀ k, ({ w with heap := w.heap.setIfInBounds (ρ.f r).block o' } : World).heap[k]? = if k = (ρ.f r).block then some o' else w.heap[k]? := by
    intro k
    simp only [Array.getElem?_setIfInBounds]
    by_cases q : (ρ.f r).block = k
    · subst q; simp [hlt]
    · simp [q, Ne.symm q]
  have hNB := h.own r b hr.1 hb hro
  have hcc := ho.notCells
  refine ⟨⟨x, hx, hox.1.notCells.2⟩, ?_⟩
  refine ⟨h.n, h.base, ?_, ?_, ?_, ?_, ?_, ?_, ?_, ?_, ?_, ?_, h.off⟩
  · refine h.below.trans ⟨rfl, rfl, rfl, by simp, fun k hk => ?_⟩
    rw [hp, if_neg (by omega)]
  · intro i hi; simpa using h.lt i hi
  · intro i bi hi
    rw [AHeap.blk_setBlk] at hi
    split at hi
    · rename_i q; subst q; exact ρ.lt _ hr.1
    · exact h.dom i bi hi
  · intro i bi ci ei fi hon hi hoi
    rw [AHeap.blk_setBlk] at hi
    split at hi
    · cases hi; simp only at hoi; rw [hoi] at hc2; cases hc2
    · obtain ⟨c', e', fr', hw, rest⟩ := h.cells i bi ci ei fi hon hi hoi
      refine ⟨c', e', fr', ?_, rest⟩
      rw [hp]
      split
      · rename_i q
        rw [q, hx] at hw
        cases hw
        have := hox.1.notCells.2
        cases this
      · exact hw
  · intro i bi hon hi hn
    rw [AHeap.blk_setBlk] at hi
    split at hi
    · rename_i q; subst q; cases hi; exact ⟨o', by rw [hp, if_pos rfl], ho, hox.2⟩
    · rename_i hne
      obtain ⟨o1, hw, hor⟩ := h.objs i bi hon hi hn
      refine ⟨o1, ?_, hor⟩
      rw [hp]
      split
      · rename_i q
        exfalso
        cases hri : bi.ro with
        | true => have := h.old i bi hon hi hri; omega
        | false =>
          have := (h.sep i r bi b hon hr.1 hi hb hne hri hro q).1
          rw [hn] at this
          cases this
      · exact hw
  · intro i bi hon hi hri
    rw [AHeap.blk_setBlk] at hi
    split at hi
    · rename_i q; subst q; exact hNB
    · exact h.own i bi hon hi hri
  · intro i bi hon hi hri
    rw [AHeap.blk_setBlk] at hi
    split at hi
    · cases hi; simp only at hri; rw [hro] at hri; cases hri
    · exact h.old i bi hon hi hri
  · intro i j bi bj hon hon2 hi hj hne hri hrj he
    rw [AHeap.blk_setBlk] at hi hj
    split at hi
    · rename_i q
      subst q
      split at hj
      · rename_i q2; exact absurd q2.symm hne
      · have := (h.sep _ j b bj hr.1 hon2 hb hj hne hro hrj he).1
        rw [hc1] at this
        cases this
    · split at hj
      · rename_i q
        subst q
        have := (h.sep i _ bi b hon hr.1 hi hb hne hri hro he).2.1
        rw [hc1] at this
        cases this
      · exact h.sep i j bi bj hon hon2 hi hj hne hri hrj he
  · intro i bi hon hi hri hci
    rw [AHeap.blk_setBlk] at hi
    split at hi
    · cases hi; simp only at hci; rw [hc2] at hci; cases hci
    · obtain ⟨g, hg, hm, hf⟩ := h.grp i bi hon hi hri hci
      refine ⟨g, hg, hm, ?_⟩
      intro cc ee lo hi2 hk
      rw [hp] at hk
      split at hk
      · cases hk
        have := hcc.2
        cases this
      · exact hf cc ee lo hi2 hk
  · intro i bi hi
    rw [AHeap.blk_setBlk] at hi
    split at hi
    · cases hi; exact h.root r b hb
    · exact h.root i bi hi

end
end Go.Ev

namespace Go.Ev
open Go.RowKit

section
variable {N : Nat} {w0 : Base} {ρ : Ren} {H : AHeap} {w : World}

def hull (g : Grp) (o n : Nat) : Grp := if g.flo < g.fhi then { g with flo := min g.flo o, fhi := max g.fhi (o + n) } else { g with flo := o, fhi := o + n }

def AHeap.freeze (H : AHeap) (a : Addr) (n : Nat) : Option AHeap :=
  match H.blk a.block with
  | some b =>
    if b.ro || !isCells b.obj then none else
    match H.grp b.root with
    | some g => some { H with grps := H.grps.set b.root (hull g (a.off + b.org) n) }
    | none => none
  | none => none

theorem heap_freeze {w : World} {a : Addr} {n : Nat} (hn : n ≠ 0) {c : Array Value} {e : TypeId} {lo hi : Nat} (h : w.heap[a.block]? = some (.cells c e (lo, hi))) (k : Nat) :
    (w.freeze a n).heap[k]? = if k = a.block then some (.cells c e (if lo == hi then (a.off, a.off + n) else (min lo a.off, max hi (a.off + n)))) else w.heap[k]? := by
  simp only [World.freeze, hn, if_false, Array.getElem?_modify]
  by_cases q : a.block = k
  · subst q; simp [h]
  · simp [q, Ne.symm q]

theorem freeze_size {w : World} {a : Addr} {n : Nat} : (w.freeze a n).heap.size = w.heap.size := by
  unfold World.freeze; split <;> simp

theorem HR.freeze (h : HR N w0 ρ H w) {a a' : Addr} (ha : AR ρ a a') {n : Nat} (hn : n ≠ 0) {H' : AHeap} (hs : H.freeze a n = some H') : HR N w0 ρ H' (w.freeze a' n) := by
  unfold AHeap.freeze at hs
  split at hs
  case h_2 => cases hs
  rename_i b hb
  split at hs
  case isTrue => cases hs
  rename_i hc
  split at hs
  case h_2 => cases hs
  rename_i g hg
  cases hs
  simp only [Bool.or_eq_true, not_or, Bool.not_eq_true, Bool.not_eq_false'] at hc
  obtain ⟨hro, hisc⟩ := hc
  obtain ⟨c, e, fr, ho⟩ := isCells_eq hisc
  obtain ⟨c', e', ⟨lo, hi⟩, hw, hrest⟩ := h.cells _ _ _ _ _ ha.1 hb ho
  have hab := ha.2.1
  have hao := ha.2.2.1
  have hw' : w.heap[a'.block]? = some (.cells c' e' (lo, hi)) := by rw [hab]; exact hw
  have hh := fun k => heap_freeze hn hw' k
  have hNB := h.own _ _ ha.1 hb hro
  have hblk : ∀ i, ({ H with grps := H.grps.set b.root (hull g (a.off + b.org) n) } : AHeap).blk i = H.blk i := fun _ => rfl
  have hgrp : ∀ i, ({ H with grps := H.grps.set b.root (hull g (a.off + b.org) n) } : AHeap).grp i = if i = b.root then some (hull g (a.off + b.org) n) else H.grp i := fun i => Trie.get_set _ _ _ _
  have hmem : (hull g (a.off + b.org) n).mem = g.mem := by unfold hull; split <;> rfl
  obtain ⟨g0, hg0, hm0, hf0⟩ := h.grp _ b ha.1 hb hro hisc
  rw [hg] at hg0
  cases hg0
  have hself := hf0 _ _ _ _ hw
  refine ⟨h.n, h.base, ?_, ?_, h.dom, ?_, ?_, h.own, h.old, h.sep, ?_, h.root, h.off⟩
  · refine h.below.trans ⟨?_, ?_, ?_, by rw [freeze_size]; exact Nat.le_refl _, fun k hk => by rw [hh, if_neg (by omega)]⟩ <;> (unfold World.freeze; split <;> rfl)
  · intro i hi'; rw [freeze_size]; exact h.lt i hi'
  · intro i bi ci ei fi hon hi' hoi
    obtain ⟨c1, e1, f1, hw1, r1⟩ := h.cells i bi ci ei fi hon hi' hoi
    by_cases q : (ρ.f i).block = a'.block
    · rw [q, hw'] at hw1
      cases hw1
      exact ⟨_, _, _, by rw [hh, if_pos q], r1⟩
    · exact ⟨c1, e1, f1, by rw [hh, if_neg q]; exact hw1, r1⟩
  · intro i bi hon hi' hnc
    obtain ⟨o1, hw1, r1⟩ := h.objs i bi hon hi' hnc
    refine ⟨o1, ?_, r1⟩
    rw [hh]
    split
    · rename_i q
      rw [q, hw'] at hw1
      cases hw1
      have := r1.1.notCells.2
      cases this
    · exact hw1
  · intro i bi hon hi' hri hci
    obtain ⟨gi, hgi, hmi, hfi⟩ := h.grp i bi hon hi' hri hci
    have hlohull : g.flo < g.fhi → (hull g (a.off + b.org) n).flo ≤ g.flo ∧ g.fhi ≤ (hull g (a.off + b.org) n).fhi := by
      intro q; unfold hull; rw [if_pos q]; simp only; omega
    have hself2 : (hull g (a.off + b.org) n).flo ≤ a.off + b.org ∧ a.off + b.org + n ≤ (hull g (a.off + b.org) n).fhi := by
      unfold hull; split <;> simp only <;> omega
    -- the shifts of those that lie in the same block
    have hsh : (ρ.f i).block = a'.block → bi.root = b.root ∧ (ρ.f i).shift + b.org = (ρ.f a.block).shift + bi.org := by
      intro q
      by_cases e1 : i = a.block
      · subst e1
        have hi2 : H.blk a.block = some bi := hi'
        rw [hb] at hi2
        cases hi2
        exact ⟨rfl, rfl⟩
      · have := h.sep i a.block bi b hon ha.1 hi' hb e1 hri hro (by rw [q, hab])
        exact ⟨this.2.2.1, this.2.2.2⟩
    by_cases er : bi.root = b.root
    · rw [er, hg] at hgi
      cases hgi
      refine ⟨hull g (a.off + b.org) n, by rw [hgrp, if_pos er], by rw [hmem]; exact hmi, ?_⟩
      intro cc ee lo2 hi2 hq
      rw [hh] at hq
      split at hq
      · rename_i q
        obtain ⟨_, hsh2⟩ := hsh q
        have hold := hfi c' e' lo hi (by rw [q]; exact hw')
        simp only [Option.some.injEq, Obj.cells.injEq] at hq
        obtain ⟨_, _, hq⟩ := hq
        split at hq
        · cases hq
          refine ⟨by omega, fun _ => ?_⟩
          omega
        · rename_i hne
          have hne' : lo ≠ hi := by simpa using hne
          cases hq
          have := hold.2 (by omega)
          have hgl := hlohull (by omega)
          refine ⟨by omega, fun _ => ?_⟩
          have hmin : min lo a'.off = lo ∨ min lo a'.off = a'.off := by omega
          have hmax : max hi (a'.off + n) = hi ∨ max hi (a'.off + n) = a'.off + n := by omega
          constructor
          · rcases hmin with q | q <;> rw [q] <;> omega
          · rcases hmax with q | q <;> rw [q] <;> omega
      · obtain ⟨h1, h2⟩ := hfi cc ee lo2 hi2 hq
        refine ⟨h1, fun hlt => ?_⟩
        have := h2 hlt
        have hgl := hlohull (by omega)
        omega
    · refine ⟨gi, by rw [hgrp, if_neg er]; exact hgi, hmi, ?_⟩
      intro cc ee lo2 hi2 hq
      rw [hh] at hq
      split at hq
      · rename_i q
        exact absurd (hsh q).1 er
      · exact hfi cc ee lo2 hi2 hq

def wide : Value → Bool
  | .agg _ | .tuple _ => true
  | _ => false

theorem run_store {α : Type} {P : Program} {m : Mode} {a : Addr} {v : Value} {k : Sem α} {w : World} (hv : wide v = false) (hc : ∃ x, w.cell? a = some x) (hf : w.frozen? a = false) :
    (Sem.store m a v k).run P w = k.run P (w.setCell a v) := by
  obtain ⟨x, hx⟩ := hc
  cases v <;> first | (simp [wide] at hv; done) | simp [Sem.run, hx, hf]

theorem VR.wide {v v' : Value} (h : VR ρ v v') (hv : Ev.wide v = false) : Ev.wide v' = false := by
  cases h <;> first | rfl | (simp [Ev.wide] at hv; done)

def canNew : Obj → Bool
  | .cells _ _ fr => fr.1 == 0 && fr.2 == 0
  | .map .. | .stringIter .. | .mapIter .. | .loop .. | .deferred .. => true
  | _ => false

def AHeap.shape (H : AHeap) (r : Nat) : Option (Option (TypeId × Nat)) :=
  match H.blk r with
  | some b => match b.obj with
    | .cells c e _ => if b.sz = 0 then some (some (e, c.size)) else none
    | _ => some none
  | none => none

def AHeap.thawed (H : AHeap) (a : Addr) : Bool :=
  match H.blk a.block with
  | some b => if b.ro || !isCells b.obj then false else
    match H.grp b.root with
    | some g => !(g.flo ≤ a.off + b.org && a.off + b.org < g.fhi)
    | none => false
  | none => false

def absRun {α : Type} (P : Program) : Sem α → AHeap → Option (α × AHeap)
  | .pure a, H => some (a, H)
  | .load _ a k, H => match H.cell a with
    | some v => absRun P (k v) H
    | none => none
  | .store _ a v k, H => match wide v with
    | true => none
    | false => match H.store a v with
      | some H' => absRun P k H'
      | none => none
  | .new o k, H => match canNew o with
    | true => absRun P (k H.next) (H.new o)
    | false => none
  | .shape r k, H => match H.shape r with
    | some s => absRun P (k s) H
    | none => none
  | .freeze a n k, H => match n with
    | 0 => absRun P k H
    | n + 1 => match H.freeze a (n + 1) with
      | some H' => absRun P k H'
      | none => none
  | .frozen a k, H => match H.thawed a with
    | true => absRun P (k false) H
    | false => none
  | .getObj r k, H => match H.getObj r with
    | some o => absRun P (k o) H
    | none => none
  | .setObj r o k, H => match H.setObj r o with
    | some H' => absRun P k H'
    | none => none
  | .choose q k, H => match q.forced with
    | true => absRun P (k 0) H
    | false => none
  | .sys _ _, _ => none
  | .program k, H => absRun P (k P) H
  | .mark _ k, H => absRun P k H
  | .halt _, _ => none

def isNext : Question → Bool
  | .mapNext _ => true
  | _ => false

inductive SR (P : Program) {α β : Type} (RA : Ren → α → β → Prop) : Ren → Sem α → Sem β → Prop
  | pure {ρ : Ren} {a : α} {b : β} : RA ρ a b → SR P RA ρ (.pure a) (.pure b)
  | load {ρ : Ren} {m m' : Mode} {a a' : Addr} {k : Value → Sem α} {k' : Value → Sem β} : AR ρ a a' → (∀ v v', VR ρ v v' → SR P RA ρ (k v) (k' v')) → SR P RA ρ (.load m a k) (.load m' a' k')
  | store {ρ : Ren} {m m' : Mode} {a a' : Addr} {v v' : Value} {k : Sem α} {k' : Sem β} : AR ρ a a' → VR ρ v v' → SR P RA ρ k k' → SR P RA ρ (.store m a v k) (.store m' a' v' k')
  | new {ρ : Ren} {o o' : Obj} {k : Nat → Sem α} {k' : Nat → Sem β} : ObR ρ o o' → (∀ σ r r', ρ.le σ → BR σ r r' → (objSize o = (σ.f r).csize ∧ (σ.f r).shift = 0) → SR P RA σ (k r) (k' r')) → SR P RA ρ (.new o k) (.new o' k')
  | shape {ρ : Ren} {r r' : Nat} {k : Option (TypeId × Nat) → Sem α} {k' : Option (TypeId × Nat) → Sem β} : BR ρ r r' → (∀ s, SR P RA ρ (k s) (k' s)) → SR P RA ρ (.shape r k) (.shape r' k')
  | freeze {ρ : Ren} {a a' : Addr} {n : Nat} {k : Sem α} {k' : Sem β} : AR ρ a a' → SR P RA ρ k k' → SR P RA ρ (.freeze a n k) (.freeze a' n k')
  | frozen {ρ : Ren} {a a' : Addr} {k : Bool → Sem α} {k' : Bool → Sem β} : AR ρ a a' → (∀ b, SR P RA ρ (k b) (k' b)) → SR P RA ρ (.frozen a k) (.frozen a' k')
  | getObj {ρ : Ren} {r r' : Nat} {k : Obj → Sem α} {k' : Obj → Sem β} : BR ρ r r' → (∀ o o', OR ρ o o' → SR P RA ρ (k o) (k' o')) → SR P RA ρ (.getObj r k) (.getObj r' k')
  | setObj {ρ : Ren} {r r' : Nat} {o o' : Obj} {k : Sem α} {k' : Sem β} : BR ρ r r' → OR ρ o o' → SR P RA ρ k k' → SR P RA ρ (.setObj r o k) (.setObj r' o' k')
  | choose {ρ : Ren} {q q' : Question} {k : Nat → Sem α} {k' : Nat → Sem β} : q.forced = true → q'.forced = true → SR P RA ρ (k 0) (k' 0) → SR P RA ρ (.choose q k) (.choose q' k')
  | chooseAll {ρ : Ren} {q : Question} {k : Nat → Sem α} {k' : Nat → Sem β} : (∀ j, SR P RA ρ (k j) (k' j)) → SR P RA ρ (.choose q k) (.choose q k')
  | program {ρ : Ren} {k : Program → Sem α} {k' : Program → Sem β} : SR P RA ρ (k P) (k' P) → SR P RA ρ (.program k) (.program k')
  | mark {ρ : Ren} {m m' : Mark} {k : Sem α} {k' : Sem β} : SR P RA ρ k k' → SR P RA ρ (.mark m k) (.mark m' k')
  | halt {ρ : Ren} {h : Halt} {s' : Sem β} : SR P RA ρ (.halt h) s'
  | chooseNo {ρ : Ren} {q : Question} {k : Nat → Sem α} {s' : Sem β} : q.forced = false → isNext q = false → SR P RA ρ (.choose q k) s'
  | dead {ρ : Ren} {s : Sem α} {s' : Sem β} : (∀ H, absRun P s H = none) → SR P RA ρ s s'
  | sys {ρ : Ren} {c : Sys} {k : SysRet → Sem α} {s' : Sem β} : SR P RA ρ (.sys c k) s'

def Runs (P : Program) {α β : Type} (N : Nat) (w0 : Base) (RA : Ren → α → β → Prop) (ρ : Ren) (s' : Sem β) (w : World) : Option (α × AHeap) → Prop
  | some (a, H') => ∃ σ b w', ρ.le σ ∧ s'.run P w = .ok b w' ∧ RA σ a b ∧ HR N w0 σ H' w'
  | none => True

theorem Runs.of_run {P : Program} {α β : Type} {RA : Ren → α → β → Prop} {ρ σ : Ren} {s s' : Sem β} {w w' : World} {r : Option (α × AHeap)} (hle : ρ.le σ)
    (he : s.run P w = s'.run P w') (h : Runs P N w0 RA σ s' w' r) : Runs P N w0 RA ρ s w r := by
  cases r with
  | some p =>
    obtain ⟨a, H'⟩ := p
    obtain ⟨τ, b, w2, h1, h2, h3⟩ := h
    exact ⟨τ, b, w2, Ren.le_trans hle h1, he.trans h2, h3⟩
  | none => trivial

theorem absRun_sound {P : Program} {α β : Type} {RA : Ren → α → β → Prop} {ρ : Ren} {s : Sem α} {s' : Sem β} (hs : SR P RA ρ s s') :
    ∀ (H : AHeap) (w : World), HR N w0 ρ H w → Runs P N w0 RA ρ s' w (absRun P s H) := by
  induction hs with
  | pure h => intro H w hH; exact ⟨_, _, w, Ren.le_refl _, rfl, h, hH⟩
  | @load ρ m m' a a' k k' ha hk ih =>
    intro H w hH
    unfold absRun
    split
    · rename_i v hv
      obtain ⟨v', hv', hr⟩ := hH.load ha hv
      exact Runs.of_run (Ren.le_refl _) (by simp [Sem.run, hv']) (ih v v' hr H w hH)
    · trivial
  | @store ρ m m' a a' v v' k k' ha hv hk ih =>
    intro H w hH
    unfold absRun
    split
    · trivial
    · rename_i hwd
      split
      · rename_i H' hst
        obtain ⟨h1, h2, h3⟩ := hH.store ha hv hst
        exact Runs.of_run (Ren.le_refl _) (run_store (hv.wide hwd) h1 h2) (ih H' _ h3)
      · trivial
  | @new ρ o o' k k' ho hk ih =>
    intro H w hH
    unfold absRun
    split
    · have h1 := hH.new ho
      have hb : BR (ρ.ext ⟨w.heap.size, 0, 0, objSize o⟩) H.next w.heap.size := by rw [hH.n]; exact BR.ext ρ _
      exact Runs.of_run (Ren.le_ext _ _) (by simp [Sem.run]) (ih _ H.next w.heap.size (Ren.le_ext _ _) hb (by rw [hH.n, Ren.ext_self]; exact ⟨rfl, rfl⟩) _ _ h1)
    · trivial
  | @shape ρ r r' k k' hr hk ih =>
    intro H w hH
    unfold absRun
    split
    · rename_i s hsh
      refine Runs.of_run (Ren.le_refl _) ?_ (ih s H w hH)
      simp only [Sem.run]
      have : w.shape? r' = s := by
        unfold AHeap.shape at hsh
        rw [hr.2]
        split at hsh
        · rename_i b hb
          split at hsh
          · rename_i c e fr ho
            split at hsh
            · rename_i hz
              cases hsh
              obtain ⟨c', e', fr', hw, _, _, _, hx⟩ := hH.cells _ _ _ _ _ hr.1 hb ho
              obtain ⟨q3, hx⟩ := hx
              obtain ⟨q1, _⟩ := hx hz
              simp [World.shape?, hw, q1, q3]
            · cases hsh
          · rename_i o hno
            cases hsh
            obtain ⟨o', hw, hor⟩ := hH.objs _ _ hr.1 hb (by
              cases q : isCells b.obj
              · rfl
              · obtain ⟨c, e, fr, hq⟩ := isCells_eq q
                exact absurd hq (hno _ _ _))
            unfold World.shape?
            rw [hw]
            have := hor.1.notCells.2
            cases o' <;> first | rfl | (simp [isCells] at this)
        · cases hsh
      rw [this]
    · trivial
  | @freeze ρ a a' n k k' ha hk ih =>
    intro H w hH
    unfold absRun
    split
    · exact Runs.of_run (Ren.le_refl _) (by simp [Sem.run, World.freeze]) (ih H w hH)
    · split
      · rename_i n H' hf
        exact Runs.of_run (Ren.le_refl _) (by simp [Sem.run]) (ih H' _ (hH.freeze ha (Nat.succ_ne_zero _) hf))
      · trivial
  | @frozen ρ a a' k k' ha hk ih =>
    intro H w hH
    unfold absRun
    split
    · rename_i ht
      refine Runs.of_run (Ren.le_refl _) ?_ (ih false H w hH)
      have : w.frozen? a' = false := by
        unfold AHeap.thawed at ht
        split at ht
        · rename_i b hb
          split at ht
          · cases ht
          · rename_i hc
            simp only [Bool.or_eq_true, not_or, Bool.not_eq_true, Bool.not_eq_false'] at hc
            split at ht
            · rename_i g hg
              obtain ⟨g0, hg0, _, hf0⟩ := hH.grp _ b ha.1 hb hc.1 hc.2
              rw [hg] at hg0
              cases hg0
              obtain ⟨_, h2, h3, _⟩ := ha
              cases q : w.frozen? a' with
              | false => rfl
              | true =>
                have q2 : w.frozen? ⟨(ρ.f a.block).block, a'.off, none⟩ = true := by rw [← h2]; exact q
                have := hf0.frozen q2
                simp only [Bool.not_eq_true', Bool.and_eq_false_iff, decide_eq_false_iff_not] at ht
                omega
            · cases ht
        · cases ht
      simp [Sem.run, this]
    · trivial
  | @getObj ρ r r' k k' hr hk ih =>
    intro H w hH
    unfold absRun
    split
    · rename_i o ho
      obtain ⟨o', hw, hor⟩ := hH.getObj hr ho
      refine Runs.of_run (Ren.le_refl _) ?_ (ih o o' hor H w hH)
      have := hor.notCells.2
      simp only [Sem.run, hw]
      cases o' <;> first | rfl | (simp [isCells] at this)
    · trivial
  | @setObj ρ r r' o o' k k' hr ho hk ih =>
    intro H w hH
    unfold absRun
    split
    · rename_i H' hs
      obtain ⟨⟨x, hx, hxc⟩, h2⟩ := hH.setObj hr ho hs
      refine Runs.of_run (Ren.le_refl _) ?_ (ih H' _ h2)
      simp only [Sem.run, hx]
      cases x <;> first | rfl | (simp [isCells] at hxc)
    · trivial
  | @choose ρ q q' k k' hq hq' hk ih =>
    intro H w hH
    unfold absRun
    rw [hq]
    exact Runs.of_run (Ren.le_refl _) (by simp [Sem.run, hq']) (ih H w hH)
  | @chooseAll ρ q k k' hk ih =>
    intro H w hH
    unfold absRun
    split
    · rename_i hf
      exact Runs.of_run (Ren.le_refl _) (by simp [Sem.run, hf]) (ih 0 H w hH)
    · trivial
  | program hk ih => intro H w hH; exact Runs.of_run (Ren.le_refl _) (by simp [Sem.run]) (ih H w hH)
  | mark hk ih => intro H w hH; exact Runs.of_run (Ren.le_refl _) (by simp [Sem.run]) (ih H w hH)
  | halt => intro H w hH; trivial
  | chooseNo hq _ => intro H w hH; unfold absRun; rw [hq]; trivial
  | dead hd => intro H w hH; rw [hd]; trivial
  | sys => intro H w hH; trivial

theorem absRun_bind {P : Program} {α β : Type} (s : Sem α) (f : α → Sem β) : ∀ H, absRun P (s.bind f) H = match absRun P s H with | some (a, H') => absRun P (f a) H' | none => none := by
  induction s with
  | pure a => intro H; rfl
  | load m a k ih => intro H; simp only [Sem.bind, absRun]; split <;> first | exact ih _ _ | rfl
  | store m a v k ih =>
    intro H
    simp only [Sem.bind, absRun]
    split
    · rfl
    · split <;> first | exact ih _ | rfl
  | new o k ih => intro H; simp only [Sem.bind, absRun]; split <;> first | exact ih _ _ | rfl
  | shape r k ih => intro H; simp only [Sem.bind, absRun]; split <;> first | exact ih _ _ | rfl
  | freeze a n k ih =>
    intro H
    simp only [Sem.bind, absRun]
    split
    · exact ih _
    · split <;> first | exact ih _ | rfl
  | frozen a k ih => intro H; simp only [Sem.bind, absRun]; split <;> first | exact ih _ _ | rfl
  | getObj r k ih => intro H; simp only [Sem.bind, absRun]; split <;> first | exact ih _ _ | rfl
  | setObj r o k ih => intro H; simp only [Sem.bind, absRun]; split <;> first | exact ih _ | rfl
  | choose q k ih => intro H; simp only [Sem.bind, absRun]; split <;> first | exact ih _ _ | rfl
  | sys c k ih => intro H; rfl
  | program k ih => intro H; simp only [Sem.bind, absRun]; exact ih _ _
  | mark m k ih => intro H; simp only [Sem.bind, absRun]; exact ih _
  | halt h => intro H; rfl

theorem SR.bind {P : Program} {α β γ δ : Type} {RA : Ren → α → β → Prop} {RB : Ren → γ → δ → Prop} {ρ : Ren} {s : Sem α} {s' : Sem β} (hs : SR P RA ρ s s')
    {f : α → Sem γ} {g : β → Sem δ} (hf : ∀ σ a b, ρ.le σ → RA σ a b → SR P RB σ (f a) (g b)) : SR P RB ρ (s >>= f) (s' >>= g) := by
  show SR P RB ρ (s.bind f) (s'.bind g)
  induction hs with
  | pure h => exact hf _ _ _ (Ren.le_refl _) h
  | load ha hk ih => exact .load ha fun v v' hv => ih v v' hv hf
  | store ha hv hk ih => exact .store ha hv (ih hf)
  | new ho hk ih => exact .new ho fun σ r r' hle hb hc => ih σ r r' hle hb hc fun τ a b h1 h2 => hf τ a b (Ren.le_trans hle h1) h2
  | shape hr hk ih => exact .shape hr fun s => ih s hf
  | freeze ha hk ih => exact .freeze ha (ih hf)
  | frozen ha hk ih => exact .frozen ha fun b => ih b hf
  | getObj hr hk ih => exact .getObj hr fun o o' ho => ih o o' ho hf
  | setObj hr ho hk ih => exact .setObj hr ho (ih hf)
  | choose hq hq' hk ih => exact .choose hq hq' (ih hf)
  | chooseAll hk ih => exact .chooseAll fun j => ih j hf
  | program hk ih => exact .program (ih hf)
  | mark hk ih => exact .mark (ih hf)
  | halt => exact .halt
  | chooseNo hq hn => exact .chooseNo hq hn
  | dead hd => exact .dead fun H => by rw [absRun_bind, hd]
  | sys => exact .sys

theorem SR.imp {P : Program} {α β : Type} {RA RB : Ren → α → β → Prop} {ρ : Ren} {s : Sem α} {s' : Sem β} (hs : SR P RA ρ s s') (h : ∀ σ a b, ρ.le σ → RA σ a b → RB σ a b) : SR P RB ρ s s' := by
  induction hs with
  | pure hr => exact .pure (h _ _ _ (Ren.le_refl _) hr)
  | load ha hk ih => exact .load ha fun v v' hv => ih v v' hv h
  | store ha hv hk ih => exact .store ha hv (ih h)
  | new ho hk ih => exact .new ho fun σ r r' hle hb hc => ih σ r r' hle hb hc fun τ a b h1 h2 => h τ a b (Ren.le_trans hle h1) h2
  | shape hr hk ih => exact .shape hr fun s => ih s h
  | freeze ha hk ih => exact .freeze ha (ih h)
  | frozen ha hk ih => exact .frozen ha fun b => ih b h
  | getObj hr hk ih => exact .getObj hr fun o o' ho => ih o o' ho h
  | setObj hr ho hk ih => exact .setObj hr ho (ih h)
  | choose hq hq' hk ih => exact .choose hq hq' (ih h)
  | chooseAll hk ih => exact .chooseAll fun j => ih j h
  | program hk ih => exact .program (ih h)
  | mark hk ih => exact .mark (ih h)
  | halt => exact .halt
  | chooseNo hq hn => exact .chooseNo hq hn
  | dead hd => exact .dead hd
  | sys => exact .sys

end
end Go.Ev

namespace Go.Ev
open Go.RowKit

section
variable {P : Program} {ρ : Ren}

abbrev ES (P : Program) {α : Type} (ρ : Ren) (s s' : Sem α) : Prop := SR P (fun _ a b => a = b) ρ s s'

theorem SR.stuck {α β : Type} {RA : Ren → α → β → Prop} (why : String) {s' : Sem β} : SR P RA ρ (Go.stuck why) s' := .halt
theorem SR.unsupported {α β : Type} {RA : Ren → α → β → Prop} (u : Unsupported) {s' : Sem β} : SR P RA ρ (Go.unsupported u) s' := .halt
theorem SR.ret {α β : Type} {RA : Ren → α → β → Prop} {a : α} {b : β} (h : RA ρ a b) : SR P RA ρ (Pure.pure a) (Pure.pure b) := .pure h
theorem SR.goPanic {α β : Type} {RA : Ren → α → β → Prop} {v : Value} {s' : Sem β} : SR P RA ρ (Go.goPanic v) s' := .halt

theorem ES.typeInfo (t : TypeId) : SR P (fun _ a b => a = b ∧ P.info? t = some a) ρ (Go.typeInfo t) (Go.typeInfo t) := by
  refine SR.program ?_
  show SR P _ ρ (match P.info? t with | some i => Pure.pure i | none => Go.stuck "no such type") (match P.info? t with | some i => Pure.pure i | none => Go.stuck "no such type")
  cases h : P.info? t with
  | none => exact .stuck _
  | some i => exact .ret ⟨rfl, rfl⟩

theorem ES.underlying (t : TypeId) : SR P (fun _ a b => a = b ∧ P.underlying t = some a) ρ (Go.underlying t) (Go.underlying t) := by
  refine SR.program ?_
  show SR P _ ρ (match P.underlying t with | some i => Pure.pure i | none => Go.stuck "no such type") (match P.underlying t with | some i => Pure.pure i | none => Go.stuck "no such type")
  cases h : P.underlying t with
  | none => exact .stuck _
  | some i => exact .ret ⟨rfl, rfl⟩

theorem ES.sizeOf (t : TypeId) : SR P (fun _ a b => a = b ∧ ∃ i, P.info? t = some i ∧ i.size = a) ρ (Go.sizeOf t) (Go.sizeOf t) :=
  SR.bind (ES.typeInfo t) fun _ a _ _ h => .ret ⟨by rw [h.1], a, h.2, rfl⟩

theorem ES.program : SR P (fun _ a b => a = P ∧ b = P) ρ Go.program Go.program := .program (.pure ⟨rfl, rfl⟩)

theorem ES.isAgg (t : TypeId) : ES P ρ (Go.isAgg t) (Go.isAgg t) :=
  SR.bind (ES.underlying t) fun _ a _ _ h => by
    obtain ⟨rfl, _⟩ := h
    cases a <;> exact .ret rfl

def plainV : Nat → Value → Bool
  | 0, _ => false
  | n + 1, v => match v with
    | .bool _ | .int .. | .float .. | .complex .. | .string _ | .pointer none | .slice none _ _ | .map none | .chan none | .nilFunc | .nilIface => true
    | .iface _ w => plainV n w
    | .agg cs => cs.toList.all (plainV n)
    | .tuple cs => cs.toList.all (plainV n)
    | .func (.func _) x y => x.toList.all (plainV n) && y.toList.all (plainV n)
    | .func (.method _) x y => x.toList.all (plainV n) && y.toList.all (plainV n)
    | .func (.methodOf _ _) x y => x.toList.all (plainV n) && y.toList.all (plainV n)
    | .func (.via _ _ _ _) x y => x.toList.all (plainV n) && y.toList.all (plainV n)
    | _ => false

theorem plainV.sound (ρ : Ren) : ∀ (n : Nat) (v : Value), plainV n v = true → VR ρ v v := by
  intro n
  induction n with
  | zero => intro v h; cases h
  | succ n ih =>
    have arr : ∀ (x : Array Value), x.toList.all (plainV n) = true → ∀ (i : Nat) (v v' : Value), x[i]? = some v → x[i]? = some v' → VR ρ v v' := by
      intro x hx i v v' h1 h2
      rw [h1] at h2
      cases h2
      refine ih v ?_
      rw [List.all_eq_true] at hx
      exact hx v (Array.mem_toList_iff.2 (Array.mem_of_getElem? h1))
    intro v h
    unfold plainV at h
    split at h
    · exact .bool _
    · exact .int _ _
    · exact .float _ _
    · exact .complex _ _ _
    · exact .string _
    · exact .pnone
    · exact .snone _ _
    · exact .mnone
    · exact .cnone
    · exact .nilFunc
    · exact .nilIface
    · exact .iface _ (ih _ h)
    · exact .agg rfl (arr _ h)
    · exact .tuple rfl (arr _ h)
    · simp only [Bool.and_eq_true] at h; exact .func rfl rfl (arr _ h.1) rfl (arr _ h.2)
    · simp only [Bool.and_eq_true] at h; exact .func rfl rfl (arr _ h.1) rfl (arr _ h.2)
    · simp only [Bool.and_eq_true] at h; exact .func rfl rfl (arr _ h.1) rfl (arr _ h.2)
    · simp only [Bool.and_eq_true] at h; exact .func rfl rfl (arr _ h.1) rfl (arr _ h.2)
    · cases h

structure Okay (P : Program) : Prop where
  zero : ∀ t i v, P.info? t = some i → i.zero = some v → isJunk v = false ∧ ∀ ρ, VR ρ v v

theorem VS.zeroValue (ok : Okay P) (t : TypeId) : SR P (fun σ a b => a = b ∧ isJunk a = false ∧ VR σ a b) ρ (Go.zeroValue t) (Go.zeroValue t) :=
  SR.bind (ES.typeInfo t) fun σ a _ _ h => by
    obtain ⟨rfl, h⟩ := h
    cases hz : a.zero with
    | none => exact .unsupported _
    | some v => exact .ret ⟨rfl, (ok.zero t a v h hz).1, (ok.zero t a v h hz).2 σ⟩

theorem SR.loadOne {a a' : Addr} (h : AR ρ a a') : SR P VR ρ (Go.load a) (Go.load a') := .load h fun _ _ hv => .pure hv
theorem SR.storeOne {a a' : Addr} (h : AR ρ a a') {v v' : Value} (hv : VR ρ v v') : SR P (fun _ _ _ => True) ρ (Go.store a v) (Go.store a' v') := .store h hv (.pure trivial)

theorem SR.loadCellsFrom {a a' : Addr} : ∀ (n i : Nat) {σ : Ren} (acc acc' : Array Value), AR σ a a' → AsR σ acc acc' → SR P AsR σ (Go.loadCellsFrom a i n acc) (Go.loadCellsFrom a' i n acc') := by
  intro n
  induction n with
  | zero => intro i σ acc acc' _ h; exact .ret h
  | succ n ih =>
    intro i σ acc acc' ha h
    exact SR.bind (SR.loadOne (ha.add i)) fun τ v v' hle hv => ih (i + 1) _ _ (ha.mono hle) ((h.mono hle).push hv)

theorem SR.loadCells {a a' : Addr} (n : Nat) (h : AR ρ a a') : SR P AsR ρ (Go.loadCells a n) (Go.loadCells a' n) := SR.loadCellsFrom n 0 _ _ h (AsR.nil ρ)

def LsR (ρ : Ren) : List Value → List Value → Prop
  | [], [] => True
  | v :: vs, u :: us => VR ρ v u ∧ LsR ρ vs us
  | _, _ => False

theorem LsR.mono {ρ σ : Ren} (h : ρ.le σ) : ∀ {x y : List Value}, LsR ρ x y → LsR σ x y
  | [], [], _ => trivial
  | _ :: _, _ :: _, k => ⟨k.1.mono h, LsR.mono h k.2⟩

theorem LsR.of_get {ρ : Ren} : ∀ {x y : List Value}, x.length = y.length → (∀ (i : Nat) (v v' : Value), x[i]? = some v → y[i]? = some v' → VR ρ v v') → LsR ρ x y
  | [], [], _, _ => trivial
  | [], _ :: _, h, _ => by simp at h
  | _ :: _, [], h, _ => by simp at h
  | v :: vs, u :: us, h, k => ⟨k 0 v u rfl rfl, LsR.of_get (by simpa using h) fun i a b ha hb => k (i + 1) a b (by simpa using ha) (by simpa using hb)⟩

theorem LsR.get {ρ : Ren} : ∀ {x y : List Value}, LsR ρ x y → x.length = y.length ∧ ∀ (i : Nat) (v v' : Value), x[i]? = some v → y[i]? = some v' → VR ρ v v'
  | [], [], _ => ⟨rfl, by simp⟩
  | v :: vs, u :: us, k => by
    obtain ⟨h1, h2⟩ := LsR.get k.2
    refine ⟨by simp [h1], fun i a b ha hb => ?_⟩
    cases i with
    | zero => simp at ha hb; subst ha hb; exact k.1
    | succ i => exact h2 i a b (by simpa using ha) (by simpa using hb)

theorem AsR.toList {x x' : Array Value} (h : AsR ρ x x') : LsR ρ x.toList x'.toList :=
  LsR.of_get (by simpa using h.1) fun i v v' a b => h.2 i v v' (by simpa using a) (by simpa using b)

theorem AsR.of_list {x x' : List Value} (h : LsR ρ x x') : AsR ρ x.toArray x'.toArray := by
  obtain ⟨h1, h2⟩ := LsR.get h
  exact ⟨by simpa using h1, fun i v v' a b => h2 i v v' (by simpa using a) (by simpa using b)⟩

theorem SR.storeCells {a a' : Addr} : ∀ (x x' : List Value) (i : Nat) {σ : Ren}, AR σ a a' → LsR σ x x' → SR P (fun _ _ _ => True) σ (Go.storeCells a x i) (Go.storeCells a' x' i) := by
  intro x
  induction x with
  | nil =>
    intro x' i σ _ h
    cases x' with
    | nil => exact .ret trivial
    | cons _ _ => exact h.elim
  | cons v vs ih =>
    intro x' i σ ha h
    cases x' with
    | nil => exact h.elim
    | cons u us => exact SR.bind (SR.storeOne (ha.add i) h.1) fun τ _ _ hle _ => ih us (i + 1) (ha.mono hle) (h.2.mono hle)

theorem VR.cells {v v' : Value} (h : VR ρ v v') (hj : isJunk v = false) : AsR ρ v.cells v'.cells := by
  have one : ∀ {u u' : Value}, VR ρ u u' → AsR ρ #[u] #[u'] := by
    intro u u' hu
    exact (AsR.nil ρ).push hu
  cases h with
  | junk v' => cases hj
  | agg h1 h2 => exact ⟨h1, h2⟩
  | tuple h1 h2 => exact one (.tuple h1 h2)
  | bool b => exact one (.bool b)
  | int k n => exact one (.int k n)
  | float k n => exact one (.float k n)
  | complex k m n => exact one (.complex k m n)
  | string s => exact one (.string s)
  | pnone => exact one .pnone
  | psome a => exact one (.psome a)
  | snone n c => exact one (.snone n c)
  | ssome a => exact one (.ssome a)
  | mnone => exact one .mnone
  | msome a => exact one (.msome a)
  | cnone => exact one .cnone
  | nilFunc => exact one .nilFunc
  | nilIface => exact one .nilIface
  | func a b c d e => exact one (.func a b c d e)
  | iface t a => exact one (.iface t a)

theorem SR.loadVar (t : TypeId) {a a' : Addr} (h : AR ρ a a') : SR P VR ρ (Go.loadVar t a) (Go.loadVar t a') :=
  SR.bind (ES.isAgg t) fun σ x _ hle hx => by
    subst hx
    cases x with
    | false => exact SR.loadOne (h.mono hle)
    | true =>
      refine SR.bind (ES.sizeOf t) fun τ n _ hle2 hn => ?_
      obtain ⟨rfl, _⟩ := hn
      exact SR.bind (SR.loadCells n ((h.mono hle).mono hle2)) fun υ c c' _ hc => .ret hc.to_agg

theorem SR.storeVar (t : TypeId) {a a' : Addr} (h : AR ρ a a') {v v' : Value} (hv : VR ρ v v') (hj : isJunk v = false) : SR P (fun _ _ _ => True) ρ (Go.storeVar t a v) (Go.storeVar t a' v') := by
  have hc := hv.cells hj
  refine SR.bind (ES.sizeOf t) fun σ n _ hle hn => ?_
  obtain ⟨rfl, _⟩ := hn
  rw [hc.1]
  split
  · exact SR.bind (SR.stuck _ (RA := fun _ _ _ => True)) fun τ _ _ hle2 _ => SR.storeCells _ _ 0 ((h.mono hle).mono hle2) (((hc.mono hle).mono hle2).toList)
  · exact SR.storeCells _ _ 0 (h.mono hle) ((hc.mono hle).toList)

theorem SR.newRow (e : TypeId) {c c' : Array Value} (h : AsR ρ c c') : SR P AR ρ (Go.newRow e c) (Go.newRow e c') :=
  SR.bind (RA := fun σ r r' => BR σ r r' ∧ (σ.f r).shift = 0) (.new (.cells e h) fun _ _ _ _ hb hs => .pure ⟨hb, hs.2⟩) fun _ _ _ _ hb => .ret ⟨hb.1.1, hb.1.2, by simp [hb.2], rfl⟩

theorem SR.newVar (t : TypeId) {v v' : Value} (h : VR ρ v v') (hj : isJunk v = false) : SR P AR ρ (Go.newVar t v) (Go.newVar t v') := SR.newRow t (h.cells hj)

theorem SR.newObj {o o' : Obj} (h : OR ρ o o') : SR P BR ρ (Go.newObj o) (Go.newObj o') := .new (.obj h) fun _ _ _ _ hb _ => .pure hb

theorem SR.getObjOne {r r' : Nat} (h : BR ρ r r') : SR P OR ρ (Go.getObj r) (Go.getObj r') := .getObj h fun _ _ ho => .pure ho
theorem SR.setObjOne {r r' : Nat} (h : BR ρ r r') {o o' : Obj} (ho : OR ρ o o') : SR P (fun _ _ _ => True) ρ (Go.setObj r o) (Go.setObj r' o') := .setObj h ho (.pure trivial)

theorem ES.asIntOf {v v' : Value} (h : VR ρ v v') : ES P ρ (Go.asIntOf v) (Go.asIntOf v') := by
  cases h <;> first | exact .ret rfl | exact .stuck _ | exact .unsupported _

theorem ES.asInt {v v' : Value} (h : VR ρ v v') : ES P ρ (Go.asInt v) (Go.asInt v') := SR.bind (ES.asIntOf h) fun _ _ _ _ e => .ret (by rw [e])

theorem ES.asBool {v v' : Value} (h : VR ρ v v') : ES P ρ (Go.asBool v) (Go.asBool v') := by
  cases h <;> first | exact .ret rfl | exact .stuck _

theorem ES.asString {v v' : Value} (h : VR ρ v v') : ES P ρ (Go.asString v) (Go.asString v') := by
  cases h <;> first | exact .ret rfl | exact .stuck _

theorem SR.asAgg {v v' : Value} (h : VR ρ v v') : SR P AsR ρ (Go.asAgg v) (Go.asAgg v') := by
  cases h <;> first | (rename_i a b; exact .ret ⟨a, b⟩) | exact .stuck _

theorem SR.part (t : TypeId) {c c' : Array Value} (h : AsR ρ c c') (n : Nat) : SR P VR ρ (Go.part t c n) (Go.part t c' n) :=
  SR.bind (ES.isAgg t) fun σ x _ hle hx => by
    subst hx
    have h := h.mono hle
    cases x with
    | true =>
      refine SR.bind (ES.sizeOf t) fun τ k _ hle2 hn => ?_
      obtain ⟨rfl, _⟩ := hn
      exact .ret ((h.mono hle2).extract _ _).to_agg
    | false =>
      show SR P VR σ (match c[n]? with | some v => Pure.pure v | none => Go.stuck "part: no such cell") (match c'[n]? with | some v => Pure.pure v | none => Go.stuck "part: no such cell")
      cases hc : c[n]? with
      | none => exact .stuck _
      | some v =>
        obtain ⟨v', hv', hr⟩ := h.get hc
        rw [hv']
        exact .ret hr

theorem AR.of_psome {a a' : Addr} (h : VR ρ (.pointer (some a)) (.pointer (some a'))) : AR ρ a a' := by cases h; assumption

theorem SR.sureAddr {v v' : Value} (h : VR ρ v v') : SR P AR ρ (Instr.sureAddr v) (Instr.sureAddr v') := by
  cases h <;> first | (rename_i a; exact .ret a) | exact .stuck _

end
end Go.Ev

