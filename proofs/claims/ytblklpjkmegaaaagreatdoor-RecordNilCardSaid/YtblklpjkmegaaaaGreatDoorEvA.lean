import Derived.Calls
import Derived.Below
import Derived.Orders
namespace Go.Ev
open Go.RowKit

/-- Where the cells of an abstract block lie: the block, by how much its offsets are greater there, how many cells an element has (0: its slices' capacities are known), how many cells the block has. -/
structure Loc where
  block : Nat
  shift : Nat
  sz : Nat
  csize : Nat

/-- Where those of the abstract blocks 0 to n - 1 lie that are there. -/
structure Ren where
  n : Nat
  f : Nat → Loc
  on : Nat → Prop
  lt : ∀ i, on i → i < n

def Ren.le (r s : Ren) : Prop := r.n ≤ s.n ∧ ∀ i, r.on i → s.on i ∧ s.f i = r.f i

theorem Ren.le_refl (r : Ren) : r.le r := ⟨Nat.le_refl _, fun _ h => ⟨h, rfl⟩⟩
theorem Ren.le_trans {r s t : Ren} (h : r.le s) (k : s.le t) : r.le t :=
  ⟨Nat.le_trans h.1 k.1, fun i hi => ⟨(k.2 i (h.2 i hi).1).1, (k.2 i (h.2 i hi).1).2.trans (h.2 i hi).2⟩⟩

/-- The value that stands for whatever value there is. -/
abbrev junk : Value := .tuple #[.tuple #[]]

def isJunk : Value → Bool
  | .tuple vs => vs.size == 1 && (match (vs[0]? : Option Value) with | some (.tuple us) => us.size == 0 | _ => false)
  | _ => false

theorem isJunk_junk : isJunk junk = true := rfl

def AR (ρ : Ren) (a a' : Addr) : Prop :=
  ρ.on a.block ∧ a'.block = (ρ.f a.block).block ∧ a'.off = a.off + (ρ.f a.block).shift ∧ a'.spot = a.spot

def BR (ρ : Ren) (r r' : Nat) : Prop := ρ.on r ∧ r' = (ρ.f r).block

def SLR (ρ : Ren) (a : Addr) (cap : Nat) (a' : Addr) (cap' : Nat) : Prop :=
  AR ρ a a' ∧ cap ≤ cap' ∧ (cap' = cap ∨ (0 < (ρ.f a.block).sz ∧ a'.off + cap' * (ρ.f a.block).sz ≤ (ρ.f a.block).csize))

def FnR (ρ : Ren) : Fn → Fn → Prop
  | .yield l, .yield l' => BR ρ l l'
  | .yield _, _ => False
  | _, .yield _ => False
  | f, f' => f = f'

inductive VR (ρ : Ren) : Value → Value → Prop
  | junk (v' : Value) : VR ρ junk v'
  | bool (b : Bool) : VR ρ (.bool b) (.bool b)
  | int (k : IntKind) (n : Int) : VR ρ (.int k n) (.int k n)
  | float (k : FloatKind) (n : Nat) : VR ρ (.float k n) (.float k n)
  | complex (k : FloatKind) (m n : Nat) : VR ρ (.complex k m n) (.complex k m n)
  | string (s : ByteArray) : VR ρ (.string s) (.string s)
  | pnone : VR ρ (.pointer none) (.pointer none)
  | psome {a a' : Addr} : AR ρ a a' → VR ρ (.pointer (some a)) (.pointer (some a'))
  | snone (n c : Nat) : VR ρ (.slice none n c) (.slice none n c)
  | ssome {a a' : Addr} {n c c' : Nat} : SLR ρ a c a' c' → VR ρ (.slice (some a) n c) (.slice (some a') n c')
  | mnone : VR ρ (.map none) (.map none)
  | msome {r r' : Nat} : BR ρ r r' → VR ρ (.map (some r)) (.map (some r'))
  | cnone : VR ρ (.chan none) (.chan none)
  | nilFunc : VR ρ .nilFunc .nilFunc
  | nilIface : VR ρ .nilIface .nilIface
  | func {f f' : Fn} {x x' y y' : Array Value} : FnR ρ f f' → x.size = x'.size → (∀ (i : Nat) (v v' : Value), x[i]? = some v → x'[i]? = some v' → VR ρ v v') →
      y.size = y'.size → (∀ (i : Nat) (v v' : Value), y[i]? = some v → y'[i]? = some v' → VR ρ v v') → VR ρ (.func f x y) (.func f' x' y')
  | iface (t : TypeId) {v v' : Value} : VR ρ v v' → VR ρ (.iface t v) (.iface t v')
  | agg {x x' : Array Value} : x.size = x'.size → (∀ (i : Nat) (v v' : Value), x[i]? = some v → x'[i]? = some v' → VR ρ v v') → VR ρ (.agg x) (.agg x')
  | tuple {x x' : Array Value} : x.size = x'.size → (∀ (i : Nat) (v v' : Value), x[i]? = some v → x'[i]? = some v' → VR ρ v v') → VR ρ (.tuple x) (.tuple x')

/-- Values side by side. -/
def AsR (ρ : Ren) (x x' : Array Value) : Prop := x.size = x'.size ∧ ∀ (i : Nat) (v v' : Value), x[i]? = some v → x'[i]? = some v' → VR ρ v v'

theorem AR.mono {ρ σ : Ren} (h : ρ.le σ) {a a' : Addr} (k : AR ρ a a') : AR σ a a' := by
  obtain ⟨h1, h2, h3, h4⟩ := k
  refine ⟨(h.2 _ h1).1, ?_, ?_, h4⟩ <;> rw [(h.2 _ h1).2] <;> assumption

theorem BR.mono {ρ σ : Ren} (h : ρ.le σ) {a a' : Nat} (k : BR ρ a a') : BR σ a a' := by
  obtain ⟨h1, h2⟩ := k
  exact ⟨(h.2 _ h1).1, by rw [(h.2 _ h1).2]; exact h2⟩

theorem SLR.mono {ρ σ : Ren} (h : ρ.le σ) {a a' : Addr} {c c' : Nat} (k : SLR ρ a c a' c') : SLR σ a c a' c' := by
  obtain ⟨h1, h2, h3⟩ := k
  exact ⟨h1.mono h, h2, by rw [(h.2 _ h1.1).2]; exact h3⟩

theorem FnR.mono {ρ σ : Ren} (h : ρ.le σ) {f f' : Fn} (k : FnR ρ f f') : FnR σ f f' := by
  cases f <;> cases f' <;> simp only [FnR] at k ⊢ <;> first | exact k | exact k.mono h

theorem VR.mono {ρ σ : Ren} (h : ρ.le σ) {v v' : Value} (k : VR ρ v v') : VR σ v v' := by
  induction k with
  | junk v' => exact .junk v'
  | bool b => exact .bool b
  | int k n => exact .int k n
  | float k n => exact .float k n
  | complex k m n => exact .complex k m n
  | string s => exact .string s
  | pnone => exact .pnone
  | psome a => exact .psome (a.mono h)
  | snone n c => exact .snone n c
  | ssome a => exact .ssome (a.mono h)
  | mnone => exact .mnone
  | msome a => exact .msome (a.mono h)
  | cnone => exact .cnone
  | nilFunc => exact .nilFunc
  | nilIface => exact .nilIface
  | func f hx _ hy _ ihx ihy => exact .func (f.mono h) hx ihx hy ihy
  | iface t _ ih => exact .iface t ih
  | agg hs _ ih => exact .agg hs ih
  | tuple hs _ ih => exact .tuple hs ih

theorem AsR.mono {ρ σ : Ren} (h : ρ.le σ) {x x' : Array Value} (k : AsR ρ x x') : AsR σ x x' := ⟨k.1, fun i v v' a b => (k.2 i v v' a b).mono h⟩

theorem AsR.get {ρ : Ren} {x x' : Array Value} (h : AsR ρ x x') {i : Nat} {v : Value} (hi : x[i]? = some v) : ∃ v', x'[i]? = some v' ∧ VR ρ v v' := by
  have hl : i < x'.size := by
    have := (Array.getElem?_eq_some_iff.1 hi).1
    have := h.1
    omega
  exact ⟨x'[i], Array.getElem?_eq_getElem hl, h.2 i v _ hi (Array.getElem?_eq_getElem hl)⟩

theorem AsR.get_none {ρ : Ren} {x x' : Array Value} (h : AsR ρ x x') {i : Nat} (hi : x[i]? = none) : x'[i]? = none := by
  simp only [Array.getElem?_eq_none_iff] at hi ⊢
  have := h.1
  omega

theorem VR.undef (ρ : Ren) : VR ρ undef undef := .tuple rfl (by simp)

theorem AsR.getD {ρ : Ren} {x x' : Array Value} (h : AsR ρ x x') (i : Nat) {d d' : Value} (hd : VR ρ d d') : VR ρ (x.getD i d) (x'.getD i d') := by
  simp only [Array.getD_eq_getD_getElem?]
  cases hi : x[i]? with
  | none => rw [h.get_none hi]; exact hd
  | some v => obtain ⟨v', hv', hr⟩ := h.get hi; rw [hv']; exact hr

theorem AsR.set {ρ : Ren} {x x' : Array Value} (h : AsR ρ x x') (i : Nat) {v v' : Value} (hv : VR ρ v v') : AsR ρ (x.setIfInBounds i v) (x'.setIfInBounds i v') := by
  refine ⟨by simp [h.1], fun j a b ha hb => ?_⟩
  rw [Array.getElem?_setIfInBounds] at ha hb
  by_cases e : i = j
  · subst e
    simp only [if_true] at ha hb
    by_cases hl : i < x.size
    · have hl' : i < x'.size := by have := h.1; omega
      simp only [hl, hl', if_true, Option.some.injEq] at ha hb
      subst ha hb
      exact hv
    · simp [hl] at ha
  · simp only [e, if_false] at ha hb
    exact h.2 j a b ha hb

theorem AsR.nil (ρ : Ren) : AsR ρ #[] #[] := ⟨rfl, by simp⟩

theorem AsR.push {ρ : Ren} {x x' : Array Value} (h : AsR ρ x x') {v v' : Value} (hv : VR ρ v v') : AsR ρ (x.push v) (x'.push v') := by
  refine ⟨by simp [h.1], fun j a b ha hb => ?_⟩
  rw [Array.getElem?_push] at ha hb
  have hs := h.1
  by_cases e : j = x.size
  · have e' : j = x'.size := by omega
    rw [if_pos e] at ha
    rw [if_pos e'] at hb
    cases ha; cases hb
    exact hv
  · have e' : ¬ j = x'.size := by omega
    rw [if_neg e] at ha
    rw [if_neg e'] at hb
    exact h.2 j a b ha hb

theorem AsR.append {ρ : Ren} {x x' y y' : Array Value} (h : AsR ρ x x') (k : AsR ρ y y') : AsR ρ (x ++ y) (x' ++ y') := by
  have hs := h.1
  refine ⟨by simp [h.1, k.1], fun j a b ha hb => ?_⟩
  rw [Array.getElem?_append] at ha hb
  by_cases e : j < x.size
  · rw [if_pos e] at ha
    rw [if_pos (by omega)] at hb
    exact h.2 j a b ha hb
  · rw [if_neg e] at ha
    rw [if_neg (by omega)] at hb
    rw [hs] at ha
    exact k.2 _ a b ha hb

theorem AsR.extract {ρ : Ren} {x x' : Array Value} (h : AsR ρ x x') (i j : Nat) : AsR ρ (x.extract i j) (x'.extract i j) := by
  have hs := h.1
  refine ⟨by simp [hs], fun k a b ha hb => ?_⟩
  rw [Array.getElem?_extract] at ha hb
  rw [hs] at ha
  split at ha
  · rename_i c
    rw [if_pos c] at hb
    exact h.2 _ a b ha hb
  · simp at ha

theorem AsR.replicate {ρ : Ren} (n : Nat) {v v' : Value} (hv : VR ρ v v') : AsR ρ (Array.replicate n v) (Array.replicate n v') := by
  refine ⟨by simp, fun k a b ha hb => ?_⟩
  rw [Array.getElem?_replicate] at ha hb
  split at ha
  · rename_i c
    rw [if_pos c] at hb
    cases ha; cases hb
    exact hv
  · simp at ha

theorem AsR.of_agg {ρ : Ren} {x x' : Array Value} (h : VR ρ (.agg x) (.agg x')) : AsR ρ x x' := by
  cases h with
  | agg a b => exact ⟨a, b⟩

theorem AsR.to_agg {ρ : Ren} {x x' : Array Value} (h : AsR ρ x x') : VR ρ (.agg x) (.agg x') := .agg h.1 h.2
theorem AsR.to_tuple {ρ : Ren} {x x' : Array Value} (h : AsR ρ x x') : VR ρ (.tuple x) (.tuple x') := .tuple h.1 h.2

theorem AR.add {ρ : Ren} {a a' : Addr} (h : AR ρ a a') (n : Nat) : AR ρ (a.add n) (a'.add n) := by
  obtain ⟨h1, h2, h3, h4⟩ := h
  unfold Addr.add
  by_cases e : n = 0
  · simp only [e, if_true]; exact ⟨h1, h2, h3, h4⟩
  · simp only [e, if_false]; exact ⟨h1, h2, by simp only; omega, rfl⟩

end Go.Ev
