import Derived.Test.YtmkapmbmgpnjaaaBiA
import Derived.Maps.OwnSet
import Derived.Maps.Views
set_option maxRecDepth 100000
namespace Go.Se
open Go Go.Ms Go.Pg Go.Bi Go.ChangeShapes Go.WideShapes Go.ChangeAt Go.RowKit

/-! A search among sets that remembers what it was answered: mathematics. -/

structure Q4 where
  a : Nat
  b : Nat
  c : Nat
  d : Nat
deriving DecidableEq
structure Q4.Ok (q : Q4) : Prop where
  a : q.a < 2 ^ 64
  b : q.b < 2 ^ 64
  c : q.c < 2 ^ 64
  d : q.d < 2 ^ 64
def txtW (w k : Nat) : List Int := (List.range k).map fun i => (((w >>> (8 * i)) % 256 : Nat) : Int)
theorem txtW_succ (w k : Nat) : txtW w (k + 1) = txtW w k ++ [(((w >>> (8 * k)) % 256 : Nat) : Int)] := by simp [txtW, List.range_succ]
theorem txtW_length (w k : Nat) : (txtW w k).length = k := by simp [txtW]
def txt (q : Q4) : List Int := txtW q.a 8 ++ txtW q.b 8 ++ txtW q.c 8 ++ txtW q.d 8
theorem txt_length (q : Q4) : (txt q).length = 32 := by simp [txt, txtW_length]

theorem txtW_inj {v w : Nat} (hv : v < 2 ^ 64) (hw : w < 2 ^ 64) (h : ∀ i, i < 8 → (v >>> (8 * i)) % 256 = (w >>> (8 * i)) % 256) : v = w := by
  apply Nat.eq_of_testBit_eq
  intro i
  by_cases hi : i < 64
  · have e := congrArg (fun x => x.testBit (i % 8)) (h (i / 8) (by omega))
    have m : ∀ x : Nat, ((x >>> (8 * (i / 8))) % 256).testBit (i % 8) = x.testBit i := fun x => by
      rw [show (256 : Nat) = 2 ^ 8 from rfl, Nat.testBit_mod_two_pow, Nat.testBit_shiftRight]
      rw [decide_eq_true (by omega : i % 8 < 8), Bool.true_and, show 8 * (i / 8) + i % 8 = i by omega]
    simp only [m] at e
    exact e
  · have m : ∀ x : Nat, x < 2 ^ 64 → x.testBit i = false := fun x hx => Nat.testBit_lt_two_pow (Nat.lt_of_lt_of_le hx (Nat.pow_le_pow_right (by decide) (by omega)))
    rw [m v hv, m w hw]

def lit (q : Q4) : Lit := .string ((txt q).map fun n => UInt8.ofNat n.toNat)
theorem byte_inj {x y : Nat} (hx : x < 256) (hy : y < 256) (h : UInt8.ofNat ((x : Nat) : Int).toNat = UInt8.ofNat ((y : Nat) : Int).toNat) : x = y := by
  have := congrArg UInt8.toNat h
  simp at this
  omega
theorem lit_inj {p q : Q4} (hp : p.Ok) (hq : q.Ok) (h : lit p = lit q) : p = q := by
  simp only [lit, Lit.string.injEq, txt, List.map_append] at h
  have l8 : ∀ w, ((txtW w 8).map fun n : Int => UInt8.ofNat n.toNat).length = 8 := fun w => by simp [txtW]
  obtain ⟨h, h3⟩ := List.append_inj h (by simp [txtW])
  obtain ⟨h, h2⟩ := List.append_inj h (by simp [txtW])
  obtain ⟨h0, h1⟩ := List.append_inj h (by simp [txtW])
  have word : ∀ {v w : Nat}, v < 2 ^ 64 → w < 2 ^ 64 → ((txtW v 8).map fun n : Int => UInt8.ofNat n.toNat) = ((txtW w 8).map fun n : Int => UInt8.ofNat n.toNat) → v = w := fun {v w} hv hw e => by
    refine txtW_inj hv hw fun i hi => ?_
    have e2 := congrArg (fun l => l[i]?) e
    simp only [txtW, List.map_map, List.getElem?_map, List.getElem?_range hi, Option.map_some, Function.comp, Option.some.injEq] at e2
    exact byte_inj (Nat.mod_lt _ (by decide)) (Nat.mod_lt _ (by decide)) e2
  cases p; cases q
  simp only [Q4.mk.injEq]
  exact ⟨word hp.a hq.a h0, word hp.b hq.b h1, word hp.c hq.c h2, word hp.d hq.d h3⟩

def memo : List (Q4 × Int) → Q4 → Option Int
  | [], _ => none
  | e :: T, q => if e.1 = q then some e.2 else memo T q
def told : List (Q4 × Int) → DataW Unit
  | [] => .map []
  | e :: T => (told T).put (lit e.1) (.lit (.int .u8 e.2))
theorem told_map : ∀ T, Maps.IsMap (told T)
  | [] => Maps.isMap_empty
  | e :: T => by
    obtain ⟨es, h⟩ := told_map T
    simp only [told, h]
    exact ⟨_, rfl⟩
theorem memo_told {q : Q4} (hq : q.Ok) : ∀ {T : List (Q4 × Int)}, (∀ e ∈ T, e.1.Ok) → Maps.has (told T) (lit q) = (memo T q).isSome ∧ ∀ z, (told T).atKey (lit q) z = match memo T q with | some v => .lit (.int .u8 v) | none => z
  | [], _ => ⟨rfl, fun _ => rfl⟩
  | e :: T, h => by
    obtain ⟨ih1, ih2⟩ := memo_told hq (T := T) fun x hx => h x (by simp [hx])
    by_cases c : e.1 = q
    · subst c
      refine ⟨?_, fun z => ?_⟩
      · simp only [told, memo, if_true, Option.isSome_some]
        exact Maps.has_put_same (told_map T) (by simp [lit, WideAt.IsKeyLit]) _
      · simp only [told, memo, if_true]
        exact Maps.atKey_put_same (told_map T) (by simp [lit, WideAt.IsKeyLit]) _ _
    · have hne : lit q ≠ lit e.1 := fun x => c (lit_inj hq (h e (by simp)) x).symm
      refine ⟨?_, fun z => ?_⟩
      · simp only [told, memo, if_neg c]
        rw [Maps.has_put_other hne, ih1]
      · simp only [told, memo, if_neg c]
        rw [Maps.atKey_put_other hne, ih2]

structure KeepsM (m g : Nat) (w w' : World) : Prop where
  below : Below m w w'
  kept : ∀ b, b < w.heap.size → b ≠ m → b ≠ g → w'.heap[b]? = w.heap[b]?
theorem KeepsM.refl (m g : Nat) (w : World) : KeepsM m g w w := ⟨Below.refl _ _, fun _ _ _ _ => rfl⟩
theorem KeepsM.trans {m g : Nat} {a b c : World} (h : KeepsM m g a b) (k : KeepsM m g b c) : KeepsM m g a c :=
  ⟨h.below.trans k.below, fun i hi h1 h2 => (k.kept i (Nat.lt_of_lt_of_le hi h.below.size) h1 h2).trans (h.kept i hi h1 h2)⟩
theorem KeepsM.of_below {m g : Nat} {w w' : World} (hm : m < w.heap.size) (h : Below w.heap.size w w') : KeepsM m g w w' := ⟨h.mono (Nat.le_of_lt hm), fun b hb _ _ => h.block b hb⟩
theorem KeepsM.of_keeps {m g : Nat} {w w' : World} (hm : m ≤ g) (h : Keeps g w w') : KeepsM m g w w' := ⟨h.below.mono hm, fun b hb _ hg => h.kept b hb hg⟩
theorem KeepsM.set {m g : Nat} {w : World} (hm : m ≤ g) (i : Nat) (u : Value) : KeepsM m g w (w.setCell ⟨g, i, none⟩ u) :=
  ⟨(Below.refl m w).setCell (p := ⟨g, i, none⟩) hm u, fun _ _ _ hb => Below.heap_setCell _ _ _ _ hb⟩
theorem vs_keptM {m g : Nat} {w w' : World} (h : KeepsM m g w w') {v : Value} {l : List Int} (k : Vs w m v l) : Vs w' m v l := by
  obtain ⟨oa, cap, rfl, hc, hl, q⟩ := k
  refine ⟨oa, cap, rfl, hc, hl, fun i hi => ?_⟩
  obtain ⟨b, o, e, hb, hc⟩ := q i hi
  exact ⟨b, o, e, hb, (h.below.cell (p := ⟨b, o + i, none⟩) hb).trans hc⟩
end Go.Se
