import Derived.Test.YtmkapmbmgpnjaaaMsD
import Derived.Below
import Derived.Handy
import Derived.Maps.OwnSet
import Derived.Maps.Views
set_option maxRecDepth 100000
namespace Go.Bi
open Go Go.Ms Go.Pg Go.ChangeShapes Go.WideShapes Go.ChangeAt Go.RowKit

/-! A search that is gone through again with the answers that it was given: mathematics and how it lies in memory. -/

def ver : Nat → Int → List Int → Option (Int × List Int)
  | 0, v, r => some (v, r)
  | _ + 1, _, [] => none
  | t + 1, v, a :: r => if a = 2 then some (2, r) else ver t (if a = 1 then 1 else v) r

def tries (z : Int) : Nat := (min (max z 1) 9).toNat
theorem tries_pos (z : Int) : 1 ≤ tries z ∧ tries z ≤ 9 := by unfold tries; omega

theorem ver_value : ∀ {t : Nat} {v : Int} {l r : List Int} {x : Int}, ver t v l = some (x, r) → x = 1 ∨ x = 2 ∨ x = v
  | 0, v, l, r, x, h => by simp [ver] at h; exact .inr (.inr h.1.symm)
  | t + 1, v, [], r, x, h => by simp [ver] at h
  | t + 1, v, a :: l, r, x, h => by
    simp only [ver] at h
    by_cases e : a = 2
    · rw [if_pos e] at h; simp at h; exact .inr (.inl h.1.symm)
    · rw [if_neg e] at h
      rcases ver_value h with q | q | q
      · exact .inl q
      · exact .inr (.inl q)
      · by_cases e1 : a = 1
        · rw [if_pos e1] at q; exact .inl q
        · rw [if_neg e1] at q; exact .inr (.inr q)

theorem ver_length : ∀ {t : Nat} {v : Int} {l r : List Int} {x : Int}, ver t v l = some (x, r) → r.length ≤ l.length
  | 0, v, l, r, x, h => by simp [ver] at h; rw [h.2]; exact Nat.le_refl _
  | t + 1, v, [], r, x, h => by simp [ver] at h
  | t + 1, v, a :: l, r, x, h => by
    simp only [ver] at h
    by_cases e : a = 2
    · rw [if_pos e] at h; simp at h; rw [← h.2]; simp
    · rw [if_neg e] at h
      have := ver_length h
      simp; omega
theorem ver_less {t : Nat} (ht : 1 ≤ t) {v : Int} {l r : List Int} {x : Int} (h : ver t v l = some (x, r)) : r.length < l.length := by
  obtain ⟨s, rfl⟩ : ∃ s, t = s + 1 := ⟨t - 1, by omega⟩
  cases l with
  | nil => simp [ver] at h
  | cons a l =>
    simp only [ver] at h
    by_cases e : a = 2
    · rw [if_pos e] at h; simp at h; rw [← h.2]; simp
    · rw [if_neg e] at h
      have := ver_length h
      simp; omega

def nearAt (low high : Nat) (unk : Nat → Bool) (d : Nat) : Option Nat :=
  if low < (low + high) / 2 + d ∧ (low + high) / 2 + d < high ∧ unk ((low + high) / 2 + d) = false then some ((low + high) / 2 + d)
  else if low + d < (low + high) / 2 ∧ (low + high) / 2 - d < high ∧ unk ((low + high) / 2 - d) = false then some ((low + high) / 2 - d)
  else none
def nearF (low high : Nat) (unk : Nat → Bool) : Nat → Nat → Option Nat
  | 0, _ => none
  | k + 1, d => match nearAt low high unk d with
    | some v => some v
    | none => nearF low high unk k (d + 1)
def near (low high : Nat) (unk : Nat → Bool) : Option Nat := nearF low high unk (high - low) 0

theorem nearAt_in {low high : Nat} {unk : Nat → Bool} {d v : Nat} (h : nearAt low high unk d = some v) : low < v ∧ v < high ∧ unk v = false := by
  unfold nearAt at h
  split at h
  · next q => injection h with h; subst h; exact q
  · split at h
    · next q => injection h with h; subst h; exact ⟨by omega, q.2⟩
    · cases h
theorem nearF_in {low high : Nat} {unk : Nat → Bool} : ∀ {k d v : Nat}, nearF low high unk k d = some v → low < v ∧ v < high ∧ unk v = false
  | 0, _, _, h => by cases h
  | k + 1, d, v, h => by
    unfold nearF at h
    split at h
    · next q => injection h with h; subst h; exact nearAt_in q
    · exact nearF_in h
theorem near_in {low high : Nat} {unk : Nat → Bool} {v : Nat} (h : near low high unk = some v) : low < v ∧ v < high ∧ unk v = false := nearF_in h
theorem nearAt_congr {low high : Nat} {u u' : Nat → Bool} (h : ∀ v, low < v → v < high → u v = u' v) (d : Nat) : nearAt low high u d = nearAt low high u' d := by
  unfold nearAt
  have e1 : (low < (low + high) / 2 + d ∧ (low + high) / 2 + d < high ∧ u ((low + high) / 2 + d) = false) ↔ (low < (low + high) / 2 + d ∧ (low + high) / 2 + d < high ∧ u' ((low + high) / 2 + d) = false) := by
    constructor
    · rintro ⟨a, b, c⟩; exact ⟨a, b, by rw [← h _ a b]; exact c⟩
    · rintro ⟨a, b, c⟩; exact ⟨a, b, by rw [h _ a b]; exact c⟩
  have e2 : (low + d < (low + high) / 2 ∧ (low + high) / 2 - d < high ∧ u ((low + high) / 2 - d) = false) ↔ (low + d < (low + high) / 2 ∧ (low + high) / 2 - d < high ∧ u' ((low + high) / 2 - d) = false) := by
    constructor
    · rintro ⟨a, b, c⟩; exact ⟨a, b, by rw [← h _ (by omega) b]; exact c⟩
    · rintro ⟨a, b, c⟩; exact ⟨a, b, by rw [h _ (by omega) b]; exact c⟩
  simp only [e1, e2]
theorem nearF_congr {low high : Nat} {u u' : Nat → Bool} (h : ∀ v, low < v → v < high → u v = u' v) : ∀ k d, nearF low high u k d = nearF low high u' k d
  | 0, _ => rfl
  | k + 1, d => by simp only [nearF, nearAt_congr h, nearF_congr h k]
theorem near_congr {low high : Nat} {u u' : Nat → Bool} (h : ∀ v, low < v → v < high → u v = u' v) : near low high u = near low high u' := nearF_congr h _ _
theorem nearF_last {low high : Nat} {u : Nat → Bool} (h : low ≤ high) : ∀ k d, d + k = high - low → nearF low high u (k + 1) d = nearF low high u k d
  | 0, d, e => by
    have : nearAt low high u d = none := by
      unfold nearAt
      rw [if_neg (by omega), if_neg (by omega)]
    simp [nearF, this]
  | k + 1, d, e => by
    have ih := nearF_last (u := u) h k (d + 1) (by omega)
    have e1 : ∀ m, nearF low high u (m + 1) d = (match nearAt low high u d with | some v => some v | none => nearF low high u m (d + 1)) := fun _ => rfl
    rw [e1, e1, ih]

inductive Res where
  | ask (v : Nat)
  | bad
  | fin (low high : Nat) (left : List Int)
deriving DecidableEq

inductive Goes (t : Nat) : Nat → Nat → (Nat → Bool) → List Int → Res → Prop
  | fin {low high unk l} : near low high unk = none → Goes t low high unk l (.fin low high l)
  | ask {low high unk l v} : near low high unk = some v → ver t 3 l = none → Goes t low high unk l (.ask v)
  | pass {low high unk l v r res} : near low high unk = some v → ver t 3 l = some (1, r) → Goes t v high unk r res → Goes t low high unk l res
  | fail {low high unk l v r res} : near low high unk = some v → ver t 3 l = some (2, r) → Goes t low v unk r res → Goes t low high unk l res
  | skip {low high unk l v r res} : near low high unk = some v → ver t 3 l = some (3, r) → Goes t low high (fun i => unk i || i == v) r res → Goes t low high unk l res

inductive Bis (t n : Nat) (l : List Int) : Res → Prop
  | ask0 : ver t 3 l = none → Bis t n l (.ask 0)
  | bad0 {x r} : ver t 3 l = some (x, r) → x ≠ 1 → Bis t n l .bad
  | ask1 {r} : ver t 3 l = some (1, r) → ver t 3 r = none → Bis t n l (.ask (n - 1))
  | bad1 {r x s} : ver t 3 l = some (1, r) → ver t 3 r = some (x, s) → x ≠ 2 → Bis t n l .bad
  | goes {r s res} : ver t 3 l = some (1, r) → ver t 3 r = some (2, s) → Goes t 0 (n - 1) (fun _ => false) s res → Bis t n l res

theorem Goes.congr {t low high : Nat} {u : Nat → Bool} {l : List Int} {res : Res} (h : Goes t low high u l res) : ∀ {u' : Nat → Bool}, (∀ v, low < v → v < high → u v = u' v) → Goes t low high u' l res := by
  induction h with
  | fin hn => intro u' hu; exact .fin (by rw [← near_congr hu]; exact hn)
  | ask hn hv => intro u' hu; exact .ask (by rw [← near_congr hu]; exact hn) hv
  | pass hn hv _ ih => intro u' hu; have := near_in hn; exact .pass (by rw [← near_congr hu]; exact hn) hv (ih fun w a b => hu w (by omega) b)
  | fail hn hv _ ih => intro u' hu; have := near_in hn; exact .fail (by rw [← near_congr hu]; exact hn) hv (ih fun w a b => hu w a (by omega))
  | skip hn hv _ ih => intro u' hu; exact .skip (by rw [← near_congr hu]; exact hn) hv (ih fun w a b => by show (_ || _) = (_ || _); rw [hu w a b])

theorem Goes.one {t low high : Nat} {u : Nat → Bool} {l : List Int} {a : Res} (h : Goes t low high u l a) : ∀ {b : Res}, Goes t low high u l b → a = b := by
  induction h with
  | fin hn => intro b k; cases k <;> simp_all
  | ask hn hv => intro b k; cases k <;> simp_all
  | pass hn hv _ ih =>
    intro b k
    cases k with
    | pass f1 f2 g => rw [hn] at f1; cases f1; rw [hv] at f2; cases f2; exact ih g
    | _ => simp_all
  | fail hn hv _ ih =>
    intro b k
    cases k with
    | fail f1 f2 g => rw [hn] at f1; cases f1; rw [hv] at f2; cases f2; exact ih g
    | _ => simp_all
  | skip hn hv _ ih =>
    intro b k
    cases k with
    | skip f1 f2 g => rw [hn] at f1; cases f1; rw [hv] at f2; cases f2; exact ih g
    | _ => simp_all
theorem Bis.one {t n : Nat} {l : List Int} {a b : Res} (h : Bis t n l a) (k : Bis t n l b) : a = b := by
  cases h with
  | goes e1 e2 g => cases k with
    | goes f1 f2 g' =>
      rw [e1] at f1; cases f1
      rw [e2] at f2; cases f2
      exact g.one g'
    | _ => simp_all
  | _ => cases k <;> simp_all

def Vs (w : World) (g : Nat) (v : Value) (l : List Int) : Prop := ∃ oa cap, v = .slice oa l.length cap ∧ l.length ≤ cap ∧ l.length ≤ 5000 ∧ ∀ i (h : i < l.length), ∃ b o, oa = some ⟨b, o, none⟩ ∧ b < g ∧ w.cell? ⟨b, o + i, none⟩ = some (.int .u8 l[i])
def Box (w : World) (g : Nat) (tb : TypeId) (l : List Int) : Prop := ∃ tx an told, w.heap[g]? = some (.cells #[tx, an, told] tb (0, 0)) ∧ Vs w g an l
structure Keeps (g : Nat) (w w' : World) : Prop where
  below : Below g w w'
  kept : ∀ b, b < w.heap.size → b ≠ g → w'.heap[b]? = w.heap[b]?

theorem Keeps.refl (g : Nat) (w : World) : Keeps g w w := ⟨Below.refl _ _, fun _ _ _ => rfl⟩
theorem Keeps.trans {g : Nat} {a b c : World} (h : Keeps g a b) (k : Keeps g b c) : Keeps g a c :=
  ⟨h.below.trans k.below, fun i hi hg => (k.kept i (Nat.lt_of_lt_of_le hi h.below.size) hg).trans (h.kept i hi hg)⟩
theorem Keeps.of_below {g : Nat} {w w' : World} (hg : g < w.heap.size) (h : Below w.heap.size w w') : Keeps g w w' := ⟨h.mono (Nat.le_of_lt hg), fun b hb _ => h.block b hb⟩
theorem Keeps.set {g : Nat} {w : World} (i : Nat) (u : Value) : Keeps g w (w.setCell ⟨g, i, none⟩ u) :=
  ⟨(Below.refl g w).setCell (p := ⟨g, i, none⟩) (Nat.le_refl g) u, fun _ _ hb => Below.heap_setCell _ _ _ _ hb⟩
theorem vs_kept {g g' : Nat} {w w' : World} (h : Keeps g w w') (hg : g' ≤ g) {v : Value} {l : List Int} (k : Vs w g' v l) : Vs w' g' v l := by
  obtain ⟨oa, cap, rfl, hc, hl, q⟩ := k
  refine ⟨oa, cap, rfl, hc, hl, fun i hi => ?_⟩
  obtain ⟨b, o, e, hb, hc⟩ := q i hi
  exact ⟨b, o, e, hb, (h.below.cell (p := ⟨b, o + i, none⟩) (by show b < g; omega)).trans hc⟩
theorem vs_tail {w : World} {g : Nat} {oa : Option Addr} {n cap : Nat} {a : Int} {l : List Int} (h : Vs w g (.slice oa n cap) (a :: l)) :
    Vs w g (sliced oa 1 (l.length + 1) cap 1) l := by
  obtain ⟨oa', cap', e, hlc, hl, q⟩ := h
  injection e with e1 e2 e3
  subst e1 e3
  simp only [List.length_cons] at hl hlc
  unfold sliced
  refine ⟨_, _, by rw [Nat.add_sub_cancel], by omega, by omega, fun i hi => ?_⟩
  obtain ⟨b, o, e, hb, hx⟩ := q (i + 1) (by simp; omega)
  subst e
  refine ⟨b, o + 1, ?_, hb, ?_⟩
  · rw [if_neg (by omega)]; rfl
  · rw [show o + 1 + i = o + (i + 1) by omega]; simpa using hx
end Go.Bi

set_option maxRecDepth 100000
namespace Go.Se
open Go Go.Ms Go.Pg Go.Bi Go.ChangeShapes Go.WideShapes Go.ChangeAt Go.RowKit

/-! A search among sets that remembers what it was answered: mathematics. -/

structure Q4 where
  a : Nat
  b : Nat
  c : Nat
  d : Nat
deriving DecidableEq
structure Q4.Ok (q : Q4) : Prop where
  a : q.a < 2 ^ 64
  b : q.b < 2 ^ 64
  c : q.c < 2 ^ 64
  d : q.d < 2 ^ 64
def txtW (w k : Nat) : List Int := (List.range k).map fun i => (((w >>> (8 * i)) % 256 : Nat) : Int)
theorem txtW_succ (w k : Nat) : txtW w (k + 1) = txtW w k ++ [(((w >>> (8 * k)) % 256 : Nat) : Int)] := by simp [txtW, List.range_succ]
theorem txtW_length (w k : Nat) : (txtW w k).length = k := by simp [txtW]
def txt (q : Q4) : List Int := txtW q.a 8 ++ txtW q.b 8 ++ txtW q.c 8 ++ txtW q.d 8
theorem txt_length (q : Q4) : (txt q).length = 32 := by simp [txt, txtW_length]

theorem txtW_inj {v w : Nat} (hv : v < 2 ^ 64) (hw : w < 2 ^ 64) (h : ∀ i, i < 8 → (v >>> (8 * i)) % 256 = (w >>> (8 * i)) % 256) : v = w := by
  apply Nat.eq_of_testBit_eq
  intro i
  by_cases hi : i < 64
  · have e := congrArg (fun x => x.testBit (i % 8)) (h (i / 8) (by omega))
    have m : ∀ x : Nat, ((x >>> (8 * (i / 8))) % 256).testBit (i % 8) = x.testBit i := fun x => by
      rw [show (256 : Nat) = 2 ^ 8 from rfl, Nat.testBit_mod_two_pow, Nat.testBit_shiftRight]
      rw [decide_eq_true (by omega : i % 8 < 8), Bool.true_and, show 8 * (i / 8) + i % 8 = i by omega]
    simp only [m] at e
    exact e
  · have m : ∀ x : Nat, x < 2 ^ 64 → x.testBit i = false := fun x hx => Nat.testBit_lt_two_pow (Nat.lt_of_lt_of_le hx (Nat.pow_le_pow_right (by decide) (by omega)))
    rw [m v hv, m w hw]

def lit (q : Q4) : Lit := .string ((txt q).map fun n => UInt8.ofNat n.toNat)
theorem byte_inj {x y : Nat} (hx : x < 256) (hy : y < 256) (h : UInt8.ofNat ((x : Nat) : Int).toNat = UInt8.ofNat ((y : Nat) : Int).toNat) : x = y := by
  have := congrArg UInt8.toNat h
  simp at this
  omega
theorem lit_inj {p q : Q4} (hp : p.Ok) (hq : q.Ok) (h : lit p = lit q) : p = q := by
  simp only [lit, Lit.string.injEq, txt, List.map_append] at h
  have l8 : ∀ w, ((txtW w 8).map fun n : Int => UInt8.ofNat n.toNat).length = 8 := fun w => by simp [txtW]
  obtain ⟨h, h3⟩ := List.append_inj h (by simp [txtW])
  obtain ⟨h, h2⟩ := List.append_inj h (by simp [txtW])
  obtain ⟨h0, h1⟩ := List.append_inj h (by simp [txtW])
  have word : ∀ {v w : Nat}, v < 2 ^ 64 → w < 2 ^ 64 → ((txtW v 8).map fun n : Int => UInt8.ofNat n.toNat) = ((txtW w 8).map fun n : Int => UInt8.ofNat n.toNat) → v = w := fun {v w} hv hw e => by
    refine txtW_inj hv hw fun i hi => ?_
    have e2 := congrArg (fun l => l[i]?) e
    simp only [txtW, List.map_map, List.getElem?_map, List.getElem?_range hi, Option.map_some, Function.comp, Option.some.injEq] at e2
    exact byte_inj (Nat.mod_lt _ (by decide)) (Nat.mod_lt _ (by decide)) e2
  cases p; cases q
  simp only [Q4.mk.injEq]
  exact ⟨word hp.a hq.a h0, word hp.b hq.b h1, word hp.c hq.c h2, word hp.d hq.d h3⟩

def memo : List (Q4 × Int) → Q4 → Option Int
  | [], _ => none
  | e :: T, q => if e.1 = q then some e.2 else memo T q
def told : List (Q4 × Int) → DataW Unit
  | [] => .map []
  | e :: T => (told T).put (lit e.1) (.lit (.int .u8 e.2))
theorem told_map : ∀ T, Maps.IsMap (told T)
  | [] => Maps.isMap_empty
  | e :: T => by
    obtain ⟨es, h⟩ := told_map T
    simp only [told, h]
    exact ⟨_, rfl⟩
theorem memo_told {q : Q4} (hq : q.Ok) : ∀ {T : List (Q4 × Int)}, (∀ e ∈ T, e.1.Ok) → Maps.has (told T) (lit q) = (memo T q).isSome ∧ ∀ z, (told T).atKey (lit q) z = match memo T q with | some v => .lit (.int .u8 v) | none => z
  | [], _ => ⟨rfl, fun _ => rfl⟩
  | e :: T, h => by
    obtain ⟨ih1, ih2⟩ := memo_told hq (T := T) fun x hx => h x (by simp [hx])
    by_cases c : e.1 = q
    · subst c
      refine ⟨?_, fun z => ?_⟩
      · simp only [told, memo, if_true, Option.isSome_some]
        exact Maps.has_put_same (told_map T) (by simp [lit, WideAt.IsKeyLit]) _
      · simp only [told, memo, if_true]
        exact Maps.atKey_put_same (told_map T) (by simp [lit, WideAt.IsKeyLit]) _ _
    · have hne : lit q ≠ lit e.1 := fun x => c (lit_inj hq (h e (by simp)) x).symm
      refine ⟨?_, fun z => ?_⟩
      · simp only [told, memo, if_neg c]
        rw [Maps.has_put_other hne, ih1]
      · simp only [told, memo, if_neg c]
        rw [Maps.atKey_put_other hne, ih2]

structure KeepsM (m g : Nat) (w w' : World) : Prop where
  below : Below m w w'
  kept : ∀ b, b < w.heap.size → b ≠ m → b ≠ g → w'.heap[b]? = w.heap[b]?
theorem KeepsM.refl (m g : Nat) (w : World) : KeepsM m g w w := ⟨Below.refl _ _, fun _ _ _ _ => rfl⟩
theorem KeepsM.trans {m g : Nat} {a b c : World} (h : KeepsM m g a b) (k : KeepsM m g b c) : KeepsM m g a c :=
  ⟨h.below.trans k.below, fun i hi h1 h2 => (k.kept i (Nat.lt_of_lt_of_le hi h.below.size) h1 h2).trans (h.kept i hi h1 h2)⟩
theorem KeepsM.of_below {m g : Nat} {w w' : World} (hm : m < w.heap.size) (h : Below w.heap.size w w') : KeepsM m g w w' := ⟨h.mono (Nat.le_of_lt hm), fun b hb _ _ => h.block b hb⟩
theorem KeepsM.of_keeps {m g : Nat} {w w' : World} (hm : m ≤ g) (h : Keeps g w w') : KeepsM m g w w' := ⟨h.below.mono hm, fun b hb _ hg => h.kept b hb hg⟩
theorem KeepsM.set {m g : Nat} {w : World} (hm : m ≤ g) (i : Nat) (u : Value) : KeepsM m g w (w.setCell ⟨g, i, none⟩ u) :=
  ⟨(Below.refl m w).setCell (p := ⟨g, i, none⟩) hm u, fun _ _ _ hb => Below.heap_setCell _ _ _ _ hb⟩
theorem vs_keptM {m g : Nat} {w w' : World} (h : KeepsM m g w w') {v : Value} {l : List Int} (k : Vs w m v l) : Vs w' m v l := by
  obtain ⟨oa, cap, rfl, hc, hl, q⟩ := k
  refine ⟨oa, cap, rfl, hc, hl, fun i hi => ?_⟩
  obtain ⟨b, o, e, hb, hc⟩ := q i hi
  exact ⟨b, o, e, hb, (h.below.cell (p := ⟨b, o + i, none⟩) hb).trans hc⟩
end Go.Se

