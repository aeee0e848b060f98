import Derived.WalkKit
import Derived.Test.YtmkapmbmgpnjaaaPgA
import Derived.SizedLaws
import Derived.Maps.AppendAt
import Derived.Deep.AppendLies
import Derived.OwnWalk
set_option maxRecDepth 100000
namespace Go.Ms
open Go

/-! States of a machine as trees, and their bytes. -/
structure Fr where
  id : Int
  chunk : Int
  pc : Int
  regs : List (Int × Int)
  tries : List (Int × Int)
structure Th where
  frames : List Fr
  rk : Int
  rn : Int
structure Ob where
  chunk : Int
  cells : List (Int × Int)
  owner : Int
structure Oc where
  fin : Int
  fault : Int
  line : Int
  vk : Int
  vn : Int
  out : List Int
  steps : Int
structure St where
  threads : List Th
  objects : List Ob
  inputs : Int
  clocks : Int
  frames : Int
  outcome : Oc

def serP (p : Int × Int) : List Int := [p.1, p.2]
def serPs (l : List (Int × Int)) : List Int := l.flatMap serP
def serFr (f : Fr) : List Int := [f.id, f.chunk, f.pc, (f.regs.length : Int)] ++ (serPs f.regs ++ ([(f.tries.length : Int)] ++ serPs f.tries))
def serTh (t : Th) : List Int := [(t.frames.length : Int)] ++ (t.frames.flatMap serFr ++ [t.rk, t.rn])
def serOb (o : Ob) : List Int := [o.chunk, (o.cells.length : Int)] ++ (serPs o.cells ++ [o.owner])
def serOc (o : Oc) : List Int := [o.fin, o.fault, o.line, o.vk, o.vn, (o.out.length : Int)] ++ (o.out ++ [o.steps])
def ser (s : St) : List Int :=
  [(s.threads.length : Int)] ++ (s.threads.flatMap serTh ++ ([(s.objects.length : Int)] ++ (s.objects.flatMap serOb ++ ([s.inputs, s.clocks, s.frames] ++ serOc s.outcome))))

def enc (n : Int) : List Int := [n % 256, n / 256 % 256, n / 65536 % 256, n / 16777216 % 256, n / 4294967296 % 256, n / 1099511627776 % 256, n / 281474976710656 % 256, n / 72057594037927936 % 256]
def stBytes (s : St) : List Int := (ser s).flatMap enc

def Pre {α β : Type} (p : α → Prop) (f : α → List β) : Prop := ∀ a b r r', p a → p b → f a ++ r = f b ++ r' → a = b ∧ r = r'

theorem Pre.list {α β : Type} {p : α → Prop} {f : α → List β} (h : Pre p f) : ∀ {l m : List α} {r r' : List β}, l.length = m.length → (∀ a ∈ l, p a) → (∀ a ∈ m, p a) → l.flatMap f ++ r = m.flatMap f ++ r' → l = m ∧ r = r'
  | [], [], _, _, _, _, _, e => ⟨rfl, by simpa using e⟩
  | [], _ :: _, _, _, hl, _, _, _ => by simp at hl
  | _ :: _, [], _, _, hl, _, _, _ => by simp at hl
  | a :: l, b :: m, r, r', hl, ha, hb, e => by
    simp only [List.flatMap_cons, List.append_assoc] at e
    obtain ⟨rfl, e2⟩ := h a b _ _ (ha a (by simp)) (hb b (by simp)) e
    obtain ⟨rfl, rfl⟩ := Pre.list h (by simpa using hl) (fun x hx => ha x (by simp [hx])) (fun x hx => hb x (by simp [hx])) e2
    exact ⟨rfl, rfl⟩

abbrev any {α : Type} (_ : α) : Prop := True
theorem serP_pre : Pre any serP := by
  rintro ⟨a1, a2⟩ ⟨b1, b2⟩ r r' _ _ e
  simp only [serP, List.cons_append, List.nil_append, List.cons.injEq] at e
  obtain ⟨rfl, rfl, rfl⟩ := e
  exact ⟨rfl, rfl⟩
theorem serFr_pre : Pre any serFr := by
  rintro ⟨a1, a2, a3, a4, a5⟩ ⟨b1, b2, b3, b4, b5⟩ r r' _ _ e
  simp only [serFr, serPs, List.cons_append, List.nil_append, List.append_assoc, List.cons.injEq] at e
  obtain ⟨rfl, rfl, rfl, hl, e⟩ := e
  obtain ⟨rfl, e2⟩ := serP_pre.list (by omega) (fun _ _ => trivial) (fun _ _ => trivial) e
  clear e
  replace e := e2
  clear e2
  simp only [List.cons.injEq] at e
  obtain ⟨hl2, e⟩ := e
  obtain ⟨rfl, rfl⟩ := serP_pre.list (by omega) (fun _ _ => trivial) (fun _ _ => trivial) e
  exact ⟨rfl, rfl⟩
theorem serTh_pre : Pre any serTh := by
  rintro ⟨a1, a2, a3⟩ ⟨b1, b2, b3⟩ r r' _ _ e
  simp only [serTh, List.cons_append, List.nil_append, List.append_assoc, List.cons.injEq] at e
  obtain ⟨hl, e⟩ := e
  obtain ⟨rfl, e2⟩ := serFr_pre.list (by omega) (fun _ _ => trivial) (fun _ _ => trivial) e
  clear e
  replace e := e2
  clear e2
  simp only [List.cons.injEq] at e
  obtain ⟨rfl, rfl, rfl⟩ := e
  exact ⟨rfl, rfl⟩
theorem serOb_pre : Pre any serOb := by
  rintro ⟨a1, a2, a3⟩ ⟨b1, b2, b3⟩ r r' _ _ e
  simp only [serOb, serPs, List.cons_append, List.nil_append, List.append_assoc, List.cons.injEq] at e
  obtain ⟨rfl, hl, e⟩ := e
  obtain ⟨rfl, e2⟩ := serP_pre.list (by omega) (fun _ _ => trivial) (fun _ _ => trivial) e
  clear e
  replace e := e2
  clear e2
  simp only [List.cons.injEq] at e
  obtain ⟨rfl, rfl⟩ := e
  exact ⟨rfl, rfl⟩
theorem serOc_pre : Pre any serOc := by
  rintro ⟨a1, a2, a3, a4, a5, a6, a7⟩ ⟨b1, b2, b3, b4, b5, b6, b7⟩ r r' _ _ e
  simp only [serOc, List.cons_append, List.nil_append, List.append_assoc, List.cons.injEq] at e
  obtain ⟨rfl, rfl, rfl, rfl, rfl, hl, e⟩ := e
  obtain ⟨rfl, e2⟩ := List.append_inj e (by omega)
  clear e
  replace e := e2
  clear e2
  simp only [List.cons.injEq] at e
  obtain ⟨rfl, rfl⟩ := e
  exact ⟨rfl, rfl⟩
theorem ser_inj {s t : St} (e : ser s = ser t) : s = t := by
  obtain ⟨a1, a2, a3, a4, a5, a6⟩ := s
  obtain ⟨b1, b2, b3, b4, b5, b6⟩ := t
  simp only [ser, List.cons_append, List.nil_append, List.cons.injEq] at e
  obtain ⟨hl, e⟩ := e
  obtain ⟨rfl, e2⟩ := serTh_pre.list (by omega) (fun _ _ => trivial) (fun _ _ => trivial) e
  clear e
  replace e := e2
  clear e2
  simp only [List.cons.injEq] at e
  obtain ⟨hl2, e⟩ := e
  obtain ⟨rfl, e2⟩ := serOb_pre.list (by omega) (fun _ _ => trivial) (fun _ _ => trivial) e
  clear e
  replace e := e2
  clear e2
  simp only [List.cons.injEq] at e
  obtain ⟨rfl, rfl, rfl, e⟩ := e
  obtain ⟨rfl, _⟩ := serOc_pre a6 b6 [] [] trivial trivial (by rw [e])
  rfl

def I64 (n : Int) : Prop := -9223372036854775808 ≤ n ∧ n ≤ 9223372036854775807
theorem enc_inj {a b : Int} (ha : I64 a) (hb : I64 b) (e : enc a = enc b) : a = b := by
  unfold I64 at ha hb
  simp only [enc, List.cons.injEq, and_true] at e
  omega
theorem enc_pre : Pre I64 enc := by
  intro a b r r' ha hb e
  obtain ⟨e1, e2⟩ := List.append_inj e rfl
  exact ⟨enc_inj ha hb e1, e2⟩
theorem encs_inj : ∀ {l m : List Int}, (∀ a ∈ l, I64 a) → (∀ a ∈ m, I64 a) → l.flatMap enc = m.flatMap enc → l = m
  | [], [], _, _, _ => rfl
  | [], _ :: _, _, _, e => by simp [enc] at e
  | _ :: _, [], _, _, e => by simp [enc] at e
  | a :: l, b :: m, ha, hb, e => by
    simp only [List.flatMap_cons] at e
    obtain ⟨rfl, e2⟩ := enc_pre a b _ _ (ha a (by simp)) (hb b (by simp)) e
    rw [encs_inj (fun x hx => ha x (by simp [hx])) (fun x hx => hb x (by simp [hx])) e2]
end Go.Ms

set_option maxRecDepth 100000
namespace Go.Ms
open Go Go.Pg Go.ChangeShapes Go.WideShapes Go.ChangeAt Go.RowKit

def RowAt {α : Type} (size : Nat) (A : World → Nat → Nat → α → Prop) (w : World) (v : Value) (l : List α) : Prop :=
  ∃ (oa : Option Addr) (cap : Nat), v = .slice oa l.length cap ∧ l.length ≤ 140737488351232 ∧ ∀ i (h : i < l.length), ∃ b o, oa = some ⟨b, o, none⟩ ∧ A w b (o + i * size) l[i]

theorem RowAt.imp {α : Type} {size : Nat} {A : World → Nat → Nat → α → Prop} {w w' : World} (h : ∀ b p x, A w b p x → A w' b p x) {v : Value} {l : List α} (k : RowAt size A w v l) : RowAt size A w' v l := by
  obtain ⟨oa, cap, h1, h2, h3⟩ := k
  refine ⟨oa, cap, h1, h2, fun i hi => ?_⟩
  obtain ⟨b, o, e, c⟩ := h3 i hi
  exact ⟨b, o, e, h _ _ _ c⟩
theorem RowAt.slice {α : Type} {size : Nat} {A : World → Nat → Nat → α → Prop} {w : World} {v : Value} {l : List α} (h : RowAt size A w v l) : ∃ oa cap, v = .slice oa l.length cap := by
  obtain ⟨oa, cap, h, _⟩ := h; exact ⟨oa, cap, h⟩
theorem RowAt.len {α : Type} {size : Nat} {A : World → Nat → Nat → α → Prop} {w : World} {v : Value} {l : List α} (h : RowAt size A w v l) : l.length ≤ 140737488351232 := h.choose_spec.choose_spec.2.1

def Keeps {α : Type} (A : World → Nat → Nat → α → Prop) : Prop := ∀ {w w' : World}, Below w.heap.size w w' → ∀ b p x, A w b p x → A w' b p x
theorem RowAt.below {α : Type} {size : Nat} {A : World → Nat → Nat → α → Prop} (k : Keeps A) {w w' : World} (hB : Below w.heap.size w w') {v : Value} {l : List α} (h : RowAt size A w v l) : RowAt size A w' v l := h.imp (k hB)

def NumAt (k : IntKind) (w : World) (b p : Nat) (x : Int) : Prop := w.cell? ⟨b, p, none⟩ = some (.int k x) ∧ (Lit.int k x).wf = true
def PairAt (k m : IntKind) (w : World) (b p : Nat) (x : Int × Int) : Prop := NumAt k w b p x.1 ∧ NumAt m w b (p + 1) x.2
def FrAt (w : World) (b p : Nat) (x : Fr) : Prop := ∃ vr vt, NumAt .i64 w b p x.id ∧ NumAt .i64 w b (p + 1) x.chunk ∧ NumAt .i64 w b (p + 2) x.pc ∧ w.cell? ⟨b, p + 3, none⟩ = some vr ∧ w.cell? ⟨b, p + 4, none⟩ = some vt ∧
  RowAt 2 (PairAt .u8 .i64) w vr x.regs ∧ RowAt 2 (PairAt .i64 .i64) w vt x.tries
def ThAt (w : World) (b p : Nat) (x : Th) : Prop := ∃ vf, w.cell? ⟨b, p, none⟩ = some vf ∧ NumAt .u8 w b (p + 1) x.rk ∧ NumAt .i64 w b (p + 2) x.rn ∧ RowAt 5 FrAt w vf x.frames
def ObAt (w : World) (b p : Nat) (x : Ob) : Prop := ∃ vc, NumAt .i64 w b p x.chunk ∧ w.cell? ⟨b, p + 1, none⟩ = some vc ∧ NumAt .i64 w b (p + 2) x.owner ∧ RowAt 2 (PairAt .u8 .i64) w vc x.cells

def WfI (k : IntKind) (x : Int) : Prop := (Lit.int k x).wf = true
def OcAt (w : World) (l : List Value) (x : Oc) : Prop := ∃ vo, l = [.int .u8 x.fin, .int .u8 x.fault, .int .i64 x.line, .int .u8 x.vk, .int .i64 x.vn, vo, .int .i64 x.steps] ∧ RowAt 1 (NumAt .i64) w vo x.out ∧
  WfI .u8 x.fin ∧ WfI .u8 x.fault ∧ WfI .i64 x.line ∧ WfI .u8 x.vk ∧ WfI .i64 x.vn ∧ WfI .i64 x.steps
def StAt (w : World) (l : List Value) (x : St) : Prop := ∃ vt vo l', l = [vt, vo, .int .i64 x.inputs, .int .i64 x.clocks, .int .i64 x.frames] ++ l' ∧ RowAt 3 ThAt w vt x.threads ∧ RowAt 3 ObAt w vo x.objects ∧
  WfI .i64 x.inputs ∧ WfI .i64 x.clocks ∧ WfI .i64 x.frames ∧ OcAt w l' x.outcome

theorem NumAt.keeps (k : IntKind) : Keeps (NumAt k) := fun hB _ _ _ h => ⟨cell_below hB h.1, h.2⟩
theorem PairAt.keeps (k m : IntKind) : Keeps (PairAt k m) := fun hB _ _ _ h => ⟨NumAt.keeps k hB _ _ _ h.1, NumAt.keeps m hB _ _ _ h.2⟩
theorem FrAt.keeps : Keeps FrAt := fun hB _ _ _ ⟨vr, vt, h1, h2, h3, h4, h5, h6, h7⟩ =>
  ⟨vr, vt, NumAt.keeps _ hB _ _ _ h1, NumAt.keeps _ hB _ _ _ h2, NumAt.keeps _ hB _ _ _ h3, cell_below hB h4, cell_below hB h5, h6.below (PairAt.keeps _ _) hB, h7.below (PairAt.keeps _ _) hB⟩
theorem ThAt.keeps : Keeps ThAt := fun hB _ _ _ ⟨vf, h1, h2, h3, h4⟩ => ⟨vf, cell_below hB h1, NumAt.keeps _ hB _ _ _ h2, NumAt.keeps _ hB _ _ _ h3, h4.below FrAt.keeps hB⟩
theorem ObAt.keeps : Keeps ObAt := fun hB _ _ _ ⟨vc, h1, h2, h3, h4⟩ => ⟨vc, NumAt.keeps _ hB _ _ _ h1, cell_below hB h2, NumAt.keeps _ hB _ _ _ h3, h4.below (PairAt.keeps _ _) hB⟩
theorem OcAt.below {w w' : World} (hB : Below w.heap.size w w') {l : List Value} {x : Oc} (h : OcAt w l x) : OcAt w' l x := by
  obtain ⟨vo, e, h1, h2⟩ := h
  exact ⟨vo, e, h1.below (NumAt.keeps _) hB, h2⟩
theorem StAt.below {w w' : World} (hB : Below w.heap.size w w') {l : List Value} {x : St} (h : StAt w l x) : StAt w' l x := by
  obtain ⟨vt, vo, l', e, h1, h2, h3, h4, h5, h6⟩ := h
  exact ⟨vt, vo, l', e, h1.below ThAt.keeps hB, h2.below ObAt.keeps hB, h3, h4, h5, h6.below hB⟩

section
variable {H : Type} {enc : TypeId × Value → H} {P : Program} {w : World} {base : Nat} {spare : Nat → Bool} {held : Bool}

def Fits (P : Program) (t : TypeId) (d : DataW H) : Prop := ∀ n ∈ d.weights P t, n ≤ reachBytes

theorem weightsAll_mem {e : TypeId} : ∀ {l : List (DataW H)} {d : DataW H}, d ∈ l → ∀ n ∈ d.weights P e, n ∈ DataW.weightsAll P e l
  | _ :: _, _, h, n, hn => by
    simp only [DataW.weightsAll, List.mem_append]
    rcases List.mem_cons.1 h with rfl | h
    · exact .inl hn
    · exact .inr (weightsAll_mem h n hn)

theorem Fits.field {t : TypeId} {fs : Array Field} (hu : P.underlying t = some (.struct fs)) {parts : List (DataW H)} (h : Fits P t (.agg parts)) {i : Nat} {f : Field} {d : DataW H} (hf : fs[i]? = some f) (hd : parts[i]? = some d) : Fits P f.type d := by
  intro n hn
  refine h n ?_
  simp only [DataW.weights, hu]
  exact DataW.weights_mem_each (j := i) (by simp [hf]) hd n hn

theorem row_of {α : Type} {A : World → Nat → Nat → α → Prop} {t e : TypeId} {size : Nat} (ht : P.underlying t = some (.slice e)) (hc : P.cellsOf e = size) (hs : 0 < size) (hb : 0 < P.bytesOf e) {fuel : Nat} {cs : List Value} {x : DataW H × List MemPlace}
    (each : ∀ k cs x b p, k < fuel → DataW.trod enc P w base spare held k e cs = some x → Fits P e x.1 → cs.length = size → (∀ j, j < size → w.cell? ⟨b, p + j, none⟩ = cs[j]?) → ∃ y, A w b p y)
    (h : DataW.trod enc P w base spare held fuel t cs = some x) (hz : Fits P t x.1) : ∃ v l, cs = [v] ∧ RowAt size A w v l := by
  rcases DataW.trod_slice ht h with ⟨rfl, _⟩ | ⟨a, len, cap, elems, rest, n, hf, rfl, hx, _, hl, hm, hlen, hel, _, _⟩
  · exact ⟨_, [], rfl, none, 0, rfl, Nat.zero_le _, fun i hi => absurd hi (Nat.not_lt_zero i)⟩
  · rw [hc] at hel
    have hzz := hz
    rw [hx] at hzz
    have hreach : len ≤ 140737488351232 := by
      have := hzz ((elems.length + rest.length) * P.bytesOf e) (by simp [DataW.weights, ht])
      have h2 : (elems.length + rest.length) * 1 ≤ (elems.length + rest.length) * P.bytesOf e := Nat.mul_le_mul_left _ hb
      unfold reachBytes at this
      omega
    have each' : ∀ i, i < len → ∃ y : α, ∃ b o, a = ⟨b, o, none⟩ ∧ A w b (o + i * size) y := by
      intro i hi
      have hi2 : i < elems.length := by omega
      have h1 := hel i hi
      rw [List.getElem?_eq_getElem hi2] at h1
      simp only [Option.bind_eq_some_iff] at h1
      obtain ⟨cs', hc1, hc2⟩ := h1
      obtain ⟨_, hl7, hcell⟩ := World.cells?_some hc1
      obtain ⟨b, o, spot⟩ := a
      have hspot : spot = none := by
        have z0 := (hel 0 (by omega))
        rw [List.getElem?_eq_getElem (by omega)] at z0
        simp only [Option.bind_eq_some_iff] at z0
        obtain ⟨cs', hc1, _⟩ := z0
        obtain ⟨_, hl7, hcell⟩ := World.cells?_some hc1
        have z0 := hcell 0 (by omega)
        rw [List.getElem?_eq_getElem (by omega)] at z0
        simpa [Addr.add] using World.cell?_spot z0
      subst hspot
      have at_ : ∀ j, j < size → w.cell? ⟨b, o + i * size + j, none⟩ = cs'[j]? := by
        intro j hj
        rw [← hcell j hj]
        congr 1
        rw [Go.WideShapes.add_plain, Go.WideShapes.add_plain]
      have hfit : Fits P e elems[i].1 := by
        intro m hm
        refine hzz m ?_
        simp only [DataW.weights, ht]
        refine List.mem_cons_of_mem _ (List.mem_append_left _ (weightsAll_mem (d := elems[i].1) ?_ m hm))
        exact List.mem_map.2 ⟨elems[i], List.getElem_mem hi2, rfl⟩
      obtain ⟨y, hy⟩ := each n cs' elems[i] b (o + i * size) (by omega) hc2 hfit hl7 at_
      exact ⟨y, b, o, rfl, hy⟩
    rcases Nat.eq_zero_or_pos len with h0 | h0
    · subst h0
      exact ⟨_, [], rfl, some a, cap, rfl, Nat.zero_le _, fun i hi => absurd hi (Nat.not_lt_zero i)⟩
    haveI : Inhabited α := ⟨(each' 0 h0).choose⟩
    obtain ⟨f, hf2⟩ := Go.Deep.choose_lt each'
    refine ⟨_, (List.range len).map f, rfl, some a, cap, by simp, by simpa using hreach, fun i hi => ?_⟩
    have hi2 : i < len := by simpa using hi
    obtain ⟨b, o, rfl, k⟩ := hf2 i hi2
    exact ⟨b, o, rfl, by simpa using k⟩


theorem field_at {fs : Array Field} {ts : List (TypeId × Nat)} (h : fs.toList.map (fun f => (f.type, f.offset)) = ts) {i : Nat} {t : TypeId} {o : Nat} (hi : ts[i]? = some (t, o)) : ∃ f, fs[i]? = some f ∧ f.type = t ∧ f.offset = o := by
  subst h
  rw [List.getElem?_map] at hi
  simp only [Option.map_eq_some_iff, Array.getElem?_toList, Prod.mk.injEq] at hi
  obtain ⟨f, h1, h2, h3⟩ := hi
  exact ⟨f, h1, h2, h3⟩

theorem struct_field {t : TypeId} {fs : Array Field} {ts : List (TypeId × Nat)} (hu : P.underlying t = some (.struct fs)) (hm : fs.toList.map (fun f => (f.type, f.offset)) = ts) {fuel : Nat} {cs : List Value} {x : DataW H × List MemPlace}
    (h : DataW.trod enc P w base spare held fuel t cs = some x) (hz : Fits P t x.1) (i : Nat) {ty : TypeId} {o c : Nat} (hi : ts[i]? = some (ty, o)) (hc : P.cellsOf ty = c) :
    ∃ n d, n < fuel ∧ DataW.trod enc P w base spare held n ty ((cs.drop o).take c) = some d ∧ Fits P ty d.1 := by
  obtain ⟨f, h1, rfl, rfl⟩ := field_at hm hi
  obtain ⟨xs, k, hk, rfl, hl, hxl, hfs⟩ := DataW.trod_struct hu h
  have hlt : i < xs.length := by rw [hxl]; exact (Array.getElem?_eq_some_iff.1 h1).1
  have := hfs i f h1
  rw [List.getElem?_eq_getElem hlt, hc] at this
  exact ⟨k, xs[i], by omega, this, hz.field hu h1 (by simp [hlt])⟩
theorem struct_len {t : TypeId} {fs : Array Field} (hu : P.underlying t = some (.struct fs)) {c : Nat} (hc : P.cellsOf t = c) {fuel : Nat} {cs : List Value} {x : DataW H × List MemPlace}
    (h : DataW.trod enc P w base spare held fuel t cs = some x) : cs.length = c := by
  obtain ⟨xs, k, hk, rfl, hl, hxl, hfs⟩ := DataW.trod_struct hu h
  exact hl.trans hc

structure MT (P : Program) (tTs tT tFs tF tVs tV tHs tH tOs tO tIs tI tJ tK tE tG tC tS : TypeId) (th fr va ha ob oc st : Array Field) : Prop where
  uTs : P.underlying tTs = some (.slice tT)
  uFs : P.underlying tFs = some (.slice tF)
  uVs : P.underlying tVs = some (.slice tV)
  uHs : P.underlying tHs = some (.slice tH)
  uOs : P.underlying tOs = some (.slice tO)
  uIs : P.underlying tIs = some (.slice tJ)
  uT : P.underlying tT = some (.struct th)
  uF : P.underlying tF = some (.struct fr)
  uV : P.underlying tV = some (.struct va)
  uH : P.underlying tH = some (.struct ha)
  uO : P.underlying tO = some (.struct ob)
  uC : P.underlying tC = some (.struct oc)
  uS : P.underlying tS = some (.struct st)
  uI : P.underlying tI = some (.int .i64)
  uJ : P.underlying tJ = some (.int .i64)
  uK : P.underlying tK = some (.int .u8)
  uE : P.underlying tE = some (.int .u8)
  uG : P.underlying tG = some (.int .u8)
  cT : P.cellsOf tT = 3
  cF : P.cellsOf tF = 5
  cV : P.cellsOf tV = 2
  cH : P.cellsOf tH = 2
  cO : P.cellsOf tO = 3
  cC : P.cellsOf tC = 7
  cS : P.cellsOf tS = 12
  cI : P.cellsOf tI = 1
  cJ : P.cellsOf tJ = 1
  cK : P.cellsOf tK = 1
  cE : P.cellsOf tE = 1
  cG : P.cellsOf tG = 1
  cTs : P.cellsOf tTs = 1
  cFs : P.cellsOf tFs = 1
  cVs : P.cellsOf tVs = 1
  cHs : P.cellsOf tHs = 1
  cOs : P.cellsOf tOs = 1
  cIs : P.cellsOf tIs = 1
  bytes : 0 < P.bytesOf tT ∧ 0 < P.bytesOf tF ∧ 0 < P.bytesOf tV ∧ 0 < P.bytesOf tH ∧ 0 < P.bytesOf tO ∧ 0 < P.bytesOf tJ
  fT : th.toList.map (fun f => (f.type, f.offset)) = [(tFs, 0), (tV, 1)]
  fF : fr.toList.map (fun f => (f.type, f.offset)) = [(tI, 0), (tI, 1), (tI, 2), (tVs, 3), (tHs, 4)]
  fV : va.toList.map (fun f => (f.type, f.offset)) = [(tK, 0), (tJ, 1)]
  fH : ha.toList.map (fun f => (f.type, f.offset)) = [(tI, 0), (tI, 1)]
  fO : ob.toList.map (fun f => (f.type, f.offset)) = [(tI, 0), (tVs, 1), (tI, 2)]
  fC : oc.toList.map (fun f => (f.type, f.offset)) = [(tE, 0), (tG, 1), (tI, 2), (tV, 3), (tIs, 5), (tI, 6)]
  fS : st.toList.map (fun f => (f.type, f.offset)) = [(tTs, 0), (tOs, 1), (tI, 2), (tI, 3), (tI, 4), (tC, 5)]

theorem int_one {t : TypeId} {k : IntKind} (hu : P.underlying t = some (.int k)) {fuel : Nat} {cs : List Value} {x : DataW H × List MemPlace} (h : DataW.trod enc P w base spare held fuel t cs = some x) : ∃ n, cs = [.int k n] ∧ (Lit.int k n).wf = true := by
  obtain ⟨n, e, _, hw⟩ := DataW.trod_int hu h
  exact ⟨n, e, hw⟩

variable {tTs tT tFs tF tVs tV tHs tH tOs tO tIs tI tJ tK tE tG tC tS : TypeId} {th fr va ha ob oc st : Array Field}

theorem pair_of {t ta tb : TypeId} {fs : Array Field} {k m : IntKind} (hu : P.underlying t = some (.struct fs)) (hf : fs.toList.map (fun f => (f.type, f.offset)) = [(ta, 0), (tb, 1)]) (hc : P.cellsOf t = 2) (ca : P.cellsOf ta = 1) (cb : P.cellsOf tb = 1)
    (ua : P.underlying ta = some (.int k)) (ub : P.underlying tb = some (.int m)) {fuel : Nat} {cs : List Value} {x : DataW H × List MemPlace} (h : DataW.trod enc P w base spare held fuel t cs = some x) (hz : Fits P t x.1) :
    ∃ y : Int × Int, cs = [.int k y.1, .int m y.2] ∧ WfI k y.1 ∧ WfI m y.2 := by
  have hl := struct_len hu hc h
  obtain ⟨n0, d0, _, g0, _⟩ := struct_field hu hf h hz 0 rfl ca
  obtain ⟨n1, d1, _, g1, _⟩ := struct_field hu hf h hz 1 rfl cb
  match cs, hl with
  | [c0, c1], _ =>
    obtain ⟨a, e0, w0⟩ := int_one ua g0
    obtain ⟨b, e1, w1⟩ := int_one ub g1
    simp at e0 e1
    subst e0 e1
    exact ⟨(a, b), rfl, w0, w1⟩

theorem pairs_of {t ts ta tb : TypeId} {fs : Array Field} {k m : IntKind} (hts : P.underlying ts = some (.slice t)) (hu : P.underlying t = some (.struct fs)) (hf : fs.toList.map (fun f => (f.type, f.offset)) = [(ta, 0), (tb, 1)]) (hc : P.cellsOf t = 2) (ca : P.cellsOf ta = 1) (cb : P.cellsOf tb = 1)
    (ua : P.underlying ta = some (.int k)) (ub : P.underlying tb = some (.int m)) (hb : 0 < P.bytesOf t) {fuel : Nat} {cs : List Value} {x : DataW H × List MemPlace} (h : DataW.trod enc P w base spare held fuel ts cs = some x) (hz : Fits P ts x.1) :
    ∃ v l, cs = [v] ∧ RowAt 2 (PairAt k m) w v l := by
  refine row_of hts hc (by omega) hb ?_ h hz
  intro k' cs x b p _ h hz _ hcell
  obtain ⟨y, rfl, w0, w1⟩ := pair_of hu hf hc ca cb ua ub h hz
  exact ⟨y, ⟨hcell 0 (by omega), w0⟩, hcell 1 (by omega), w1⟩

theorem ints_of {t ts : TypeId} {k : IntKind} (hts : P.underlying ts = some (.slice t)) (hu : P.underlying t = some (.int k)) (hc : P.cellsOf t = 1) (hb : 0 < P.bytesOf t) {fuel : Nat} {cs : List Value} {x : DataW H × List MemPlace}
    (h : DataW.trod enc P w base spare held fuel ts cs = some x) (hz : Fits P ts x.1) : ∃ v l, cs = [v] ∧ RowAt 1 (NumAt k) w v l := by
  refine row_of hts hc (by omega) hb ?_ h hz
  intro k' cs x b p _ h hz _ hcell
  obtain ⟨y, rfl, w0⟩ := int_one hu h
  exact ⟨y, hcell 0 (by omega), w0⟩

theorem frames_of (T : MT P tTs tT tFs tF tVs tV tHs tH tOs tO tIs tI tJ tK tE tG tC tS th fr va ha ob oc st) {fuel : Nat} {cs : List Value} {x : DataW H × List MemPlace} (h : DataW.trod enc P w base spare held fuel tFs cs = some x) (hz : Fits P tFs x.1) :
    ∃ v l, cs = [v] ∧ RowAt 5 FrAt w v l := by
  refine row_of T.uFs T.cF (by omega) T.bytes.2.1 ?_ h hz
  intro k' cs x b p _ h hz hl hcell
  obtain ⟨n0, d0, _, g0, _⟩ := struct_field T.uF T.fF h hz 0 rfl T.cI
  obtain ⟨n1, d1, _, g1, _⟩ := struct_field T.uF T.fF h hz 1 rfl T.cI
  obtain ⟨n2, d2, _, g2, _⟩ := struct_field T.uF T.fF h hz 2 rfl T.cI
  obtain ⟨n3, d3, _, g3, z3⟩ := struct_field T.uF T.fF h hz 3 rfl T.cVs
  obtain ⟨n4, d4, _, g4, z4⟩ := struct_field T.uF T.fF h hz 4 rfl T.cHs
  match cs, hl with
  | [c0, c1, c2, c3, c4], _ =>
    obtain ⟨y0, e0, w0⟩ := int_one T.uI g0
    obtain ⟨y1, e1, w1⟩ := int_one T.uI g1
    obtain ⟨y2, e2, w2⟩ := int_one T.uI g2
    obtain ⟨v3, l3, e3, r3⟩ := pairs_of T.uVs T.uV T.fV T.cV T.cK T.cJ T.uK T.uJ T.bytes.2.2.1 g3 z3
    obtain ⟨v4, l4, e4, r4⟩ := pairs_of T.uHs T.uH T.fH T.cH T.cI T.cI T.uI T.uI T.bytes.2.2.2.1 g4 z4
    simp at e0 e1 e2 e3 e4
    subst e0 e1 e2 e3 e4
    exact ⟨⟨y0, y1, y2, l3, l4⟩, c3, c4, ⟨hcell 0 (by omega), w0⟩, ⟨hcell 1 (by omega), w1⟩, ⟨hcell 2 (by omega), w2⟩, hcell 3 (by omega), hcell 4 (by omega), r3, r4⟩

theorem threads_of (T : MT P tTs tT tFs tF tVs tV tHs tH tOs tO tIs tI tJ tK tE tG tC tS th fr va ha ob oc st) {fuel : Nat} {cs : List Value} {x : DataW H × List MemPlace} (h : DataW.trod enc P w base spare held fuel tTs cs = some x) (hz : Fits P tTs x.1) :
    ∃ v l, cs = [v] ∧ RowAt 3 ThAt w v l := by
  refine row_of T.uTs T.cT (by omega) T.bytes.1 ?_ h hz
  intro k' cs x b p _ h hz hl hcell
  obtain ⟨n0, d0, _, g0, z0⟩ := struct_field T.uT T.fT h hz 0 rfl T.cFs
  obtain ⟨n1, d1, _, g1, z1⟩ := struct_field T.uT T.fT h hz 1 rfl T.cV
  match cs, hl with
  | [c0, c1, c2], _ =>
    obtain ⟨v0, l0, e0, r0⟩ := frames_of T g0 z0
    obtain ⟨y1, e1, w1, w2⟩ := pair_of T.uV T.fV T.cV T.cK T.cJ T.uK T.uJ g1 z1
    simp at e0 e1
    obtain ⟨e1, e2⟩ := e1
    subst e0 e1 e2
    exact ⟨⟨l0, y1.1, y1.2⟩, c0, hcell 0 (by omega), ⟨hcell 1 (by omega), w1⟩, ⟨hcell 2 (by omega), w2⟩, r0⟩

end
end Go.Ms

set_option maxRecDepth 100000
namespace Go.Ms
open Go

/-! How great a state is. -/
def partsFr (f : Fr) : Nat := f.regs.length + f.tries.length
def sumOf {α : Type} (f : α → Nat) (l : List α) : Nat := (l.map f).sum
def partsTh (t : Th) : Nat := t.frames.length + sumOf partsFr t.frames
def partsOb (o : Ob) : Nat := o.cells.length
def parts (s : St) : Nat := s.threads.length + s.objects.length + s.outcome.out.length + sumOf partsTh s.threads + sumOf partsOb s.objects

theorem sumOf_take {α : Type} (f : α → Nat) (l : List α) (k : Nat) (h : k < l.length) : sumOf f (l.take (k + 1)) = sumOf f (l.take k) + f l[k] := by
  unfold sumOf
  rw [List.take_succ_eq_append_getElem h, List.map_append, List.sum_append]
  simp
theorem sumOf_nil {α : Type} (f : α → Nat) : sumOf f [] = 0 := rfl
theorem sumOf_cons {α : Type} (f : α → Nat) (a : α) (l : List α) : sumOf f (a :: l) = f a + sumOf f l := by simp [sumOf]

theorem len_flatMap_le {α β : Type} {g : α → List β} {f : α → Nat} {c d : Nat} : ∀ {l : List α}, (∀ a ∈ l, (g a).length ≤ c + d * f a) → (l.flatMap g).length ≤ c * l.length + d * sumOf f l
  | [], _ => by simp
  | a :: l, h => by
    have h1 := h a (by simp)
    have h2 := len_flatMap_le (l := l) fun x hx => h x (by simp [hx])
    rw [List.flatMap_cons, List.length_append, sumOf_cons, List.length_cons, Nat.mul_add, Nat.mul_add]
    omega
theorem serPs_len (l : List (Int × Int)) : (serPs l).length = 2 * l.length := by
  induction l with
  | nil => rfl
  | cons a l ih => simp only [serPs, List.flatMap_cons, List.length_append, List.length_cons] at ih ⊢; simp only [serP, List.length_cons, List.length_nil]; omega
theorem serFr_len (f : Fr) : (serFr f).length = 5 + 2 * partsFr f := by
  simp only [serFr, List.length_append, serPs_len, List.length_cons, List.length_nil, partsFr]; omega
theorem serTh_len (t : Th) : (serTh t).length ≤ 3 + 7 * partsTh t := by
  have := len_flatMap_le (g := serFr) (f := partsFr) (c := 5) (d := 2) (l := t.frames) fun a _ => by rw [serFr_len]; omega
  simp only [serTh, List.length_append, List.length_cons, List.length_nil, partsTh]; omega
theorem serOb_len (o : Ob) : (serOb o).length ≤ 3 + 2 * partsOb o := by
  simp only [serOb, List.length_append, serPs_len, List.length_cons, List.length_nil, partsOb]; omega
theorem serOc_len (o : Oc) : (serOc o).length = 7 + o.out.length := by
  simp only [serOc, List.length_append, List.length_cons, List.length_nil]; omega
theorem ser_len (s : St) : (ser s).length ≤ 12 + 7 * parts s := by
  have h1 := len_flatMap_le (g := serTh) (f := partsTh) (c := 3) (d := 7) (l := s.threads) fun a _ => serTh_len a
  have h2 := len_flatMap_le (g := serOb) (f := partsOb) (c := 3) (d := 2) (l := s.objects) fun a _ => serOb_len a
  simp only [ser, List.length_append, List.length_cons, List.length_nil, serOc_len, parts]; omega
theorem enc_len (n : Int) : (enc n).length = 8 := rfl
theorem encs_len (l : List Int) : (l.flatMap enc).length = 8 * l.length := by
  induction l with
  | nil => rfl
  | cons a l ih => rw [List.flatMap_cons, List.length_append, ih, enc_len, List.length_cons]; omega

theorem flatMap_take {α β : Type} (f : α → List β) (l : List α) (k : Nat) (h : k < l.length) : (l.take (k + 1)).flatMap f = (l.take k).flatMap f ++ f l[k] := by
  rw [List.take_succ_eq_append_getElem h, List.flatMap_append]
  simp
theorem flatMap_take_le {α β : Type} (f : α → List β) (l : List α) (k : Nat) : ((l.take k).flatMap f).length ≤ (l.flatMap f).length := by
  conv => rhs; rw [← List.take_append_drop k l, List.flatMap_append, List.length_append]
  omega

theorem enc_get (n : Int) : ∀ k, (h : k < 8) → (enc n)[k]'(by rw [enc_len]; exact h) = n / 256 ^ k % 256
  | 0, _ | 1, _ | 2, _ | 3, _ | 4, _ | 5, _ | 6, _ | 7, _ => by simp [enc]
theorem enc_take (n : Int) (k : Nat) (h : k < 8) : (enc n).take (k + 1) = (enc n).take k ++ [n / 256 ^ k % 256] := by
  rw [List.take_succ_eq_append_getElem (by rw [enc_len]; exact h), enc_get n k h]
theorem enc_all (n : Int) : (enc n).take 8 = enc n := List.take_of_length_le (by rw [enc_len]; omega)
theorem enc_byte (n : Int) : ∀ x ∈ enc n, 0 ≤ x ∧ x < 256 := by
  intro x hx
  simp only [enc, List.mem_cons, List.not_mem_nil, or_false] at hx
  omega
end Go.Ms

set_option maxRecDepth 100000
namespace Go.Ms
open Go Go.Pg Go.ChangeShapes Go.WideShapes Go.ChangeAt Go.RowKit

/-! A list of bytes that grows behind a pointer. -/
def Buf (tb te : TypeId) (B g : Nat) (w : World) (l : List Int) : Prop :=
  B ≤ g ∧ ∃ v, w.heap[g]? = some (.cells #[v] tb (0, 0)) ∧ w.ownsRow B te 1 v l.length (l.map (.int .u8))

structure Step (te : TypeId) (B g : Nat) (w w' : World) : Prop where
  below : Below B w w'
  kept : ∀ b, b < w.heap.size → b ≠ g → (∀ cs fr, w.heap[b]? ≠ some (.cells cs te fr)) → w'.heap[b]? = w.heap[b]?

theorem Step.refl (te : TypeId) (B g : Nat) (w : World) : Step te B g w w := ⟨Below.refl _ _, fun _ _ _ _ => rfl⟩
theorem Step.trans {te : TypeId} {B g : Nat} {a b c : World} (h : Step te B g a b) (k : Step te B g b c) : Step te B g a c :=
  ⟨h.below.trans k.below, fun i hi hg ht => by
    have e := h.kept i hi hg ht
    rw [k.kept i (Nat.lt_of_lt_of_le hi h.below.size) hg (fun cs fr => by rw [e]; exact ht cs fr), e]⟩
theorem Step.drew {te : TypeId} {B g : Nat} {a w : World} (h : Step te B g a w) : Step te B g a w.drew := h.trans ⟨⟨rfl, rfl, rfl, Nat.le_refl _, fun _ _ => rfl⟩, fun _ _ _ _ => rfl⟩
theorem Step.alloc {te : TypeId} {B g : Nat} {a w : World} (h : Step te B g a w) (hB : B ≤ w.heap.size) (o : Obj) : Step te B g a (w.alloc o) :=
  h.trans ⟨(Below.refl _ _).alloc hB o, fun _ hi _ _ => Below.heap_alloc _ _ _ hi⟩

theorem block_lt {w : World} {g : Nat} {o : Obj} (h : w.heap[g]? = some o) : g < w.heap.size := (Array.getElem?_eq_some_iff.1 h).1

theorem own_ne {w : World} {B : Nat} {te tb : TypeId} {v : Value} {n : Nat} {xs : List Value} {g : Nat} {cs : Array Value} {fr : Nat × Nat} (h : w.ownsRow B te 1 v n xs) (hg : w.heap[g]? = some (.cells cs tb fr)) (hne : te ≠ tb) : v.ownBlock ≠ some g := by
  rcases h.2 with ⟨rfl, _⟩ | ⟨g', cap, cur, rfl, _, hh, _⟩
  · simp [Value.ownBlock]
  · intro he
    have e : g' = g := by simpa [Value.ownBlock] using he
    subst e
    rw [hh] at hg
    injection hg with hg
    injection hg with _ ht
    exact hne ht

theorem own_type {w : World} {B : Nat} {te : TypeId} {v : Value} {n : Nat} {xs : List Value} (h : w.ownsRow B te 1 v n xs) : ∀ k, v.ownBlock = some k → ∃ cs fr, w.heap[k]? = some (.cells cs te fr) := by
  intro k hk
  rcases h.2 with ⟨rfl, _⟩ | ⟨g', cap, cur, rfl, _, hh, _⟩
  · simp [Value.ownBlock] at hk
  · simp [Value.ownBlock] at hk
    subst hk
    exact ⟨_, _, hh⟩

theorem set_block {w : World} {g : Nat} {v v' : Value} {tb : TypeId} (h : w.heap[g]? = some (.cells #[v] tb (0, 0))) : (w.setCell ⟨g, 0, none⟩ v').heap[g]? = some (.cells #[v'] tb (0, 0)) := by
  simp [World.setCell, Array.getElem?_modify, h]

theorem own_set {w : World} {B : Nat} {te : TypeId} {v : Value} {n : Nat} {xs : List Value} (h : w.ownsRow B te 1 v n xs) {g : Nat} (hg : v.ownBlock ≠ some g) (u : Value) : (w.setCell ⟨g, 0, none⟩ u).ownsRow B te 1 v n xs := by
  refine ⟨h.1, ?_⟩
  rcases h.2 with h2 | ⟨g', cap, cur, rfl, hb, hh, r⟩
  · exact .inl h2
  · refine .inr ⟨g', cap, cur, rfl, hb, ?_, r⟩
    have hne : g' ≠ g := fun e => hg (by subst e; simp [Value.ownBlock])
    rw [Below.heap_setCell _ _ _ _ hne]
    exact hh

theorem Step.block {te : TypeId} {B g : Nat} {w w' : World} (h : Step te B g w w') {b : Nat} {cs : Array Value} {t : TypeId} {fr : Nat × Nat} (hb : w.heap[b]? = some (.cells cs t fr)) (hg : b ≠ g) (ht : t ≠ te) : w'.heap[b]? = some (.cells cs t fr) := by
  rw [h.kept b (block_lt hb) hg (fun cs' fr' e => ?_), hb]
  rw [hb] at e
  injection e with e
  injection e with _ e
  exact ht e
theorem cell_of {w : World} {b : Nat} {cs : Array Value} {t : TypeId} {fr : Nat × Nat} (hb : w.heap[b]? = some (.cells cs t fr)) (i : Nat) : w.cell? ⟨b, i, none⟩ = cs[i]? := by
  unfold World.cell?
  rw [hb]
  rfl
theorem frozen_of {w : World} {b : Nat} {cs : Array Value} {t : TypeId} (hb : w.heap[b]? = some (.cells cs t (0, 0))) (i : Nat) : w.frozen? ⟨b, i, none⟩ = false := by
  simp [World.frozen?, hb]
theorem Buf.lt {tb te : TypeId} {B g : Nat} {w : World} {l : List Int} (h : Buf tb te B g w l) : B ≤ g ∧ g < w.heap.size := ⟨h.1, block_lt h.2.choose_spec.1⟩
theorem Buf.alloc {tb te : TypeId} {B g : Nat} {w : World} {l : List Int} (h : Buf tb te B g w l) (o : Obj) : Buf tb te B g (w.alloc o) l := by
  obtain ⟨hB, v, hg, hv⟩ := h
  exact ⟨hB, v, (Below.heap_alloc _ _ _ (block_lt hg)).trans hg, hv.alloc o⟩
theorem Buf.drew {tb te : TypeId} {B g : Nat} {w : World} {l : List Int} (h : Buf tb te B g w l) : Buf tb te B g w.drew l := h
theorem new_block (w : World) (o : Obj) : (w.alloc o).heap[w.heap.size]? = some o := by
  show (w.heap.push o)[_]? = _
  rw [Array.getElem?_push, if_pos rfl]
theorem old_block {w : World} {b : Nat} {x : Obj} (h : w.heap[b]? = some x) (o : Obj) : (w.alloc o).heap[b]? = some x := (Below.heap_alloc _ _ _ (block_lt h)).trans h

theorem one_new {w : World} {b : Nat} {x : Value} (h : w.cell? ⟨b, 0, none⟩ = some x) : ∀ j u, [x][j]? = some u → w.cell? ((⟨b, 0, none⟩ : Addr).add j) = some u := by
  intro j u hu
  match j, hu with
  | 0, hu => simp at hu; subst hu; exact h
theorem one_cell {k : IntKind} {x : Int} : ∀ u ∈ [Value.int k x], u.oneCell' = true := by
  intro u hu; simp at hu; subst hu; rfl
theorem own_form {w : World} {B : Nat} {e : TypeId} {v : Value} {n : Nat} {xs : List Value} (h : w.ownsRow B e 1 v (n + 1) xs) : ∃ g cap, v = .slice (some ⟨g, 0, none⟩) (n + 1) cap := by
  rcases h.2 with ⟨_, h⟩ | ⟨g, cap, _, h, _⟩
  · omega
  · exact ⟨g, cap, h⟩
end Go.Ms

