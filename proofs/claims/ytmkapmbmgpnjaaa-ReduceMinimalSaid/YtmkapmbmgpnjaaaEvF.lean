import Derived.Test.YtmkapmbmgpnjaaaEvE
import Derived.Laws.Sem
namespace Go.Ev
open Go.RowKit

section
variable {P : Program} {ρ : Ren}

inductive Quiet (P : Program) {α : Type} : Sem α → Prop
  | pure (a : α) : Quiet P (.pure a)
  | program {k : Program → Sem α} : Quiet P (k P) → Quiet P (.program k)
  | halt (h : Halt) : Quiet P (.halt h)

theorem Quiet.bind {α β : Type} {s : Sem α} (h : Quiet P s) {f : α → Sem β} (hf : ∀ a, Quiet P (f a)) : Quiet P (s >>= f) := by
  show Quiet P (s.bind f)
  induction h with
  | pure a => exact hf a
  | program _ ih => exact .program ih
  | halt h => exact .halt h

theorem Quiet.es {α : Type} {s : Sem α} (h : Quiet P s) : ES P ρ s s := by
  induction h with
  | pure a => exact SR.pure rfl
  | program _ ih => exact SR.program ih
  | halt h => exact SR.halt

theorem Quiet.typeInfo (t : TypeId) : Quiet P (Go.typeInfo t) := by
  refine Quiet.program ?_
  show Quiet P (match P.info? t with | some i => Pure.pure i | none => Go.stuck "no such type")
  cases P.info? t with
  | none => exact .halt _
  | some i => exact .pure _

theorem Quiet.sizeOf (t : TypeId) : Quiet P (Go.sizeOf t) := (Quiet.typeInfo t).bind fun _ => .pure _

theorem Quiet.mapM_list {α β : Type} {f : α → Sem β} (h : ∀ a, Quiet P (f a)) : ∀ (l : List α), Quiet P (l.mapM f) := by
  intro l
  induction l with
  | nil => exact .pure _
  | cons a l ih =>
    rw [List.mapM_cons]
    exact (h a).bind fun _ => ih.bind fun _ => .pure _

theorem Quiet.mapM {α β : Type} {f : α → Sem β} (h : ∀ a, Quiet P (f a)) (x : Array α) : Quiet P (x.mapM f) := by
  rw [Array.mapM_eq_mapM_toList, ← bind_pure_comp]
  exact (Quiet.mapM_list h _).bind fun _ => .pure _

def PartsR (ρ : Ren) : List (Nat × Value) → List (Nat × Value) → Prop
  | [], [] => True
  | v :: vs, u :: us => (v.1 = u.1 ∧ VR ρ v.2 u.2 ∧ isJunk v.2 = false) ∧ PartsR ρ vs us
  | _, _ => False

theorem PartsR.mono {ρ σ : Ren} (h : ρ.le σ) : ∀ {x y : List (Nat × Value)}, PartsR ρ x y → PartsR σ x y
  | [], [], _ => trivial
  | _ :: _, _ :: _, k => ⟨⟨k.1.1, k.1.2.1.mono h, k.1.2.2⟩, PartsR.mono h k.2⟩

theorem AsR.fold (off : Nat) : ∀ (x x' : List (Value × Nat)) {c c' : Array Value}, AsR ρ c c' → x.length = x'.length →
    (∀ (i : Nat) (p q : Value × Nat), x[i]? = some p → x'[i]? = some q → VR ρ p.1 q.1 ∧ p.2 = q.2) →
    AsR ρ (x.foldl (fun cs p => cs.setIfInBounds (off + p.2) p.1) c) (x'.foldl (fun cs p => cs.setIfInBounds (off + p.2) p.1) c') := by
  intro x
  induction x with
  | nil =>
    intro x' c c' h hl _
    cases x' with
    | nil => exact h
    | cons _ _ => simp at hl
  | cons p ps ih =>
    intro x' c c' h hl hx
    cases x' with
    | nil => simp at hl
    | cons q qs =>
      obtain ⟨h1, h2⟩ := hx 0 p q rfl rfl
      simp only [List.foldl_cons]
      rw [← h2]
      exact ih qs (h.set _ h1) (by simpa using hl) fun i a b ha hb => hx (i + 1) a b (by simpa using ha) (by simpa using hb)

theorem AsR.foldZip (off : Nat) {x x' c c' : Array Value} (hx : AsR ρ x x') (h : AsR ρ c c') :
    AsR ρ (x.zipIdx.foldl (fun cs (c, j) => cs.setIfInBounds (off + j) c) c) (x'.zipIdx.foldl (fun cs (c, j) => cs.setIfInBounds (off + j) c) c') := by
  rw [← Array.foldl_toList, ← Array.foldl_toList]
  refine AsR.fold off _ _ h (by simp [hx.1]) ?_
  intro i p q hp hq
  simp only [Array.getElem?_toList, Array.getElem?_zipIdx, Option.map_eq_some_iff] at hp hq
  obtain ⟨a, ha, rfl⟩ := hp
  obtain ⟨b, hb, rfl⟩ := hq
  exact ⟨hx.2 i a b ha hb, rfl⟩

theorem fill_rel (place : Nat → Option (Nat × Nat)) : ∀ (x x' : List (Nat × Value)) {c c' : Array Value}, AsR ρ c c' → PartsR ρ x x' →
    (Instr.fill place c x = none ∧ Instr.fill place c' x' = none) ∨ ∃ d d', Instr.fill place c x = some d ∧ Instr.fill place c' x' = some d' ∧ AsR ρ d d' := by
  intro x
  induction x with
  | nil =>
    intro x' c c' h hx
    cases x' with
    | nil => exact .inr ⟨c, c', rfl, rfl, h⟩
    | cons _ _ => exact hx.elim
  | cons p ps ih =>
    intro x' c c' h hx
    cases x' with
    | nil => exact hx.elim
    | cons q qs =>
      obtain ⟨i, v⟩ := p
      obtain ⟨i', v'⟩ := q
      obtain ⟨⟨h1, h2, h3⟩, h4⟩ := hx
      simp only at h1 h2 h3
      subst h1
      have hc := h2.cells h3
      unfold Instr.fill
      cases hp : place i with
      | none => exact .inl ⟨rfl, rfl⟩
      | some os =>
        obtain ⟨off, size⟩ := os
        simp only [hc.1, h.1]
        split
        · exact .inl ⟨rfl, rfl⟩
        · exact ih qs (AsR.foldZip off hc h) h4

theorem VS.build (ok : Okay P) (t : TypeId) {x x' : Array (Nat × Value)} (h : PartsR ρ x.toList x'.toList) : SR P VR ρ (Instr.build t x) (Instr.build t x') := by
  unfold Instr.build
  refine SR.bind (VS.zeroValue ok t) fun σ z _ hle hz => ?_
  obtain ⟨rfl, hj, hz⟩ := hz
  refine SR.bind (ES.underlying t) fun τ d _ hle2 hd => ?_
  obtain ⟨rfl, -⟩ := hd
  have hzc := (hz.mono hle2).cells hj
  have hx := (h.mono hle).mono hle2
  cases d <;> first | exact .stuck _ | skip
  · rename_i len elem
    refine SR.bind (ES.sizeOf elem) fun υ k _ hle3 hk => ?_
    obtain ⟨rfl, _⟩ := hk
    rcases fill_rel (fun i => some (i * k, k)) x.toList x'.toList (hzc.mono hle3) (hx.mono hle3) with ⟨h1, h2⟩ | ⟨d, d', h1, h2, h3⟩
    · simp only [h1, h2]; exact .stuck _
    · simp only [h1, h2]; exact .ret h3.to_agg
  · rename_i fields
    refine SR.bind (Quiet.mapM (fun f => (Quiet.sizeOf f.type).bind fun _ => .pure _) fields).es fun υ k _ hle3 hk => ?_
    subst hk
    rcases fill_rel (fun i => k[i]?) x.toList x'.toList (hzc.mono hle3) (hx.mono hle3) with ⟨h1, h2⟩ | ⟨d, d', h1, h2, h3⟩
    · simp only [h1, h2]; exact .stuck _
    · simp only [h1, h2]; exact .ret h3.to_agg

theorem VR.default (ρ : Ren) : VR ρ (default : Value) default := .bool _

theorem AsR.getBang {x : Array Value} (h : AsR ρ x x) (i : Nat) : VR ρ x[i]! x[i]! := by
  rw [Array.getElem!_eq_getD, Array.getD_eq_getD_getElem?]
  cases hi : x[i]? with
  | none => exact VR.default ρ
  | some v => obtain ⟨v', hv', hr⟩ := h.get hi; rw [hi] at hv'; cases hv'; exact hr

theorem AsR.zeros {x : Array Value} (h : AsR ρ x x) (n : Nat) : AsR ρ ((Array.range n).map (x[· % x.size]!)) ((Array.range n).map (x[· % x.size]!)) := by
  refine ⟨rfl, fun i a b ha hb => ?_⟩
  rw [ha] at hb
  cases hb
  simp only [Array.getElem?_map, Option.map_eq_some_iff] at ha
  obtain ⟨k, _, rfl⟩ := ha
  exact h.getBang _

theorem VS.zeroJoin (ok : Okay P) (t : TypeId) (n : Nat) {J J' : Array Value → Sem Value} (hJ : ∀ σ z, ρ.le σ → AsR σ z z → SR P VR σ (J z) (J' z)) :
    SR P VR ρ (if n = 0 then Pure.pure #[] >>= J else Go.zeroValue t >>= fun l => Pure.pure l.cells >>= J) (if n = 0 then Pure.pure #[] >>= J' else Go.zeroValue t >>= fun l => Pure.pure l.cells >>= J') := by
  split
  · exact SR.bind (RA := fun σ a b => a = b ∧ AsR σ a b) (.ret ⟨rfl, AsR.nil _⟩) fun σ a b hle h => by obtain ⟨rfl, h⟩ := h; exact hJ σ a hle h
  · refine SR.bind (VS.zeroValue ok t) fun σ z _ hle hz => ?_
    obtain ⟨rfl, hj, hz⟩ := hz
    exact SR.bind (RA := fun σ a b => a = b ∧ AsR σ a b) (.ret ⟨rfl, hz.cells hj⟩) fun τ a b hle2 h => by obtain ⟨rfl, h⟩ := h; exact hJ τ a (Ren.le_trans hle hle2) h

theorem VR.freshSlice {a a' : Addr} (h : AR ρ a a') (n c : Nat) : VR ρ (.slice (some a) n c) (.slice (some a') n c) := .ssome ⟨h, Nat.le_refl _, .inl rfl⟩

theorem VS.buildSlice (ok : Okay P) (t : TypeId) (n : Nat) {x x' : Array (Nat × Value)} (h : PartsR ρ x.toList x'.toList) : SR P VR ρ (Instr.buildSlice t n x) (Instr.buildSlice t n x') := by
  unfold Instr.buildSlice
  refine SR.bind (ES.underlying t) fun σ d _ hle hd => ?_
  obtain ⟨rfl, -⟩ := hd
  cases d <;> first | exact .stuck _ | skip
  rename_i elem
  refine SR.bind (ES.sizeOf elem) fun τ k _ hle2 hk => ?_
  obtain ⟨rfl, _⟩ := hk
  dsimp only
  have tail : ∀ υ z, τ.le υ → AsR υ z z → SR P VR υ (match Instr.fill (fun i => some (i * k, k)) ((Array.range (n * k)).map (z[· % z.size]!)) x.toList with
      | some cells => do Pure.pure (.slice (some (← Go.newRow elem cells)) n n)
      | _ => Go.stuck "buildSlice: a part of the wrong size") (match Instr.fill (fun i => some (i * k, k)) ((Array.range (n * k)).map (z[· % z.size]!)) x'.toList with
      | some cells => do Pure.pure (.slice (some (← Go.newRow elem cells)) n n)
      | _ => Go.stuck "buildSlice: a part of the wrong size") := by
    intro υ z hle3 hz
    rcases fill_rel (fun i => some (i * k, k)) x.toList x'.toList (hz.zeros (n * k)) (((h.mono hle).mono hle2).mono hle3) with ⟨h1, h2⟩ | ⟨d, d', h1, h2, h3⟩
    · simp only [h1, h2]; exact .stuck _
    · simp only [h1, h2]
      exact SR.bind (SR.newRow elem h3) fun _ a a' _ ha => .ret (VR.freshSlice ha n n)
  by_cases hb : n * k > 2 ^ 24
  · simp only [hb, if_true]
    exact SR.bind (RA := fun _ _ _ => True) (SR.unsupported _) fun υ _ _ hle3 _ => VS.zeroJoin ok elem _ fun φ z hle4 hz => tail φ z (Ren.le_trans hle3 hle4) hz
  · simp only [hb, if_false]
    exact VS.zeroJoin ok elem _ tail

theorem VS.alloc (ok : Okay P) (t : TypeId) : SR P VR ρ (Instr.alloc t true (.tuple #[])) (Instr.alloc t true (.tuple #[])) := by
  unfold Instr.alloc
  refine SR.bind (VS.zeroValue ok t) fun σ z _ hle hz => ?_
  obtain ⟨rfl, hj, hz⟩ := hz
  exact SR.bind (SR.newVar t hz hj) fun _ a a' _ ha => .ret (.psome ha)

theorem VS.box (t : TypeId) {v v' : Value} (h : VR ρ v v') (hj : isJunk v = false) : SR P VR ρ (Instr.box t v) (Instr.box t v') := by
  unfold Instr.box
  exact SR.bind (SR.newVar t h hj) fun _ a a' _ ha => .ret (.psome ha)

theorem VS.loadAt (t : TypeId) {v v' : Value} (h : VR ρ v v') : SR P VR ρ (Instr.loadAt t v) (Instr.loadAt t v') := by
  unfold Instr.loadAt
  exact SR.bind (SR.sureAddr h) fun _ a a' _ ha => SR.loadVar t ha

theorem VS.storeAt (t : TypeId) {v v' u u' : Value} (h : VR ρ v v') (hu : VR ρ u u') (hj : isJunk u = false) : SR P (fun _ _ _ => True) ρ (Instr.storeAt t v u) (Instr.storeAt t v' u') := by
  unfold Instr.storeAt
  exact SR.bind (SR.sureAddr h) fun _ a a' hle ha => SR.storeVar t ha (hu.mono hle) hj

def fieldSized (P : Program) (s : TypeId) (n : Nat) : Bool :=
  match P.underlying s with
  | some (.struct fs) => (match (fs[n]? : Option Field) with
    | some f => (match P.info? f.type with
      | some k => k.size != 0
      | none => true)
    | none => true)
  | _ => true

theorem SR.fieldPlace {s : TypeId} {fs : Array Field} {n : Nat} {f : Field} (hlt : fieldSized P s n = true) (hs : P.underlying s = some (.struct fs)) (hf : fs[n]? = some f) {a a' : Addr} (h : AR ρ a a') :
    SR P AR ρ (Go.fieldPlace a f) (Go.fieldPlace a' f) := by
  unfold Go.fieldPlace
  refine SR.bind (ES.sizeOf f.type) fun σ k _ hle hk => ?_
  obtain ⟨rfl, i, hi, hk⟩ := hk
  have : i.size ≠ 0 := by
    unfold fieldSized at hlt
    rw [hs] at hlt
    simp only at hlt
    rw [hf] at hlt
    simp only at hlt
    rw [hi] at hlt
    simpa using hlt
  rw [if_neg (by omega), if_neg (by omega)]
  exact .ret ((h.mono hle).add _)

theorem VS.fieldAt (s : TypeId) (n : Nat) (hlt : fieldSized P s n = true) {v v' : Value} (h : VR ρ v v') : SR P VR ρ (Instr.fieldAt s v n) (Instr.fieldAt s v' n) := by
  unfold Instr.fieldAt
  refine SR.bind (ES.underlying s) fun σ d _ hle hd => ?_
  obtain ⟨rfl, hd⟩ := hd
  cases d <;> first | exact .stuck _ | skip
  rename_i fs
  simp only
  cases hf : fs[n]? with
  | none => exact .stuck _
  | some f =>
    refine SR.bind (SR.sureAddr (h.mono hle)) fun τ a a' hle2 ha => ?_
    exact SR.bind (SR.fieldPlace hlt hd hf ha) fun _ b b' _ hb => .ret (.psome hb)

theorem SR.plainPanic {α β : Type} {RA : Ren → α → β → Prop} {e : RuntimeError} (h : match e with | .bounds .. | .error _ | .plain _ | .nilDeref => True | _ => False) :
    SR P RA ρ (Go.runtimePanic e : Sem α) (Go.runtimePanic e : Sem β) := by
  cases e <;> first | exact h.elim | exact SR.program .halt

theorem SR.boundsPanic {α β : Type} {RA : Ren → α → β → Prop} (k : IntKind) (x y : Int) (c : BoundsCode) : SR P RA ρ (Go.boundsPanic k x y c : Sem α) (Go.boundsPanic k x y c : Sem β) := by
  unfold Go.boundsPanic
  by_cases h : (k != IntKind.u64 && decide (0 ≤ x) && decide (x ≤ 31)) = true
  · simp only [h, if_true]
    exact SR.chooseNo rfl rfl
  · simp only [h]
    exact SR.plainPanic (e := .bounds _ _ _ _) trivial

theorem VS.indexAt (t : TypeId) {v v' u u' : Value} (h : VR ρ v v') (hu : VR ρ u u') : SR P VR ρ (Instr.indexAt t v u) (Instr.indexAt t v' u') := by
  unfold Instr.indexAt
  refine SR.bind (ES.asIntOf hu) fun σ ki _ hle e => ?_
  subst e
  obtain ⟨k, i⟩ := ki
  simp only
  refine SR.bind (ES.underlying t) fun τ d _ hle2 hd => ?_
  obtain ⟨rfl, -⟩ := hd
  have h := (h.mono hle).mono hle2
  have tail : ∀ {υ : Ren} (base base' : Option Addr) (len : Nat) (elem : TypeId), (base = none ∧ base' = none ∨ ∃ a a', base = some a ∧ base' = some a' ∧ AR υ a a') →
      SR P VR υ (do
        let d ← Go.underlying t
        let tiny := decide (len ≤ 1) && (match d with | .array .. => true | _ => false)
        match base with
        | some a =>
          if 0 ≤ i ∧ i < len then Pure.pure (.pointer (some (a.add (i.toNat * (← Go.sizeOf elem)))))
          else if tiny then Go.unsupported (.noEntry "op/indexAddr.an index out of range at an array of length 0 or 1 (ledger 616)")
          else Go.boundsPanic k i len .index
        | none => Go.boundsPanic k i 0 .index) (do
        let d ← Go.underlying t
        let tiny := decide (len ≤ 1) && (match d with | .array .. => true | _ => false)
        match base' with
        | some a =>
          if 0 ≤ i ∧ i < len then Pure.pure (.pointer (some (a.add (i.toNat * (← Go.sizeOf elem)))))
          else if tiny then Go.unsupported (.noEntry "op/indexAddr.an index out of range at an array of length 0 or 1 (ledger 616)")
          else Go.boundsPanic k i len .index
        | none => Go.boundsPanic k i 0 .index) := by
    intro υ base base' len elem hb
    refine SR.bind (ES.underlying t) fun φ d _ hle3 hd => ?_
    obtain ⟨rfl, -⟩ := hd
    simp only
    rcases hb with ⟨rfl, rfl⟩ | ⟨a, a', rfl, rfl, ha⟩
    · exact SR.boundsPanic _ _ _ _
    · simp only
      split
      · refine SR.bind (ES.sizeOf elem) fun ψ n _ hle4 hn => ?_
        obtain ⟨rfl, -⟩ := hn
        exact .ret (.psome (((ha.mono hle3).mono hle4).add _))
      · split <;> split <;> first | exact .unsupported _ | exact SR.boundsPanic _ _ _ _
  cases d with
  | array n e =>
    refine SR.bind (SR.sureAddr h) fun υ a a' _ ha => ?_
    exact tail (some a) (some a') n e (.inr ⟨a, a', rfl, rfl, ha⟩)
  | slice e =>
    cases h with
    | snone n c => exact tail none none n e (.inl ⟨rfl, rfl⟩)
    | @ssome a a' n c c' hs => exact tail (some a) (some a') n e (.inr ⟨a, a', rfl, rfl, hs.1⟩)
    | _ => exact .stuck _
  | _ => exact .stuck _

theorem VS.makeSlice (ok : Okay P) (t : TypeId) {v v' u u' : Value} (h : VR ρ v v') (hu : VR ρ u u') : SR P VR ρ (Instr.makeSlice t v u) (Instr.makeSlice t v' u') := by
  unfold Instr.makeSlice
  refine SR.bind (ES.underlying t) fun σ d _ hle hd => ?_
  obtain ⟨rfl, -⟩ := hd
  have h := h.mono hle
  have hu := hu.mono hle
  cases d <;> first | exact .stuck _ | skip
  rename_i elem
  simp only
  refine SR.bind (ES.asInt h) fun τ n _ hle2 e => ?_
  subst e
  refine SR.bind (ES.asInt (hu.mono hle2)) fun υ c _ hle3 e => ?_
  subst e
  refine SR.bind (ES.typeInfo elem) fun φ i _ hle4 e => ?_
  obtain ⟨rfl, -⟩ := e
  have tail : ∀ ψ z, AsR ψ z z → SR P VR ψ (do
      let a ← Go.newRow elem ((Array.range ((IntKind.i64.wrap c).toNat * i.size)).map (z[· % z.size]!))
      Pure.pure (.slice (some a) (IntKind.i64.wrap n).toNat (IntKind.i64.wrap c).toNat)) (do
      let a ← Go.newRow elem ((Array.range ((IntKind.i64.wrap c).toNat * i.size)).map (z[· % z.size]!))
      Pure.pure (.slice (some a) (IntKind.i64.wrap n).toNat (IntKind.i64.wrap c).toNat)) := by
    intro ψ z hz
    exact SR.bind (SR.newRow elem (hz.zeros _)) fun _ a a' _ ha => .ret (VR.freshSlice ha _ _)
  split
  · split
    · exact SR.bind (RA := fun _ _ _ => False) (SR.plainPanic trivial) fun _ _ _ _ h => h.elim
    · split
      · exact SR.bind (RA := fun _ _ _ => False) (SR.plainPanic trivial) fun _ _ _ _ h => h.elim
      · exact SR.bind (RA := fun _ _ _ => False) (.chooseNo rfl rfl) fun _ _ _ _ h => h.elim
  · refine SR.bind (RA := fun _ _ _ => True) (by unfold Go.askRoom; split; exact .mark (.pure trivial); exact .pure trivial) fun _ _ _ _ _ => ?_
    refine SR.bind (ES.sizeOf elem) fun ψ k _ _ hk => ?_
    obtain ⟨rfl, -⟩ := hk
    exact VS.zeroJoin ok elem _ fun χ z _ hz => SR.bind (SR.newRow elem (hz.zeros _)) fun _ a a' _ ha => .ret (VR.freshSlice ha _ _)

theorem VS.makeMap (t : TypeId) {v v' : Option Value} (h : (v = none ∧ v' = none) ∨ ∃ u u', v = some u ∧ v' = some u' ∧ VR ρ u u') : SR P VR ρ (Instr.makeMap t v) (Instr.makeMap t v') := by
  have fresh : ∀ σ, SR P VR σ (do Pure.pure (.map (some (← Go.newObj (.map #[] 0))))) (do Pure.pure (.map (some (← Go.newObj (.map #[] 0))))) := fun σ =>
    SR.bind (SR.newObj (.map 0 ⟨rfl, by simp⟩)) fun _ r r' _ hr => .ret (.msome hr)
  unfold Instr.makeMap
  rcases h with ⟨rfl, rfl⟩ | ⟨u, u', rfl, rfl, hu⟩
  · exact fresh ρ
  · refine SR.bind (ES.underlying t) fun σ d _ hle hd => ?_
    obtain ⟨rfl, -⟩ := hd
    cases d <;> first | exact .stuck _ | skip
    exact SR.bind (ES.asInt (hu.mono hle)) fun τ _ _ _ _ => fresh τ

theorem VS.makeInterface (t : TypeId) {v v' : Value} (h : VR ρ v v') : SR P VR ρ (Instr.makeInterface t v) (Instr.makeInterface t v') := by
  unfold Instr.makeInterface
  refine SR.bind (ES.underlying t) fun σ d _ hle hd => ?_
  obtain ⟨rfl, -⟩ := hd
  cases d <;> first | exact .stuck _ | exact .ret (.iface t (h.mono hle))

theorem VS.extract {v v' : Value} (h : VR ρ v v') (hj : isJunk v = false) (n : Nat) : SR P VR ρ (Instr.extract v n) (Instr.extract v' n) := by
  cases h with
  | junk => cases hj
  | tuple h1 h2 =>
    rename_i x x'
    show SR P VR ρ (match x[n]? with | some v => Pure.pure v | none => Go.stuck "Extract: no such component") (match x'[n]? with | some v => Pure.pure v | none => Go.stuck "Extract: no such component")
    cases hc : x[n]? with
    | none => exact .stuck _
    | some u =>
      obtain ⟨u', hu', hr⟩ := AsR.get (ρ := ρ) ⟨h1, h2⟩ hc
      rw [hu']
      exact .ret hr
  | _ => exact .stuck _

theorem VS.field (t : TypeId) {v v' : Value} (h : VR ρ v v') (n : Nat) : SR P VR ρ (Instr.field t v n) (Instr.field t v' n) := by
  unfold Instr.field
  refine SR.bind (ES.underlying t) fun σ d _ hle hd => ?_
  obtain ⟨rfl, -⟩ := hd
  cases d <;> first | exact .stuck _ | skip
  rename_i fs
  simp only
  cases hf : fs[n]? with
  | none => exact .stuck _
  | some f => exact SR.bind (SR.asAgg (h.mono hle)) fun τ c c' _ hc => SR.part f.type hc _

theorem VS.index (t : TypeId) {v v' u u' : Value} (h : VR ρ v v') (hu : VR ρ u u') : SR P VR ρ (Instr.index t v u) (Instr.index t v' u') := by
  unfold Instr.index
  refine SR.bind (ES.asIntOf hu) fun σ ki _ hle e => ?_
  subst e
  obtain ⟨k, i⟩ := ki
  simp only
  refine SR.bind (ES.underlying t) fun τ d _ hle2 hd => ?_
  obtain ⟨rfl, -⟩ := hd
  have h := (h.mono hle).mono hle2
  cases d with
  | array n e =>
    cases h with
    | agg h1 h2 =>
      rename_i x x'
      simp only
      split
      · refine SR.bind (ES.sizeOf e) fun υ m _ hle3 hm => ?_
        obtain ⟨rfl, -⟩ := hm
        exact SR.part e (AsR.mono hle3 ⟨h1, h2⟩) _
      · exact SR.boundsPanic _ _ _ _
    | _ => exact .stuck _
  | string =>
    cases h with
    | string s =>
      simp only
      split
      · exact .ret (.int _ _)
      · exact SR.boundsPanic _ _ _ _
    | _ => exact .stuck _
  | _ => exact .stuck _

end
end Go.Ev
