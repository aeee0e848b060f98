import Derived.Test.YtblklpjkmegaaaaGreatDoorEvD
namespace Go.Ev
open Go.RowKit

section
variable {P : Program} {ρ : Ren}

abbrev ES (P : Program) {α : Type} (ρ : Ren) (s s' : Sem α) : Prop := SR P (fun _ a b => a = b) ρ s s'

theorem SR.stuck {α β : Type} {RA : Ren → α → β → Prop} (why : String) {s' : Sem β} : SR P RA ρ (Go.stuck why) s' := .halt
theorem SR.unsupported {α β : Type} {RA : Ren → α → β → Prop} (u : Unsupported) {s' : Sem β} : SR P RA ρ (Go.unsupported u) s' := .halt
theorem SR.ret {α β : Type} {RA : Ren → α → β → Prop} {a : α} {b : β} (h : RA ρ a b) : SR P RA ρ (Pure.pure a) (Pure.pure b) := .pure h
theorem SR.goPanic {α β : Type} {RA : Ren → α → β → Prop} {v : Value} {s' : Sem β} : SR P RA ρ (Go.goPanic v) s' := .halt

theorem ES.typeInfo (t : TypeId) : SR P (fun _ a b => a = b ∧ P.info? t = some a) ρ (Go.typeInfo t) (Go.typeInfo t) := by
  refine SR.program ?_
  show SR P _ ρ (match P.info? t with | some i => Pure.pure i | none => Go.stuck "no such type") (match P.info? t with | some i => Pure.pure i | none => Go.stuck "no such type")
  cases h : P.info? t with
  | none => exact .stuck _
  | some i => exact .ret ⟨rfl, rfl⟩

theorem ES.underlying (t : TypeId) : SR P (fun _ a b => a = b ∧ P.underlying t = some a) ρ (Go.underlying t) (Go.underlying t) := by
  refine SR.program ?_
  show SR P _ ρ (match P.underlying t with | some i => Pure.pure i | none => Go.stuck "no such type") (match P.underlying t with | some i => Pure.pure i | none => Go.stuck "no such type")
  cases h : P.underlying t with
  | none => exact .stuck _
  | some i => exact .ret ⟨rfl, rfl⟩

theorem ES.sizeOf (t : TypeId) : SR P (fun _ a b => a = b ∧ ∃ i, P.info? t = some i ∧ i.size = a) ρ (Go.sizeOf t) (Go.sizeOf t) :=
  SR.bind (ES.typeInfo t) fun _ a _ _ h => .ret ⟨by rw [h.1], a, h.2, rfl⟩

theorem ES.program : SR P (fun _ a b => a = P ∧ b = P) ρ Go.program Go.program := .program (.pure ⟨rfl, rfl⟩)

theorem ES.isAgg (t : TypeId) : ES P ρ (Go.isAgg t) (Go.isAgg t) :=
  SR.bind (ES.underlying t) fun _ a _ _ h => by
    obtain ⟨rfl, _⟩ := h
    cases a <;> exact .ret rfl

def plainV : Nat → Value → Bool
  | 0, _ => false
  | n + 1, v => match v with
    | .bool _ | .int .. | .float .. | .complex .. | .string _ | .pointer none | .slice none _ _ | .map none | .chan none | .nilFunc | .nilIface => true
    | .iface _ w => plainV n w
    | .agg cs => cs.toList.all (plainV n)
    | .tuple cs => cs.toList.all (plainV n)
    | .func (.func _) x y => x.toList.all (plainV n) && y.toList.all (plainV n)
    | .func (.method _) x y => x.toList.all (plainV n) && y.toList.all (plainV n)
    | .func (.methodOf _ _) x y => x.toList.all (plainV n) && y.toList.all (plainV n)
    | .func (.via _ _ _ _) x y => x.toList.all (plainV n) && y.toList.all (plainV n)
    | _ => false

theorem plainV.sound (ρ : Ren) : ∀ (n : Nat) (v : Value), plainV n v = true → VR ρ v v := by
  intro n
  induction n with
  | zero => intro v h; cases h
  | succ n ih =>
    have arr : ∀ (x : Array Value), x.toList.all (plainV n) = true → ∀ (i : Nat) (v v' : Value), x[i]? = some v → x[i]? = some v' → VR ρ v v' := by
      intro x hx i v v' h1 h2
      rw [h1] at h2
      cases h2
      refine ih v ?_
      rw [List.all_eq_true] at hx
      exact hx v (Array.mem_toList_iff.2 (Array.mem_of_getElem? h1))
    intro v h
    unfold plainV at h
    split at h
    · exact .bool _
    · exact .int _ _
    · exact .float _ _
    · exact .complex _ _ _
    · exact .string _
    · exact .pnone
    · exact .snone _ _
    · exact .mnone
    · exact .cnone
    · exact .nilFunc
    · exact .nilIface
    · exact .iface _ (ih _ h)
    · exact .agg rfl (arr _ h)
    · exact .tuple rfl (arr _ h)
    · simp only [Bool.and_eq_true] at h; exact .func rfl rfl (arr _ h.1) rfl (arr _ h.2)
    · simp only [Bool.and_eq_true] at h; exact .func rfl rfl (arr _ h.1) rfl (arr _ h.2)
    · simp only [Bool.and_eq_true] at h; exact .func rfl rfl (arr _ h.1) rfl (arr _ h.2)
    · simp only [Bool.and_eq_true] at h; exact .func rfl rfl (arr _ h.1) rfl (arr _ h.2)
    · cases h

/-- What is asked of the program once. -/
structure Okay (P : Program) : Prop where
  zero : ∀ t i v, P.info? t = some i → i.zero = some v → isJunk v = false ∧ ∀ ρ, VR ρ v v

theorem VS.zeroValue (ok : Okay P) (t : TypeId) : SR P (fun σ a b => a = b ∧ isJunk a = false ∧ VR σ a b) ρ (Go.zeroValue t) (Go.zeroValue t) :=
  SR.bind (ES.typeInfo t) fun σ a _ _ h => by
    obtain ⟨rfl, h⟩ := h
    cases hz : a.zero with
    | none => exact .unsupported _
    | some v => exact .ret ⟨rfl, (ok.zero t a v h hz).1, (ok.zero t a v h hz).2 σ⟩

theorem SR.loadOne {a a' : Addr} (h : AR ρ a a') : SR P VR ρ (Go.load a) (Go.load a') := .load h fun _ _ hv => .pure hv
theorem SR.storeOne {a a' : Addr} (h : AR ρ a a') {v v' : Value} (hv : VR ρ v v') : SR P (fun _ _ _ => True) ρ (Go.store a v) (Go.store a' v') := .store h hv (.pure trivial)

theorem SR.loadCellsFrom {a a' : Addr} : ∀ (n i : Nat) {σ : Ren} (acc acc' : Array Value), AR σ a a' → AsR σ acc acc' → SR P AsR σ (Go.loadCellsFrom a i n acc) (Go.loadCellsFrom a' i n acc') := by
  intro n
  induction n with
  | zero => intro i σ acc acc' _ h; exact .ret h
  | succ n ih =>
    intro i σ acc acc' ha h
    exact SR.bind (SR.loadOne (ha.add i)) fun τ v v' hle hv => ih (i + 1) _ _ (ha.mono hle) ((h.mono hle).push hv)

theorem SR.loadCells {a a' : Addr} (n : Nat) (h : AR ρ a a') : SR P AsR ρ (Go.loadCells a n) (Go.loadCells a' n) := SR.loadCellsFrom n 0 _ _ h (AsR.nil ρ)

/-- Lists of values side by side. -/
def LsR (ρ : Ren) : List Value → List Value → Prop
  | [], [] => True
  | v :: vs, u :: us => VR ρ v u ∧ LsR ρ vs us
  | _, _ => False

theorem LsR.mono {ρ σ : Ren} (h : ρ.le σ) : ∀ {x y : List Value}, LsR ρ x y → LsR σ x y
  | [], [], _ => trivial
  | _ :: _, _ :: _, k => ⟨k.1.mono h, LsR.mono h k.2⟩

theorem LsR.of_get {ρ : Ren} : ∀ {x y : List Value}, x.length = y.length → (∀ (i : Nat) (v v' : Value), x[i]? = some v → y[i]? = some v' → VR ρ v v') → LsR ρ x y
  | [], [], _, _ => trivial
  | [], _ :: _, h, _ => by simp at h
  | _ :: _, [], h, _ => by simp at h
  | v :: vs, u :: us, h, k => ⟨k 0 v u rfl rfl, LsR.of_get (by simpa using h) fun i a b ha hb => k (i + 1) a b (by simpa using ha) (by simpa using hb)⟩

theorem LsR.get {ρ : Ren} : ∀ {x y : List Value}, LsR ρ x y → x.length = y.length ∧ ∀ (i : Nat) (v v' : Value), x[i]? = some v → y[i]? = some v' → VR ρ v v'
  | [], [], _ => ⟨rfl, by simp⟩
  | v :: vs, u :: us, k => by
    obtain ⟨h1, h2⟩ := LsR.get k.2
    refine ⟨by simp [h1], fun i a b ha hb => ?_⟩
    cases i with
    | zero => simp at ha hb; subst ha hb; exact k.1
    | succ i => exact h2 i a b (by simpa using ha) (by simpa using hb)

theorem AsR.toList {x x' : Array Value} (h : AsR ρ x x') : LsR ρ x.toList x'.toList :=
  LsR.of_get (by simpa using h.1) fun i v v' a b => h.2 i v v' (by simpa using a) (by simpa using b)

theorem AsR.of_list {x x' : List Value} (h : LsR ρ x x') : AsR ρ x.toArray x'.toArray := by
  obtain ⟨h1, h2⟩ := LsR.get h
  exact ⟨by simpa using h1, fun i v v' a b => h2 i v v' (by simpa using a) (by simpa using b)⟩

theorem SR.storeCells {a a' : Addr} : ∀ (x x' : List Value) (i : Nat) {σ : Ren}, AR σ a a' → LsR σ x x' → SR P (fun _ _ _ => True) σ (Go.storeCells a x i) (Go.storeCells a' x' i) := by
  intro x
  induction x with
  | nil =>
    intro x' i σ _ h
    cases x' with
    | nil => exact .ret trivial
    | cons _ _ => exact h.elim
  | cons v vs ih =>
    intro x' i σ ha h
    cases x' with
    | nil => exact h.elim
    | cons u us => exact SR.bind (SR.storeOne (ha.add i) h.1) fun τ _ _ hle _ => ih us (i + 1) (ha.mono hle) (h.2.mono hle)

theorem VR.cells {v v' : Value} (h : VR ρ v v') (hj : isJunk v = false) : AsR ρ v.cells v'.cells := by
  have one : ∀ {u u' : Value}, VR ρ u u' → AsR ρ #[u] #[u'] := by
    intro u u' hu
    exact (AsR.nil ρ).push hu
  cases h with
  | junk v' => cases hj
  | agg h1 h2 => exact ⟨h1, h2⟩
  | tuple h1 h2 => exact one (.tuple h1 h2)
  | bool b => exact one (.bool b)
  | int k n => exact one (.int k n)
  | float k n => exact one (.float k n)
  | complex k m n => exact one (.complex k m n)
  | string s => exact one (.string s)
  | pnone => exact one .pnone
  | psome a => exact one (.psome a)
  | snone n c => exact one (.snone n c)
  | ssome a => exact one (.ssome a)
  | mnone => exact one .mnone
  | msome a => exact one (.msome a)
  | cnone => exact one .cnone
  | nilFunc => exact one .nilFunc
  | nilIface => exact one .nilIface
  | func a b c d e => exact one (.func a b c d e)
  | iface t a => exact one (.iface t a)

theorem SR.loadVar (t : TypeId) {a a' : Addr} (h : AR ρ a a') : SR P VR ρ (Go.loadVar t a) (Go.loadVar t a') :=
  SR.bind (ES.isAgg t) fun σ x _ hle hx => by
    subst hx
    cases x with
    | false => exact SR.loadOne (h.mono hle)
    | true =>
      refine SR.bind (ES.sizeOf t) fun τ n _ hle2 hn => ?_
      obtain ⟨rfl, _⟩ := hn
      exact SR.bind (SR.loadCells n ((h.mono hle).mono hle2)) fun υ c c' _ hc => .ret hc.to_agg

/-- What is stored may not stand for whatever there is. -/
theorem SR.storeVar (t : TypeId) {a a' : Addr} (h : AR ρ a a') {v v' : Value} (hv : VR ρ v v') (hj : isJunk v = false) : SR P (fun _ _ _ => True) ρ (Go.storeVar t a v) (Go.storeVar t a' v') := by
  have hc := hv.cells hj
  refine SR.bind (ES.sizeOf t) fun σ n _ hle hn => ?_
  obtain ⟨rfl, _⟩ := hn
  rw [hc.1]
  split
  · exact SR.bind (SR.stuck _ (RA := fun _ _ _ => True)) fun τ _ _ hle2 _ => SR.storeCells _ _ 0 ((h.mono hle).mono hle2) (((hc.mono hle).mono hle2).toList)
  · exact SR.storeCells _ _ 0 (h.mono hle) ((hc.mono hle).toList)

theorem SR.newRow (e : TypeId) {c c' : Array Value} (h : AsR ρ c c') : SR P AR ρ (Go.newRow e c) (Go.newRow e c') :=
  SR.bind (RA := fun σ r r' => BR σ r r' ∧ (σ.f r).shift = 0) (.new (.cells e h) fun _ _ _ _ hb hs => .pure ⟨hb, hs.2⟩) fun _ _ _ _ hb => .ret ⟨hb.1.1, hb.1.2, by simp [hb.2], rfl⟩

theorem SR.newVar (t : TypeId) {v v' : Value} (h : VR ρ v v') (hj : isJunk v = false) : SR P AR ρ (Go.newVar t v) (Go.newVar t v') := SR.newRow t (h.cells hj)

theorem SR.newObj {o o' : Obj} (h : OR ρ o o') : SR P BR ρ (Go.newObj o) (Go.newObj o') := .new (.obj h) fun _ _ _ _ hb _ => .pure hb

theorem SR.getObjOne {r r' : Nat} (h : BR ρ r r') : SR P OR ρ (Go.getObj r) (Go.getObj r') := .getObj h fun _ _ ho => .pure ho
theorem SR.setObjOne {r r' : Nat} (h : BR ρ r r') {o o' : Obj} (ho : OR ρ o o') : SR P (fun _ _ _ => True) ρ (Go.setObj r o) (Go.setObj r' o') := .setObj h ho (.pure trivial)

theorem ES.asIntOf {v v' : Value} (h : VR ρ v v') : ES P ρ (Go.asIntOf v) (Go.asIntOf v') := by
  cases h <;> first | exact .ret rfl | exact .stuck _ | exact .unsupported _

theorem ES.asInt {v v' : Value} (h : VR ρ v v') : ES P ρ (Go.asInt v) (Go.asInt v') := SR.bind (ES.asIntOf h) fun _ _ _ _ e => .ret (by rw [e])

theorem ES.asBool {v v' : Value} (h : VR ρ v v') : ES P ρ (Go.asBool v) (Go.asBool v') := by
  cases h <;> first | exact .ret rfl | exact .stuck _

theorem ES.asString {v v' : Value} (h : VR ρ v v') : ES P ρ (Go.asString v) (Go.asString v') := by
  cases h <;> first | exact .ret rfl | exact .stuck _

theorem SR.asAgg {v v' : Value} (h : VR ρ v v') : SR P AsR ρ (Go.asAgg v) (Go.asAgg v') := by
  cases h <;> first | (rename_i a b; exact .ret ⟨a, b⟩) | exact .stuck _

theorem SR.part (t : TypeId) {c c' : Array Value} (h : AsR ρ c c') (n : Nat) : SR P VR ρ (Go.part t c n) (Go.part t c' n) :=
  SR.bind (ES.isAgg t) fun σ x _ hle hx => by
    subst hx
    have h := h.mono hle
    cases x with
    | true =>
      refine SR.bind (ES.sizeOf t) fun τ k _ hle2 hn => ?_
      obtain ⟨rfl, _⟩ := hn
      exact .ret ((h.mono hle2).extract _ _).to_agg
    | false =>
      show SR P VR σ (match c[n]? with | some v => Pure.pure v | none => Go.stuck "part: no such cell") (match c'[n]? with | some v => Pure.pure v | none => Go.stuck "part: no such cell")
      cases hc : c[n]? with
      | none => exact .stuck _
      | some v =>
        obtain ⟨v', hv', hr⟩ := h.get hc
        rw [hv']
        exact .ret hr

theorem AR.of_psome {a a' : Addr} (h : VR ρ (.pointer (some a)) (.pointer (some a'))) : AR ρ a a' := by cases h; assumption

theorem SR.sureAddr {v v' : Value} (h : VR ρ v v') : SR P AR ρ (Instr.sureAddr v) (Instr.sureAddr v') := by
  cases h <;> first | (rename_i a; exact .ret a) | exact .stuck _

end
end Go.Ev
