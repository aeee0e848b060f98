import Derived.Test.YtmkapmbmgpnjaaaEvE
namespace Go.Ev
open Go.RowKit

def Good (v : Value) : Prop := isJunk v = false ∧ ∀ ρ, VR ρ v v

def Goods (x : Array Value) : Prop := ∀ (i : Nat) (v : Value), x[i]? = some v → ∀ ρ, VR ρ v v

theorem Goods.agg {x : Array Value} (h : Goods x) : Good (.agg x) :=
  ⟨rfl, fun ρ => .agg rfl fun i v v' a b => by rw [a] at b; cases b; exact h i v a ρ⟩

theorem Goods.append {x y : Array Value} (h : Goods x) (k : Goods y) : Goods (x ++ y) := by
  intro i v hv
  rw [Array.getElem?_append] at hv
  split at hv
  · exact h _ _ hv
  · exact k _ _ hv

theorem Good.cells {v : Value} (h : Good v) : Goods v.cells := by
  intro i u hu ρ
  cases v with
  | agg x =>
    have h2 := h.2 ρ
    cases h2 with
    | agg a b => exact b i u u hu hu
  | _ =>
    simp only [Value.cells] at hu
    have : i = 0 := by
      have := (Array.getElem?_eq_some_iff.1 hu).1
      simp at this
      exact this
    subst this
    simp at hu
    subst hu
    exact h.2 ρ

theorem Goods.flatten {l : Array (Array Value)} (h : ∀ x, x ∈ l → Goods x) : Goods l.flatten := by
  intro i v hv ρ
  have := Array.mem_of_getElem? hv
  rw [Array.mem_flatten] at this
  obtain ⟨x, hx, hm⟩ := this
  obtain ⟨j, hj⟩ := Array.getElem?_of_mem hm
  exact h x hx j v hj ρ

theorem Good.bool (b : Bool) : Good (.bool b) := ⟨rfl, fun _ => .bool b⟩

theorem forIn_inv {α β : Type} (I : β → Prop) : ∀ (l : List α) (f : α → β → Option (ForInStep β)) (b b' : β), (∀ a b r, I b → f a b = some r → I r.value) → I b → forIn l b f = some b' → I b' := by
  intro l
  induction l with
  | nil => intro f b b' _ hb h; simp [forIn, ForIn.forIn] at h; exact h ▸ hb
  | cons a l ih =>
    intro f b b' hs hb h
    rw [List.forIn_cons] at h
    cases hf : f a b with
    | none => rw [hf] at h; cases h
    | some r =>
      rw [hf] at h
      have hr := hs a b r hb hf
      cases r with
      | done c => simp at h; exact h ▸ hr
      | yield c => simp at h; exact ih f c b' hs hr h

theorem reckonStruct_good {info : TypeId → Option TypeInfo} (h : ∀ t i v, info t = some i → i.zero = some v → Good v) {fs : Array Field} {i : TypeInfo} {v : Value} (hr : Made.reckonStruct info fs = some i) (hz : i.zero = some v) : Good v := by
  unfold Made.reckonStruct at hr
  simp only [Option.bind_eq_bind, Option.bind_eq_some_iff, ← Array.forIn_toList] at hr
  obtain ⟨r, hl, hr⟩ := hr
  have key := forIn_inv (fun (b : Array Field × Nat × Nat × Nat × Nat × Bool × Bool × Option (Array Value) × String) => ∀ z, b.2.2.2.2.2.2.2.1 = some z → Goods z) _ _ _ _ ?_ ?_ hl
  · have : ∃ n, i.zero = Option.map Value.agg r.2.2.2.2.2.2.2.1 ∧ n = 0 := by
      split at hr <;> (cases hr; exact ⟨0, rfl, rfl⟩)
    obtain ⟨_, q, _⟩ := this
    rw [hz] at q
    cases hq : r.2.2.2.2.2.2.2.1 with
    | none => rw [hq] at q; cases q
    | some z =>
      rw [hq] at q
      cases q
      exact (key z hq).agg
  · intro f b r2 hb hf z hz2
    simp only [Option.bind_eq_some_iff] at hf
    obtain ⟨k, hk, hf⟩ := hf
    split at hf
    · cases hf
    split at hf
    · cases hf
    have hyield : ∃ (q1 : _) (q2 : _) (q3 : _) (q4 : _) (q5 : _) (q6 : _) (q7 : _) (q8 : _), r2 = ForInStep.yield (q1, q2, q3, q4, q5, q6, q7, (if b.2.1 + k.size > Made.mostCells then none else do pure ((← b.2.2.2.2.2.2.2.1) ++ (← k.zero).cells)), q8) := by
      split at hf
      · simp only [Option.bind_eq_some_iff] at hf
        obtain ⟨tag, _, hf⟩ := hf
        split at hf <;> (cases hf; exact ⟨_, _, _, _, _, _, _, _, rfl⟩)
      · simp only [Option.bind_eq_some_iff] at hf
        obtain ⟨tag, _, hf⟩ := hf
        split at hf <;> (cases hf; exact ⟨_, _, _, _, _, _, _, _, rfl⟩)
    obtain ⟨q1, q2, q3, q4, q5, q6, q7, q8, rfl⟩ := hyield
    split at hz2
    · cases hz2
    · simp only [ForInStep.value, Option.bind_eq_bind, Option.bind_eq_some_iff] at hz2
      obtain ⟨z1, h1, z2, h2, h3⟩ := hz2
      cases h3
      exact (hb z1 h1).append (h _ _ _ hk h2).cells
  · intro z hz2
    cases hz2
    intro i v hv
    simp at hv

theorem reckon_good {info : TypeId → Option TypeInfo} (h : ∀ t i v, info t = some i → i.zero = some v → Good v) {d : TypeDesc} {i : TypeInfo} {v : Value} (hr : Made.reckon info d = some i) (hz : i.zero = some v) : Good v := by
  have word : ∀ (d : TypeDesc) (s : String) (z : Value) (c : Bool) (n : Nat), Good z → Made.word d s z c n = i → Good v := by
    intro d s z c n hg e
    subst e
    simp only [Made.word] at hz
    cases hz
    exact hg
  unfold Made.reckon at hr
  split at hr <;> (try simp only [Option.bind_eq_bind, Option.bind_eq_some_iff] at hr)
  · obtain ⟨k, _, hr⟩ := hr
    split at hr
    · cases hr
    · split at hr
      · cases hr
      · simp only [Option.bind_eq_some_iff] at hr
        obtain ⟨_, _, hr⟩ := hr
        cases hr
        exact word _ _ _ _ _ ⟨rfl, fun _ => .pnone⟩ rfl
    · simp only [Option.bind_eq_some_iff] at hr
      obtain ⟨_, _, hr⟩ := hr
      cases hr
      exact word _ _ _ _ _ ⟨rfl, fun _ => .pnone⟩ rfl
  · obtain ⟨_, _, _, _, hr⟩ := hr
    cases hr
    exact word _ _ _ _ _ ⟨rfl, fun _ => .snone _ _⟩ rfl
  · obtain ⟨_, _, _, _, _, _, _, _, hr⟩ := hr
    cases hr
    exact word _ _ _ _ _ ⟨rfl, fun _ => .mnone⟩ rfl
  · obtain ⟨_, _, _, _, hr⟩ := hr
    cases hr
    exact word _ _ _ _ _ ⟨rfl, fun _ => .cnone⟩ rfl
  · obtain ⟨_, _, hr⟩ := hr
    cases hr
    exact word _ _ _ _ _ ⟨rfl, fun _ => .nilFunc⟩ rfl
  · obtain ⟨k, hk, _, _, hr⟩ := hr
    cases hr
    simp only at hz
    split at hz
    · cases hz
    · split at hz
      · cases hz
        exact Goods.agg (by intro i v hv; simp at hv)
      · cases hq : k.zero with
        | none => rw [hq] at hz; cases hz
        | some z =>
          rw [hq] at hz
          cases hz
          refine Goods.agg (Goods.flatten fun x hx => ?_)
          have : x = z.cells := by
            rw [Array.mem_replicate] at hx
            exact hx.2
          rw [this]
          exact (h _ _ _ hk hq).cells
  · exact reckonStruct_good h hr hz
  · cases hr

theorem infoAt_good {T : Tables} (hT : ∀ t i v, t < T.types.size → T.types[t]? = some i → i.zero = some v → Good v) : ∀ (n : Nat) (t : TypeId) (i : TypeInfo) (v : Value), Made.infoAt T n t = some i → i.zero = some v → Good v := by
  intro n
  induction n with
  | zero => intro t i v h; cases h
  | succ n ih =>
    intro t i v h hz
    unfold Made.infoAt at h
    split at h
    · rename_i hlt
      exact hT t i v hlt h hz
    · simp only [Option.bind_eq_some_iff] at h
      obtain ⟨d, _, h⟩ := h
      exact reckon_good ih h hz

theorem info_good {T : Tables} (hT : ∀ t i v, t < T.types.size → T.types[t]? = some i → i.zero = some v → Good v) (t : TypeId) (i : TypeInfo) (v : Value) (h : T.info? t = some i) (hz : i.zero = some v) : Good v := by
  unfold Tables.info? at h
  split at h
  · rename_i hlt
    exact hT t i v hlt h hz
  · exact infoAt_good hT _ t i v h hz

def zeroOK (i : TypeInfo) : Bool := match i.zero with
  | some v => !isJunk v && plainV 20 v
  | none => true

def okayB (P : Program) : Bool := P.types.toList.all zeroOK

theorem Okay.of_check {P : Program} (h : okayB P = true) : Okay P := by
  refine ⟨fun t i v hi hz => info_good (T := P.toTables) ?_ t i v hi hz⟩
  intro t i v hlt hi2 hz
  unfold okayB at h
  rw [List.all_eq_true] at h
  have := h i (Array.mem_toList_iff.2 (Array.mem_of_getElem? hi2))
  unfold zeroOK at this
  rw [hz] at this
  simp only [Bool.and_eq_true, Bool.not_eq_true'] at this
  exact ⟨this.1, fun ρ => plainV.sound ρ 20 v this.2⟩

def hasBody (P : Program) (g : Nat) : Bool := match P.funcs[g]? with
  | some f => f.body.isSome
  | none => false

def namesOK (P : Program) : Bool := P.funcs.toList.all fun f => f.body.isNone || f.name != "runtime.NumGoroutine"

theorem call_of_check {P : Program} (h : namesOK P = true) : ∀ g, hasBody P g = true → ∃ fn c, P.funcs[g]? = some fn ∧ fn.name ≠ "runtime.NumGoroutine" ∧ fn.body = some c := by
  intro g hg
  unfold hasBody at hg
  cases hf : P.funcs[g]? with
  | none => rw [hf] at hg; cases hg
  | some f =>
    rw [hf] at hg
    simp only at hg
    obtain ⟨c, hc⟩ := Option.isSome_iff_exists.1 hg
    unfold namesOK at h
    rw [List.all_eq_true] at h
    have := h f (Array.mem_toList_iff.2 (Array.mem_of_getElem? hf))
    rw [hc] at this
    simp only [Option.isNone_some, Bool.false_or, bne_iff_ne] at this
    exact ⟨f, c, rfl, this, hc⟩

end Go.Ev
