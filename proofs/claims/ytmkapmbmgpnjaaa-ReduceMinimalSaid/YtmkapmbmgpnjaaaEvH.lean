import Derived.Test.YtmkapmbmgpnjaaaEvG
namespace Go.Ev
open Go.RowKit

section
variable {P : Program} {ρ : Ren}

theorem dead_goPanic {α : Type} (v : Value) (H : AHeap) : absRun P (Go.goPanic v : Sem α) H = none := rfl

theorem absRun_bind' {α β : Type} (s : Sem α) (f : α → Sem β) (H : AHeap) : absRun P (s >>= f) H = match absRun P s H with | some (a, H') => absRun P (f a) H' | none => none := absRun_bind s f H

theorem dead_bind {α β : Type} {s : Sem α} {f : α → Sem β} (h : ∀ a H, absRun P (f a) H = none) (H : AHeap) : absRun P (s >>= f) H = none := by
  rw [absRun_bind']
  split
  · exact h _ _
  · rfl

theorem dead_runtimePanic' {α : Type} (e : RuntimeError) (H : AHeap) : absRun P (Go.runtimePanic e : Sem α) H = none := by
  unfold Go.runtimePanic
  refine dead_bind (fun p H => ?_) H
  cases e <;> first | rfl | exact dead_bind (fun _ H => dead_bind (fun _ H => rfl) H) H

inductive NR (ρ : Ren) : Next → Next → Prop
  | value {v v' : Value} : VR ρ v v' → NR ρ (.value v) (.value v')
  | skip : NR ρ .skip .skip
  | enter (f : FuncId) {x x' : Array Value} : AsR ρ x x' → NR ρ (.enter f x) (.enter f x')
  | round {l l' : Nat} (f : FuncId) {x x' : Array Value} (a b : Code) : BR ρ l l' → AsR ρ x x' → NR ρ (.round l f x a b) (.round l' f x' a b)
  | defer {d d' : Deferred} : DR ρ d d' → NR ρ (.defer d) (.defer d')
  | recover : NR ρ .recover .recover

theorem NR.ofValue {s s' : Sem Value} (h : SR P VR ρ s s') : SR P NR ρ (s >>= fun a => Pure.pure (Next.value a)) (s' >>= fun a => Pure.pure (Next.value a)) :=
  SR.bind h fun _ _ _ _ hv => .ret (.value hv)

theorem NR.ofUnit {s s' : Sem Unit} (h : SR P (fun _ _ _ => True) ρ s s') : SR P NR ρ (s >>= fun _ => Pure.pure Next.skip) (s' >>= fun _ => Pure.pure Next.skip) :=
  SR.bind h fun _ _ _ _ _ => .ret .skip

def nilEq : Value → Value → Bool
  | .pointer none, .pointer (some _) | .pointer (some _), .pointer none
  | .slice none _ _, .slice (some _) _ _ | .slice (some _) _ _, .slice none _ _
  | .map none, .map (some _) | .map (some _), .map none
  | .nilFunc, .func .. | .func .., .nilFunc
  | .nilIface, .iface .. | .iface .., .nilIface => true
  | _, _ => false

theorem equalIn_succ (d : Nat) (t : TypeId) (x y : Value) : Op.equalIn (d + 1) t x y = Op.equalIn (d + 1) t x y := rfl

theorem ES.equalNil (t : TypeId) {v v' u u' : Value} (hv : VR ρ v v') (hu : VR ρ u u') (hn : nilEq v u = true) : ES P ρ (Op.equal t v u) (Op.equal t v' u') := by
  unfold Op.equal
  have e : Op.maxDepth = 9999 + 1 := rfl
  rw [e]
  cases hv <;> cases hu <;> first
    | (cases hn; done)
    | (unfold Op.equalIn
       refine SR.bind (ES.underlying t) fun σ d _ hle hd => ?_
       obtain ⟨rfl, -⟩ := hd
       cases d <;> first | exact .ret rfl | exact .stuck _ | exact .unsupported _)

theorem eqGuard_nil (op : BinOp) (t : TypeId) (x y : Operand) {v u : Value} (hn : nilEq v u = true) : eqGuard op t x y v u = Pure.pure () := by
  cases op <;> first
    | rfl
    | (cases v <;> cases u <;> first
        | rfl
        | (cases hn; done))

theorem nilEq_rel {v v' u u' : Value} (hv : VR ρ v v') (hu : VR ρ u u') (hn : nilEq v u = true) : nilEq v' u' = true := by
  cases hv <;> cases hu <;> first
    | (cases hn; done)
    | rfl

theorem VS.binOpNil (op : BinOp) (t : TypeId) (x y : Operand) {v v' u u' : Value} (hv : VR ρ v v') (hu : VR ρ u u') (hn : nilEq v u = true) (hop : op = .eql ∨ op = .neq) :
    SR P VR ρ (do eqGuard op t x y v u; binOp op t v u) (do eqGuard op t x y v' u'; binOp op t v' u') := by
  rw [eqGuard_nil op t x y hn, eqGuard_nil op t x y (nilEq_rel hv hu hn)]
  show SR P VR ρ (binOp op t v u) (binOp op t v' u')
  have h := ES.equalNil (P := P) t hv hu hn
  have h1 : ∀ {a b : Value}, nilEq a b = true → binOp .eql t a b = (do Pure.pure (.bool (← Op.equal t a b))) := by
    intro a b q
    cases a <;> cases b <;> first
      | rfl
      | (cases q; done)
  have h2 : ∀ {a b : Value}, nilEq a b = true → binOp .neq t a b = (do Pure.pure (.bool (!(← Op.equal t a b)))) := by
    intro a b q
    cases a <;> cases b <;> first
      | rfl
      | (cases q; done)
  rcases hop with rfl | rfl
  · rw [h1 hn, h1 (nilEq_rel hv hu hn)]
    exact SR.bind h fun σ a b _ e => by subst e; exact .ret (.bool _)
  · rw [h2 hn, h2 (nilEq_rel hv hu hn)]
    exact SR.bind h fun σ a b _ e => by subst e; exact .ret (.bool _)

theorem VS.typeAssert (ok : Okay P) {v v' : Value} (h : VR ρ v v') (t u : TypeId) (c : Bool) : SR P VR ρ (Instr.typeAssert v t u c) (Instr.typeAssert v' t u c) := by
  have holds : ∀ {σ : Ren} {a a' : Value}, VR σ a a' → SR P VR σ (Pure.pure (if c then .tuple #[a, .bool true] else a)) (Pure.pure (if c then .tuple #[a', .bool true] else a')) := by
    intro σ a a' ha
    cases c
    · exact .ret ha
    · exact .ret (((AsR.nil σ).push ha).push (.bool true)).to_tuple
  have fails : ∀ {σ : Ren} (s d : Option TypeId) (m : String), SR P VR σ (if c then do Pure.pure (.tuple #[← Go.zeroValue u, .bool false]) else Go.runtimePanic (.typeAssertion s d u m)) (if c then do Pure.pure (.tuple #[← Go.zeroValue u, .bool false]) else Go.runtimePanic (.typeAssertion s d u m)) := by
    intro σ s d m
    cases c
    · simp only [Bool.false_eq_true, if_false]
      exact .dead fun H => dead_runtimePanic' _ H
    · refine SR.bind (VS.zeroValue ok u) fun τ z _ _ hz => ?_
      obtain ⟨rfl, _, hz⟩ := hz
      exact .ret (((AsR.nil τ).push hz).push (.bool false)).to_tuple
  unfold Instr.typeAssert
  refine SR.bind (ES.underlying u) fun σ d _ hle hd => ?_
  obtain ⟨rfl, -⟩ := hd
  have h := h.mono hle
  cases d with
  | interface ms =>
    cases h with
    | nilIface => exact fails none none ""
    | iface tt ht =>
      refine SR.bind (ES.typeInfo tt) fun τ i _ hle2 hi => ?_
      obtain ⟨rfl, -⟩ := hi
      simp only
      cases Instr.missingMethod ms i.methods with
      | none => exact holds (.iface tt (ht.mono hle2))
      | some m => exact fails none (some tt) m
    | _ => exact .stuck _
  | _ =>
    cases h with
    | nilIface => exact fails (some t) none ""
    | iface tt ht =>
      simp only
      split
      · exact holds ht
      · exact fails (some t) (some tt) ""
    | _ => exact .stuck _

theorem AsR.get' {x x' : Array Value} (h : AsR ρ x x') (i : Nat) : OptR ρ x[i]? x'[i]? := by
  cases hi : x[i]? with
  | none => exact .inl ⟨rfl, h.get_none hi⟩
  | some v => obtain ⟨v', hv', hr⟩ := h.get hi; exact .inr ⟨v, v', rfl, hv', hr⟩

theorem VS.len (ts : Array TypeId) (t : TypeId) {x x' : Array Value} (h : AsR ρ x x') : SR P VR ρ (Builtin.len_ ts t x) (Builtin.len_ ts t x') := by
  unfold Builtin.len_
  cases ts[0]? with
  | none => exact .stuck _
  | some a =>
    rcases h.get' 0 with ⟨h1, h2⟩ | ⟨v, v', h1, h2, hv⟩
    · simp only [h1, h2]; exact .stuck _
    · simp only [h1, h2]
      refine SR.bind (ES.underlying a) fun σ d _ hle hd => ?_
      obtain ⟨rfl, -⟩ := hd
      have hv := hv.mono hle
      cases d with
      | array n e => exact .ret (.int _ _)
      | pointer e =>
        have go : SR P VR σ (do
            let .array n _ ← Go.underlying e | Go.stuck "len: pointer to array expected"
            Pure.pure (goInt n)) (do
            let .array n _ ← Go.underlying e | Go.stuck "len: pointer to array expected"
            Pure.pure (goInt n)) := by
          refine SR.bind (ES.underlying e) fun τ d _ _ hd => ?_
          obtain ⟨rfl, -⟩ := hd
          cases d <;> first | exact .stuck _ | exact .ret (.int _ _)
        cases hv <;> exact go
      | string => cases hv <;> first | exact .ret (.int _ _) | exact .stuck _
      | slice e => cases hv <;> first | exact .ret (.int _ _) | exact .stuck _
      | map k e =>
        cases hv with
        | mnone => exact .ret (.int _ _)
        | msome hr =>
          refine SR.bind (SR.getObjOne hr) fun τ o o' _ ho => ?_
          cases ho with
          | map c hes => simp only [hes.1]; exact .ret (.int _ _)
          | _ => exact .stuck _
        | _ => exact .stuck _
      | chan dd e => cases hv <;> first | exact .ret (.int _ _) | exact .stuck _
      | _ => exact .stuck _

end
end Go.Ev
