import Derived.Test.YtmkapmbmgpnjaaaEvL
namespace Go.Ev
open Go.RowKit

def evalT (tmps : Array Value) : Operand → Value
  | .tmp t => tmps.getD t undef
  | .const v => v
  | .global g => .pointer (some ⟨g, 0, none⟩)
  | .func f => .func (.func f) #[] #[]

def GR (G : Nat) (ρ : Ren) : Prop := ∀ g, g < G → ρ.on g ∧ (ρ.f g).block = g ∧ (ρ.f g).shift = 0

theorem GR.mono {G : Nat} {ρ σ : Ren} (h : ρ.le σ) (k : GR G ρ) : GR G σ := fun g hg => by
  obtain ⟨h1, h2, h3⟩ := k g hg
  exact ⟨(h.2 _ h1).1, by rw [(h.2 _ h1).2]; exact h2, by rw [(h.2 _ h1).2]; exact h3⟩

def okOperand (G : Nat) : Operand → Bool
  | .tmp _ => true
  | .const v => plainV 20 v
  | .global g => g < G
  | .func _ => true

theorem evalT_rel {G : Nat} {ρ : Ren} (hG : GR G ρ) {x x' : Array Value} (h : AsR ρ x x') {o : Operand} (ho : okOperand G o = true) : VR ρ (evalT x o) (evalT x' o) := by
  cases o with
  | tmp t => exact h.getD t (VR.undef ρ)
  | const v => exact plainV.sound ρ 20 v ho
  | global g =>
    have hg : g < G := by simpa [okOperand] using ho
    obtain ⟨h1, h2, h3⟩ := hG g hg
    exact .psome ⟨h1, h2.symm, by simp only; omega, rfl⟩
  | func f => exact .func rfl rfl (by simp) rfl (by simp)

section
variable {P : Program} {N : Nat} {w0 : Base} {ρ : Ren} {H : AHeap} {w : World}

def OpsR (ρ : Ren) (r r' : Operand → Value) (o : Op) : Prop := ∀ x, x ∈ o.operands → VR ρ (r x) (r' x) ∧ isJunk (r x) = false

theorem AsR.map {r r' : Operand → Value} {l : Array Operand} (h : ∀ x, x ∈ l → VR ρ (r x) (r' x)) : AsR ρ (l.map r) (l.map r') := by
  refine ⟨by simp, fun i a b ha hb => ?_⟩
  simp only [Array.getElem?_map, Option.map_eq_some_iff] at ha hb
  obtain ⟨x, hx, rfl⟩ := ha
  obtain ⟨y, hy, rfl⟩ := hb
  rw [hx] at hy
  cases hy
  exact h x (Array.mem_of_getElem? hx)

theorem PartsR.map {r r' : Operand → Value} : ∀ (l : List (Nat × Operand)), (∀ p, p ∈ l → VR ρ (r p.2) (r' p.2) ∧ isJunk (r p.2) = false) → PartsR ρ (l.map fun (i, x) => (i, r x)) (l.map fun (i, x) => (i, r' x))
  | [], _ => trivial
  | p :: l, h => ⟨⟨rfl, (h p (List.mem_cons_self ..)).1, (h p (List.mem_cons_self ..)).2⟩, PartsR.map l fun q hq => h q (List.mem_cons_of_mem _ hq)⟩

theorem OptR.map {r r' : Operand → Value} {x : Option Operand} (h : ∀ y, x = some y → VR ρ (r y) (r' y)) : OptR ρ (x.map r) (x.map r') := by
  cases x with
  | none => exact .inl ⟨rfl, rfl⟩
  | some y => exact .inr ⟨_, _, rfl, rfl, h y rfl⟩

theorem VS.copy (ts : Array TypeId) (t : TypeId) {x x' : Array Value} (h : AsR ρ x x') : SR P VR ρ (Builtin.copy_ ts t x) (Builtin.copy_ ts t x') := by
  unfold Builtin.copy_
  cases ts[0]? with
  | none => exact .stuck _
  | some a =>
    rcases h.get' 0 with ⟨h1, h2⟩ | ⟨v, v', h1, h2, hv⟩
    · simp only [h1, h2]; exact .stuck _
    · rcases h.get' 1 with ⟨h3, h4⟩ | ⟨u, u', h3, h4, hu⟩
      · simp only [h1, h2, h3, h4]; exact .stuck _
      · simp only [h1, h2, h3, h4]
        refine SR.bind (ES.underlying a) fun σ d _ hle hd => ?_
        obtain ⟨rfl, -⟩ := hd
        cases d <;> first | exact .stuck _ | skip
        rename_i e
        have hv := hv.mono hle
        have hu := hu.mono hle
        have hl : ES P σ (Builtin.lenOf u) (Builtin.lenOf u') := by
          cases hu <;> first | exact .ret rfl | exact .stuck _
        have hf : ∀ {τ : Ren} (k n : Nat), σ.le τ → SR P AsR τ (Builtin.firstCells k n u) (Builtin.firstCells k n u') := by
          intro τ k n hle2
          have hu := hu.mono hle2
          cases hu with
          | string s => exact .ret (AsR.ints _)
          | snone m c => exact .ret (AsR.nil _)
          | ssome hs => exact SR.loadCells _ hs.1
          | _ => exact .stuck _
        have go : ∀ (n : Nat) (base base' : Option Addr), (base = none ∧ base' = none ∨ ∃ a a', base = some a ∧ base' = some a' ∧ AR σ a a') → SR P VR σ (do
            let m := Nat.min (← Builtin.lenOf u) n
            let cells ← Builtin.firstCells (← Go.sizeOf e) m u
            if let some a := base then Go.storeCells a cells.toList
            Pure.pure (goInt m)) (do
            let m := Nat.min (← Builtin.lenOf u') n
            let cells ← Builtin.firstCells (← Go.sizeOf e) m u'
            if let some a := base' then Go.storeCells a cells.toList
            Pure.pure (goInt m)) := by
          intro n base base' hb
          refine SR.bind hl fun τ m _ hle2 hm => ?_
          subst hm
          refine SR.bind (ES.sizeOf e) fun υ k _ hle3 hk => ?_
          obtain ⟨rfl, -⟩ := hk
          refine SR.bind (hf k _ (Ren.le_trans hle2 hle3)) fun φ c c' hle4 hc => ?_
          rcases hb with ⟨rfl, rfl⟩ | ⟨a, a', rfl, rfl, ha⟩
          · exact .ret (.int _ _)
          · exact SR.bind (SR.storeCells _ _ 0 (((ha.mono hle2).mono hle3).mono hle4) hc.toList) fun _ _ _ _ _ => .ret (.int _ _)
        cases hv with
        | snone n c => exact go n none none (.inl ⟨rfl, rfl⟩)
        | @ssome b b' n c c' hs => exact go n (some b) (some b') (.inr ⟨b, b', rfl, rfl, hs.1⟩)
        | _ => exact .stuck _

theorem AsR.zeroCells {σ : Ren} {c : Array Value} (h : AsR σ c c) (n : Nat) : AsR σ (Builtin.zeroCells c n) (Builtin.zeroCells c n) := by
  refine ⟨rfl, fun i a b ha hb => ?_⟩
  rw [ha] at hb
  cases hb
  unfold Builtin.zeroCells at ha
  rw [Array.getElem?_map] at ha
  obtain ⟨j, hj, rfl⟩ := Option.map_eq_some_iff.1 ha
  have hlt : j < n * c.size := by
    have := Array.mem_of_getElem? hj
    simpa using this
  have hpos : 0 < c.size := by
    rcases Nat.eq_zero_or_pos c.size with q | q
    · rw [q] at hlt; omega
    · exact q
  have hm : j % c.size < c.size := Nat.mod_lt _ hpos
  have e : c[j % c.size]? = some c[j % c.size]! := by simp [hm]
  exact h.2 _ _ _ e e
theorem VS.clear (ok : Okay P) (ts : Array TypeId) (t : TypeId) {x x' : Array Value} (h : AsR ρ x x') (hsl : ∀ v, x[0]? = some v → ∃ a n c, v = .slice a n c) : SR P VR ρ (Builtin.clear_ ts t x) (Builtin.clear_ ts t x') := by
  unfold Builtin.clear_
  cases ts[0]? with
  | none => exact .stuck _
  | some a =>
    rcases h.get' 0 with ⟨h1, h2⟩ | ⟨v, v', h1, h2, hv⟩
    · simp only [h1, h2]; exact .stuck _
    · simp only [h1, h2]
      obtain ⟨oa, n, c, rfl⟩ := hsl v h1
      refine SR.bind (ES.underlying a) fun σ d _ hle hd => ?_
      obtain ⟨rfl, -⟩ := hd
      have hv := hv.mono hle
      cases hv with
      | snone n c => exact .ret (.tuple rfl (fun i v v' h _ => by simp at h))
      | @ssome b b' n c c' hs =>
        cases n with
        | zero => exact .ret (.tuple rfl (fun i v v' h _ => by simp at h))
        | succ n =>
          cases d <;> first | exact .stuck _ | skip
          rename_i e
          refine SR.bind (VS.zeroValue ok e) fun τ z z' hle2 hz => ?_
          obtain ⟨rfl, hj, hz⟩ := hz
          exact SR.bind (SR.storeCells _ _ 0 ((hs.1.mono hle2)) (AsR.zeroCells (VR.cells hz (by assumption)) _).toList) fun _ _ _ _ _ => .ret (.tuple rfl (fun i v v' h _ => by simp at h))

def aroom (P : Program) (H : AHeap) (ts : Array TypeId) (s x : Value) : Option (Value × AHeap) :=
  if plainSource P ts then
    match ts[0]? with
    | some st => match P.underlying st with
      | some (.slice e) => match P.info? e with
        | some i => match s with
          | .slice base len cap => match srcLen x with
            | some n =>
              if len + n ≤ cap then
                match srcCells H i.size n x with
                | some new => match base with
                  | some a => match absRun P (Go.storeCells (a.add (len * i.size)) new.toList) H with
                    | some (_, H') => some (.slice (some a) (len + n) cap, H')
                    | none => none
                  | none => some (.slice none (len + n) cap, H)
                | none => none
              else none
            | none => none
          | _ => none
        | none => none
      | _ => none
    | none => none
  else none

set_option maxHeartbeats 2000000 in
theorem run_app_none {ts : Array TypeId} (ty : TypeId) {st e : TypeId} {i : TypeInfo} (hp : plainSource P ts = true) (h0 : ts[0]? = some st) (hu : P.underlying st = some (.slice e)) (hi : P.info? e = some i)
    {len cap n : Nat} {x : Value} {new : Array Value} (hn : (Builtin.lenOf x : Sem Nat) = Pure.pure n)
    (hnew : (Builtin.firstCells i.size n x).run P w = .ok new w) (hg : len + n ≤ cap) :
    (Builtin.append_ ts ty #[.slice none len cap, x]).run P w = .ok (.slice none (len + n) cap) w := by
  unfold plainSource at hp
  cases ht : ts[1]? with
  | none => simp [Builtin.append_, h0, ht, run_underlying hu, Go.sizeOf, Go.typeInfo, hi, hn, hg, hnew]
  | some xt =>
    rw [ht] at hp
    simp only at hp
    cases hd : P.underlying xt with
    | none => rw [hd] at hp; cases hp
    | some d =>
      rw [hd] at hp
      cases d <;> first
        | (cases hp; done)
        | simp [Builtin.append_, h0, ht, run_underlying hu, run_underlying hd, Go.sizeOf, Go.typeInfo, hi, hn, hg, hnew]

theorem aroom_spec (h : HR N w0 ρ H w) {ts : Array TypeId} (ty : TypeId) {s s' x x' : Value} (hs : VR ρ s s') (hx : VR ρ x x') {v : Value} {H' : AHeap} (hr : aroom P H ts s x = some (v, H')) :
    ∃ σ v' w', ρ.le σ ∧ (Builtin.append_ ts ty #[s', x']).run P w = .ok v' w' ∧ VR σ v v' ∧ HR N w0 σ H' w' := by
  unfold aroom at hr
  split at hr
  case isFalse => cases hr
  rename_i hp
  split at hr
  case h_2 => cases hr
  rename_i st h0
  split at hr
  case h_2 => cases hr
  rename_i e hu
  split at hr
  case h_2 => cases hr
  rename_i i hi
  split at hr
  case h_2 => cases hr
  rename_i base len cap
  split at hr
  case h_2 => cases hr
  rename_i n hn
  split at hr
  case isFalse => cases hr
  rename_i hroom
  split at hr
  case h_2 => cases hr
  rename_i new hnew
  have hlen := lenOf_spec (ρ := ρ) hx hn
  obtain ⟨new', hn1, hn2⟩ := srcCells_spec (P := P) h hx hnew
  cases hs with
  | snone =>
    simp only [Option.some.injEq, Prod.mk.injEq] at hr
    obtain ⟨rfl, rfl⟩ := hr
    exact ⟨ρ, _, w, Ren.le_refl _, run_app_none ty hp h0 hu hi hlen hn1 hroom, .snone _ _, h⟩
  | @ssome a a' _ _ cap' hsl =>
    simp only at hr
    split at hr
    case h_2 => cases hr
    rename_i u H2 hst
    simp only [Option.some.injEq, Prod.mk.injEq] at hr
    obtain ⟨rfl, rfl⟩ := hr
    have := absRun_sound (SR.storeCells (P := P) _ _ 0 (hsl.1.add (len * i.size)) hn2.toList) H w h
    rw [hst] at this
    obtain ⟨σ, _, w', h1, h2, _, h4⟩ := this
    exact ⟨σ, _, w', h1, run_app_room ty hp h0 hu hi hlen hn1 h2 (Nat.le_trans hroom hsl.2.1), .ssome (hsl.mono h1), h4⟩

end
end Go.Ev
