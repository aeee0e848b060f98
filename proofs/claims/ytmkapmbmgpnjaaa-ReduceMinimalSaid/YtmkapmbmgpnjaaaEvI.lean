import Derived.Test.YtmkapmbmgpnjaaaEvH
namespace Go.Ev
open Go.RowKit

section
variable {P : Program}

def scalar : Nat → Value → Bool
  | 0, _ => false
  | n + 1, v => match v with
    | .bool _ | .int .. | .float .. | .complex .. | .string _ | .pointer none | .slice none _ _ | .map none | .chan none | .nilFunc | .nilIface => true
    | .iface _ w => scalar n w
    | .agg cs => cs.toList.all (scalar n)
    | .tuple cs => !isJunk v && cs.toList.all (scalar n)
    | _ => false

theorem scalar_arr {ρ : Ren} {n : Nat} (ih : ∀ v v', scalar n v = true → VR ρ v v' → v' = v) {x x' : Array Value} (hx : x.toList.all (scalar n) = true)
    (hs : x.size = x'.size) (h : ∀ (i : Nat) (v v' : Value), x[i]? = some v → x'[i]? = some v' → VR ρ v v') : x' = x := by
  apply Array.ext hs.symm
  intro i h1 h2
  rw [List.all_eq_true] at hx
  have e1 : x[i]? = some x[i] := Array.getElem?_eq_getElem h2
  have e2 : x'[i]? = some x'[i] := Array.getElem?_eq_getElem h1
  exact ih _ _ (hx _ (Array.mem_toList_iff.2 (Array.mem_of_getElem? e1))) (h i _ _ e1 e2)

theorem scalar.eq {ρ : Ren} : ∀ (n : Nat) (v v' : Value), scalar n v = true → VR ρ v v' → v' = v := by
  intro n
  induction n with
  | zero => intro v v' h; cases h
  | succ n ih =>
    intro v v' h hv
    cases hv with
    | junk => simp [scalar, isJunk_junk] at h
    | iface t hw => unfold scalar at h; rw [ih _ _ h hw]
    | agg hs hx => unfold scalar at h; rw [scalar_arr ih h hs hx]
    | tuple hs hx =>
      unfold scalar at h
      simp only [Bool.and_eq_true] at h
      rw [scalar_arr ih h.2 hs hx]
    | psome => cases h
    | ssome => cases h
    | msome => cases h
    | func => cases h
    | _ => rfl

theorem scalar.notJunk {n : Nat} {v : Value} (h : scalar n v = true) : isJunk v = false := by
  cases q : isJunk v with
  | false => rfl
  | true =>
    unfold isJunk at q
    split at q
    · cases n with
      | zero => cases h
      | succ n =>
        rename_i vs
        unfold scalar at h
        have q2 : isJunk (.tuple vs) = true := q
        simp only [Bool.and_eq_true, q2] at h
        cases h.1
    · cases q

def pureRun {α : Type} (P : Program) : Sem α → Option α
  | .pure a => some a
  | .program k => pureRun P (k P)
  | .mark _ k => pureRun P k
  | .choose q k => match q.forced with
    | true => pureRun P (k 0)
    | false => none
  | _ => none

theorem pureRun_run {α : Type} : ∀ (s : Sem α) {a : α}, pureRun P s = some a → ∀ w, s.run P w = .ok a w := by
  intro s
  induction s with
  | pure b => intro a h w; cases h; rfl
  | program k ih => intro a h w; exact ih _ h w
  | mark m k ih => intro a h w; exact ih h w
  | choose q k ih =>
    intro a h w
    unfold pureRun at h
    split at h
    · rename_i hq
      simp only [Sem.run, hq, if_true]
      exact ih _ h w
    · cases h
  | _ => intro a h; cases h

theorem SR.ofPure {α : Type} {ρ : Ren} : ∀ (s : Sem α) {a : α}, pureRun P s = some a → ES P ρ s s := by
  intro s
  induction s with
  | pure b => intro a _; exact SR.pure rfl
  | program k ih => intro a h; exact SR.program (ih _ h)
  | mark m k ih => intro a h; exact SR.mark (ih h)
  | choose q k ih =>
    intro a h
    unfold pureRun at h
    split at h
    · rename_i hq
      exact SR.choose hq hq (ih _ h)
    · cases h
  | _ => intro a h; cases h

def findAskP (P : Program) (kt : TypeId) (k : Value) : List MapEntry → Nat → Option (Option (Nat × Value))
  | [], _ => some none
  | e :: es, i => if scalar 20 e.key then
      match pureRun P (Op.equal kt k e.key) with
      | some true => some (some (i, e.val))
      | some false => findAskP P kt k es (i + 1)
      | none => none
    else none

def findNowP (d : TypeDesc) (k : Value) : List MapEntry → Nat → Option (Option (Nat × Value))
  | [], _ => some none
  | e :: es, i => if scalar 20 e.key then
      match Instr.sameNow d k e.key with
      | some true => some (some (i, e.val))
      | some false => findNowP d k es (i + 1)
      | none => none
    else none

def findP (P : Program) (kt : TypeId) (k : Value) (es : List MapEntry) : Option (Option (Nat × Value)) :=
  match P.underlying kt with
  | some d => match findNowP d k es 0 with
    | some r => some r
    | none => match Instr.findNow d k es 0 with
      | some _ => none
      | none => if es.all (fun e => scalar 20 e.key) then findAskP P kt k es 0 else none
  | none => none

def EsR (ρ : Ren) : List MapEntry → List MapEntry → Prop
  | [], [] => True
  | e :: es, f :: fs => EntR ρ e f ∧ EsR ρ es fs
  | _, _ => False

theorem EsR.of_get {ρ : Ren} : ∀ {x y : List MapEntry}, x.length = y.length → (∀ (i : Nat) (v v' : MapEntry), x[i]? = some v → y[i]? = some v' → EntR ρ v v') → EsR ρ x y
  | [], [], _, _ => trivial
  | [], _ :: _, h, _ => by simp at h
  | _ :: _, [], h, _ => by simp at h
  | v :: vs, u :: us, h, k => ⟨k 0 v u rfl rfl, EsR.of_get (by simpa using h) fun i a b ha hb => k (i + 1) a b (by simpa using ha) (by simpa using hb)⟩

theorem EntsR.toList {ρ : Ren} {x x' : Array MapEntry} (h : EntsR ρ x x') : EsR ρ x.toList x'.toList :=
  EsR.of_get (by simpa using h.1) fun i v v' a b => h.2 i v v' (by simpa using a) (by simpa using b)

def FoundR (ρ : Ren) (a b : Option (Nat × Value)) : Prop := (a = none ∧ b = none) ∨ ∃ i v v', a = some (i, v) ∧ b = some (i, v') ∧ VR ρ v v'

theorem findNowP_spec {ρ : Ren} (d : TypeDesc) (k : Value) : ∀ (x y : List MapEntry) (i : Nat) {r : Option (Nat × Value)}, EsR ρ x y → findNowP d k x i = some r →
    ∃ r', Instr.findNow d k y i = some r' ∧ FoundR ρ r r' := by
  intro x
  induction x with
  | nil =>
    intro y i r h hr
    cases y with
    | nil => cases hr; exact ⟨none, rfl, .inl ⟨rfl, rfl⟩⟩
    | cons _ _ => exact h.elim
  | cons e es ih =>
    intro y i r h hr
    cases y with
    | nil => exact h.elim
    | cons f fs =>
      unfold findNowP at hr
      split at hr
      · rename_i hs
        have hk := scalar.eq _ _ _ hs h.1.1
        unfold Instr.findNow
        rw [hk]
        split at hr
        · rename_i hq; cases hr; exact ⟨_, by rw [hq], .inr ⟨i, e.val, f.val, rfl, rfl, h.1.2.1⟩⟩
        · rename_i hq
          obtain ⟨r', h1, h2⟩ := ih fs (i + 1) h.2 hr
          exact ⟨r', by rw [hq]; exact h1, h2⟩
        · cases hr
      · cases hr

theorem findNow_none {ρ : Ren} (d : TypeDesc) (k : Value) : ∀ (x y : List MapEntry) (i : Nat), EsR ρ x y → x.all (fun e => scalar 20 e.key) = true → Instr.findNow d k x i = none → Instr.findNow d k y i = none := by
  intro x
  induction x with
  | nil => intro y i h _ hr; cases hr
  | cons e es ih =>
    intro y i h hall hr
    cases y with
    | nil => exact h.elim
    | cons f fs =>
      simp only [List.all_cons, Bool.and_eq_true] at hall
      have hk := scalar.eq _ _ _ hall.1 h.1.1
      unfold Instr.findNow at hr ⊢
      rw [hk]
      split at hr
      · cases hr
      · exact ih fs (i + 1) h.2 hall.2 hr
      · rfl

theorem findAskP_spec {ρ : Ren} (kt : TypeId) (k : Value) : ∀ (x y : List MapEntry) (i : Nat) {r : Option (Nat × Value)}, EsR ρ x y → findAskP P kt k x i = some r →
    ∃ r', (∀ w, (Instr.findAsking kt k y i).run P w = .ok r' w) ∧ FoundR ρ r r' := by
  intro x
  induction x with
  | nil =>
    intro y i r h hr
    cases y with
    | nil => cases hr; exact ⟨none, fun _ => rfl, .inl ⟨rfl, rfl⟩⟩
    | cons _ _ => exact h.elim
  | cons e es ih =>
    intro y i r h hr
    cases y with
    | nil => exact h.elim
    | cons f fs =>
      unfold findAskP at hr
      split at hr
      · rename_i hs
        have hk := scalar.eq _ _ _ hs h.1.1
        split at hr
        · rename_i hq
          cases hr
          refine ⟨some (i, f.val), fun w => ?_, .inr ⟨i, e.val, f.val, rfl, rfl, h.1.2.1⟩⟩
          unfold Instr.findAsking
          rw [Sem.run_bind, hk, pureRun_run _ hq w]
          rfl
        · rename_i hq
          obtain ⟨r', h1, h2⟩ := ih fs (i + 1) h.2 hr
          refine ⟨r', fun w => ?_, h2⟩
          unfold Instr.findAsking
          rw [Sem.run_bind, hk, pureRun_run _ hq w]
          exact h1 w
        · cases hr
      · cases hr

theorem findP_spec {ρ : Ren} (kt : TypeId) (k : Value) (x y : List MapEntry) {r : Option (Nat × Value)} (h : EsR ρ x y) (hr : findP P kt k x = some r) :
    ∃ r', (∀ w, (Instr.findKey kt k y).run P w = .ok r' w) ∧ FoundR ρ r r' := by
  unfold findP at hr
  split at hr
  · rename_i d hd
    have hu : ∀ w, (Go.underlying kt).run P w = .ok d w := by intro w; simp [Go.underlying, hd]
    split at hr
    · rename_i r0 hq
      cases hr
      obtain ⟨r', h1, h2⟩ := findNowP_spec d k x y 0 h hq
      refine ⟨r', fun w => ?_, h2⟩
      unfold Instr.findKey
      rw [Sem.run_bind, hu]
      simp [h1]
    · split at hr
      · cases hr
      · rename_i hq
        split at hr
        · rename_i hall
          obtain ⟨r', h1, h2⟩ := findAskP_spec kt k x y 0 h hr
          refine ⟨r', fun w => ?_, h2⟩
          unfold Instr.findKey
          rw [Sem.run_bind, hu]
          simp [findNow_none d k x y 0 h hall hq, h1 w]
        · cases hr
  · cases hr

def mapOf (H : AHeap) : Value → Option (Array MapEntry)
  | .map none => some #[]
  | .map (some r) => match H.getObj r with
    | some (.map es _) => some es
    | _ => none
  | _ => none

def alookup (P : Program) (H : AHeap) (t : TypeId) (m k : Value) (c : Bool) : Option Value :=
  match P.underlying t with
  | some (.map kt et) => match mapOf H m with
    | some es => match pureRun P (Instr.checkKey es.isEmpty 10000 kt k) with
      | some () => match findP P kt k es.toList with
        | some (some (_, v)) => some (if c then .tuple #[v, .bool true] else v)
        | some none => match P.info? et with
          | some i => match i.zero with
            | some v => some (if c then .tuple #[v, .bool false] else v)
            | none => none
          | none => none
        | none => none
      | none => none
    | none => none
  | _ => none

variable {N : Nat} {w0 : Base} {ρ : Ren} {H : AHeap} {w : World}

theorem alookup_spec (ok : Okay P) (h : HR N w0 ρ H w) {t : TypeId} {m m' k : Value} {c : Bool} {v : Value} (hm : VR ρ m m') (hr : alookup P H t m k c = some v) :
    ∃ v', (Instr.lookup t m' k c).run P w = .ok v' w ∧ VR ρ v v' := by
  unfold alookup at hr
  split at hr
  case h_2 => cases hr
  rename_i kt et hd
  split at hr
  case h_2 => cases hr
  rename_i es hes
  split at hr
  case h_2 => cases hr
  rename_i hck
  have hu : ∀ w, (Go.underlying t).run P w = .ok (.map kt et) w := by intro w; simp [Go.underlying, hd]
  -- the entries
  have hent : ∃ es', EntsR ρ es es' ∧ ∀ {α : Type} (f : Array MapEntry → Sem α), (do
      let es ← match m' with
        | .map none => Pure.pure #[]
        | .map (some r) => do
          let .map es _ ← Go.getObj r | Go.stuck "Lookup: map expected"
          Pure.pure es
        | _ => Go.stuck "Lookup: map expected"
      f es : Sem α).run P w = (f es').run P w := by
    cases hm with
    | mnone => simp only [mapOf, Option.some.injEq] at hes; subst hes; exact ⟨#[], ⟨rfl, by simp⟩, fun f => by simp⟩
    | msome hb =>
      simp only [mapOf] at hes
      split at hes
      · rename_i o ho hq
        cases hes
        obtain ⟨o', hw, hor⟩ := h.getObj hb hq
        cases hor with
        | map cl he => exact ⟨_, he, fun f => by simp [Go.getObj, Sem.run, hw]⟩
      · cases hes
    | _ => cases hes
  obtain ⟨es', he, hrun⟩ := hent
  have hemp : es'.isEmpty = es.isEmpty := by
    have := he.1
    simp only [Array.isEmpty, ← this]
  have hc2 := pureRun_run _ hck
  split at hr
  · rename_i q vv hf
    cases hr
    obtain ⟨r', h1, h2⟩ := findP_spec kt k _ _ he.toList hf
    rcases h2 with ⟨h2, _⟩ | ⟨i, u, u', h2, h3, h4⟩
    · cases h2
    · cases h2
      subst h3
      refine ⟨if c then .tuple #[u', .bool true] else u', ?_, ?_⟩
      · unfold Instr.lookup
        rw [Sem.run_bind, hu]
        simp only [Result.andThen_ok]
        erw [hrun]
        rw [Sem.run_bind, hemp, hc2]
        simp [h1 w]
      · cases c
        · exact h4
        · exact (((AsR.nil ρ).push h4).push (.bool true)).to_tuple
  · rename_i hf
    obtain ⟨r', h1, h2⟩ := findP_spec kt k _ _ he.toList hf
    rcases h2 with ⟨_, h2⟩ | ⟨i, u, u', h2, _⟩
    · subst h2
      split at hr
      · rename_i inf hi
        split at hr
        · rename_i z hz
          cases hr
          have hvz := (ok.zero et inf z hi hz).2 ρ
          refine ⟨if c then .tuple #[z, .bool false] else z, ?_, ?_⟩
          · unfold Instr.lookup
            rw [Sem.run_bind, hu]
            simp only [Result.andThen_ok]
            erw [hrun]
            rw [Sem.run_bind, hemp, hc2]
            simp [h1 w, Go.zeroValue, Go.typeInfo, hi, hz]
          · cases c
            · exact hvz
            · exact (((AsR.nil ρ).push hvz).push (.bool false)).to_tuple
        · cases hr
      · cases hr
    · cases h2
  · cases hr

def amapUpdate (P : Program) (H : AHeap) (t : TypeId) (m k v : Value) : Option AHeap :=
  match P.underlying t with
  | some (.map kt _) => match m with
    | .map (some r) => match H.getObj r with
      | some (.map es clock) => match pureRun P (Instr.checkKey false 10000 kt k) with
        | some () => match findP P kt k es.toList with
          | some (some (i, _)) =>
            if scalar 20 (((es[i]?).map (·.key)).getD k) then
              match pureRun P (Instr.keyThatStays (((es[i]?).map (·.key)).getD k) k) with
              | some k2 => if scalar 20 k2 then H.setObj r (.map (es.modify i fun e => { e with key := k2, val := v }) clock) else none
              | none => none
            else none
          | some none => H.setObj r (.map (es.push { key := k, val := v, born := clock }) (clock + 1))
          | none => none
        | none => none
      | _ => none
    | _ => none
  | _ => none

theorem VR.ofScalar {ρ : Ren} : ∀ (n : Nat) (v : Value), scalar n v = true → VR ρ v v := by
  intro n
  induction n with
  | zero => intro v h; cases h
  | succ n ih =>
    have arr : ∀ (x : Array Value), x.toList.all (scalar n) = true → ∀ (i : Nat) (v v' : Value), x[i]? = some v → x[i]? = some v' → VR ρ v v' := by
      intro x hx i v v' h1 h2
      rw [h1] at h2
      cases h2
      refine ih v ?_
      rw [List.all_eq_true] at hx
      exact hx v (Array.mem_toList_iff.2 (Array.mem_of_getElem? h1))
    intro v h
    unfold scalar at h
    split at h
    · exact .bool _
    · exact .int _ _
    · exact .float _ _
    · exact .complex _ _ _
    · exact .string _
    · exact .pnone
    · exact .snone _ _
    · exact .mnone
    · exact .cnone
    · exact .nilFunc
    · exact .nilIface
    · exact .iface _ (ih _ h)
    · exact .agg rfl (arr _ h)
    · simp only [Bool.and_eq_true] at h; exact .tuple rfl (arr _ h.2)
    · cases h

theorem EntsR.push {x x' : Array MapEntry} (h : EntsR ρ x x') {e e' : MapEntry} (he : EntR ρ e e') : EntsR ρ (x.push e) (x'.push e') := by
  refine ⟨by simp [h.1], fun j a b ha hb => ?_⟩
  rw [Array.getElem?_push] at ha hb
  have hs := h.1
  by_cases q : j = x.size
  · rw [if_pos q] at ha
    rw [if_pos (by omega)] at hb
    cases ha; cases hb
    exact he
  · rw [if_neg q] at ha
    rw [if_neg (by omega)] at hb
    exact h.2 j a b ha hb

theorem EntsR.modify {x x' : Array MapEntry} (h : EntsR ρ x x') (i : Nat) {f g : MapEntry → MapEntry} (hfg : ∀ e e', EntR ρ e e' → EntR ρ (f e) (g e')) : EntsR ρ (x.modify i f) (x'.modify i g) := by
  refine ⟨by simp [h.1], fun j a b ha hb => ?_⟩
  rw [Array.getElem?_modify] at ha hb
  by_cases q : i = j
  · rw [if_pos q] at ha hb
    simp only [Option.map_eq_some_iff] at ha hb
    obtain ⟨a0, ha0, rfl⟩ := ha
    obtain ⟨b0, hb0, rfl⟩ := hb
    exact hfg _ _ (h.2 j a0 b0 ha0 hb0)
  · rw [if_neg q] at ha hb
    exact h.2 j a b ha hb

theorem amapUpdate_spec (h : HR N w0 ρ H w) {t : TypeId} {m m' k v v' : Value} {H' : AHeap} (hk : scalar 20 k = true) (hm : VR ρ m m') (hv : VR ρ v v') (hr : amapUpdate P H t m k v = some H') :
    ∃ w', (Instr.mapUpdate t m' k v').run P w = .ok () w' ∧ HR N w0 ρ H' w' := by
  unfold amapUpdate at hr
  split at hr
  case h_2 => cases hr
  rename_i kt et hd
  split at hr
  case h_2 => cases hr
  rename_i r
  split at hr
  case h_2 => cases hr
  rename_i es clock hes
  split at hr
  case h_2 => cases hr
  rename_i hck
  have hu : ∀ w, (Go.underlying t).run P w = .ok (.map kt et) w := by intro w; simp [Go.underlying, hd]
  have hc2 := pureRun_run _ hck
  cases hm
  case msome r' hb =>
    obtain ⟨o', hw, hor⟩ := h.getObj hb hes
    cases hor
    case map es' he =>
      have hset : ∀ {o o' : Obj} {H' : AHeap}, OR ρ o o' → H.setObj r o = some H' → ∃ w', (Go.setObj r' o').run P w = .ok () w' ∧ HR N w0 ρ H' w' := by
        intro o o' H' ho hs
        obtain ⟨_, h2⟩ := h.setObj hb ho hs
        exact ⟨_, by simp [Go.setObj, Sem.run, hw], h2⟩
      split at hr
      · rename_i i vv hf
        split at hr
        case isFalse => cases hr
        rename_i hold
        split at hr
        case h_2 => cases hr
        rename_i k2 hk2
        split at hr
        case isFalse => cases hr
        rename_i hk2s
        obtain ⟨r2, h1, h2⟩ := findP_spec kt k _ _ he.toList hf
        rcases h2 with ⟨h2, _⟩ | ⟨j, u, u', h2, h3, h4⟩
        · cases h2
        · cases h2
          subst h3
          have hkey : ((es'[i]?).map (·.key)).getD k = ((es[i]?).map (·.key)).getD k := by
            cases hi : es[i]? with
            | none =>
              have : es'[i]? = none := by
                simp only [Array.getElem?_eq_none_iff] at hi ⊢
                have := he.1
                omega
              rw [this]
            | some e =>
              have hl : i < es'.size := by
                have := (Array.getElem?_eq_some_iff.1 hi).1
                have := he.1
                omega
              have e2 := Array.getElem?_eq_getElem hl
              rw [e2]
              have hr2 := he.2 i e _ hi e2
              rw [hi] at hold
              simp only [Option.map_some, Option.getD_some] at hold ⊢
              exact scalar.eq _ _ _ hold hr2.1
          obtain ⟨w', hw1, hw2⟩ := hset (o := .map (es.modify i fun e => { e with key := k2, val := v }) clock) (o' := .map (es'.modify i fun e => { e with key := k2, val := v' }) clock) (OR.map clock (he.modify i fun e e' hee => (⟨VR.ofScalar _ _ hk2s, hv, hee.2.2⟩ : EntR ρ { e with key := k2, val := v } { e' with key := k2, val := v' }))) hr
          refine ⟨w', ?_, hw2⟩
          unfold Instr.mapUpdate
          rw [Sem.run_bind, hu]
          simp only [Result.andThen_ok, Sem.run_bind]
          have hg : (Go.getObj r').run P w = .ok (.map es' clock) w := by simp [Go.getObj, Sem.run, hw]
          rw [hg]
          simp only [Result.andThen_ok, Sem.run_bind]
          rw [hc2]
          simp only [Result.andThen_ok]
          rw [h1]
          simp only [Result.andThen_ok, Sem.run_bind]
          rw [hkey, pureRun_run _ hk2]
          exact hw1
      · rename_i hf
        obtain ⟨r2, h1, h2⟩ := findP_spec kt k _ _ he.toList hf
        rcases h2 with ⟨_, h2⟩ | ⟨j, u, u', h2, _⟩
        · subst h2
          obtain ⟨w', hw1, hw2⟩ := hset (o := .map (es.push { key := k, val := v, born := clock }) (clock + 1)) (o' := .map (es'.push { key := k, val := v', born := clock }) (clock + 1)) (OR.map (clock + 1) (he.push (⟨VR.ofScalar _ _ hk, hv, rfl⟩ : EntR ρ { key := k, val := v, born := clock } { key := k, val := v', born := clock }))) hr
          refine ⟨w', ?_, hw2⟩
          unfold Instr.mapUpdate
          rw [Sem.run_bind, hu]
          simp only [Result.andThen_ok, Sem.run_bind]
          have hg : (Go.getObj r').run P w = .ok (.map es' clock) w := by simp [Go.getObj, Sem.run, hw]
          rw [hg]
          simp only [Result.andThen_ok, Sem.run_bind]
          rw [hc2]
          simp only [Result.andThen_ok]
          rw [h1]
          exact hw1
        · cases h2
      · cases hr

def amapEntry (P : Program) (H : AHeap) (t : TypeId) (m k : Value) : Option (Value × AHeap) :=
  match P.underlying t with
  | some (.map kt et) => match m with
    | .map (some r) => match H.getObj r with
      | some (.map es clock) => match pureRun P (Instr.checkKey false 10000 kt k) with
        | some () => match findP P kt k es.toList with
          | some (some (i, u)) =>
            if scalar 20 (((es[i]?).map (·.key)).getD k) then
              match pureRun P (Instr.keyThatStays (((es[i]?).map (·.key)).getD k) k) with
              | some k2 => if scalar 20 k2 then
                  match H.setObj r (.map (es.modify i fun e => { e with key := k2 }) clock) with
                  | some H' => some (.tuple #[u, goInt (((es[i]?).map (·.born)).getD 0)], H')
                  | none => none
                else none
              | none => none
            else none
          | some none => match P.info? et with
            | some inf => match inf.zero with
              | some z => (match H.setObj r (.map (es.push { key := k, val := z, born := clock }) (clock + 1)) with
                | some H' => some (.tuple #[z, goInt clock], H')
                | none => none)
              | none => none
            | none => none
          | none => none
        | none => none
      | _ => none
    | _ => none
  | _ => none

theorem amapEntry_spec (ok : Okay P) (h : HR N w0 ρ H w) {t : TypeId} {m m' k v : Value} {H' : AHeap} (hk : scalar 20 k = true) (hm : VR ρ m m') (hr : amapEntry P H t m k = some (v, H')) :
    ∃ v' w', (Instr.mapEntry t m' k).run P w = .ok v' w' ∧ VR ρ v v' ∧ HR N w0 ρ H' w' := by
  unfold amapEntry at hr
  split at hr
  case h_2 => cases hr
  rename_i kt et hd
  split at hr
  case h_2 => cases hr
  rename_i r
  split at hr
  case h_2 => cases hr
  rename_i es clock hes
  split at hr
  case h_2 => cases hr
  rename_i hck
  have hu : ∀ w, (Go.underlying t).run P w = .ok (.map kt et) w := by intro w; simp [Go.underlying, hd]
  have hc2 := pureRun_run _ hck
  cases hm
  case msome r' hb =>
    obtain ⟨o', hw, hor⟩ := h.getObj hb hes
    cases hor
    case map es' he =>
      have hset : ∀ {o o' : Obj} {H' : AHeap}, OR ρ o o' → H.setObj r o = some H' → ∃ w', (Go.setObj r' o').run P w = .ok () w' ∧ HR N w0 ρ H' w' := by
        intro o o' H' ho hs
        obtain ⟨_, h2⟩ := h.setObj hb ho hs
        exact ⟨_, by simp [Go.setObj, Sem.run, hw], h2⟩
      have hg : (Go.getObj r').run P w = .ok (.map es' clock) w := by simp [Go.getObj, Sem.run, hw]
      split at hr
      · rename_i i vv hf
        split at hr
        case isFalse => cases hr
        rename_i hold
        split at hr
        case h_2 => cases hr
        rename_i k2 hk2
        split at hr
        case isFalse => cases hr
        rename_i hk2s
        split at hr
        case h_2 => cases hr
        rename_i H2 hset2
        cases hr
        obtain ⟨r2, h1, h2⟩ := findP_spec kt k _ _ he.toList hf
        rcases h2 with ⟨h2, _⟩ | ⟨j, u, u', h2, h3, h4⟩
        · cases h2
        · cases h2
          subst h3
          have hsame : ((es'[i]?).map (·.key)).getD k = ((es[i]?).map (·.key)).getD k ∧ ((es'[i]?).map (fun e => (e.born : Int))).getD 0 = ((es[i]?).map (fun e => (e.born : Int))).getD 0 := by
            cases hi : es[i]? with
            | none =>
              have : es'[i]? = none := by
                simp only [Array.getElem?_eq_none_iff] at hi ⊢
                have := he.1
                omega
              rw [this]
              exact ⟨rfl, rfl⟩
            | some e =>
              have hl : i < es'.size := by
                have := (Array.getElem?_eq_some_iff.1 hi).1
                have := he.1
                omega
              have e2 := Array.getElem?_eq_getElem hl
              rw [e2]
              have hr2 := he.2 i e _ hi e2
              rw [hi] at hold
              simp only [Option.map_some, Option.getD_some] at hold ⊢
              exact ⟨scalar.eq _ _ _ hold hr2.1, by rw [hr2.2.2]⟩
          obtain ⟨w', hw1, hw2⟩ := hset (o := .map (es.modify i fun e => { e with key := k2 }) clock) (o' := .map (es'.modify i fun e => { e with key := k2 }) clock) (OR.map clock (he.modify i fun e e' hee => (⟨VR.ofScalar _ _ hk2s, hee.2.1, hee.2.2⟩ : EntR ρ { e with key := k2 } { e' with key := k2 }))) hset2
          have hgi : ∀ q : Int, VR ρ (goInt q) (goInt q) := fun q => .int _ _
          have hvv : ∀ q : Int, VR ρ (.tuple #[vv, goInt q]) (.tuple #[u', goInt q]) := fun q => (((AsR.nil ρ).push h4).push (hgi q)).to_tuple
          refine ⟨_, w', ?_, hvv _, hw2⟩
          unfold Instr.mapEntry
          rw [Sem.run_bind, hu]
          simp only [Result.andThen_ok, Sem.run_bind]
          rw [hg]
          simp only [Result.andThen_ok, Sem.run_bind]
          rw [hc2]
          simp only [Result.andThen_ok]
          rw [h1]
          simp only [Result.andThen_ok, Sem.run_bind]
          rw [hsame.1, pureRun_run _ hk2]
          simp only [Result.andThen_ok]
          rw [hw1, hsame.2]
          rfl
      · rename_i hf
        split at hr
        case h_2 => cases hr
        rename_i inf hi
        split at hr
        case h_2 => cases hr
        rename_i z hz
        split at hr
        case h_2 => cases hr
        rename_i H2 hset2
        cases hr
        have hvz := (ok.zero et inf z hi hz).2 ρ
        obtain ⟨r2, h1, h2⟩ := findP_spec kt k _ _ he.toList hf
        rcases h2 with ⟨_, h2⟩ | ⟨j, u, u', h2, _⟩
        · subst h2
          obtain ⟨w', hw1, hw2⟩ := hset (o := .map (es.push { key := k, val := z, born := clock }) (clock + 1)) (o' := .map (es'.push { key := k, val := z, born := clock }) (clock + 1)) (OR.map (clock + 1) (he.push (⟨VR.ofScalar _ _ hk, hvz, rfl⟩ : EntR ρ { key := k, val := z, born := clock } { key := k, val := z, born := clock }))) hset2
          have hgi : ∀ q : Int, VR ρ (goInt q) (goInt q) := fun q => .int _ _
          refine ⟨.tuple #[z, goInt clock], w', ?_, (((AsR.nil ρ).push hvz).push (hgi _)).to_tuple, hw2⟩
          unfold Instr.mapEntry
          rw [Sem.run_bind, hu]
          simp only [Result.andThen_ok, Sem.run_bind]
          rw [hg]
          simp only [Result.andThen_ok, Sem.run_bind]
          rw [hc2]
          simp only [Result.andThen_ok]
          rw [h1]
          simp only [Result.andThen_ok, Sem.run_bind]
          have hzr : (Go.zeroValue et).run P w = .ok z w := by simp [Go.zeroValue, Go.typeInfo, hi, hz]
          rw [hzr]
          simp only [Result.andThen_ok]
          rw [hw1]
          rfl
        · cases h2
      · cases hr

def aentryStore (H : AHeap) (m s v : Value) : Option AHeap :=
  match m with
  | .map (some r) => match H.getObj r with
    | some (.map es clock) => match s with
      | .int _ n => (match es.findIdx? (fun e => (e.born : Int) == n) with
        | some i => H.setObj r (.map (es.modify i fun e => { e with val := v }) clock)
        | none => none)
      | _ => none
    | _ => none
  | _ => none

theorem EntsR.findIdx {x x' : Array MapEntry} (h : EntsR ρ x x') (n : Int) : x'.findIdx? (fun e => (e.born : Int) == n) = x.findIdx? (fun e => (e.born : Int) == n) := by
  have key : ∀ (l l' : List MapEntry), EsR ρ l l' → l'.findIdx? (fun e => (e.born : Int) == n) = l.findIdx? (fun e => (e.born : Int) == n) := by
    intro l
    induction l with
    | nil => intro l' hl; cases l' with
      | nil => rfl
      | cons _ _ => exact hl.elim
    | cons a l ih => intro l' hl; cases l' with
      | nil => exact hl.elim
      | cons b l' =>
        rw [List.findIdx?_cons, List.findIdx?_cons, ih l' hl.2, hl.1.2.2]
  have hk := key _ _ h.toList
  obtain ⟨l⟩ := x
  obtain ⟨l'⟩ := x'
  simpa using hk

theorem aentryStore_spec (h : HR N w0 ρ H w) {t : TypeId} {m m' s s' v v' : Value} {H' : AHeap} (hm : VR ρ m m') (hs : VR ρ s s') (hv : VR ρ v v') (hr : aentryStore H m s v = some H') :
    ∃ w', (Instr.entryStore t m' s' v').run P w = .ok () w' ∧ HR N w0 ρ H' w' := by
  unfold aentryStore at hr
  split at hr
  case h_2 => cases hr
  rename_i r
  split at hr
  case h_2 => cases hr
  rename_i es clock hes
  split at hr
  case h_2 => cases hr
  rename_i ik n
  split at hr
  case h_2 => cases hr
  rename_i i hi
  cases hs
  cases hm
  case msome r' hb =>
    obtain ⟨o', hw, hor⟩ := h.getObj hb hes
    cases hor
    case map es' he =>
      obtain ⟨_, h2⟩ := h.setObj hb (OR.map clock (he.modify i fun e e' hee => (⟨hee.1, hv, hee.2.2⟩ : EntR ρ { e with val := v } { e' with val := v' }))) hr
      refine ⟨_, ?_, h2⟩
      have hg : (Go.getObj r').run P w = .ok (.map es' clock) w := by simp [Go.getObj, Sem.run, hw]
      unfold Instr.entryStore
      simp only [Sem.run_bind]
      rw [hg]
      simp only [Result.andThen_ok, Sem.run_bind, Go.asInt, Go.asIntOf, Sem.run_pure]
      rw [he.findIdx, hi]
      simp [Go.setObj, Sem.run, hw]

end
end Go.Ev
