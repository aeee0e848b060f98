import Derived.Test.YtmkapmbmgpnjaaaFaGc
namespace Go.Ev
open Go.RowKit

section
variable {E : Env} {N : Nat} {w0 : World} {base : List Frame} {ρ : Ren}

def KSim (E : Env) (N : Nat) (w0 : World) (base : List Frame) (ρ : Ren) (ks : KS) (m : Machine) : Prop :=
  match ks with
  | .k x fn n tm todo cs H => (∀ c ∈ cs, c.ok) ∧ Sim E N w0 base ρ { fr := kA x fn n tm todo, cs := toAs cs, H } m
  | .d x fn n tm todo ops listed lag cs H => (∀ c ∈ cs, c.ok) ∧ Sim E N w0 base ρ { fr := dA x fn n tm todo ops listed lag none, cs := toAs cs, H } m
  | .a fr cs H => (∀ c ∈ cs, c.ok) ∧ Sim E N w0 base ρ { fr, cs := toAs cs, H } m
  | .done fn v H => ∃ st, lastA fn st = true ∧ resultsA E st = some v ∧ st.H = H ∧ Sim E N w0 base ρ st m

def KGoes (E : Env) (N : Nat) (w0 : World) (base : List Frame) (ρ : Ren) (ks : KS) (m : Machine) : Prop :=
  ∃ σ m', ρ.le σ ∧ Steps E.P m m' ∧ KSim E N w0 base σ ks m'

theorem Goes.trans' {st st2 : ASt} {m : Machine} (h : Goes E N w0 base ρ st m) (k : ∀ {σ : Ren} {m' : Machine}, ρ.le σ → Sim E N w0 base σ st m' → Goes E N w0 base σ st2 m') : Goes E N w0 base ρ st2 m := by
  obtain ⟨σ, m', h1, h2, h3⟩ := h
  obtain ⟨τ, m2, h4, h5, h6⟩ := k h1 h3
  exact ⟨τ, m2, Ren.le_trans h1 h4, h2.trans h5, h6⟩

theorem Reaches.goes (ok : EnvOK E) (hmix : E.P.follows .mixedOrders = true) (hG : GR E.G ρ) {st st' : ASt} {m : Machine} (h : Reaches E st st') (hS : Sim E N w0 base ρ st m) : Goes E N w0 base ρ st' m := by
  obtain ⟨n, hn⟩ := h
  exact runA_sim ok hmix n hG hS hn

theorem KGoes.ofK {x : FX} {fn : FuncId} {n : Nat} {tm : TT} {todo : List Item} {cs : List KFr} {H : AHeap} {m : Machine} (hc : ∀ c ∈ cs, c.ok) (h : Goes E N w0 base ρ { fr := kA x fn n tm todo, cs := toAs cs, H } m) :
    KGoes E N w0 base ρ (.k x fn n tm todo cs H) m := by
  obtain ⟨σ, m', h1, h2, h3⟩ := h
  exact ⟨σ, m', h1, h2, hc, h3⟩
theorem KGoes.ofD {x : FX} {fn : FuncId} {n : Nat} {tm : TT} {todo : List Item} {ops : Array Oper} {listed : Array Bool} {lag : List Nat} {cs : List KFr} {H : AHeap} {m : Machine} (hc : ∀ c ∈ cs, c.ok) (h : Goes E N w0 base ρ { fr := dA x fn n tm todo ops listed lag none, cs := toAs cs, H } m) :
    KGoes E N w0 base ρ (.d x fn n tm todo ops listed lag cs H) m := by
  obtain ⟨σ, m', h1, h2, h3⟩ := h
  exact ⟨σ, m', h1, h2, hc, h3⟩
theorem KGoes.ofA {fr : AFrame} {cs : List KFr} {H : AHeap} {m : Machine} (hc : ∀ c ∈ cs, c.ok) (h : Goes E N w0 base ρ { fr, cs := toAs cs, H } m) :
    KGoes E N w0 base ρ (.a fr cs H) m := by
  obtain ⟨σ, m', h1, h2, h3⟩ := h
  exact ⟨σ, m', h1, h2, hc, h3⟩

theorem KGoes.trans {st : ASt} {ks : KS} {m : Machine} (h : Goes E N w0 base ρ st m) (k : ∀ {σ : Ren} {m' : Machine}, ρ.le σ → Sim E N w0 base σ st m' → KGoes E N w0 base σ ks m') : KGoes E N w0 base ρ ks m := by
  obtain ⟨σ, m', h1, h2, h3⟩ := h
  obtain ⟨τ, m2, h4, h5, h6⟩ := k h1 h3
  exact ⟨τ, m2, Ren.le_trans h1 h4, h2.trans h5, h6⟩

theorem gen_sim (ok : EnvOK E) (hmix : E.P.follows .mixedOrders = true) (hG : GR E.G ρ) {fr : AFrame} {cs : List KFr} {H : AHeap} {m : Machine} {ks : KS} (hc : ∀ c ∈ cs, c.ok) (hS : Sim E N w0 base ρ { fr, cs := toAs cs, H } m) (h : gen E fr cs H = some ks) : KGoes E N w0 base ρ ks m := by
  unfold gen at h
  split at h
  case h_2 => cases h
  rename_i st hst
  split at h
  case h_2 => cases h
  rename_i cs' hcs
  cases h
  obtain ⟨h1, h2⟩ := regen_spec (astep_cs hst) hc hcs
  refine KGoes.ofA h2 ?_
  rw [h1]
  exact astep_sim ok hmix hG hS hst

theorem kA_finish {x : FX} {fn : FuncId} {n : Nat} {tm : TT} {ops : Array Oper} {i : Nat} {r : List Nat} {kk : List Item} {d : Option Way} (hd : dstW n ((ops[i]?).bind (·.dst)) = some d) (v : Value) :
    (kA x fn n tm (.inRegion ops (i :: r) :: kk)).finish v = some (kA x fn n (putW d v tm) (.inRegion ops r :: kk)) := by
  unfold AFrame.finish kA
  simp only
  rw [putW_arr hd]

theorem dA_finish {x : FX} {fn : FuncId} {n : Nat} {tm : TT} {todo : List Item} {ops : Array Oper} {listed : Array Bool} {lag : List Nat} {i : Nat} {d : Option Way} (hd : dstW n ((ops[i]?).bind (·.dst)) = some d) (hap : lagApart ops lag ((ops[i]?).bind (·.dst)) = true) (v : Value) :
    (dA x fn n tm todo ops listed lag (some i)).finish v = some (dA x fn n (putW d v tm) todo ops listed lag none) := by
  unfold AFrame.finish dA
  simp only
  rw [if_pos hap, putW_arr hd]

theorem kop_sim (hG : GR E.G ρ) {fx : FX} {fn : FuncId} {n : Nat} {tm : TT} {ops : Array Oper} {i : Nat} {r : List Nat} {kk : List Item} {o : Oper} {cs : List AFrame} {H H' : AHeap} {m : Machine} {x : AOut} {st' : ASt}
    (hS : Sim E N w0 base ρ { fr := kA fx fn n tm (.inRegion ops (i :: r) :: kk), cs, H } m) (ho : ops[i]? = some o) (hw : wantedA ops (tm.arr n) o = some true) (hdef : ∀ c, o.op = .defer c → ∃ d, x = .next (.defer d))
    (hsays : ∀ (w : World) (r' : Operand → Value), HR N (pinned w0 ρ) ρ H w → (∀ y, y ∈ o.op.operands → okOperand E.G y = true → VR ρ (evalT (tm.arr n) y) (r' y)) → OpSays E N (pinned w0 ρ) ρ (execOp r' o) w x H')
    (hdone : opDone E { fr := kA fx fn n tm (.inRegion ops (i :: r) :: kk), cs, H } x H' = some st') : Goes E N w0 base ρ st' m := by
  obtain ⟨fr', cs', w, rfl, hF, hC, hH⟩ := hS
  have hm' : fr'.mode = .run := (ModeR.run hF.mode).1 rfl
  have hb : AsR ρ (tm.arr n) fr'.tmps ∧ TdR ρ (.inRegion ops (i :: r) :: kk) fr'.todo := hF.body
  obtain ⟨ht, htd⟩ := hb
  obtain ⟨y, ys, hq, h1, h2⟩ := htd.cons_inv
  cases h1
  have hT : ∀ t ∈ o.looksAt ops, TmpR ρ (tm.arr n) fr'.tmps t := fun t _ v v' q1 q2 => ht.2 t v v' q1 q2
  have hwc := wanted_rel ht.1.symm hT hw
  exact op_sim hF hC hm' hq ho hwc hdef (hsays w (evalT fr'.tmps) hH.pinned (fun y _ hok => evalT_rel hG ht hok)) hdone

theorem done_value {x : FX} {fn : FuncId} {n : Nat} {tm : TT} {ops : Array Oper} {i : Nat} {r : List Nat} {kk : List Item} {d : Option Way} (hd : dstW n ((ops[i]?).bind (·.dst)) = some d) {cs : List AFrame} {H H' : AHeap} (v : Value) :
    opDone E { fr := kA x fn n tm (.inRegion ops (i :: r) :: kk), cs, H } (.next (.value v)) H' = some { fr := kA x fn n (putW d v tm) (.inRegion ops r :: kk), cs, H := H' } := by
  unfold opDone
  simp only
  rw [kA_finish hd]
  rfl
theorem done_skip {x : FX} {fn : FuncId} {n : Nat} {tm : TT} {ops : Array Oper} {i : Nat} {r : List Nat} {kk : List Item} {d : Option Way} (hd : dstW n ((ops[i]?).bind (·.dst)) = some d) {cs : List AFrame} {H H' : AHeap} :
    opDone E { fr := kA x fn n tm (.inRegion ops (i :: r) :: kk), cs, H } (.next .skip) H' = some { fr := kA x fn n (putW d undef tm) (.inRegion ops r :: kk), cs, H := H' } := by
  unfold opDone
  simp only
  rw [kA_finish hd]
  rfl

theorem guardR_spec {n : Nat} {ops : Array Oper} {o : Oper} {g : Option (Way × Bool)} (h : guardW n ops o = some g) {tm : TT} {b : Bool} (hr : guardR tm g = some b) : wantedA ops (tm.arr n) o = some b := by
  unfold guardW at h
  unfold wantedA
  split at h
  · rename_i hg
    cases h
    rw [hg]
    cases hr
    rfl
  · rename_i j want hg
    rw [hg]
    split at h
    case h_2 => cases h
    rename_i t ht
    split at h
    case isFalse => cases h
    rename_i hlt
    cases h
    simp only [ht, Option.bind_some]
    rw [tm.arr_get hlt]
    unfold guardR at hr
    simp only at hr
    generalize tm.get (way t) = v at hr
    split at hr
    · rename_i c
      cases hr
      cases c <;> cases want <;> rfl
    · rename_i vs
      split at hr
      · rename_i hv
        cases hr
        have : vs = #[] := by
          have := congrArg List.toArray hv
          simpa using this
        subst this
        rfl
      · cases hr
    · cases hr

theorem dstW_of {ops : Array Oper} {i n : Nat} {o : Oper} {d : Option Way} (ho : ops[i]? = some o) (h : dstW n o.dst = some d) : dstW n ((ops[i]?).bind (·.dst)) = some d := by
  rw [ho]; exact h

theorem enter_sim {f : KFr} (hf : f.ok) {g : FuncId} {args : List Value} {cs : List KFr} {H H' : AHeap} {ks : KS} {m : Machine} (hc : ∀ c ∈ cs, c.ok) (h : enterK E f g args cs H' = some ks)
    (k : ∀ {st' : ASt}, opDone E { fr := f.toA, cs := toAs cs, H } (.next (.enter g ⟨args⟩)) H' = some st' → Goes E N w0 base ρ st' m) : KGoes E N w0 base ρ ks m := by
  obtain ⟨todo, q, rfl, he⟩ := enterK_spec h
  refine KGoes.ofK ?_ (k ?_)
  · intro c hc2
    rcases List.mem_cons.1 hc2 with rfl | hc2
    · exact hf
    · exact hc c hc2
  · unfold opDone
    simp only
    rw [he]
    rfl

theorem astep_unwind {st : ASt} (hm : st.fr.mode ≠ .run) : astep E st = unwindA E st := by
  unfold astep
  split
  · rename_i h; exact absurd h hm
  · rfl

theorem opK_sim (ok : EnvOK E) (hmix : E.P.follows .mixedOrders = true) (hG : GR E.G ρ) {fx : FX} {fn : FuncId} {n : Nat} {tm : TT} {ops : Array Oper} {i : Nat} {r : List Nat} {kk : List Item} {o : Oper} {d : Option Way} {cs : List KFr} {H : AHeap} {m : Machine} {ks : KS}
    (hc : ∀ c ∈ cs, c.ok) (hS : Sim E N w0 base ρ { fr := kA fx fn n tm (.inRegion ops (i :: r) :: kk), cs := toAs cs, H } m) (ho : ops[i]? = some o) (hw : wantedA ops (tm.arr n) o = some true) (hd : dstW n o.dst = some d)
    (h : opK E fx fn n tm ops i r kk o d cs H = some ks) : KGoes E N w0 base ρ ks m := by
  have hd2 := dstW_of ho hd
  have says : ∀ {x : AOut} {H' : AHeap}, aopR E (evalW n tm) H o = some (x, H') → ∀ (w : World) (r' : Operand → Value), HR N (pinned w0 ρ) ρ H w → (∀ y, y ∈ o.op.operands → okOperand E.G y = true → VR ρ (evalT (tm.arr n) y) (r' y)) → OpSays E N (pinned w0 ρ) ρ (execOp r' o) w x H' := by
    intro x H' hx w r' hH ht
    rw [evalW_eq] at hx
    exact aopR_spec ok hH ht hx
  have hdef : ∀ {x : AOut} {H' : AHeap}, aopR E (evalW n tm) H o = some (x, H') → ∀ c, o.op = .defer c → ∃ d, x = .next (.defer d) := by
    intro x H' hx c hc
    rw [evalW_eq] at hx
    exact aop_defer (tmps := tm.arr n) hx hc
  unfold opK at h
  split at h
  · rename_i v H' hx
    cases h
    exact KGoes.ofK hc (kop_sim hG hS ho hw (hdef hx) (says hx) (done_value hd2 v))
  · rename_i H' hx
    cases h
    exact KGoes.ofK hc (kop_sim hG hS ho hw (hdef hx) (says hx) (done_skip hd2))
  · rename_i g args H' hx
    exact enter_sim (f := .k fx fn n tm ops i r kk d) hd2 hc h (fun {st'} hdone => kop_sim hG hS ho hw (hdef hx) (says hx) hdone)
  · rename_i l f tmps assign body H' hx
    cases h
    refine KGoes.ofK ?_ (kop_sim hG hS ho hw (hdef hx) (says hx) ?_)
    · intro c hc2
      rcases List.mem_cons.1 hc2 with rfl | hc2
      · exact hd2
      · exact hc c hc2
    · unfold opDone
      simp only
      unfold kA
      rw [TT.ofArgs_arr _ _ (by simp)]
      simp
      rfl
  · exact gen_sim ok hmix hG hc hS h

theorem popK_sim {fr : AFrame} {v : Value} {cs : List KFr} {H0 H : AHeap} {m : Machine} {ks : KS} (hn : fr.kind = .normal) (hc : ∀ c ∈ cs, c.ok) (h : popK v cs H = some ks)
    (k : ∀ {st' : ASt}, returnA { fr, cs := toAs cs, H := H0 } v H = some st' → Goes E N w0 base ρ st' m) : KGoes E N w0 base ρ ks m := by
  unfold popK at h
  split at h
  · cases h
  · rename_i x2 fn2 n2 tm2 ops i r kk d cs'
    cases h
    have hd : KFr.ok (.k x2 fn2 n2 tm2 ops i r kk d) := hc _ (by simp)
    refine KGoes.ofK (fun c hc2 => hc c (by simp [hc2])) (k ?_)
    unfold returnA
    show (match fr.kind with
      | .normal => ((kA x2 fn2 n2 tm2 (.inRegion ops (i :: r) :: kk)).finish v).map _
      | .deferred => _
      | _ => none) = _
    rw [hn]
    simp only
    rw [kA_finish hd]
    rfl
  · rename_i x2 fn2 n2 tm2 todo2 ops listed lag i d cs'
    have hd : KFr.ok (.d x2 fn2 n2 tm2 todo2 ops listed lag i d) := hc _ (by simp)
    cases hap : lagApart ops lag ((ops[i]?).bind (·.dst)) with
    | false => rw [hap] at h; cases h
    | true =>
      rw [hap] at h
      cases h
      refine KGoes.ofD (fun c hc2 => hc c (by simp [hc2])) (k ?_)
      unfold returnA
      show (match fr.kind with
        | .normal => ((dA x2 fn2 n2 tm2 todo2 ops listed lag (some i)).finish v).map _
        | .deferred => _
        | _ => none) = _
      rw [hn]
      simp only
      rw [dA_finish hd hap]
      rfl
  · rename_i fr2 cs'
    split at h
    case h_2 => cases h
    rename_i fr' hfr
    cases h
    refine KGoes.ofA (fun c hc2 => hc c (by simp [hc2])) (k ?_)
    unfold returnA
    show (match fr.kind with
      | .normal => (fr2.finish v).map _
      | .deferred => _
      | _ => none) = _
    rw [hn]
    simp only
    rw [hfr]
    rfl

theorem ret_leave {x : FX} {fn : FuncId} {n : Nat} {tm : TT} {todo : List Item} {cs : List AFrame} {H : AHeap} {j : Option Code} (hl : (j = none ∧ todo = []) ∨ (j = some .ret ∧ ∃ k, todo = .code .ret :: k)) :
    astep E { fr := kA x fn n tm todo, cs, H } = leaveA E { fr := kA x fn n tm todo, cs, H } j := by
  rw [astep_exec rfl rfl]
  rcases hl with ⟨rfl, rfl⟩ | ⟨rfl, k, rfl⟩ <;> rfl

theorem retK_sim (ok : EnvOK E) (hmix : E.P.follows .mixedOrders = true) (hG : GR E.G ρ) {x : FX} {fn : FuncId} {n : Nat} {tm : TT} {todo : List Item} {cs : List KFr} {H : AHeap} {m : Machine} {ks : KS} {j : Option Code} (hl : (j = none ∧ todo = []) ∨ (j = some .ret ∧ ∃ k, todo = .code .ret :: k))
    (hc : ∀ c ∈ cs, c.ok) (hS : Sim E N w0 base ρ { fr := kA x fn n tm todo, cs := toAs cs, H } m) (h : retK E x j fn n tm todo cs H = some ks) : KGoes E N w0 base ρ ks m := by
  unfold retK at h
  split at h
  · split at h
    · rename_i ws hws
      have h1 : astep E { fr := kA ⟨[], .normal, none⟩ fn n tm todo, cs := toAs cs, H } = some { fr := { kA ⟨[], .normal, none⟩ fn n tm todo with mode := .returning }, cs := toAs cs, H } := by
        rw [ret_leave hl]
        rcases hl with ⟨rfl, rfl⟩ | ⟨rfl, k, rfl⟩ <;> rfl
      have hres := slotsW_spec (E := E) hws (st := { fr := { kA ⟨[], .normal, none⟩ fn n tm todo with mode := .returning }, cs := toAs cs, H }) rfl (tm := tm) rfl
      have two : ∀ {st' : ASt}, returnA { fr := { kA ⟨[], .normal, none⟩ fn n tm todo with mode := .returning }, cs := toAs cs, H } (packV (gets tm ws)) H = some st' → Goes E N w0 base ρ st' m := by
        intro st' hr
        refine ((Reaches.head h1 (Reaches.one ?_))).goes ok hmix hG hS
        rw [astep_unwind (by intro e; cases e)]
        unfold unwindA
        simp only [kA]
        simp only [kA] at hres
        rw [hres]
        exact hr
      split at h
      · cases h
        obtain ⟨σ, m', q1, q2, q3⟩ := (Reaches.one h1).goes ok hmix hG hS
        refine ⟨σ, m', q1, q2, _, ?_, hres, rfl, q3⟩
        unfold lastA kA toAs
        simp
      · exact popK_sim (fr := { kA ⟨[], .normal, none⟩ fn n tm todo with mode := .returning }) rfl hc h two
    · exact gen_sim ok hmix hG hc hS h
  · rename_i ds l
    split at h
    · rename_i v H' hv
      refine popK_sim (fr := kA ⟨ds, .normal, some l⟩ fn n tm todo) (H0 := H) rfl hc h fun {st'} hr => (Reaches.one ?_).goes ok hmix hG hS
      rw [ret_leave hl]
      unfold leaveA
      show (match absRun E.P (Instr.endRound l j) H with
        | some (v, H') => returnA { fr := kA ⟨ds, .normal, some l⟩ fn n tm todo, cs := toAs cs, H } v H'
        | none => none) = some st'
      rw [hv]
      exact hr
    · exact gen_sim ok hmix hG hc hS h
  · exact gen_sim ok hmix hG hc hS h

theorem stepK_sim (ok : EnvOK E) (hmix : E.P.follows .mixedOrders = true) (hG : GR E.G ρ) {x : FX} {fn : FuncId} {n : Nat} {tm : TT} {todo : List Item} {cs : List KFr} {H : AHeap} {m : Machine} {ks : KS}
    (hS : KSim E N w0 base ρ (.k x fn n tm todo cs H) m) (h : stepK E x fn n tm todo cs H = some ks) : KGoes E N w0 base ρ ks m := by
  obtain ⟨hc, hS⟩ := hS
  obtain ⟨todo', hre, hl⟩ := norm_lies E n (st := { fr := kA x fn n tm todo, cs := toAs cs, H }) rfl rfl 100 todo
  have hre : Reaches E { fr := kA x fn n tm todo, cs := toAs cs, H } { fr := kA x fn n tm todo', cs := toAs cs, H } := hre
  unfold stepK at h
  generalize norm E n 100 todo = V at *
  cases V with
  | op ops i r kk o g k d =>
    obtain ⟨rfl, ho, hg, hd, rfl⟩ := hl
    refine KGoes.trans (hre.goes ok hmix hG hS) fun hle hS1 => ?_
    have hG1 := hG.mono hle
    have hd2 := dstW_of ho hd
    simp only at h
    split at h
    · rename_i hgr
      have hw := guardR_spec hg hgr
      have says := fun {w1 : World} (w : World) (r' : Operand → Value) (σ : Ren) (hH : HR N (pinned w1 σ) σ H w) (ht : ∀ y, y ∈ o.op.operands → okOperand E.G y = true → VR σ (evalT (tm.arr n) y) (r' y)) => kop_says (r' := r') ok hH ht
      have hdef : ∀ {v : KR}, (kop E n o).res E tm H = v → v ≠ .no → ∀ c, o.op ≠ .defer c := by
        intro v hv hne c hcc
        unfold kop at hv
        rw [hcc] at hv
        simp only at hv
        exact hne hv.symm
      split at h
      · rename_i v hv
        cases h
        refine KGoes.ofK hc (kop_sim hG1 hS1 ho hw (fun c hcc => absurd hcc (hdef hv (by simp) c)) (fun w r' hH ht => ?_) (done_value hd2 v))
        have := says w r' _ hH ht
        rw [hv] at this
        exact this
      · rename_i v H' hv
        cases h
        refine KGoes.ofK hc ?_
        obtain ⟨fr', cs', w, rfl, hF, hC, hH⟩ := hS1
        have hm' : fr'.mode = .run := (ModeR.run hF.mode).1 rfl
        have hb : AsR _ (tm.arr n) fr'.tmps ∧ TdR _ (.inRegion ops (i :: r) :: kk) fr'.todo := hF.body
        obtain ⟨ht, htd⟩ := hb
        obtain ⟨y, ys, hq, h1, h2⟩ := htd.cons_inv
        cases h1
        have hT : ∀ t ∈ o.looksAt ops, TmpR _ (tm.arr n) fr'.tmps t := fun t _ v v' q1 q2 => ht.2 t v v' q1 q2
        have hwc := wanted_rel ht.1.symm hT hw
        have := says w (evalT fr'.tmps) _ hH.pinned (fun y _ hok => evalT_rel hG1 ht hok)
        rw [hv] at this
        rcases this with this | ⟨rfl, this⟩
        · exact op_sim hF hC hm' hq ho hwc (fun c hcc => absurd hcc (hdef hv (by simp) c)) this (done_value hd2 v)
        · exact op_sim hF hC hm' hq ho hwc (fun c hcc => absurd hcc (hdef hv (by simp) c)) this (done_skip hd2)
      · rename_i f args hv
        refine enter_sim (f := .k x fn n tm ops i r kk d) hd2 hc h (fun {st'} hdone => kop_sim hG1 hS1 ho hw (fun c hcc => absurd hcc (hdef hv (by simp) c)) (fun w r' hH ht => ?_) hdone)
        have := says w r' _ hH ht
        rw [hv] at this
        exact this
      · exact opK_sim ok hmix hG1 hc hS1 ho hw hd h
    · rename_i hgr
      have hw := guardR_spec hg hgr
      cases h
      refine KGoes.ofK hc ((Reaches.one ?_).goes ok hmix hG1 hS1)
      rw [astep_exec rfl rfl]
      unfold execA
      simp only [kA, ho]
      rw [hw]
      simp only
      have := kA_finish (x := x) (fn := fn) (tm := tm) (r := r) (kk := kk) hd2 undef
      simp only [kA] at this
      rw [this]
      rfl
    · cases h
  | cond c a b =>
    obtain ⟨c0, a0, b0, k, rfl, hc0, rfl, rfl⟩ := hl
    obtain ⟨h1, h2⟩ := opd_spec hc0 tm
    simp only at h
    split at h
    case h_2 => cases h
    rename_i x hx
    cases h
    refine KGoes.ofK hc ((hre.trans (Reaches.one ?_)).goes ok hmix hG hS)
    rw [astep_exec rfl rfl]
    unfold execA
    simp only [kA, h2, if_true]
    rw [← h1, hx]
    cases x <;> rfl
  | draw ops k =>
    obtain ⟨id, rfl⟩ := hl
    cases h
    refine KGoes.ofD hc ((hre.trans (Reaches.one ?_)).goes ok hmix hG hS)
    rw [astep_exec rfl rfl]
    rfl
  | ret j =>
    simp only at h
    have e : retK E x j fn n tm todo cs H = some ks → retK E x j fn n tm todo' cs H = some ks ∨ KGoes E N w0 base ρ ks m := by
      intro hr
      unfold retK at hr ⊢
      split at hr
      · split at hr
        · left; exact hr
        · right; exact gen_sim ok hmix hG hc hS hr
      · split at hr
        · left; exact hr
        · right; exact gen_sim ok hmix hG hc hS hr
      · right; exact gen_sim ok hmix hG hc hS hr
    rcases e h with h | h
    · exact KGoes.trans (hre.goes ok hmix hG hS) fun hle hS1 => retK_sim ok hmix (hG.mono hle) hl hc hS1 h
    · exact h
  | beg k =>
    simp only at h
    split at h
    case h_2 => cases h
    rename_i l hr
    split at h
    case h_2 => cases h
    rename_i u H' hb
    cases h
    have hl : todo' = .beginRound :: k := hl
    subst hl
    refine KGoes.ofK hc ((hre.trans (Reaches.one ?_)).goes ok hmix hG hS)
    rw [astep_exec rfl rfl]
    unfold execA
    show (match x.roundOf with
      | some l => (match absRun E.P (Instr.beginRound l) H with
        | some (_, H') => some ({ fr := { kA x fn n tm (.beginRound :: k) with todo := k }, cs := toAs cs, H := H' } : ASt)
        | none => none)
      | none => none) = _
    rw [hr]
    simp only
    rw [hb]
    rfl
  | other => exact gen_sim ok hmix hG hc hS h

theorem apartD_eq (P : Program) (x : FX) (fn : FuncId) (n : Nat) (tm : TT) (todo : List Item) (ops : Array Oper) (listed : Array Bool) (lag : List Nat) (cs : List KFr) :
    apartD P (lag.filterMap (madeBlkW P ops n tm)) cs = apartA P (dA x fn n tm todo ops listed lag none) (toAs cs) := by
  have e : lag.filterMap (madeBlkW P ops n tm) = (dA x fn n tm todo ops listed lag none).pends P := by
    show _ = lag.filterMap (madeBlk P ops (tm.arr n))
    congr 1
    funext j
    exact madeBlkW_eq P ops n tm j
  unfold apartD apartA toAs
  rw [e]
  generalize (dA x fn n tm todo ops listed lag none).pends P = l
  cases l with
  | nil => rfl
  | cons a l =>
    simp only [List.all_map]
    congr 2
    funext c
    simp only [Function.comp]
    rw [c.pends_eq]

theorem drawD_sim (ok : EnvOK E) (hmix : E.P.follows .mixedOrders = true) (hG : GR E.G ρ) {x : FX} {fn : FuncId} {n : Nat} {tm : TT} {todo : List Item} {ops : Array Oper} {listed : Array Bool} {lag : List Nat} {cs : List KFr} {H : AHeap} {m : Machine} {ks : KS}
    (hc : ∀ c ∈ cs, c.ok) (hS : Sim E N w0 base ρ { fr := dA x fn n tm todo ops listed lag none, cs := toAs cs, H } m) (h : drawD E x fn n tm todo ops listed lag cs H = some ks) : KGoes E N w0 base ρ ks m := by
  have hstep : ∀ {st' : ASt}, drawStep E { fr := dA x fn n tm todo ops listed lag none, cs := toAs cs, H } ⟨ops, listed, lag, none⟩ = some st' → Goes E N w0 base ρ st' m := by
    intro st' hs
    refine (Reaches.one ?_).goes ok hmix hG hS
    exact hs
  have hst : (stillW E ops n tm H) = still E ops (tm.arr n) H := funext (stillW_eq E ops n tm H)
  unfold drawD at h
  rw [apartD_eq E.P x fn n tm todo ops listed lag cs, hst] at h
  split at h
  · rename_i hready
    split at h
    case h_2 => cases h
    rename_i hcond
    cases h
    refine KGoes.ofK hc (hstep ?_)
    unfold drawStep
    simp only
    rw [hready]
    simp only
    exact if_pos hcond
  · rename_i i hready
    split at h
    case h_2 => cases h
    rename_i hcond
    split at h
    case h_2 => cases h
    rename_i o ho
    split at h
    case h_2 => cases h
    rename_i d hd
    have hd2 := dstW_of ho hd
    have hdst : (ops[i]?).bind (·.dst) = o.dst := by rw [ho]; rfl
    have hds : ∀ {st' : ASt}, (match wantedA ops (tm.arr n) o with
          | some false => (AFrame.finish (dA x fn n tm todo ops (listed.setIfInBounds i true) (lag.filter fun j => !isBefore ops ops.size j i) (some i)) undef).map fun fr' => ({ fr := fr', cs := toAs cs, H } : ASt)
          | some true => match aop E (tm.arr n) H o with
            | some (y, H') => opDone E { fr := dA x fn n tm todo ops (listed.setIfInBounds i true) (lag.filter fun j => !isBefore ops ops.size j i) (some i), cs := toAs cs, H } y H'
            | none => none
          | none => none) = some st' → drawStep E { fr := dA x fn n tm todo ops listed lag none, cs := toAs cs, H } ⟨ops, listed, lag, none⟩ = some st' := by
      intro st' hs
      unfold drawStep
      simp only
      rw [hready]
      simp only
      have hcond' := hcond
      refine (if_pos hcond').trans ?_
      rw [ho]
      exact hs
    rw [wantedW_eq] at h
    split at h
    · rename_i hw
      split at h
      case h_2 => cases h
      rename_i hap
      cases h
      refine KGoes.ofD hc (hstep (hds ?_))
      rw [hw]
      simp only
      rw [dA_finish hd2 (by rw [hdst]; exact hap)]
      rfl
    · rename_i hw
      have key : ∀ {y : AOut} {H' : AHeap} {st' : ASt}, aopR E (evalW n tm) H o = some (y, H') → opDone E { fr := dA x fn n tm todo ops (listed.setIfInBounds i true) (lag.filter fun j => !isBefore ops ops.size j i) (some i), cs := toAs cs, H } y H' = some st' → Goes E N w0 base ρ st' m := by
        intro y H' st' hx hs
        refine hstep (hds ?_)
        rw [hw]
        simp only
        rw [evalW_eq] at hx
        have hx : aop E (tm.arr n) H o = some (y, H') := hx
        rw [hx]
        exact hs
      split at h
      · rename_i v H' hx
        split at h
        case h_2 => cases h
        rename_i hap
        cases h
        refine KGoes.ofD hc (key hx ?_)
        unfold opDone
        simp only
        rw [dA_finish hd2 (by rw [hdst]; exact hap)]
        rfl
      · rename_i H' hx
        split at h
        case h_2 => cases h
        rename_i hap
        cases h
        refine KGoes.ofD hc (key hx ?_)
        unfold opDone
        simp only
        rw [dA_finish hd2 (by rw [hdst]; exact hap)]
        rfl
      · rename_i f args H' hx
        exact enter_sim (f := .d x fn n tm todo ops (listed.setIfInBounds i true) (lag.filter fun j => !isBefore ops ops.size j i) i d) hd2 hc h (fun {st'} hdone => key hx hdone)
      · cases h
    · cases h
  · rename_i hl1 hl2
    have hds : ∀ {st' : ASt}, (match firstFloat E ops (tm.arr n) H lag (Region.ready .any ops listed) with
        | some (i, v) => some ({ fr := { dA x fn n tm todo ops listed lag none with tmps := putT (tm.arr n) ((ops[i]?).bind (·.dst)) v, draw := some ⟨ops, listed.setIfInBounds i true, lag ++ [i], none⟩ }, cs := toAs cs, H } : ASt)
        | none => match firstMake E ops (tm.arr n).size lag (Region.ready .any ops listed) with
          | some (i, o, t) => some { fr := { dA x fn n tm todo ops listed lag none with tmps := (tm.arr n).setIfInBounds t (mkVal o H.next), draw := some ⟨ops, listed.setIfInBounds i true, lag ++ [i], none⟩ }, cs := toAs cs, H := H.new o }
          | none => none) = some st' → drawStep E { fr := dA x fn n tm todo ops listed lag none, cs := toAs cs, H } ⟨ops, listed, lag, none⟩ = some st' := by
      intro st' hs
      unfold drawStep
      simp only
      cases hL : Region.ready .any ops listed with
      | nil => exact absurd hL hl1
      | cons a t => cases t with
        | nil => exact absurd hL (hl2 a)
        | cons b t => rw [hL] at hs; exact hs
    rw [firstFloatW_eq] at h
    split at h
    · rename_i i v hff
      split at h
      case h_2 => cases h
      rename_i d hd
      cases h
      refine KGoes.ofD hc (hstep (hds ?_))
      rw [hff]
      simp only
      rw [← putW_arr hd]
      rfl
    · rename_i hff
      split at h
      · rename_i i o t hfm
        cases h
        refine KGoes.ofD hc (hstep (hds ?_))
        rw [hff]
        simp only
        rw [TT.arr_size, hfm]
        simp only
        rw [← TT.arr_set]
        rfl
      · cases h

theorem stepD_sim (ok : EnvOK E) (hmix : E.P.follows .mixedOrders = true) (hG : GR E.G ρ) {x : FX} {fn : FuncId} {n : Nat} {tm : TT} {todo : List Item} {ops : Array Oper} {listed : Array Bool} {lag : List Nat} {cs : List KFr} {H : AHeap} {m : Machine} {ks : KS}
    (hS : KSim E N w0 base ρ (.d x fn n tm todo ops listed lag cs H) m) (h : stepD E x fn n tm todo ops listed lag cs H = some ks) : KGoes E N w0 base ρ ks m := by
  obtain ⟨hc, hS⟩ := hS
  unfold stepD at h
  split at h
  · rename_i ks2 hk
    cases h
    exact drawD_sim ok hmix hG hc hS hk
  · exact gen_sim ok hmix hG hc hS h

theorem stepA_sim (ok : EnvOK E) (hmix : E.P.follows .mixedOrders = true) (hG : GR E.G ρ) {fr : AFrame} {cs : List KFr} {H : AHeap} {m : Machine} {ks : KS} (hS : KSim E N w0 base ρ (.a fr cs H) m) (h : stepA E fr cs H = some ks) : KGoes E N w0 base ρ ks m := by
  obtain ⟨hc, hS⟩ := hS
  unfold stepA at h
  split at h
  · rename_i ops listed lag hm hd
    cases h
    rw [canD_spec hm hd] at hS
    exact ⟨ρ, m, Ren.le_refl _, .refl _ _, hc, hS⟩
  · cases hk : canK fr with
    | true =>
      rw [hk] at h
      cases h
      rw [canK_spec hk] at hS
      exact ⟨ρ, m, Ren.le_refl _, .refl _ _, hc, hS⟩
    | false =>
      rw [hk] at h
      simp only at h
      cases hl : lastA fr.fn { fr, cs := toAs cs, H } with
      | true =>
        rw [hl] at h
        simp only at h
        split at h
        case h_2 => cases h
        rename_i v hv
        cases h
        exact ⟨ρ, m, Ren.le_refl _, .refl _ _, _, hl, hv, rfl, hS⟩
      | false =>
        rw [hl] at h
        exact gen_sim ok hmix hG hc hS h

theorem kgo_sim (ok : EnvOK E) (hmix : E.P.follows .mixedOrders = true) : ∀ (n : Nat) {ρ : Ren} {ks ks' : KS} {m : Machine}, GR E.G ρ → KSim E N w0 base ρ ks m → kgo E n ks = some ks' → KGoes E N w0 base ρ ks' m
  | 0, ρ, ks, ks', m, _, hS, h => by cases h; exact ⟨ρ, m, Ren.le_refl _, .refl _ _, hS⟩
  | n + 1, ρ, ks, ks', m, hG, hS, h => by
    have go : ∀ {ks1 : KS}, KGoes E N w0 base ρ ks1 m → kgo E n ks1 = some ks' → KGoes E N w0 base ρ ks' m := by
      rintro ks1 ⟨σ, m1, h1, h2, h3⟩ hk
      obtain ⟨τ, m2, h4, h5, h6⟩ := kgo_sim ok hmix n (hG.mono h1) h3 hk
      exact ⟨τ, m2, Ren.le_trans h1 h4, h2.trans h5, h6⟩
    cases ks with
    | k x fn q tm todo cs H =>
      have h : Option.rec (motive := fun _ => Option KS) none (kgo E n) (stepK E x fn q tm todo cs H) = some ks' := h
      cases hs : stepK E x fn q tm todo cs H with
      | none => rw [hs] at h; cases h
      | some ks1 => rw [hs] at h; exact go (stepK_sim ok hmix hG hS hs) h
    | d x fn q tm todo ops listed lag cs H =>
      have h : Option.rec (motive := fun _ => Option KS) none (kgo E n) (stepD E x fn q tm todo ops listed lag cs H) = some ks' := h
      cases hs : stepD E x fn q tm todo ops listed lag cs H with
      | none => rw [hs] at h; cases h
      | some ks1 => rw [hs] at h; exact go (stepD_sim ok hmix hG hS hs) h
    | a fr cs H =>
      have h : Option.rec (motive := fun _ => Option KS) none (kgo E n) (stepA E fr cs H) = some ks' := h
      cases hs : stepA E fr cs H with
      | none => rw [hs] at h; cases h
      | some ks1 => rw [hs] at h; exact go (stepA_sim ok hmix hG hS hs) h
    | done fn v H => cases h; exact ⟨ρ, m, Ren.le_refl _, .refl _ _, hS⟩

noncomputable def startK (E : Env) (f : FuncId) (args : List Value) (H : AHeap) : Option KS := match ent E f with
  | some (todo, m) => Bool.rec (motive := fun _ => Option KS) none (some (.k nx f m (TT.ofArgs args) todo [] H)) (Nat.ble (lenL args) m)
  | none => none

theorem kgo_calls (ok : EnvOK E) (hmix : E.P.follows .mixedOrders = true) (hG : GR E.G ρ) {w : World} {H : AHeap} (hH : HR N (bare w0) ρ H w) {f : FuncId} {args : List Value} {x' : Array Value} (hx : AsR ρ ⟨args⟩ x') {ks ks' : KS} (hst : startK E f args H = some ks)
    {n : Nat} (hrun : kgo E n ks = some ks') {v : Value} {H' : AHeap} (hd : ks' = .done f v H') : Calls E.P f x' w (fun e w' => ∃ σ v', e = .returned v' ∧ ρ.le σ ∧ VR σ v v' ∧ HR N (bare w0) σ H' w') := by
  intro cs
  subst hd
  have hent : ∃ todo m, ks = .k nx f m (TT.ofArgs args) todo [] H ∧ enterA E.P f ⟨args⟩ .normal = some (kA nx f m (TT.ofArgs args) todo) := by
    have : ∃ ks2, enterK E (.a (kA nx f 0 .nil [])) f args [] H = some ks2 := by
      unfold startK at hst
      unfold enterK
      split at hst
      case h_2 => cases hst
      rename_i todo m he
      rw [he]
      simp only
      cases hb : Nat.ble (lenL args) m with
      | false => rw [hb] at hst; cases hst
      | true => exact ⟨_, rfl⟩
    obtain ⟨ks2, h2⟩ := this
    obtain ⟨todo, m, he, h3⟩ := enterK_spec h2
    refine ⟨todo, m, ?_, h3⟩
    unfold startK at hst
    unfold enterK at h2
    split at hst
    case h_2 => cases hst
    rename_i todo2 m2 he2
    rw [he2] at h2
    simp only at h2
    cases hb : Nat.ble (lenL args) m2 with
    | false => rw [hb] at hst; cases hst
    | true =>
      rw [hb] at hst h2
      cases hst
      cases h2
      cases he
      rfl
  obtain ⟨todo, q, rfl, hent⟩ := hent
  have hS : KSim E N w0 cs ρ (.k nx f q (TT.ofArgs args) todo [] H) (lone (Frame.enter E.P f x' .normal) cs w) := ⟨(by simp), _, [], w, rfl, FR.enter hx hent, trivial, hH⟩
  obtain ⟨σ, m', h1, h2, st, h3, h4, rfl, h5⟩ := kgo_sim ok hmix n hG hS hrun
  have har : arun E f 1 st = some (v, st.H) := by
    unfold arun
    rw [if_pos h3, h4]
    rfl
  obtain ⟨τ, fr2, w', v', q1, q2, q3, q4, q5, q6⟩ := arun_sim ok hmix 1 (hG.mono h1) h5 har
  exact ⟨.returned v', w', fr2, ⟨τ, v', rfl, Ren.le_trans h1 q1, q5, q6⟩, h2.trans q2, q3, q4⟩

end
end Go.Ev
