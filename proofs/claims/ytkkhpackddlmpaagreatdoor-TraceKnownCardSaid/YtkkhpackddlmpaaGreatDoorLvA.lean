import Derived.Test.YtkkhpackddlmpaaGreatDoorFaJ
import Derived.Test.YtkkhpackddlmpaaGreatDoorEvZE
import Derived.Test.YtkkhpackddlmpaaGreatDoorRows
import Derived.Laws.StandIn
import Derived.ProofKit
import Derived.Deep.DeepHandedRow
import Derived.Lib.LaidTab
set_option maxRecDepth 100000
namespace Go.Proofs.YtkkhpackddlmpaaGreatDoor.Lv
open Go.Ev Go.RowKit Go.ChangeShapes Go.WideShapes Go.ChangeAt

def ext (g : Nat) : Option Ext := if g = 235 then some .indexByte else none
noncomputable def E : Env := { P := Tryz.prog, G := 1, callOK := hasBody Tryz.prog, ext }

theorem okay : okayB Tryz.prog = true := by kernel_rfl
theorem names : namesOK Tryz.prog = true := by kernel_rfl
theorem mix : Tryz.prog.follows .mixedOrders = true := by kernel_rfl
theorem nameIB : (Tryz.f235.name == "runtime.NumGoroutine") = false := by kernel_rfl
theorem bodyIB : Tryz.f235.body.isNone = true := by kernel_rfl
theorem nextIB : Extern.findNext Tryz.f235 = none := by kernel_rfl
theorem findIB : Extern.find Tryz.f235 = some Extern.BytealgIndexByte.indexByte := by kernel_rfl


theorem envOK : EnvOK E where
  ok := Okay.of_check okay
  call := call_of_check names
  same := fun g h => by
    have h : ext g = some .same := h
    unfold ext at h
    split at h <;> cases h
  index := fun g h x w => by
    have h : ext g = some .indexByte := h
    unfold ext at h
    split at h
    case isFalse => cases h
    rename_i hg
    subst hg
    show (callFunc 235 x).run Tryz.prog w = (Extern.BytealgIndexByte.indexByte x >>= fun v => Pure.pure (Next.value v) : Sem Next).run Tryz.prog w
    rw [run_callFunc_indexByte Tryz.func235 nameIB bodyIB nextIB findIB x w, Sem.run_bind]
    cases (Extern.BytealgIndexByte.indexByte x).run Tryz.prog w <;> rfl

/-- The operators, one behind the other. -/
def strs : List (List UInt8) := [[43], [45], [42], [47], [37], [61, 61], [33, 61], [60], [60, 61], [62], [62, 61], [38], [124]]
def strVals : Array Value := #[.string ⟨#[43]⟩, .string ⟨#[45]⟩, .string ⟨#[42]⟩, .string ⟨#[47]⟩, .string ⟨#[37]⟩, .string ⟨#[61, 61]⟩, .string ⟨#[33, 61]⟩, .string ⟨#[60]⟩, .string ⟨#[60, 61]⟩, .string ⟨#[62]⟩, .string ⟨#[62, 61]⟩, .string ⟨#[38]⟩, .string ⟨#[124]⟩]

theorem cells_of_strs {H : Type} {enc : TypeId × Value → H} {P : Program} {w : World} {base : Nat} {sp : Nat → Bool} {held : Bool} {fuel : Nat} {t e : TypeId} {n : Nat} {cs : List Value} {zs : List (List UInt8)} {p : List MemPlace}
    (ht : P.underlying t = some (.array n e)) (he : P.underlying e = some .string) (hce : P.cellsOf e = 1) (hct : P.cellsOf t = n)
    (h : DataW.trod enc P w base sp held fuel t cs = some (.agg (zs.map fun z => .lit (.string z)), p)) : cs = zs.map fun z => Value.string ⟨z.toArray⟩ := by
  cases fuel with
  | zero => simp [DataW.trod] at h
  | succ fuel =>
    simp only [DataW.trod, ht, hce, hct, Nat.mul_one] at h
    split at h
    · rename_i hl
      obtain ⟨xs, hm, hx⟩ := Option.map_eq_some_iff.1 h
      have hxs : xs.map (·.1) = zs.map fun z => (DataW.lit (.string z) : DataW H) := by
        have := congrArg Prod.fst hx
        simpa using this
      have hxl : xs.length = n := by simpa using Lib.mapM_length hm
      have hzl : zs.length = n := by
        have := congrArg List.length hxs
        simp at this
        omega
      apply List.ext_getElem?
      intro i
      by_cases hi : i < n
      · obtain ⟨b, hb, hf⟩ := Lib.mapM_at hm i i (by simp [hi])
        obtain ⟨z, hc, rfl, _⟩ := DataW.trod_string he hf
        have h1 : cs[i]? = some (.string z) := by
          have := congrArg (·[0]?) hc
          simpa [List.getElem?_take, List.getElem?_drop] using this
        have h2 : (xs.map (·.1))[i]? = some (DataW.lit (.string z.data.toList) : DataW H) := by simp [hb]
        rw [hxs] at h2
        simp only [List.getElem?_map, Option.map_eq_some_iff, DataW.lit.injEq, Lit.string.injEq] at h2
        obtain ⟨z', hz', e⟩ := h2
        rw [h1, List.getElem?_map, hz', e]
        cases z
        simp
      · rw [List.getElem?_eq_none (by omega), List.getElem?_eq_none (by simp; omega)]
    · cases h

theorem gOps : Tryz.prog.globalNamed "sleuth/lang.operators" = some 0 := by kernel_rfl
theorem gOpsType : (Tryz.prog.globals[0]?).map (·.type) = some 390 := by kernel_rfl
theorem cells_390 : Tryz.prog.cellsOf 390 = 13 := by kernel_rfl
theorem cells9 : Tryz.prog.cellsOf 9 = 1 := by kernel_rfl

noncomputable def H0 (e : TypeId) : AHeap := { next := 1, blks := .node .leaf (some { obj := .cells strVals e (0, 0), root := 0, org := 0, ro := true, sz := 0 }) .leaf, grps := .leaf }
def ren : Ren := { n := 1, f := fun _ => ⟨0, 0, 0, 13⟩, on := fun i => i = 0, lt := fun i h => by omega }

theorem H0_blk (e : TypeId) {i : Nat} {b : ABlk} (h : (H0 e).blk i = some b) : i = 0 ∧ b = { obj := .cells strVals e (0, 0), root := 0, org := 0, ro := true, sz := 0 } := by
  unfold H0 AHeap.blk at h
  simp only [Trie.get] at h
  split at h
  · rename_i q; cases h; exact ⟨q, rfl⟩
  · split at h <;> cases h

theorem start_HR {W : World} {e : TypeId} (h : W.heap[0]? = some (.cells strVals e (0, 0))) : HR W.heap.size (bare W) ren (H0 e) W := by
  have hlt : 0 < W.heap.size := (Array.getElem?_eq_some_iff.1 h).1
  refine ⟨rfl, Nat.le_refl _, Below.refl _ _, ?_, ?_, ?_, ?_, ?_, ?_, ?_, ?_, ?_, ?_⟩
  · intro i _; exact hlt
  · intro i b hb; obtain ⟨rfl, _⟩ := H0_blk e hb; exact Nat.one_pos
  · intro i b c e2 fr _ hb ho
    obtain ⟨rfl, rfl⟩ := H0_blk e hb
    cases ho
    refine ⟨strVals, e, (0, 0), h, rfl, ?_, rfl, rfl, fun _ => ⟨rfl, rfl⟩⟩
    intro j v hj
    refine ⟨v, hj, ?_⟩
    have hall : strVals.toList.all (plainV 20) = true := by decide
    rw [List.all_eq_true] at hall
    exact plainV.sound ren 20 v (hall v (Array.mem_toList_iff.2 (Array.mem_of_getElem? hj)))
  · intro i b _ hb hn
    obtain ⟨rfl, rfl⟩ := H0_blk e hb
    cases hn
  · intro i b _ hb hr
    obtain ⟨rfl, rfl⟩ := H0_blk e hb
    cases hr
  · intro i b _ hb _; exact hlt
  · intro i j bi bj _ _ hi hj hne
    obtain ⟨rfl, _⟩ := H0_blk e hi
    obtain ⟨rfl, _⟩ := H0_blk e hj
    exact absurd rfl hne
  · intro i b _ hb hr
    obtain ⟨rfl, rfl⟩ := H0_blk e hb
    cases hr
  · intro i b hb
    obtain ⟨rfl, rfl⟩ := H0_blk e hb
    exact Nat.one_pos
  · intro i hi; exact hi.elim

theorem start_GR : GR E.G ren := by
  intro g hg
  have : g = 0 := by
    have : g < 1 := hg
    omega
  subst this
  exact ⟨rfl, rfl, rfl⟩

/-- Whether it has come to true. -/
def isTrue (f : FuncId) : Option KS → Bool
  | some (.done g (.bool true) _) => Nat.beq f g
  | _ => false

theorem isTrue_spec {f : FuncId} {x : Option KS} (h : isTrue f x = true) : ∃ H, x = some (.done f (.bool true) H) := by
  unfold isTrue at h
  split at h
  case h_2 => cases h
  rename_i g H
  have := Nat.eq_of_beq_eq_true h
  subst this
  exact ⟨H, rfl⟩

/-- The block of the operators. -/
def blk0 (e : TypeId) : ABlk := { obj := .cells strVals e (0, 0), root := 0, org := 0, ro := true, sz := 0 }

/-- A call of a function without arguments. -/
noncomputable def st0 (f : FuncId) (m : Nat) (e : TypeId) : KS := .k nx f m (TT.ofArgs []) (tdAt E f []) [] (H0 e)

noncomputable def tA (f : Nat) (p : List Nat) : List Item := tdAt E f p
noncomputable def oA (f : Nat) (p : List Nat) : Array Oper := opsAt E f p
noncomputable def kA' (f : Nat) (p : List Nat) : List Item := kAt E f p
noncomputable def iA (f : Nat) (p r : List Nat) : List Item := .inRegion (opsAt E f p) r :: kAt E f p

/-- A run that comes to true. -/
def Lives (f : FuncId) (m : Nat) : Prop := ∀ e, ∃ H, KTo E (st0 f m e) (.done f (.bool true) H)

theorem Lives.last {f : FuncId} {a : KS} {n : Nat} (h : isTrue f (kgo E n a) = true) : ∃ H, KTo E a (.done f (.bool true) H) := by
  obtain ⟨H, hk⟩ := isTrue_spec h
  exact ⟨H, KTo.go envOK mix hk⟩

theorem Lives.calls {f : FuncId} {m : Nat} (h : Lives f m) (hs : ∀ e, startK E f [] (H0 e) = some (st0 f m e)) {W : World} (hL : ∃ e, W.heap[0]? = some (.cells strVals e (0, 0))) :
    Calls Tryz.prog f #[] W fun x W' => x = .returned (.bool true) ∧ Below W.heap.size W W' := by
  obtain ⟨e, he⟩ := hL
  obtain ⟨H, hk⟩ := h e
  have := KTo.calls (w := W) (x' := #[]) envOK mix start_GR (start_HR he) (AsR.nil ren) (hs e) hk
  refine this.mono ?_
  rintro x W' ⟨σ, v', rfl, _, hv, hH⟩
  cases hv
  exact ⟨rfl, hH.below⟩

end Go.Proofs.YtkkhpackddlmpaaGreatDoor.Lv
