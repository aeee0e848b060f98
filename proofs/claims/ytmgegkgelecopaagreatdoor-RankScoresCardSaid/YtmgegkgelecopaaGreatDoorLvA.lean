import Derived.Test.YtmgegkgelecopaaGreatDoorFaJ
import Derived.Test.YtmgegkgelecopaaGreatDoorEvZE
import Derived.Test.YtmgegkgelecopaaGreatDoorRows
import Derived.Laws.StandIn
import Derived.ProofKit
import Derived.Deep.DeepHandedRow
import Derived.Lib.LaidTab
set_option maxRecDepth 100000
namespace Go.Proofs.YtmgegkgelecopaaGreatDoor.Lv
open Go.Ev Go.RowKit Go.ChangeShapes Go.WideShapes Go.ChangeAt

/-! A program whose one variable is the table of math/bits. -/
def ext (_ : Nat) : Option Ext := none
noncomputable def E : Env := { P := Tryz.prog, G := 1, callOK := hasBody Tryz.prog, ext }

theorem okay : okayB Tryz.prog = true := by kernel_rfl
theorem names : namesOK Tryz.prog = true := by kernel_rfl
theorem mix : Tryz.prog.follows .mixedOrders = true := by kernel_rfl
theorem envOK : EnvOK E where
  ok := Okay.of_check okay
  call := call_of_check names
  same := fun g h => by cases h
  index := fun g h x w => by cases h

/-- The table. -/
def tab : List Int := [0, 1, 56, 2, 57, 49, 28, 3, 61, 58, 42, 50, 38, 29, 17, 4, 62, 47, 59, 36, 45, 43, 51, 22, 53, 39, 33, 30, 24, 18, 12, 5, 63, 55, 48, 27, 60, 41, 37, 16, 46, 35, 44, 21, 52, 32, 23, 11, 54, 26, 40, 15, 34, 20, 31, 10, 25, 14, 19, 9, 13, 8, 7, 6]
def tabVals : Array Value := (tab.map (Value.int .u8)).toArray

theorem gOps : Tryz.prog.globalNamed "math/bits.deBruijn64tab" = some 0 := by kernel_rfl
theorem gOpsType : (Tryz.prog.globals[0]?).map (·.type) = some 159 := by kernel_rfl
theorem cells_159 : Tryz.prog.cellsOf 159 = 64 := by kernel_rfl
theorem cells9 : Tryz.prog.cellsOf 5 = 1 := by kernel_rfl

noncomputable def H0 (e : TypeId) : AHeap := { next := 1, blks := .node .leaf (some { obj := .cells tabVals e (0, 0), root := 0, org := 0, ro := true, sz := 0 }) .leaf, grps := .leaf }
def ren : Ren := { n := 1, f := fun _ => ⟨0, 0, 0, 64⟩, on := fun i => i = 0, lt := fun i h => by omega }

theorem H0_blk (e : TypeId) {i : Nat} {b : ABlk} (h : (H0 e).blk i = some b) : i = 0 ∧ b = { obj := .cells tabVals e (0, 0), root := 0, org := 0, ro := true, sz := 0 } := by
  unfold H0 AHeap.blk at h
  simp only [Trie.get] at h
  split at h
  · rename_i q; cases h; exact ⟨q, rfl⟩
  · split at h <;> cases h

theorem start_HR {W : World} {e : TypeId} (h : W.heap[0]? = some (.cells tabVals e (0, 0))) : HR W.heap.size (bare W) ren (H0 e) W := by
  have hlt : 0 < W.heap.size := (Array.getElem?_eq_some_iff.1 h).1
  refine ⟨rfl, Nat.le_refl _, Below.refl _ _, ?_, ?_, ?_, ?_, ?_, ?_, ?_, ?_, ?_, ?_⟩
  · intro i _; exact hlt
  · intro i b hb; obtain ⟨rfl, _⟩ := H0_blk e hb; exact Nat.one_pos
  · intro i b c e2 fr _ hb ho
    obtain ⟨rfl, rfl⟩ := H0_blk e hb
    cases ho
    refine ⟨tabVals, e, (0, 0), h, rfl, ?_, rfl, rfl, fun _ => ⟨rfl, rfl⟩⟩
    intro j v hj
    refine ⟨v, hj, ?_⟩
    have hall : tabVals.toList.all (plainV 20) = true := by decide
    rw [List.all_eq_true] at hall
    exact plainV.sound ren 20 v (hall v (Array.mem_toList_iff.2 (Array.mem_of_getElem? hj)))
  · intro i b _ hb hn
    obtain ⟨rfl, rfl⟩ := H0_blk e hb
    cases hn
  · intro i b _ hb hr
    obtain ⟨rfl, rfl⟩ := H0_blk e hb
    cases hr
  · intro i b _ hb _; exact hlt
  · intro i j bi bj _ _ hi hj hne
    obtain ⟨rfl, _⟩ := H0_blk e hi
    obtain ⟨rfl, _⟩ := H0_blk e hj
    exact absurd rfl hne
  · intro i b _ hb hr
    obtain ⟨rfl, rfl⟩ := H0_blk e hb
    cases hr
  · intro i b hb
    obtain ⟨rfl, rfl⟩ := H0_blk e hb
    exact Nat.one_pos
  · intro i hi; exact hi.elim

theorem start_GR : GR E.G ren := by
  intro g hg
  have : g = 0 := by
    have : g < 1 := hg
    omega
  subst this
  exact ⟨rfl, rfl, rfl⟩

/-- Whether it has come to true. -/
def isTrue (f : FuncId) : Option KS → Bool
  | some (.done g (.bool true) _) => Nat.beq f g
  | _ => false

theorem isTrue_spec {f : FuncId} {x : Option KS} (h : isTrue f x = true) : ∃ H, x = some (.done f (.bool true) H) := by
  unfold isTrue at h
  split at h
  case h_2 => cases h
  rename_i g H
  have := Nat.eq_of_beq_eq_true h
  subst this
  exact ⟨H, rfl⟩

/-- The block of the table. -/
def blk0 (e : TypeId) : ABlk := { obj := .cells tabVals e (0, 0), root := 0, org := 0, ro := true, sz := 0 }

/-- A call of a function without arguments. -/
noncomputable def st0 (f : FuncId) (m : Nat) (e : TypeId) : KS := .k nx f m (TT.ofArgs []) (tdAt E f []) [] (H0 e)

noncomputable def tA (f : Nat) (p : List Nat) : List Item := tdAt E f p
noncomputable def oA (f : Nat) (p : List Nat) : Array Oper := opsAt E f p
noncomputable def kA' (f : Nat) (p : List Nat) : List Item := kAt E f p
noncomputable def iA (f : Nat) (p r : List Nat) : List Item := .inRegion (opsAt E f p) r :: kAt E f p

/-- A run that comes to true. -/
def Lives (f : FuncId) (m : Nat) : Prop := ∀ e, ∃ H, KTo E (st0 f m e) (.done f (.bool true) H)

theorem Lives.last {f : FuncId} {a : KS} {n : Nat} (h : isTrue f (kgo E n a) = true) : ∃ H, KTo E a (.done f (.bool true) H) := by
  obtain ⟨H, hk⟩ := isTrue_spec h
  exact ⟨H, KTo.go envOK mix hk⟩

theorem Lives.calls {f : FuncId} {m : Nat} (h : Lives f m) (hs : ∀ e, startK E f [] (H0 e) = some (st0 f m e)) {W : World} (hL : ∃ e, W.heap[0]? = some (.cells tabVals e (0, 0))) :
    Calls Tryz.prog f #[] W fun x W' => x = .returned (.bool true) ∧ Below W.heap.size W W' := by
  obtain ⟨e, he⟩ := hL
  obtain ⟨H, hk⟩ := h e
  have := KTo.calls (w := W) (x' := #[]) envOK mix start_GR (start_HR he) (AsR.nil ren) (hs e) hk
  refine this.mono ?_
  rintro x W' ⟨σ, v', rfl, _, hv, hH⟩
  cases hv
  exact ⟨rfl, hH.below⟩

end Go.Proofs.YtmgegkgelecopaaGreatDoor.Lv
