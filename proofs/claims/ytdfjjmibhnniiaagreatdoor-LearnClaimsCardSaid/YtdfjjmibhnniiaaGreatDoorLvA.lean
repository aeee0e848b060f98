import Derived.Test.YtdfjjmibhnniiaaGreatDoorFaJ
import Derived.Test.YtdfjjmibhnniiaaGreatDoorEvZE
import Derived.Test.YtdfjjmibhnniiaaGreatDoorRows
import Derived.Laws.StandIn
import Derived.ProofKit
import Derived.Deep.DeepHandedRow
import Derived.Lib.LaidTab
import Derived.Lib.MakeNoZero
set_option maxRecDepth 100000
namespace Go.Proofs.YtdfjjmibhnniiaaGreatDoor.Lv
open Go.Ev Go.RowKit Go.ChangeShapes Go.WideShapes Go.ChangeAt

/-! A program of whose variables the run reads the powers of ten alone. -/
def ext (g : Nat) : Option Ext := if g = 135 then some (.entry 0) else if g = 178 then some .indexByte else if g = 232 then some .same else if g = 233 then some (.room 5) else none
noncomputable def E : Env := { P := Tryz.prog, G := 5 + 1, callOK := hasBody Tryz.prog, ext }

theorem okay : okayB Tryz.prog = true := by kernel_rfl
theorem names : namesOK Tryz.prog = true := by kernel_rfl
theorem mix : Tryz.prog.follows .mixedOrders = true := by kernel_rfl
theorem nameIB : (Tryz.f178.name == "runtime.NumGoroutine") = false := by kernel_rfl
theorem bodyIB : Tryz.f178.body.isNone = true := by kernel_rfl
theorem nextIB : Extern.findNext Tryz.f178 = none := by kernel_rfl
theorem findIB : Extern.find Tryz.f178 = some Extern.BytealgIndexByte.indexByte := by kernel_rfl
theorem nameCS : (Tryz.f135.name == "runtime.NumGoroutine") = false := by kernel_rfl
theorem bodyCS : Tryz.f135.body.isNone = true := by kernel_rfl
theorem nextCS : Extern.findNext Tryz.f135 = none := by kernel_rfl
theorem findCS : Extern.find Tryz.f135 = some Extern.BytealgCount.count := by kernel_rfl
theorem nameNE : (Tryz.f232.name == "runtime.NumGoroutine") = false := by kernel_rfl
theorem bodyNE : Tryz.f232.body.isNone = true := by kernel_rfl
theorem nextNE : Extern.findNext Tryz.f232 = none := by kernel_rfl
theorem findNE : Extern.find Tryz.f232 = some Extern.AbiNoEscape.same := by kernel_rfl
theorem nameMZ : (Tryz.f233.name == "runtime.NumGoroutine") = false := by kernel_rfl
theorem bodyMZ : Tryz.f233.body.isNone = true := by kernel_rfl
theorem nextMZ : Extern.findNext Tryz.f233 = none := by kernel_rfl
theorem findMZ : Extern.find Tryz.f233 = some (Extern.BytealgMakeNoZero.makeNoZero Tryz.f233.params Tryz.f233.resultTypes) := by kernel_rfl
theorem resMZ : Tryz.f233.resultTypes = #[249] := by kernel_rfl
theorem same_run (v : Value) (w : World) : (callFunc 232 #[v]).run Tryz.prog w = .ok (.value v) w := by
  rw [run_callFunc_standIn Tryz.func232 nameNE bodyNE nextNE findNE #[v] w]
  rfl
theorem room_run (n : Nat) (hn : n ≤ 1099511627776) (w : World) : ∃ (cs : Array Value) (d : Nat), (callFunc 233 #[.int .i64 n]).run Tryz.prog w = .ok (.value (.slice (some ⟨w.heap.size, 0, none⟩) n cs.size)) ({ w with drawn := d, heap := w.heap.push (.cells cs 5 (0, 0)) } : World) ∧ n ≤ cs.size := by
  obtain ⟨cs, h1, h2, _⟩ := Lib.run_makeNoZero (P := Tryz.prog) w Tryz.f233.params 249 5 Tryz.underlying249 n (by omega)
  refine ⟨cs, w.drawn + 1 + 1, ?_, h2⟩
  rw [run_callFunc_standIn Tryz.func233 nameMZ bodyMZ nextMZ findMZ #[.int .i64 n] w, resMZ, h1]
  rfl

theorem envOK : EnvOK E where
  ok := Okay.of_check okay
  call := call_of_check names
  same := fun g h => by
    have h : ext g = some .same := h
    unfold ext at h
    intro v w
    split at h
    · cases h
    split at h
    · cases h
    split at h
    · rename_i hg
      subst hg
      exact same_run v w
    split at h <;> cases h
  index := fun g h x w => by
    have h : ext g = some .indexByte := h
    unfold ext at h
    split at h
    · cases h
    split at h
    · rename_i hg
      subst hg
      show (callFunc 178 x).run Tryz.prog w = (Extern.BytealgIndexByte.indexByte x >>= fun v => Pure.pure (Next.value v) : Sem Next).run Tryz.prog w
      rw [run_callFunc_standIn Tryz.func178 nameIB bodyIB nextIB findIB x w, Sem.run_bind]
      cases (Extern.BytealgIndexByte.indexByte x).run Tryz.prog w <;> rfl
    split at h
    · cases h
    split at h <;> cases h
  entry := fun g k h x w => by
    have h : ext g = some (.entry k) := h
    unfold ext at h
    split at h
    · rename_i hg
      subst hg
      cases h
      show (callFunc 135 x).run Tryz.prog w = (Extern.BytealgCount.count x >>= fun v => Pure.pure (Next.value v) : Sem Next).run Tryz.prog w
      rw [run_callFunc_standIn Tryz.func135 nameCS bodyCS nextCS findCS x w, Sem.run_bind]
      cases (Extern.BytealgCount.count x).run Tryz.prog w <;> rfl
    split at h
    · cases h
    split at h
    · cases h
    split at h <;> cases h
  room := fun g e h n hn w => by
    have h : ext g = some (.room e) := h
    unfold ext at h
    split at h
    · cases h
    split at h
    · cases h
    split at h
    · cases h
    split at h
    · rename_i hg
      subst hg
      cases h
      exact room_run n hn w
    · cases h

/-- The table. -/
def tab : List Int := [1, 10, 100, 1000, 10000, 100000, 1000000, 10000000, 100000000, 1000000000, 10000000000, 100000000000, 1000000000000, 10000000000000, 100000000000000, 1000000000000000, 10000000000000000, 100000000000000000, 1000000000000000000, 10000000000000000000]
def tabVals : Array Value := (tab.map (Value.int .u64)).toArray

theorem gOps : Tryz.prog.globalNamed "internal/strconv.uint64pow10" = some 5 := by kernel_rfl
theorem gOpsType : (Tryz.prog.globals[5]?).map (·.type) = some 270 := by kernel_rfl
theorem cells_tab : Tryz.prog.cellsOf 270 = 20 := by kernel_rfl
theorem cells_one : Tryz.prog.cellsOf 132 = 1 := by kernel_rfl

/-- The block of the table. -/
def blk0 (e : TypeId) : ABlk := { obj := .cells tabVals e (0, 0), root := 5, org := 0, ro := true, sz := 0 }
noncomputable def H0 (e : TypeId) : AHeap := { next := 5 + 1, blks := Trie.leaf.set 5 (blk0 e), grps := .leaf }
def ren : Ren := { n := 5 + 1, f := fun i => ⟨i, 0, 0, 20⟩, on := fun i => i < 5 + 1, lt := fun _ h => h }

theorem H0_blk (e : TypeId) {i : Nat} {b : ABlk} (h : (H0 e).blk i = some b) : i = 5 ∧ b = blk0 e := by
  unfold H0 AHeap.blk at h
  rw [Trie.get_set] at h
  split at h
  · rename_i q; cases h; exact ⟨q, rfl⟩
  · cases h

theorem start_HR {W : World} {e : TypeId} (h : W.heap[5]? = some (.cells tabVals e (0, 0))) : HR W.heap.size (bare W) ren (H0 e) W := by
  have hlt : 5 < W.heap.size := (Array.getElem?_eq_some_iff.1 h).1
  refine ⟨rfl, Nat.le_refl _, Below.refl _ _, ?_, ?_, ?_, ?_, ?_, ?_, ?_, ?_, ?_, ?_⟩
  · intro i hi
    have hi : i < 5 + 1 := hi
    show i < W.heap.size
    omega
  · intro i b hb; obtain ⟨rfl, _⟩ := H0_blk e hb; exact Nat.lt_succ_self _
  · intro i b c e2 fr _ hb ho
    obtain ⟨rfl, rfl⟩ := H0_blk e hb
    cases ho
    refine ⟨tabVals, e, (0, 0), h, rfl, ?_, rfl, rfl, fun _ => ⟨rfl, rfl⟩⟩
    intro j v hj
    refine ⟨v, hj, ?_⟩
    have hall : tabVals.toList.all (plainV 20) = true := by decide
    rw [List.all_eq_true] at hall
    exact plainV.sound ren 20 v (hall v (Array.mem_toList_iff.2 (Array.mem_of_getElem? hj)))
  · intro i b _ hb hn
    obtain ⟨rfl, rfl⟩ := H0_blk e hb
    cases hn
  · intro i b _ hb hr
    obtain ⟨rfl, rfl⟩ := H0_blk e hb
    cases hr
  · intro i b _ hb _; obtain ⟨rfl, rfl⟩ := H0_blk e hb; exact hlt
  · intro i j bi bj _ _ hi hj hne
    obtain ⟨rfl, _⟩ := H0_blk e hi
    obtain ⟨rfl, _⟩ := H0_blk e hj
    exact absurd rfl hne
  · intro i b _ hb hr
    obtain ⟨rfl, rfl⟩ := H0_blk e hb
    cases hr
  · intro i b hb
    obtain ⟨rfl, rfl⟩ := H0_blk e hb
    exact Nat.lt_succ_self _
  · intro i hi; exact hi.elim

theorem start_GR : GR E.G ren := fun _ hg => ⟨hg, rfl, rfl⟩

/-- Whether it has come to true. -/
def isTrue (f : FuncId) : Option KS → Bool
  | some (.done g (.bool true) _) => Nat.beq f g
  | _ => false

theorem isTrue_spec {f : FuncId} {x : Option KS} (h : isTrue f x = true) : ∃ H, x = some (.done f (.bool true) H) := by
  unfold isTrue at h
  split at h
  case h_2 => cases h
  rename_i g H
  have := Nat.eq_of_beq_eq_true h
  subst this
  exact ⟨H, rfl⟩

/-- A call of a function without arguments. -/
noncomputable def st0 (f : FuncId) (m : Nat) (e : TypeId) : KS := .k nx f m (TT.ofArgs []) (tdAt E f []) [] (H0 e)

noncomputable def tA (f : Nat) (p : List Nat) : List Item := tdAt E f p
noncomputable def oA (f : Nat) (p : List Nat) : Array Oper := opsAt E f p
noncomputable def kA' (f : Nat) (p : List Nat) : List Item := kAt E f p
noncomputable def iA (f : Nat) (p r : List Nat) : List Item := .inRegion (opsAt E f p) r :: kAt E f p

/-- A run that comes to true. -/
def Lives (f : FuncId) (m : Nat) : Prop := ∀ e, ∃ H, KTo E (st0 f m e) (.done f (.bool true) H)

theorem Lives.last {f : FuncId} {a : KS} {n : Nat} (h : isTrue f (kgo E n a) = true) : ∃ H, KTo E a (.done f (.bool true) H) := by
  obtain ⟨H, hk⟩ := isTrue_spec h
  exact ⟨H, KTo.go envOK mix hk⟩

theorem Lives.calls {f : FuncId} {m : Nat} (h : Lives f m) (hs : ∀ e, startK E f [] (H0 e) = some (st0 f m e)) {W : World} (hL : ∃ e, W.heap[5]? = some (.cells tabVals e (0, 0))) :
    Calls Tryz.prog f #[] W fun x W' => x = .returned (.bool true) ∧ Below W.heap.size W W' := by
  obtain ⟨e, he⟩ := hL
  obtain ⟨H, hk⟩ := h e
  have := KTo.calls (w := W) (x' := #[]) envOK mix start_GR (start_HR he) (AsR.nil ren) (hs e) hk
  refine this.mono ?_
  rintro x W' ⟨σ, v', rfl, _, hv, hH⟩
  cases hv
  exact ⟨rfl, hH.below⟩

end Go.Proofs.YtdfjjmibhnniiaaGreatDoor.Lv
