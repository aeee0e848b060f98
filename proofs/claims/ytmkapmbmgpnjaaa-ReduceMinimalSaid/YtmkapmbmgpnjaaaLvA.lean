import Derived.Test.YtmkapmbmgpnjaaaFaJ
import Derived.Test.YtmkapmbmgpnjaaaEvZE
import Derived.Test.YtmkapmbmgpnjaaaRows
import Derived.Laws.StandIn
import Derived.ProofKit
set_option maxRecDepth 100000
namespace Go.Proofs.Ytmkapmbmgpnjaaa.Lv
open Go.Ev Go.RowKit Go.ChangeShapes Go.WideShapes Go.ChangeAt

/-! A program whose laws list no variable: a run from an empty heap. -/
def ext (_ : Nat) : Option Ext := none
noncomputable def E : Env := { P := Try.prog, G := 0, callOK := hasBody Try.prog, ext }

theorem okay : okayB Try.prog = true := by kernel_rfl
theorem names : namesOK Try.prog = true := by kernel_rfl
theorem mix : Try.prog.follows .mixedOrders = true := by kernel_rfl
theorem envOK : EnvOK E where
  ok := Okay.of_check okay
  call := call_of_check names
  same := fun g h => by cases h
  index := fun g h x w => by cases h
  entry := fun g k h x w => by cases h
  room := fun g e h n hn w => by cases h

noncomputable def H0 (_ : TypeId) : AHeap := { next := 0, blks := .leaf, grps := .leaf }
def ren : Ren := { n := 0, f := fun _ => ⟨0, 0, 0, 0⟩, on := fun _ => False, lt := fun _ h => h.elim }
theorem H0_blk (e : TypeId) {i : Nat} {b : ABlk} (h : (H0 e).blk i = some b) : False := by
  unfold H0 AHeap.blk at h
  simp [Trie.get] at h
theorem start_HR (W : World) (e : TypeId) : HR W.heap.size (bare W) ren (H0 e) W := by
  refine ⟨rfl, Nat.le_refl _, Below.refl _ _, ?_, ?_, ?_, ?_, ?_, ?_, ?_, ?_, ?_, ?_⟩
  · intro i h; exact h.elim
  · intro i b hb; exact (H0_blk e hb).elim
  · intro i b c e2 fr h; exact h.elim
  · intro i b h; exact h.elim
  · intro i b h; exact h.elim
  · intro i b h; exact h.elim
  · intro i j bi bj h; exact h.elim
  · intro i b h; exact h.elim
  · intro i b hb; exact (H0_blk e hb).elim
  · intro i hi; exact hi.elim
theorem start_GR : GR E.G ren := fun g hg => absurd hg (Nat.not_lt_zero g)

/-- Whether it has come to true. -/
def isTrue (f : FuncId) : Option KS → Bool
  | some (.done g (.bool true) _) => Nat.beq f g
  | _ => false
theorem isTrue_spec {f : FuncId} {x : Option KS} (h : isTrue f x = true) : ∃ H, x = some (.done f (.bool true) H) := by
  unfold isTrue at h
  split at h
  case h_2 => cases h
  rename_i g H
  have := Nat.eq_of_beq_eq_true h
  subst this
  exact ⟨H, rfl⟩

/-- A call of a function without arguments. -/
noncomputable def st0 (f : FuncId) (m : Nat) (e : TypeId) : KS := .k nx f m (TT.ofArgs []) (tdAt E f []) [] (H0 e)
noncomputable def tA (f : Nat) (p : List Nat) : List Item := tdAt E f p
noncomputable def oA (f : Nat) (p : List Nat) : Array Oper := opsAt E f p
noncomputable def kA' (f : Nat) (p : List Nat) : List Item := kAt E f p
noncomputable def iA (f : Nat) (p r : List Nat) : List Item := .inRegion (opsAt E f p) r :: kAt E f p

/-- A run that comes to true. -/
def Lives (f : FuncId) (m : Nat) : Prop := ∀ e, ∃ H, KTo E (st0 f m e) (.done f (.bool true) H)
theorem Lives.last {f : FuncId} {a : KS} {n : Nat} (h : isTrue f (kgo E n a) = true) : ∃ H, KTo E a (.done f (.bool true) H) := by
  obtain ⟨H, hk⟩ := isTrue_spec h
  exact ⟨H, KTo.go envOK mix hk⟩
theorem Lives.calls {f : FuncId} {m : Nat} (h : Lives f m) (hs : ∀ e, startK E f [] (H0 e) = some (st0 f m e)) (W : World) :
    Calls Try.prog f #[] W fun x W' => x = .returned (.bool true) ∧ Below W.heap.size W W' := by
  obtain ⟨H, hk⟩ := h 0
  have := KTo.calls (w := W) (x' := #[]) envOK mix start_GR (start_HR W 0) (AsR.nil ren) (hs 0) hk
  refine this.mono ?_
  rintro x W' ⟨σ, v', rfl, _, hv, hH⟩
  cases hv
  exact ⟨rfl, hH.below⟩
end Go.Proofs.Ytmkapmbmgpnjaaa.Lv
