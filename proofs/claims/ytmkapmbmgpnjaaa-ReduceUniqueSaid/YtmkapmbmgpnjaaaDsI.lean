import Derived.Test.YtmkapmbmgpnjaaaDsD
import Derived.Test.YtmkapmbmgpnjaaaDsR
import Derived.Test.YtmkapmbmgpnjaaaRcA
import Derived.Test.YtmkapmbmgpnjaaaDrA
import Derived.RangeFuncNested
import Derived.RangeFuncBound
import Derived.RangeFuncCalls
import Derived.RangeFuncLeaves
import Derived.RangeFuncBox
import Derived.Shelf.Abstract
import Derived.OwnWalkIn
import Derived.TacticsInMore
import Derived.LoopNIn
import Derived.LoopIn
import Derived.Test.YtmkapmbmgpnjaaaGmC
set_option maxRecDepth 100000
namespace Go.Proofs.Ytmkapmbmgpnjaaa.Se
open Go Go.Ms Go.Pg Go.Rc Go.Bi Go.Se Go.ChangeShapes Go.WideShapes Go.ChangeAt Go.RowKit Go.Deep Go.Shelf Go.Proofs.Ytmkapmbmgpnjaaa.Bi

attribute [local go_sem] Oper.semAt_some

def enc (b o cap n : Nat) {c : Nat} (k : Fin c) : Array Value := #[.slice (some ⟨b, o + cut n c k, none⟩) (cut n c (k + 1) - cut n c k) (cap - cut n c k)]

theorem wrap_small {z : Int} (h0 : 0 ≤ z) (h : z ≤ 4000000000000000000) : IntKind.i64.wrap z = z := by
  simp [IntKind.wrap, IntKind.signed, IntKind.bits]
  omega
theorem mul_le {k n : Nat} (hk : k ≤ 1000000) (hn : n ≤ 1000000) : k * n ≤ 1000000000000 := Nat.mul_le_mul hk hn
theorem wrap_mul {k n : Nat} (hk : k ≤ 1000000) (hn : n ≤ 1000000) : IntKind.i64.wrap ((k : Int) * (n : Int)) = (k : Int) * (n : Int) := by
  rw [← Int.natCast_mul]
  have := mul_le hk hn
  exact wrap_small (by omega) (by omega)
theorem wrap_div {k n c : Nat} (hk : k ≤ 1000000) (hn : n ≤ 1000000) : IntKind.i64.wrap (((k : Int) * (n : Int)).tdiv (c : Int)) = (cut n c k : Int) := by
  rw [← Int.natCast_mul, ← Int.ofNat_tdiv]
  have := mul_le hk hn
  have := Nat.div_le_self (k * n) c
  unfold cut
  generalize k * n / c = q at *
  exact wrap_small (by omega) (by omega)

def Kp (B1 B2 : Nat) (w w' : World) : Prop := w'.heap[B1]? = w.heap[B1]? ∧ w'.heap[B2]? = w.heap[B2]?
theorem Kp.refl (B1 B2 : Nat) (w : World) : Kp B1 B2 w w := ⟨rfl, rfl⟩
theorem Kp.trans {B1 B2 : Nat} {a b c : World} (h : Kp B1 B2 a b) (k : Kp B1 B2 b c) : Kp B1 B2 a c := ⟨k.1.trans h.1, k.2.trans h.2⟩
theorem take_fin {c k : Nat} (h : k < c) : (List.finRange c).take (k + 1) = (List.finRange c).take k ++ [⟨k, h⟩] := by
  rw [List.take_succ_eq_append_getElem (by simpa using h)]
  simp

set_option maxHeartbeats 4000000 in
theorem chunks1 {l B1 B2 b o cap n c : Nat} (hcap : n ≤ cap) (hn : n ≤ 1000000) (hc : c ≤ n) (J Jx : List (Fin c) → World → Prop) (Jp : List PanicEntry → World → Prop)
    (hY : ∀ pre x W, J pre W → pre.length < c → pre ++ [x] <+: List.finRange c → YieldAt Fence.wide 2 Try.prog l (enc b o cap n x) W fun e W' => (e = .returned (.bool true) ∧ J (pre ++ [x]) W' ∧ Kp B1 B2 W W') ∨ (e = .returned (.bool false) ∧ Jx (pre ++ [x]) W') ∨ (∃ ch, e = .panicked ch ∧ Jp ch W'))
    (W : World) (h1 : W.cell? ⟨B1, 0, none⟩ = some (.int .i64 c)) (h2 : 0 < c → W.cell? ⟨B2, 0, none⟩ = some (.slice (some ⟨b, o, none⟩) n cap)) (h0 : J [] W) (hd : ∀ pre W, J pre W → J pre W.drew) :
    CallsIn Fence.wide 3 Try.prog 162 #[.func (.yield l) #[] #[], .pointer (some ⟨B1, 0, none⟩), .pointer (some ⟨B2, 0, none⟩)] W fun e W' => ((∃ v, e = .returned v) ∧
      ((∃ ys, ys = List.finRange c ∧ J ys W') ∨ (∃ pre, pre <+: List.finRange c ∧ Jx pre W'))) ∨ (∃ ch, e = .panicked ch ∧ Jp ch W') := by
  refine callsIn_of_wp Try.func162 rfl trivial ?_ rfl
  simp only [Try.ntmps162, List.size_toArray, List.length_cons, List.length_nil, Nat.reduceAdd, Nat.reduceSub, Array.replicate_succ, Array.replicate_zero, List.push_toArray, List.append_toArray, List.nil_append, List.cons_append]
  gi_wp2
  gi_loopw [6] (fun i wr => ∃ k : Nat, k ≤ c ∧ i = .int .i64 (k : Int) ∧ J ((List.finRange c).take k) wr ∧ Kp B1 B2 W wr) (fun i _ => c - (intOf i).toNat)
  case atStart => exact ⟨0, Nat.zero_le _, rfl, by simpa using h0, Kp.refl _ _ _⟩
  case round =>
    obtain ⟨k, hk, rfl, hJ, hB⟩ := hrel
    by_cases hlt : k < c
    · have hk64 : (k : Int) < (c : Int) := by omega
      obtain ⟨fn, tmps, assign, body, hy, hR⟩ := hY _ ⟨k, hlt⟩ wr.drew (hd _ _ hJ) (by simp; omega) (by rw [← take_fin hlt]; exact List.take_prefix _ _)
      have g1 := (World.cell?_of_block (a := ⟨B1, 0, none⟩) hB.1).trans h1
      have g2 := (World.cell?_of_block (a := ⟨B2, 0, none⟩) hB.2).trans (h2 (by omega))
      have hc0 : ¬ c = 0 := by omega
      have hw1 : IntKind.i64.wrap ((k : Int) * (n : Int)) = (k : Int) * (n : Int) := wrap_mul (by omega) hn
      have hw2 : IntKind.i64.wrap ((k : Int) + 1) = (k : Int) + 1 := wrap_small (by omega) (by omega)
      have hw3 : IntKind.i64.wrap (((k : Int) + 1) * (n : Int)) = ((k : Int) + 1) * (n : Int) := wrap_mul (k := k + 1) (by omega) hn
      have hq1 : IntKind.i64.wrap (((k : Int) * (n : Int)).tdiv (c : Int)) = (cut n c k : Int) := wrap_div (by omega) hn
      have hq2 : IntKind.i64.wrap ((((k : Int) + 1) * (n : Int)).tdiv (c : Int)) = (cut n c (k + 1) : Int) := wrap_div (k := k + 1) (by omega) hn
      have hl1 : cut n c k < cut n c (k + 1) := cut_lt (by omega) hc
      have hl2 : cut n c (k + 1) ≤ cap := Nat.le_trans (cut_le (by omega) hlt) hcap
      have hl3 : ¬ cap = cut n c k := by omega
      have hl4 : cut n c k ≤ cut n c (k + 1) := by omega
      gi_wp2
      refine Dr.wpIn_region_head 16 { tmps := #[.func (.yield l) #[] #[], .pointer (some ⟨B1, 0, none⟩), .pointer (some ⟨B2, 0, none⟩), undef, .int .i64 (k : Int), .int .i64 (c : Int), .int .i64 (k : Int), .bool true, .int .i64 (k : Int),
          .func (.yield l) #[] #[], .slice (some ⟨b, o, none⟩) n cap, .int .i64 (k : Int), .slice (some ⟨b, o, none⟩) n cap, .int .i64 (n : Int), .int .i64 ((k * n : Nat) : Int), .int .i64 (c : Int), .int .i64 (cut n c k : Int),
          .int .i64 (k : Int), .int .i64 ((k + 1 : Nat) : Int), .slice (some ⟨b, o, none⟩) n cap, .int .i64 (n : Int), .int .i64 (((k + 1) * n : Nat) : Int), .int .i64 (c : Int), .int .i64 (cut n c (k + 1) : Int),
          .slice (some ⟨b, o + cut n c k, none⟩) (cut n c (k + 1) - cut n c k) (cap - cut n c k), u25, u26, u27], defers := [] } rfl (by kernel_rfl) (by kernel_rfl) rfl rfl ?_ ?_ ?_
      · intro t h
        match t, h with
        | 0, _ => rfl
        | 1, _ => rfl
        | 2, _ => rfl
        | 3, _ => rfl
        | 4, _ => rfl
        | 5, _ => rfl
        | 6, _ => rfl
        | 7, _ => rfl
        | 8, _ => rfl
        | 9, h => exact absurd rfl (h 0 (by omega))
        | 10, h => exact absurd rfl (h 1 (by omega))
        | 11, h => exact absurd rfl (h 2 (by omega))
        | 12, h => exact absurd rfl (h 3 (by omega))
        | 13, h => exact absurd rfl (h 4 (by omega))
        | 14, h => exact absurd rfl (h 5 (by omega))
        | 15, h => exact absurd rfl (h 6 (by omega))
        | 16, h => exact absurd rfl (h 7 (by omega))
        | 17, h => exact absurd rfl (h 8 (by omega))
        | 18, h => exact absurd rfl (h 9 (by omega))
        | 19, h => exact absurd rfl (h 10 (by omega))
        | 20, h => exact absurd rfl (h 11 (by omega))
        | 21, h => exact absurd rfl (h 12 (by omega))
        | 22, h => exact absurd rfl (h 13 (by omega))
        | 23, h => exact absurd rfl (h 14 (by omega))
        | 24, h => exact absurd rfl (h 15 (by omega))
        | 25, _ => rfl
        | 26, _ => rfl
        | 27, _ => rfl
        | t + 28, _ => simp
      · intro i hi
        match i, hi with
        | 0, _ => exact ⟨_, _, _, rfl, rfl, rfl, (fun _ _ h => by cases h), rfl, rfl⟩
        | 1, _ => exact ⟨_, _, _, rfl, rfl, rfl, (fun _ _ h => by cases h), by go_simp, rfl⟩
        | 2, _ => exact ⟨_, _, _, rfl, rfl, rfl, (fun _ _ h => by cases h), rfl, rfl⟩
        | 3, _ => exact ⟨_, _, _, rfl, rfl, rfl, (fun _ _ h => by cases h), by go_simp, rfl⟩
        | 4, _ => exact ⟨_, _, _, rfl, rfl, rfl, (fun _ _ h => by cases h), by go_simp, by go_simp⟩
        | 5, _ => exact ⟨_, _, _, rfl, rfl, rfl, (fun _ _ h => by cases h), by go_simp, rfl⟩
        | 6, _ => exact ⟨_, _, _, rfl, rfl, rfl, (fun _ _ h => by cases h), by go_simp, rfl⟩
        | 7, _ => exact ⟨_, _, _, rfl, rfl, rfl, (fun _ _ h => by cases h), by go_simp, rfl⟩
        | 8, _ => exact ⟨_, _, _, rfl, rfl, rfl, (fun _ _ h => by cases h), rfl, rfl⟩
        | 9, _ => exact ⟨_, _, _, rfl, rfl, rfl, (fun _ _ h => by cases h), by go_simp, rfl⟩
        | 10, _ => exact ⟨_, _, _, rfl, rfl, rfl, (fun _ _ h => by cases h), by go_simp, rfl⟩
        | 11, _ => exact ⟨_, _, _, rfl, rfl, rfl, (fun _ _ h => by cases h), by go_simp, by go_simp⟩
        | 12, _ => exact ⟨_, _, _, rfl, rfl, rfl, (fun _ _ h => by cases h), by go_simp, rfl⟩
        | 13, _ => exact ⟨_, _, _, rfl, rfl, rfl, (fun _ _ h => by cases h), by go_simp, rfl⟩
        | 14, _ => exact ⟨_, _, _, rfl, rfl, rfl, (fun _ _ h => by cases h), by go_simp, rfl⟩
        | 15, _ => exact ⟨_, _, _, rfl, rfl, rfl, (fun _ _ h => by cases h), by go_simp, rfl⟩
        | i + 16, hi => exact absurd hi (by omega)
      · dsimp only [enc] at hy
        gi_wp2
        refine hR.mono ?_
        rintro e W3 (⟨rfl, hJ3, hk3⟩ | ⟨rfl, hJx3⟩ | ⟨ch, rfl, hJp3⟩)
        · gi_wp2
          go_roundw
          case rel => exact ⟨k + 1, by omega, by go_num, by rw [take_fin hlt]; exact hJ3, hB.trans hk3⟩
          case measure => simp [intOf]; omega
        · gi_wp2
          refine bodyPost_ret (results_none rfl _ _ _) rfl ?_
          exact .inl ⟨⟨_, rfl⟩, .inr ⟨_, ⟨_, List.take_append_drop (k + 1) (List.finRange c)⟩, by rw [take_fin hlt]; exact hJx3⟩⟩
        · gi_wp2
          exact ⟨rfl, .inr ⟨_, rfl, hJp3⟩⟩
    · obtain rfl : k = c := by omega
      gi_wp2
      go_end0
      exact .inl ⟨⟨_, rfl⟩, .inl ⟨_, rfl, by rw [List.take_of_length_le (by simp)] at hJ; exact hJ⟩⟩

theorem stops {B1 B2 b o cap n c : Nat} (hcap : n ≤ cap) (hn : n ≤ 1000000) (hc : c ≤ n) {w : World} (hB1 : B1 < w.heap.size) (hB2 : B2 < w.heap.size)
    (h1 : w.cell? ⟨B1, 0, none⟩ = some (.int .i64 c)) (h2 : 0 < c → w.cell? ⟨B2, 0, none⟩ = some (.slice (some ⟨b, o, none⟩) n cap)) :
    Rp.Stops Try.prog 162 #[.pointer (some ⟨B1, 0, none⟩), .pointer (some ⟨B2, 0, none⟩)] (enc b o cap n (c := c)) (Kp B1 B2) (fun ys => ys = List.finRange c) (fun pre => pre <+: List.finRange c) c w := by
  intro l J Jx Jp W hW hJ hY h0
  exact chunks1 hcap hn hc J Jx Jp hY W ((hW.cell (p := ⟨B1, 0, none⟩) hB1).trans h1) (fun h => (hW.cell (p := ⟨B2, 0, none⟩) hB2).trans (h2 h)) h0
    fun pre W1 h => hJ pre W1 W1.drew none h ⟨rfl, rfl, rfl, Nat.le_refl _, fun _ _ _ => rfl⟩ (fun r e => by cases e)

theorem two (w : World) (x y : Obj) : Below w.heap.size w ((w.alloc x).alloc y) := ((Below.refl _ w).alloc (Nat.le_refl _) x).alloc (by simp) y
theorem first_cell (w : World) (v : Value) (t : TypeId) (o : Obj) : ((w.alloc (.cells #[v] t)).alloc o).cell? ⟨w.heap.size, 0, none⟩ = some v :=
  (cell_of (old_block (new_block w (.cells #[v] t)) o) 0).trans rfl
theorem second_cell (w : World) (o : Obj) (v : Value) (t : TypeId) : ((w.alloc o).alloc (.cells #[v] t)).cell? ⟨w.heap.size + 1, 0, none⟩ = some v := by
  have h := new_block (w.alloc o) (.cells #[v] t)
  rw [World.size_alloc] at h
  exact (cell_of h 0).trans rfl
set_option maxHeartbeats 4000000 in
theorem maker {w : World} {oa : Option Addr} {n cap : Nat} {z : Int} (hla : n ≤ 1000000) :
    Calls Try.prog 146 #[.slice oa n cap, .int .i64 z] w fun e w' => e = .returned (.func (.func 162) #[] #[.pointer (some ⟨w.heap.size + 1, 0, none⟩), .pointer (some ⟨w.heap.size, 0, none⟩)]) ∧
      Below w.heap.size w w' ∧ w'.heap.size = w.heap.size + 2 ∧ w'.cell? ⟨w.heap.size + 1, 0, none⟩ = some (.int .i64 (count n z : Int)) ∧ w'.cell? ⟨w.heap.size, 0, none⟩ = some (.slice oa n cap) := by
  refine (callsIn_wide (n := 3)).1 ?_
  refine callsIn_of_wp Try.func146 rfl trivial ?_ rfl
  simp only [Try.ntmps146, List.size_toArray, List.length_cons, List.length_nil, Nat.reduceAdd, Nat.reduceSub, Array.replicate_succ, Array.replicate_zero, List.push_toArray, List.append_toArray, List.nil_append, List.cons_append]
  gi_wp2
  all_goals
    refine bodyPost_ret (results_tmp rfl _ _ _) rfl ⟨rfl, two w _ _, by simp, (second_cell w _ _ _).trans (congrArg (fun q => some (Value.int .i64 q)) ?_), first_cell w _ _ _⟩
    rw [count_int]
    omega
end Go.Proofs.Ytmkapmbmgpnjaaa.Se

set_option maxRecDepth 100000
set_option linter.unusedSimpArgs false
set_option linter.unusedVariables false
namespace Go.Proofs.Ytmkapmbmgpnjaaa.Se
open Go Go.Ms Go.Pg Go.Bi Go.Se Go.ChangeShapes Go.WideShapes Go.ChangeAt Go.RowKit Go.Deep Go.Proofs.Ytmkapmbmgpnjaaa.Bi

/-! A step of the search for a difference. -/

abbrev boxB (p f : Q4) (g : Nat) : Obj := .cells #[.int .u64 p.a, .int .u64 p.b, .int .u64 p.c, .int .u64 p.d, .int .u64 f.a, .int .u64 f.b, .int .u64 f.c, .int .u64 f.d, .int .i64 g] 143 (0, 0)
theorem b_cells {w : World} {B g : Nat} {p f : Q4} (h : w.heap[B]? = some (boxB p f g)) :
    (w.cell? ⟨B, 0, none⟩ = some (.int .u64 (p.a : Int)) ∧ w.cell? ⟨B, 1, none⟩ = some (.int .u64 (p.b : Int)) ∧ w.cell? ⟨B, 2, none⟩ = some (.int .u64 (p.c : Int)) ∧ w.cell? ⟨B, 3, none⟩ = some (.int .u64 (p.d : Int))) ∧
    (w.cell? ⟨B, 4, none⟩ = some (.int .u64 (f.a : Int)) ∧ w.cell? ⟨B, 5, none⟩ = some (.int .u64 (f.b : Int)) ∧ w.cell? ⟨B, 6, none⟩ = some (.int .u64 (f.c : Int)) ∧ w.cell? ⟨B, 7, none⟩ = some (.int .u64 (f.d : Int))) ∧ w.cell? ⟨B, 8, none⟩ = some (.int .i64 (g : Int)) :=
  ⟨⟨cell_of h 0, cell_of h 1, cell_of h 2, cell_of h 3⟩, ⟨cell_of h 4, cell_of h 5, cell_of h 6, cell_of h 7⟩, cell_of h 8⟩
structure KeepsB (m g b : Nat) (w w' : World) : Prop where
  below : Below m w w'
  kept : ∀ i, i < w.heap.size → i ≠ m → i ≠ g → i ≠ b → w'.heap[i]? = w.heap[i]?
theorem KeepsB.of {m g b : Nat} {w w' : World} (h : KeepsM m g w w') : KeepsB m g b w w' := ⟨h.below, fun i hi h1 h2 _ => h.kept i hi h1 h2⟩
theorem KeepsB.refl (m g b : Nat) (w : World) : KeepsB m g b w w := .of (.refl _ _ _)
theorem KeepsB.trans {m g b : Nat} {x y z : World} (h : KeepsB m g b x y) (k : KeepsB m g b y z) : KeepsB m g b x z :=
  ⟨h.below.trans k.below, fun i hi h1 h2 h3 => (k.kept i (Nat.lt_of_lt_of_le hi h.below.size) h1 h2 h3).trans (h.kept i hi h1 h2 h3)⟩
abbrev zbox : Obj := .cells #[.int .u64 0, .int .u64 0, .int .u64 0, .int .u64 0] 98 (0, 0)
theorem z_cells {w : World} {k : Nat} (h : w.heap[k]? = some zbox) : (w.cell? ⟨k, 0, none⟩ = some (.int .u64 0) ∧ w.cell? ⟨k, 1, none⟩ = some (.int .u64 0) ∧ w.cell? ⟨k, 2, none⟩ = some (.int .u64 0) ∧ w.cell? ⟨k, 3, none⟩ = some (.int .u64 0)) ∧
    (w.frozen? ⟨k, 0, none⟩ = false ∧ w.frozen? ⟨k, 1, none⟩ = false ∧ w.frozen? ⟨k, 2, none⟩ = false ∧ w.frozen? ⟨k, 3, none⟩ = false) ∧ k < w.heap.size :=
  ⟨⟨cell_of h 0, cell_of h 1, cell_of h 2, cell_of h 3⟩, ⟨Bi.frozen_of h 0, Bi.frozen_of h 1, Bi.frozen_of h 2, Bi.frozen_of h 3⟩, block_lt h⟩
theorem nb0 (w : World) : (w.alloc zbox).heap[w.heap.size]? = some zbox := new_block w zbox
theorem nb1 (w : World) : (w.drew.alloc zbox).heap[w.heap.size]? = some zbox := new_block w.drew zbox
theorem nb2 (w : World) : ((w.alloc zbox).alloc zbox).heap[w.heap.size]? = some zbox := old_block (new_block w zbox) _
theorem nb3 (w : World) : ((w.drew.alloc zbox).alloc zbox).heap[w.heap.size]? = some zbox := old_block (new_block w.drew zbox) _
theorem nb4 (w : World) : ((w.alloc zbox).alloc zbox).heap[w.heap.size + 1]? = some zbox := alloc_at (by simp)
theorem nb5 (w : World) : ((w.drew.alloc zbox).alloc zbox).heap[w.heap.size + 1]? = some zbox := alloc_at (by simp)
theorem z_kept {w w' : World} {k : Nat} (hB : Below w.heap.size w w') (h : w.heap[k]? = some zbox) : w'.heap[k]? = some zbox := (hB.block k (block_lt h)).trans h
def putF (w : World) (B : Nat) (q : Q4) (g : Nat) : World := ((((w.setCell ⟨B, 4, none⟩ (.int .u64 q.a)).setCell ⟨B, 5, none⟩ (.int .u64 q.b)).setCell ⟨B, 6, none⟩ (.int .u64 q.c)).setCell ⟨B, 7, none⟩ (.int .u64 q.d)).setCell ⟨B, 8, none⟩ (.int .i64 g)
def putP (w : World) (B : Nat) (q : Q4) (g : Nat) : World := ((((w.setCell ⟨B, 0, none⟩ (.int .u64 q.a)).setCell ⟨B, 1, none⟩ (.int .u64 q.b)).setCell ⟨B, 2, none⟩ (.int .u64 q.c)).setCell ⟨B, 3, none⟩ (.int .u64 q.d)).setCell ⟨B, 8, none⟩ (.int .i64 g)
theorem putF_block {w : World} {B g h : Nat} {p f q : Q4} (e : w.heap[B]? = some (boxB p f g)) : (putF w B q h).heap[B]? = some (boxB p q h) := by
  have h0 := heap_setCell_same _ B 4 _ 143 (.int .u64 q.a) e
  have h1 := heap_setCell_same _ B 5 _ 143 (.int .u64 q.b) h0
  have h2 := heap_setCell_same _ B 6 _ 143 (.int .u64 q.c) h1
  have h3 := heap_setCell_same _ B 7 _ 143 (.int .u64 q.d) h2
  have h4 := heap_setCell_same _ B 8 _ 143 (.int .i64 h) h3
  refine h4.trans ?_
  simp [boxB]
theorem putP_block {w : World} {B g h : Nat} {p f q : Q4} (e : w.heap[B]? = some (boxB p f g)) : (putP w B q h).heap[B]? = some (boxB q f h) := by
  have h0 := heap_setCell_same _ B 0 _ 143 (.int .u64 q.a) e
  have h1 := heap_setCell_same _ B 1 _ 143 (.int .u64 q.b) h0
  have h2 := heap_setCell_same _ B 2 _ 143 (.int .u64 q.c) h1
  have h3 := heap_setCell_same _ B 3 _ 143 (.int .u64 q.d) h2
  have h4 := heap_setCell_same _ B 8 _ 143 (.int .i64 h) h3
  refine h4.trans ?_
  simp [boxB]
theorem putF_other {w : World} {B k h : Nat} {q : Q4} (e : k ≠ B) : (putF w B q h).heap[k]? = w.heap[k]? := by
  unfold putF
  rw [Below.heap_setCell _ _ _ _ e, Below.heap_setCell _ _ _ _ e, Below.heap_setCell _ _ _ _ e, Below.heap_setCell _ _ _ _ e, Below.heap_setCell _ _ _ _ e]
theorem putP_other {w : World} {B k h : Nat} {q : Q4} (e : k ≠ B) : (putP w B q h).heap[k]? = w.heap[k]? := by
  unfold putP
  rw [Below.heap_setCell _ _ _ _ e, Below.heap_setCell _ _ _ _ e, Below.heap_setCell _ _ _ _ e, Below.heap_setCell _ _ _ _ e, Below.heap_setCell _ _ _ _ e]
theorem putF_below {w : World} {C B h : Nat} {q : Q4} (e : C ≤ B) : Below C w (putF w B q h) :=
  (((((Below.refl C w).setCell (p := ⟨B, 4, none⟩) e _).setCell (p := ⟨B, 5, none⟩) e _).setCell (p := ⟨B, 6, none⟩) e _).setCell (p := ⟨B, 7, none⟩) e _).setCell (p := ⟨B, 8, none⟩) e _
theorem putP_below {w : World} {C B h : Nat} {q : Q4} (e : C ≤ B) : Below C w (putP w B q h) :=
  (((((Below.refl C w).setCell (p := ⟨B, 0, none⟩) e _).setCell (p := ⟨B, 1, none⟩) e _).setCell (p := ⟨B, 2, none⟩) e _).setCell (p := ⟨B, 3, none⟩) e _).setCell (p := ⟨B, 8, none⟩) e _
theorem asked_play {w w' : World} {g m : Nat} {l : List Int} {T : List (Q4 × Int)} {q : Q4} {e : Ending} {f : Int → Value} (h : Asked w g m l T q e w' f) :
    (e = asks4 q.a q.b q.c q.d ∧ KeepsM m g w w' ∧ ∀ k, play (.ask q k) l T = .ask (memQ q)) ∨
    (∃ x l' T', e = .returned (f x) ∧ KeepsM m g w w' ∧ SBox w' g m l' T' ∧ ∀ k, play (.ask q k) l T = play (k x) l' T') := by
  unfold Asked at h
  cases hm : memo T q with
  | some v =>
    rw [hm] at h
    exact .inr ⟨v, l, T, h.1, h.2.1, h.2.2, fun k => play_known hm⟩
  | none =>
    rw [hm] at h
    cases l with
    | nil => exact .inl ⟨h.1, h.2, fun k => play_stop hm⟩
    | cons x l => exact .inr ⟨x, l, _, h.1, h.2.1, h.2.2, fun k => play_next hm⟩
end Go.Proofs.Ytmkapmbmgpnjaaa.Se

set_option maxRecDepth 100000
set_option linter.unusedSimpArgs false
set_option linter.unusedVariables false
namespace Go.Rp
open Go Go.RowKit
variable {P : Program} {f : FuncId} {Q : Exit → Act → World → Prop} {a : Act} {w : World}
theorem At.seqOnly {x y : Code} (h : x.wp P (Exit.then (At f P y Q) (fun _ _ _ => False)) a w) : At f P (.seq x y) Q a w :=
  At.seq ((At.of (n := 4) (wpIn_wide.2 h)).mono fun e a w hq => by cases e <;> first | exact hq | exact hq.elim)
theorem At.wp {x : Code} (h : x.wp P Q a w) : At f P x Q a w := At.of (n := 4) (wpIn_wide.2 h)
theorem At.block {id : Nat} {c : Code} (h : At f P c (Exit.inBlock id Q) a w) : At f P (.block id c) Q a w := by
  intro b k cs hro hb
  have h0 : (lone (b.atR a (.code (.block id c) :: k)) cs w).fenced P Fence.wide := fenced_wide _ _
  obtain ⟨e, a₁, w₁, hq, harr⟩ := h b (.inBlock id :: k) cs hro hb
  cases e with
  | normal => exact ⟨.normal, a₁, w₁, hq, .head h0 stepR_block (StepsIn.trans harr (.one (fenced_wide _ _) stepR_inBlock))⟩
  | exit id' =>
    by_cases hid : id' = id
    · simp only [Exit.inBlock, hid, if_true] at hq
      exact ⟨.normal, a₁, w₁, hq, .head h0 stepR_block (harr.1 k (by simp [exitTo, hid]))⟩
    · simp only [Exit.inBlock, hid, if_false] at hq
      have this : (id == id') = false := by simp; exact fun h => hid h.symm
      have hx : exitTo id' (.inBlock id :: k) = exitTo id' k := by simp [exitTo, this]
      exact ⟨.exit id', a₁, w₁, hq, fun k' hk => .head h0 stepR_block (harr.1 k' (by rw [hx]; exact hk)),
        fun hr' hk => let ⟨k₁, h1, h2⟩ := harr.2 hr' (by rw [hx]; exact hk); ⟨k₁, h1, .head h0 stepR_block h2⟩⟩
  | goto l =>
    have hx : gotoIn l (.inBlock id :: k) = gotoIn l k := by simp [gotoIn]
    exact ⟨_, a₁, w₁, hq, fun k' hk => .head h0 stepR_block (harr.1 k' (by rw [hx]; exact hk)),
      fun hr' hk => let ⟨k₁, h1, h2⟩ := harr.2 hr' (by rw [hx]; exact hk); ⟨k₁, h1, .head h0 stepR_block h2⟩⟩
  | ret => exact ⟨_, a₁, w₁, hq, .of_steps (.one h0 stepR_block) harr⟩
  | panic ch => exact ⟨_, a₁, w₁, hq, .of_steps (.one h0 stepR_block) harr⟩
  | outgrown => exact ⟨_, a₁, w₁, hq, .of_steps (.one h0 stepR_block) harr⟩
theorem leaves_ret {F : Fence} {n : Nat} {fn : Func} {tmps : Array Value} {R : Ending → World → Prop} {v : Value} (h : (results fn tmps).run P w = .ok v w) (hR : R (.returned v) w) : LeavesInM F n P fn tmps R [] .returning w := ⟨v, h, hR⟩
theorem leaves_panic {F : Fence} {n : Nat} {fn : Func} {tmps : Array Value} {R : Ending → World → Prop} {ch : List PanicEntry} (hR : R (.panicked ch) w) : LeavesInM F n P fn tmps R [] (.panicking ch) w := hR
theorem leaves_one {F : Fence} {n : Nat} {fn : Func} {tmps : Array Value} {R : Ending → World → Prop} {D : Nat} {u : FrameMode} (hu : u ≠ .run) (hK : w.heap[D]? = some (.deferred (some []))) (h : LeavesInM F n P fn tmps R [] u (w.putObj D (.deferred none))) :
    LeavesInM F n P fn tmps R [{ target := .collected D, args := #[] }] u w := ⟨hu, .inl ⟨_, _, rfl, run_takeDeferred hK, h⟩⟩
section
variable {F : Fence} {nF : Nat} {ops : Array Oper} {o : Oper} {K : Act → World → Prop} {X : Prop}
theorem stepIn_value {w' : World} {v : Value} (hgd : o.guard = none) (hd : ∀ c, o.op ≠ .defer c) (hab : o.about P w a.eval = none)
    (hr : (execOp a.eval o).run P w = .ok (.value v) w') (h : K (a.put o.dst v) w') : if Region.wanted o (yielded ops a.tmps) = true then Oper.wpIn F nF P o a w K Q else X := by
  have hw : Region.wanted o (yielded ops a.tmps) = true := by simp [Region.wanted, hgd]
  rw [if_pos hw]
  unfold Oper.wpIn
  refine ⟨fun f hf => (by rw [hab] at hf; cases hf), ?_⟩
  rw [Oper.semAt_plain F _ _ hd, hr]
  exact h
theorem stepIn_callP {g : Nat} {args : Array Value} {R : Ending → World → Prop} (hgd : o.guard = none) (hd : ∀ c, o.op ≠ .defer c) (hab : o.about P w a.eval = some g) (hf : F.fn g) (hdp : F.depth = none)
    (hr : (execOp a.eval o).run P w = .ok (.enter g args) w) (hc : CallsIn F (nF - 1) P g args w R) (h : ∀ e w', R e w' → (∃ v, e = .returned v ∧ K (a.put o.dst v) w') ∨ (∃ ch, e = .panicked ch ∧ Q (.panic ch) a w')) : if Region.wanted o (yielded ops a.tmps) = true then Oper.wpIn F nF P o a w K Q else X := by
  have hw : Region.wanted o (yielded ops a.tmps) = true := by simp [Region.wanted, hgd]
  rw [if_pos hw]
  unfold Oper.wpIn
  refine ⟨fun g hg => (by rw [hab] at hg; cases hg; exact hf), ?_⟩
  rw [Oper.semAt_plain F _ _ hd, hr]
  refine ⟨fun hq => (by rw [hdp] at hq; cases hq), hc.mono fun e w' hR => ?_⟩
  rcases h e w' hR with ⟨v, rfl, hk⟩ | ⟨ch, rfl, hk⟩
  · exact hk
  · exact hk
end
theorem prefix_last {c : Nat} {pre : List (Fin c)} {x : Fin c} (h : pre ++ [x] <+: List.finRange c) : x.val = pre.length := by
  have h1 := h.getElem (i := pre.length) (by simp)
  simp at h1
  rw [h1]
end Go.Rp
namespace Go.Proofs.Ytmkapmbmgpnjaaa.Se
open Go Go.Ms Go.Pg Go.Rc Go.Bi Go.Se Go.ChangeShapes Go.WideShapes Go.ChangeAt Go.RowKit Go.Deep Go.Shelf Go.Proofs.Ytmkapmbmgpnjaaa.Bi

/-! One cut of the difference: what is said between two rounds. -/

def nextT (f : Nat) (b : Bs) : Option Bs → Tr
  | some b' => diffT f b'
  | none => if b.g < (between b).length then diffT f (finer b) else doneT b
theorem diffT_two {f : Nat} {b : Bs} (h : 2 ≤ (between b).length) : diffT (f + 1) b = rounds b (between b) (countOf b) (nextT f b) (countOf b) 0 := by
  rw [diffT, if_neg (by omega)]
  rfl
theorem diffT_less {f : Nat} {b : Bs} (h : (between b).length < 2) : diffT (f + 1) b = doneT b := by rw [diffT, if_pos h]
theorem play_round {b : Bs} {L : List Nat} {c m i : Nat} {k : Option Bs → Tr} {l l' : List Int} {T T' : List (Q4 × Int)} {x y : Int}
    (h : ∀ k, play (moveT b (pieceQ L c i) k) l T = play (k (moved b (pieceQ L c i) x y)) l' T') :
    play (rounds b L c k (m + 1) i) l T = play (match moved b (pieceQ L c i) x y with
      | some b' => k (some b')
      | none => rounds b L c k m (i + 1)) l' T' := h _
def Goes (b : Bs) (l : List Int) (T : List (Q4 × Int)) (i : Nat) (l' : List Int) (T' : List (Q4 × Int)) : Prop :=
  ∀ f, play (diffT (f + 1) b) l T = play (rounds b (between b) (countOf b) (nextT f b) (countOf b - i) i) l' T'
theorem Goes.zero {b : Bs} {l : List Int} {T : List (Q4 × Int)} (h : 2 ≤ (between b).length) : Goes b l T 0 l T := fun f => by rw [diffT_two h]; rfl
theorem Goes.stop {b : Bs} {l l' : List Int} {T T' : List (Q4 × Int)} {i : Nat} {q : Q4} (h : Goes b l T i l' T') (hi : i < countOf b) (hq : ∀ k, play (moveT b (pieceQ (between b) (countOf b) i) k) l' T' = .ask (memQ q)) (f : Nat) :
    play (diffT (f + 1) b) l T = .ask (memQ q) := by
  obtain ⟨m, hm⟩ : ∃ m, countOf b - i = m + 1 := ⟨countOf b - i - 1, by omega⟩
  rw [h f, hm]
  exact hq _
theorem Goes.found {b b' : Bs} {l l' l2 : List Int} {T T' T2 : List (Q4 × Int)} {i : Nat} {x y : Int} (h : Goes b l T i l' T') (hi : i < countOf b) (hq : ∀ k, play (moveT b (pieceQ (between b) (countOf b) i) k) l' T' = play (k (moved b (pieceQ (between b) (countOf b) i) x y)) l2 T2)
    (hm : moved b (pieceQ (between b) (countOf b) i) x y = some b') (f : Nat) : play (diffT (f + 1) b) l T = play (diffT f b') l2 T2 := by
  obtain ⟨m, hm'⟩ : ∃ m, countOf b - i = m + 1 := ⟨countOf b - i - 1, by omega⟩
  rw [h f, hm', play_round hq, hm]
  rfl
theorem Goes.next {b : Bs} {l l' l2 : List Int} {T T' T2 : List (Q4 × Int)} {i : Nat} {x y : Int} (h : Goes b l T i l' T') (hi : i < countOf b) (hq : ∀ k, play (moveT b (pieceQ (between b) (countOf b) i) k) l' T' = play (k (moved b (pieceQ (between b) (countOf b) i) x y)) l2 T2)
    (hm : moved b (pieceQ (between b) (countOf b) i) x y = none) : Goes b l T (i + 1) l2 T2 := fun f => by
  obtain ⟨m, hm'⟩ : ∃ m, countOf b - i = m + 1 := ⟨countOf b - i - 1, by omega⟩
  rw [h f, hm', play_round hq, hm, show countOf b - (i + 1) = m by omega]
theorem Goes.finer {b : Bs} {l l' : List Int} {T T' : List (Q4 × Int)} (h : Goes b l T (countOf b) l' T') (hg : b.g < (between b).length) (f : Nat) : play (diffT (f + 1) b) l T = play (diffT f (finer b)) l' T' := by
  rw [h f, Nat.sub_self, rounds, nextT, if_pos hg]
theorem Goes.done {b : Bs} {l l' : List Int} {T T' : List (Q4 × Int)} (h : Goes b l T (countOf b) l' T') (hg : ¬ b.g < (between b).length) (f : Nat) : play (diffT (f + 1) b) l T = play (doneT b) l' T' := by
  rw [h f, Nat.sub_self, rounds, nextT, if_neg hg]
theorem KeepsB.grown {m g b : Nat} {w W W' : World} {row : Option Nat} (h : KeepsB m g b w W) (hg : W.grownBy W' row) (hm : m ≤ w.heap.size) (hr : ∀ r, row = some r → w.heap.size ≤ r) : KeepsB m g b w W' :=
  ⟨h.below.grown hg (Nat.le_trans hm h.below.size) fun k e => Nat.le_trans hm (hr k e), fun i hi h1 h2 h3 => (hg.block i (Nat.lt_of_lt_of_le hi h.below.size) fun e => by have := hr i e.symm; omega).trans (h.kept i hi h1 h2 h3)⟩
theorem KeepsB.same {m g b : Nat} {w w' : World} (h : KeepsB m g b w w') {i : Nat} {o : Obj} (hi : w.heap[i]? = some o) (h1 : i ≠ m) (h2 : i ≠ g) (h3 : i ≠ b) : w'.heap[i]? = some o := (h.kept i (block_lt hi) h1 h2 h3).trans hi
theorem KeepsB.of_below {m g b : Nat} {w w' : World} (hm : m ≤ w.heap.size) (h : Below w.heap.size w w') : KeepsB m g b w w' := ⟨h.mono hm, fun i hi _ _ _ => h.block i hi⟩
theorem KeepsB.of_below' {m g b B k : Nat} {w w' : World} (hm : m ≤ B) (h : Below B w w') (ho : ∀ i, i ≠ k → w'.heap[i]? = w.heap[i]?) : ∀ {v : World}, KeepsB m g b v w → v.heap.size ≤ k → KeepsB m g b v w' :=
  fun hv hk => ⟨hv.below.trans (h.mono hm), fun i hi h1 h2 h3 => (ho i (by omega)).trans (hv.kept i hi h1 h2 h3)⟩
abbrev box1 (v : Value) (t : TypeId) : Obj := .cells #[v] t (0, 0)
theorem mixedS : Try.prog.follows .mixedOrders = true := by kernel_rfl
theorem allQ_among (n : Nat) : ofP (among (List.range n)) = allQ n := by
  unfold allQ
  congr 1
  funext i
  simp [among]
theorem set1_block {w : World} {B : Nat} {t : TypeId} {u v : Value} (h : w.heap[B]? = some (.cells #[u] t (0, 0))) : (w.setCell ⟨B, 0, none⟩ v).heap[B]? = some (.cells #[v] t (0, 0)) := by
  refine (heap_setCell_same _ B 0 _ t v h).trans ?_
  simp
theorem own_cells {w : World} {B n cap : Nat} {oa : Option Addr} {l : List Int} (h : Go.Il.Own 3 .i64 B w (.slice oa n cap) l) (hp : 0 < n) : ∃ gl, oa = some ⟨gl, 0, none⟩ ∧ B ≤ gl ∧ gl < w.heap.size ∧ n = l.length ∧ n ≤ cap ∧ ∀ j (hj : j < l.length), w.cell? ⟨gl, 0 + j, none⟩ = some (.int .i64 l[j]) := by
  obtain ⟨oa', cap', e0, hc⟩ := h.at
  injection e0 with e1 e2 e3
  subst e1 e3
  rcases h.2 with ⟨e, h0⟩ | ⟨g, cap', cur, e, hb, hh, hnc, hcap, hr⟩
  · omega
  · injection e with e1 e2 e3
    subst e1
    refine ⟨g, rfl, hb, block_lt hh, e2, by omega, fun i hi => ?_⟩
    obtain ⟨g', e, hcell⟩ := hc i hi
    injection e with e
    injection e with e _
    subst e
    simpa using hcell
theorem nats_piece {w : World} {gl cap c k : Nat} {d : List Nat} (h : ∀ j (hj : j < d.length), w.cell? ⟨gl, 0 + j, none⟩ = some (.int .i64 (d[j] : Int))) (hk : k < c) (hl : d.length ≤ 256) :
    Nats w (.slice (some ⟨gl, cut d.length c k, none⟩) (cut d.length c (k + 1) - cut d.length c k) (cap - cut d.length c k)) (piece d c k) := by
  have e := piece_length (l := d) hk
  have hle : (k + 1) * d.length / c ≤ d.length := by
    apply Nat.div_le_of_le_mul
    exact Nat.mul_le_mul_right _ hk
  refine ⟨_, _, by rw [e]; rfl, by rw [e]; exact Nat.le_trans (Nat.sub_le _ _) (by omega), fun i hi => ⟨_, _, rfl, ?_⟩⟩
  rw [e] at hi
  have hj : cut d.length c k + i < d.length := by
    unfold cut
    omega
  have hg : (piece d c k)[i]'(by rw [e]; exact hi) = d[cut d.length c k + i] := by
    simp [piece, cut]
  rw [hg]
  have := h _ hj
  rw [Nat.zero_add] at this
  exact this
theorem setOfQ {w : World} {v : Value} {xs : List Nat} (h : Nats w v xs) (hx : ∀ n ∈ xs, n < 256) : Calls Try.prog 77 #[v] w fun e w' => e = .returned (setV (ofP (among xs)).a (ofP (among xs)).b (ofP (among xs)).c (ofP (among xs)).d) ∧ Below w.heap.size w w' := by
  refine (setOfProg h hx).mono ?_
  rintro e w' ⟨a, b, c, d, rfl, hs, hB⟩
  have := is_of (s := ⟨a, b, c, d⟩) hs
  rw [← this]
  exact ⟨rfl, hB⟩
theorem setOfPiece {w : World} {v : Value} {d : List Nat} {c k : Nat} (h : Nats w v (piece d c k)) (hx : ∀ n ∈ piece d c k, n < 256) : Calls Try.prog 77 #[v] w fun e w' => e = .returned (setV (pieceQ d c k).a (pieceQ d c k).b (pieceQ d c k).c (pieceQ d c k).d) ∧ Below w.heap.size w w' := setOfQ h hx
theorem sbox_grown {w w' : World} {g m : Nat} {l : List Int} {T : List (Q4 × Int)} {row : Option Nat} (h : SBox w g m l T) (hg : w.grownBy w' row) (hr : ∀ r, row = some r → r ≠ m ∧ r ≠ g ∧ m ≤ r) : SBox w' g m l T := by
  have h1 := h.gt
  have h2 := h.lt
  exact h.other ((Below.refl m w).grown hg (by omega) fun k e => (hr k e).2.2) (hg.block m (by omega) fun e => (hr m e.symm).1 rfl) (hg.block g h1 fun e => (hr g e.symm).2.1 rfl)
end Go.Proofs.Ytmkapmbmgpnjaaa.Se

