import Derived.Test.YtmkapmbmgpnjaaaDsD
import Derived.Test.YtmkapmbmgpnjaaaDsR
import Derived.Test.YtmkapmbmgpnjaaaRcA
import Derived.Test.YtmkapmbmgpnjaaaDrA
import Derived.RangeFuncNested
import Derived.RangeFuncBound
import Derived.RangeFuncCalls
import Derived.RangeFuncLeaves
import Derived.RangeFuncBox
import Derived.Shelf.Abstract
import Derived.OwnWalkIn
import Derived.TacticsInMore
import Derived.LoopNIn
import Derived.LoopIn
set_option maxRecDepth 100000
namespace Go.Proofs.Ytmkapmbmgpnjaaa.Se
open Go Go.Ms Go.Pg Go.Rc Go.Bi Go.Se Go.ChangeShapes Go.WideShapes Go.ChangeAt Go.RowKit Go.Deep Go.Shelf Go.Proofs.Ytmkapmbmgpnjaaa.Bi

attribute [local go_sem] Oper.semAt_some

def enc (b o cap n : Nat) {c : Nat} (k : Fin c) : Array Value := #[.slice (some ⟨b, o + cut n c k, none⟩) (cut n c (k + 1) - cut n c k) (cap - cut n c k)]

theorem wrap_small {z : Int} (h0 : 0 ≤ z) (h : z ≤ 4000000000000000000) : IntKind.i64.wrap z = z := by
  simp [IntKind.wrap, IntKind.signed, IntKind.bits]
  omega
theorem mul_le {k n : Nat} (hk : k ≤ 1000000) (hn : n ≤ 1000000) : k * n ≤ 1000000000000 := Nat.mul_le_mul hk hn
theorem wrap_mul {k n : Nat} (hk : k ≤ 1000000) (hn : n ≤ 1000000) : IntKind.i64.wrap ((k : Int) * (n : Int)) = (k : Int) * (n : Int) := by
  rw [← Int.natCast_mul]
  have := mul_le hk hn
  exact wrap_small (by omega) (by omega)
theorem wrap_div {k n c : Nat} (hk : k ≤ 1000000) (hn : n ≤ 1000000) : IntKind.i64.wrap (((k : Int) * (n : Int)).tdiv (c : Int)) = (cut n c k : Int) := by
  rw [← Int.natCast_mul, ← Int.ofNat_tdiv]
  have := mul_le hk hn
  have := Nat.div_le_self (k * n) c
  unfold cut
  generalize k * n / c = q at *
  exact wrap_small (by omega) (by omega)

def Kp (B1 B2 : Nat) (w w' : World) : Prop := w'.heap[B1]? = w.heap[B1]? ∧ w'.heap[B2]? = w.heap[B2]?
theorem Kp.refl (B1 B2 : Nat) (w : World) : Kp B1 B2 w w := ⟨rfl, rfl⟩
theorem Kp.trans {B1 B2 : Nat} {a b c : World} (h : Kp B1 B2 a b) (k : Kp B1 B2 b c) : Kp B1 B2 a c := ⟨k.1.trans h.1, k.2.trans h.2⟩
theorem take_fin {c k : Nat} (h : k < c) : (List.finRange c).take (k + 1) = (List.finRange c).take k ++ [⟨k, h⟩] := by
  rw [List.take_succ_eq_append_getElem (by simpa using h)]
  simp

set_option maxHeartbeats 4000000 in
theorem chunks1 {l B1 B2 b o cap n c : Nat} (hcap : n ≤ cap) (hn : n ≤ 1000000) (hc : c ≤ n) (J Jx : List (Fin c) → World → Prop) (Jp : List PanicEntry → World → Prop)
    (hY : ∀ pre x W, J pre W → pre.length < c → pre ++ [x] <+: List.finRange c → YieldAt Fence.wide 2 Try.prog l (enc b o cap n x) W fun e W' => (e = .returned (.bool true) ∧ J (pre ++ [x]) W' ∧ Kp B1 B2 W W') ∨ (e = .returned (.bool false) ∧ Jx (pre ++ [x]) W') ∨ (∃ ch, e = .panicked ch ∧ Jp ch W'))
    (W : World) (h1 : W.cell? ⟨B1, 0, none⟩ = some (.int .i64 c)) (h2 : 0 < c → W.cell? ⟨B2, 0, none⟩ = some (.slice (some ⟨b, o, none⟩) n cap)) (h0 : J [] W) (hd : ∀ pre W, J pre W → J pre W.drew) :
    CallsIn Fence.wide 3 Try.prog 162 #[.func (.yield l) #[] #[], .pointer (some ⟨B1, 0, none⟩), .pointer (some ⟨B2, 0, none⟩)] W fun e W' => ((∃ v, e = .returned v) ∧
      ((∃ ys, ys = List.finRange c ∧ J ys W') ∨ (∃ pre, pre <+: List.finRange c ∧ Jx pre W'))) ∨ (∃ ch, e = .panicked ch ∧ Jp ch W') := by
  refine callsIn_of_wp Try.func162 rfl trivial ?_ rfl
  simp only [Try.ntmps162, List.size_toArray, List.length_cons, List.length_nil, Nat.reduceAdd, Nat.reduceSub, Array.replicate_succ, Array.replicate_zero, List.push_toArray, List.append_toArray, List.nil_append, List.cons_append]
  gi_wp2
  gi_loopw [6] (fun i wr => ∃ k : Nat, k ≤ c ∧ i = .int .i64 (k : Int) ∧ J ((List.finRange c).take k) wr ∧ Kp B1 B2 W wr) (fun i _ => c - (intOf i).toNat)
  case atStart => exact ⟨0, Nat.zero_le _, rfl, by simpa using h0, Kp.refl _ _ _⟩
  case round =>
    obtain ⟨k, hk, rfl, hJ, hB⟩ := hrel
    by_cases hlt : k < c
    · have hk64 : (k : Int) < (c : Int) := by omega
      obtain ⟨fn, tmps, assign, body, hy, hR⟩ := hY _ ⟨k, hlt⟩ wr.drew (hd _ _ hJ) (by simp; omega) (by rw [← take_fin hlt]; exact List.take_prefix _ _)
      have g1 := (World.cell?_of_block (a := ⟨B1, 0, none⟩) hB.1).trans h1
      have g2 := (World.cell?_of_block (a := ⟨B2, 0, none⟩) hB.2).trans (h2 (by omega))
      have hc0 : ¬ c = 0 := by omega
      have hw1 : IntKind.i64.wrap ((k : Int) * (n : Int)) = (k : Int) * (n : Int) := wrap_mul (by omega) hn
      have hw2 : IntKind.i64.wrap ((k : Int) + 1) = (k : Int) + 1 := wrap_small (by omega) (by omega)
      have hw3 : IntKind.i64.wrap (((k : Int) + 1) * (n : Int)) = ((k : Int) + 1) * (n : Int) := wrap_mul (k := k + 1) (by omega) hn
      have hq1 : IntKind.i64.wrap (((k : Int) * (n : Int)).tdiv (c : Int)) = (cut n c k : Int) := wrap_div (by omega) hn
      have hq2 : IntKind.i64.wrap ((((k : Int) + 1) * (n : Int)).tdiv (c : Int)) = (cut n c (k + 1) : Int) := wrap_div (k := k + 1) (by omega) hn
      have hl1 : cut n c k < cut n c (k + 1) := cut_lt (by omega) hc
      have hl2 : cut n c (k + 1) ≤ cap := Nat.le_trans (cut_le (by omega) hlt) hcap
      have hl3 : ¬ cap = cut n c k := by omega
      have hl4 : cut n c k ≤ cut n c (k + 1) := by omega
      gi_wp2
      refine Dr.wpIn_region_head 16 { tmps := #[.func (.yield l) #[] #[], .pointer (some ⟨B1, 0, none⟩), .pointer (some ⟨B2, 0, none⟩), undef, .int .i64 (k : Int), .int .i64 (c : Int), .int .i64 (k : Int), .bool true, .int .i64 (k : Int),
          .func (.yield l) #[] #[], .slice (some ⟨b, o, none⟩) n cap, .int .i64 (k : Int), .slice (some ⟨b, o, none⟩) n cap, .int .i64 (n : Int), .int .i64 ((k * n : Nat) : Int), .int .i64 (c : Int), .int .i64 (cut n c k : Int),
          .int .i64 (k : Int), .int .i64 ((k + 1 : Nat) : Int), .slice (some ⟨b, o, none⟩) n cap, .int .i64 (n : Int), .int .i64 (((k + 1) * n : Nat) : Int), .int .i64 (c : Int), .int .i64 (cut n c (k + 1) : Int),
          .slice (some ⟨b, o + cut n c k, none⟩) (cut n c (k + 1) - cut n c k) (cap - cut n c k), u25, u26, u27], defers := [] } rfl (by kernel_rfl) (by kernel_rfl) rfl rfl ?_ ?_ ?_
      · intro t h
        match t, h with
        | 0, _ => rfl
        | 1, _ => rfl
        | 2, _ => rfl
        | 3, _ => rfl
        | 4, _ => rfl
        | 5, _ => rfl
        | 6, _ => rfl
        | 7, _ => rfl
        | 8, _ => rfl
        | 9, h => exact absurd rfl (h 0 (by omega))
        | 10, h => exact absurd rfl (h 1 (by omega))
        | 11, h => exact absurd rfl (h 2 (by omega))
        | 12, h => exact absurd rfl (h 3 (by omega))
        | 13, h => exact absurd rfl (h 4 (by omega))
        | 14, h => exact absurd rfl (h 5 (by omega))
        | 15, h => exact absurd rfl (h 6 (by omega))
        | 16, h => exact absurd rfl (h 7 (by omega))
        | 17, h => exact absurd rfl (h 8 (by omega))
        | 18, h => exact absurd rfl (h 9 (by omega))
        | 19, h => exact absurd rfl (h 10 (by omega))
        | 20, h => exact absurd rfl (h 11 (by omega))
        | 21, h => exact absurd rfl (h 12 (by omega))
        | 22, h => exact absurd rfl (h 13 (by omega))
        | 23, h => exact absurd rfl (h 14 (by omega))
        | 24, h => exact absurd rfl (h 15 (by omega))
        | 25, _ => rfl
        | 26, _ => rfl
        | 27, _ => rfl
        | t + 28, _ => simp
      · intro i hi
        match i, hi with
        | 0, _ => exact ⟨_, _, _, rfl, rfl, rfl, (fun _ _ h => by cases h), rfl, rfl⟩
        | 1, _ => exact ⟨_, _, _, rfl, rfl, rfl, (fun _ _ h => by cases h), by go_simp, rfl⟩
        | 2, _ => exact ⟨_, _, _, rfl, rfl, rfl, (fun _ _ h => by cases h), rfl, rfl⟩
        | 3, _ => exact ⟨_, _, _, rfl, rfl, rfl, (fun _ _ h => by cases h), by go_simp, rfl⟩
        | 4, _ => exact ⟨_, _, _, rfl, rfl, rfl, (fun _ _ h => by cases h), by go_simp, by go_simp⟩
        | 5, _ => exact ⟨_, _, _, rfl, rfl, rfl, (fun _ _ h => by cases h), by go_simp, rfl⟩
        | 6, _ => exact ⟨_, _, _, rfl, rfl, rfl, (fun _ _ h => by cases h), by go_simp, rfl⟩
        | 7, _ => exact ⟨_, _, _, rfl, rfl, rfl, (fun _ _ h => by cases h), by go_simp, rfl⟩
        | 8, _ => exact ⟨_, _, _, rfl, rfl, rfl, (fun _ _ h => by cases h), rfl, rfl⟩
        | 9, _ => exact ⟨_, _, _, rfl, rfl, rfl, (fun _ _ h => by cases h), by go_simp, rfl⟩
        | 10, _ => exact ⟨_, _, _, rfl, rfl, rfl, (fun _ _ h => by cases h), by go_simp, rfl⟩
        | 11, _ => exact ⟨_, _, _, rfl, rfl, rfl, (fun _ _ h => by cases h), by go_simp, by go_simp⟩
        | 12, _ => exact ⟨_, _, _, rfl, rfl, rfl, (fun _ _ h => by cases h), by go_simp, rfl⟩
        | 13, _ => exact ⟨_, _, _, rfl, rfl, rfl, (fun _ _ h => by cases h), by go_simp, rfl⟩
        | 14, _ => exact ⟨_, _, _, rfl, rfl, rfl, (fun _ _ h => by cases h), by go_simp, rfl⟩
        | 15, _ => exact ⟨_, _, _, rfl, rfl, rfl, (fun _ _ h => by cases h), by go_simp, rfl⟩
        | i + 16, hi => exact absurd hi (by omega)
      · dsimp only [enc] at hy
        gi_wp2
        refine hR.mono ?_
        rintro e W3 (⟨rfl, hJ3, hk3⟩ | ⟨rfl, hJx3⟩ | ⟨ch, rfl, hJp3⟩)
        · gi_wp2
          go_roundw
          case rel => exact ⟨k + 1, by omega, by go_num, by rw [take_fin hlt]; exact hJ3, hB.trans hk3⟩
          case measure => simp [intOf]; omega
        · gi_wp2
          refine bodyPost_ret (results_none rfl _ _ _) rfl ?_
          exact .inl ⟨⟨_, rfl⟩, .inr ⟨_, ⟨_, List.take_append_drop (k + 1) (List.finRange c)⟩, by rw [take_fin hlt]; exact hJx3⟩⟩
        · gi_wp2
          exact ⟨rfl, .inr ⟨_, rfl, hJp3⟩⟩
    · obtain rfl : k = c := by omega
      gi_wp2
      go_end0
      exact .inl ⟨⟨_, rfl⟩, .inl ⟨_, rfl, by rw [List.take_of_length_le (by simp)] at hJ; exact hJ⟩⟩

theorem stops {B1 B2 b o cap n c : Nat} (hcap : n ≤ cap) (hn : n ≤ 1000000) (hc : c ≤ n) {w : World} (hB1 : B1 < w.heap.size) (hB2 : B2 < w.heap.size)
    (h1 : w.cell? ⟨B1, 0, none⟩ = some (.int .i64 c)) (h2 : 0 < c → w.cell? ⟨B2, 0, none⟩ = some (.slice (some ⟨b, o, none⟩) n cap)) :
    Rp.Stops Try.prog 162 #[.pointer (some ⟨B1, 0, none⟩), .pointer (some ⟨B2, 0, none⟩)] (enc b o cap n (c := c)) (Kp B1 B2) (fun ys => ys = List.finRange c) (fun pre => pre <+: List.finRange c) c w := by
  intro l J Jx Jp W hW hJ hY h0
  exact chunks1 hcap hn hc J Jx Jp hY W ((hW.cell (p := ⟨B1, 0, none⟩) hB1).trans h1) (fun h => (hW.cell (p := ⟨B2, 0, none⟩) hB2).trans (h2 h)) h0
    fun pre W1 h => hJ pre W1 W1.drew none h ⟨rfl, rfl, rfl, Nat.le_refl _, fun _ _ _ => rfl⟩ (fun r e => by cases e)

theorem two (w : World) (x y : Obj) : Below w.heap.size w ((w.alloc x).alloc y) := ((Below.refl _ w).alloc (Nat.le_refl _) x).alloc (by simp) y
theorem first_cell (w : World) (v : Value) (t : TypeId) (o : Obj) : ((w.alloc (.cells #[v] t)).alloc o).cell? ⟨w.heap.size, 0, none⟩ = some v :=
  (cell_of (old_block (new_block w (.cells #[v] t)) o) 0).trans rfl
theorem second_cell (w : World) (o : Obj) (v : Value) (t : TypeId) : ((w.alloc o).alloc (.cells #[v] t)).cell? ⟨w.heap.size + 1, 0, none⟩ = some v := by
  have h := new_block (w.alloc o) (.cells #[v] t)
  rw [World.size_alloc] at h
  exact (cell_of h 0).trans rfl
set_option maxHeartbeats 4000000 in
theorem maker {w : World} {oa : Option Addr} {n cap : Nat} {z : Int} (hla : n ≤ 1000000) :
    Calls Try.prog 146 #[.slice oa n cap, .int .i64 z] w fun e w' => e = .returned (.func (.func 162) #[] #[.pointer (some ⟨w.heap.size + 1, 0, none⟩), .pointer (some ⟨w.heap.size, 0, none⟩)]) ∧
      Below w.heap.size w w' ∧ w'.heap.size = w.heap.size + 2 ∧ w'.cell? ⟨w.heap.size + 1, 0, none⟩ = some (.int .i64 (count n z : Int)) ∧ w'.cell? ⟨w.heap.size, 0, none⟩ = some (.slice oa n cap) := by
  refine (callsIn_wide (n := 3)).1 ?_
  refine callsIn_of_wp Try.func146 rfl trivial ?_ rfl
  simp only [Try.ntmps146, List.size_toArray, List.length_cons, List.length_nil, Nat.reduceAdd, Nat.reduceSub, Array.replicate_succ, Array.replicate_zero, List.push_toArray, List.append_toArray, List.nil_append, List.cons_append]
  gi_wp2
  all_goals
    refine bodyPost_ret (results_tmp rfl _ _ _) rfl ⟨rfl, two w _ _, by simp, (second_cell w _ _ _).trans (congrArg (fun q => some (Value.int .i64 q)) ?_), first_cell w _ _ _⟩
    rw [count_int]
    omega
end Go.Proofs.Ytmkapmbmgpnjaaa.Se
