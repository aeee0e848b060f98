import Derived.Test.YtjljdfeglikbjaaRcD
set_option maxRecDepth 100000
namespace Go.Proofs.Ytjljdfeglikbjaa.Rc
open Go Go.Ms Go.Pg Go.Rc Go.ChangeShapes Go.WideShapes Go.ChangeAt Go.RowKit Go.Deep Go.Shelf

theorem stops {B1 B2 b o cap n c : Nat} (hcap : n ≤ cap) (hn : n ≤ 1000000) (hc : c ≤ n) {w : World} (hB1 : B1 < w.heap.size) (hB2 : B2 < w.heap.size)
    (h1 : w.cell? ⟨B1, 0, none⟩ = some (.int .i64 c)) (h2 : 0 < c → w.cell? ⟨B2, 0, none⟩ = some (.slice (some ⟨b, o, none⟩) n cap)) :
    SeqStopsK Fence.wide 3 Try.prog 48 #[.pointer (some ⟨B1, 0, none⟩), .pointer (some ⟨B2, 0, none⟩)] (enc b o cap n (c := c)) (Kp B1 B2) (fun ys => ys = List.finRange c) (fun pre => pre <+: List.finRange c) c w := by
  intro l J Jx W hW hJ _ hY h0
  exact chunks1 hcap hn hc J Jx hY W ((hW.cell (p := ⟨B1, 0, none⟩) hB1).trans h1) (fun h => (hW.cell (p := ⟨B2, 0, none⟩) hB2).trans (h2 h)) h0
    fun pre W1 h => hJ pre W1 W1.drew none h ⟨rfl, rfl, rfl, Nat.le_refl _, fun _ _ _ => rfl⟩ (fun r e => by cases e)

theorem two (w : World) (x y : Obj) : Below w.heap.size w ((w.alloc x).alloc y) := ((Below.refl _ w).alloc (Nat.le_refl _) x).alloc (by simp) y
theorem first_cell (w : World) (v : Value) (t : TypeId) (o : Obj) : ((w.alloc (.cells #[v] t)).alloc o).cell? ⟨w.heap.size, 0, none⟩ = some v :=
  (cell_of (old_block (new_block w (.cells #[v] t)) o) 0).trans rfl
theorem second_cell (w : World) (o : Obj) (v : Value) (t : TypeId) : ((w.alloc o).alloc (.cells #[v] t)).cell? ⟨w.heap.size + 1, 0, none⟩ = some v := by
  have h := new_block (w.alloc o) (.cells #[v] t)
  rw [World.size_alloc] at h
  exact (cell_of h 0).trans rfl

set_option maxHeartbeats 4000000 in
theorem maker {w : World} {v : Value} {l : List Int} {z : Int} (h : RowAt 1 (NumAt .i64) w v l) :
    CallsIn Fence.wide 3 Try.prog 25 #[v, .int .i64 z] w fun e w' => e = .returned (.func (.func 48) #[] #[.pointer (some ⟨w.heap.size + 1, 0, none⟩), .pointer (some ⟨w.heap.size, 0, none⟩)]) ∧
      Below w.heap.size w w' ∧ w'.heap.size = w.heap.size + 2 ∧ w'.cell? ⟨w.heap.size + 1, 0, none⟩ = some (.int .i64 (count l.length z : Int)) ∧ w'.cell? ⟨w.heap.size, 0, none⟩ = some v := by
  obtain ⟨oa, cap, rfl, hla, _⟩ := h
  refine callsIn_of_wp Try.func25 rfl trivial ?_ rfl
  simp only [Try.ntmps25, List.size_toArray, List.length_cons, List.length_nil, Nat.reduceAdd, Nat.reduceSub, Array.replicate_succ, Array.replicate_zero, List.push_toArray, List.append_toArray, List.nil_append, List.cons_append]
  gi_wp2
  all_goals
    refine bodyPost_ret (results_tmp rfl _ _ _) rfl ⟨rfl, two w _ _, by simp, (second_cell w _ _ _).trans (congrArg (fun q => some (Value.int .i64 q)) ?_), first_cell w _ _ _⟩
    rw [count_int]
    omega
end Go.Proofs.Ytjljdfeglikbjaa.Rc
