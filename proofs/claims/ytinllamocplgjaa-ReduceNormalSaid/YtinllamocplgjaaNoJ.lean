import Derived.Test.YtinllamocplgjaaNoI
set_option maxRecDepth 100000
namespace Go.Proofs.Ytinllamocplgjaa.No
open Go Go.Ms Go.Pg Go.Rc Go.No Go.ChangeShapes Go.WideShapes Go.ChangeAt Go.RowKit Go.Deep Go.Shelf Go.Proofs.Ytinllamocplgjaa.Rc

theorem put_thread {S : Int → Prop} {m : List Pick} {p : Pick} (h : ∀ q ∈ m, S q.1) (hp : S p.1) : ∀ q ∈ put m p, S q.1 := by
  unfold put
  split
  · rename_i r hr
    have hrm : r ∈ m := List.mem_of_getLast? hr
    split
    · intro q hq
      rcases List.mem_append.1 hq with hq | hq
      · exact h q (List.mem_of_mem_take (by rw [← List.dropLast_eq_take]; exact hq))
      · simp at hq
        subst hq
        exact h r hrm
    · intro q hq
      rcases List.mem_append.1 hq with hq | hq
      · exact h q hq
      · simp at hq
        subst hq
        exact hp
  · intro q hq
    simp at hq
    subst hq
    exact hp
theorem norm_thread {S : Int → Prop} {l : List Pick} (h : ∀ p ∈ l, S p.1) : ∀ p ∈ norm l, S p.1 := by
  have : ∀ (l m : List Pick), (∀ p ∈ l, S p.1) → (∀ p ∈ m, S p.1) → ∀ p ∈ l.foldl put m, S p.1 := by
    intro l
    induction l with
    | nil => intro m _ hm; exact hm
    | cons q l ih =>
      intro m hl hm
      rw [List.foldl_cons]
      exact ih _ (fun p hp => hl p (List.mem_cons_of_mem _ hp)) (put_thread hm (hl q (List.mem_cons_self ..)))
  exact this l [] h (fun p hp => by simp at hp)
theorem mem_le : ∀ {m : List Pick} {q : Pick}, (∀ p ∈ m, 1 ≤ p.2) → q ∈ m → q.2 ≤ No.sum m
  | p :: m, q, h, hq => by
    have h1 := sum_nonneg (l := m) fun r hr => h r (List.mem_cons_of_mem _ hr)
    have h2 := h p (List.mem_cons_self ..)
    simp only [No.sum, List.map_cons, List.sum_cons] at h1 ⊢
    rcases List.mem_cons.1 hq with rfl | hq
    · omega
    · have := mem_le (fun r hr => h r (List.mem_cons_of_mem _ hr)) hq
      simp only [No.sum] at this
      omega
theorem norm_ok {l : List Pick} (h : err 65536 l = 0) : ∀ p ∈ norm l, 0 ≤ p.1 ∧ p.1 < 8 ∧ 1 ≤ p.2 ∧ p.2 ≤ 65536 := by
  intro p hp
  have h1 := norm_thread (S := fun t => 0 ≤ t ∧ t < 8) (fun q hq => by
    have := (err_elem h q hq).1
    simp only [Bad] at this
    omega) p hp
  have h2 := norm_pos h p hp
  have h3 := mem_le (norm_pos h) hp
  rw [norm_sum] at h3
  have h4 := sum_bound l 65536 (by omega) h
  omega
theorem wf_small {z : Int} (h0 : -1000000 ≤ z) (h : z ≤ 1000000) : WfI .i64 z := by
  simp [WfI, Lit.wf, IntKind.min, IntKind.max, IntKind.signed, IntKind.bits]
  omega
theorem norm_row {B : Nat} {w : World} {v : Value} {l : List Pick} (h : OwnP B w v (norm l)) (h0 : err 65536 l = 0) (hl : l.length ≤ 100000) : Picks w v (norm l) :=
  h.row (fun p hp => by
    have := norm_ok h0 p hp
    exact ⟨wf_small (by omega) (by omega), wf_small (by omega) (by omega)⟩) (Nat.le_trans (norm_length l) (by omega))

def pres (m : List Pick) : List Int := ((List.range m.length).filter fun x => !gone m x).map Int.ofNat

set_option maxHeartbeats 4000000 in
theorem deleteNone {w : World} {B : Nat} {l : List Pick} (h : Reads B l w) :
    Calls Try.prog 31 #[.slice none 0 0, .func (.func 33) #[] #[.pointer (some ⟨B, 0, none⟩)]] w fun e w' => e = .returned (.slice none 0 0) ∧ ∃ n, w' = w.drewN n := by
  have H := hide (indexFunc (v := .slice none 0 0) (xs := []) h (fun x hx => by simp at hx) ⟨none, 0, rfl, Nat.zero_le _, fun i hi => absurd hi (Nat.not_lt_zero i)⟩)
  clear h
  go_enter Try.func31, Try.ntmps31
  go_wp2_with (first
    | (go_at_call 53
       (with_reducible refine H.out.mono ?_)
       rintro e w1 ⟨he, n, rfl⟩
       have he2 : e = .returned (.int .i64 (-1)) := he
       clear he
       subst he2)
    | fail)
  go_ret
  exact ⟨rfl, n, rfl⟩
end Go.Proofs.Ytinllamocplgjaa.No
