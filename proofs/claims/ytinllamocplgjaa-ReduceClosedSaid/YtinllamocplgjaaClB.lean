import Derived.Test.YtinllamocplgjaaRcC
import Derived.Test.YtinllamocplgjaaClA
import Derived.BigQuiet
set_option maxRecDepth 100000
namespace Go.Proofs.Ytinllamocplgjaa.Cl
open Go Go.Ms Go.Pg Go.Rc Go.Cl Go.ChangeShapes Go.WideShapes Go.ChangeAt Go.RowKit Go.Deep Go.Proofs.Ytinllamocplgjaa.Rc

abbrev Ints (w : World) (v : Value) (l : List Int) : Prop := RowAt 1 (NumAt .i64) w v l
theorem wrap_in {z : Int} (h0 : -1000000 ≤ z) (h : z ≤ 1000000) : IntKind.i64.wrap z = z := by
  simp [IntKind.wrap, IntKind.signed, IntKind.bits]
  omega
theorem wrap_up {k n : Nat} (h : k < n) (hn : n ≤ 140737488351232) : IntKind.i64.wrap ((k : Int) + 1) = (k : Int) + 1 := by
  simp [IntKind.wrap, IntKind.signed, IntKind.bits]
  omega
theorem wrap_down {j k n : Nat} (e : k = j + 1) (h : k < n) (hn : n ≤ 140737488351232) : IntKind.i64.wrap ((k : Int) - 1) = (j : Int) := by
  simp [IntKind.wrap, IntKind.signed, IntKind.bits]
  omega
def IntsW (w : World) (v : Value) (l : List Int) : Prop := ∃ oa cap, v = .slice oa l.length cap ∧ l.length ≤ 9223372036854775807 ∧ ∀ i (h : i < l.length), ∃ b o, oa = some ⟨b, o, none⟩ ∧ NumAt .i64 w b (o + i * 1) l[i]
theorem ints_w {w : World} {v : Value} {l : List Int} (h : Ints w v l) : IntsW w v l := by
  obtain ⟨oa, cap, e, hl, hc⟩ := h
  exact ⟨oa, cap, e, by omega, hc⟩
theorem w_ints {w : World} {v : Value} {l : List Int} (h : IntsW w v l) (hn : l.length ≤ 1000) : Ints w v l := by
  obtain ⟨oa, cap, e, hl, hc⟩ := h
  exact ⟨oa, cap, e, by omega, hc⟩
theorem intsW_drewN {w : World} {v : Value} {l : List Int} (h : IntsW w v l) (n : Nat) : IntsW (w.drewN n) v l := h
theorem wrap_upW {k n : Nat} (h : k < n) (hn : n ≤ 9223372036854775807) : IntKind.i64.wrap ((k : Int) + 1) = (k : Int) + 1 := by
  simp [IntKind.wrap, IntKind.signed, IntKind.bits]
  omega
theorem wrap_downW {j k n : Nat} (e : k = j + 1) (h : k < n) (hn : n ≤ 9223372036854775807) : IntKind.i64.wrap ((k : Int) - 1) = (j : Int) := by
  simp [IntKind.wrap, IntKind.signed, IntKind.bits]
  omega
theorem cells_at {w : World} {v : Value} {l : List Int} (h : Ints w v l) : ∃ oa cap, v = .slice oa l.length cap ∧ l.length ≤ 140737488351232 ∧ ∀ i (h : i < l.length), ∃ b o, oa = some ⟨b, o, none⟩ ∧ NumAt .i64 w b (o + i * 1) l[i] := h
theorem ints_below {w w' : World} {v : Value} {l : List Int} (h : Ints w v l) (hB : Below w.heap.size w w') : Ints w' v l := h.imp fun _ _ _ q => ⟨cell_below hB q.1, q.2⟩
theorem ints_drewN {w : World} {v : Value} {l : List Int} (h : Ints w v l) (n : Nat) : Ints (w.drewN n) v l := h
theorem belowN (B : Nat) (w : World) (n : Nat) : Below B w (w.drewN n) := ⟨rfl, rfl, rfl, Nat.le_refl _, fun _ _ => rfl⟩

theorem own_drew {w : World} {B : Nat} {v : Value} {l : List Int} (h : Go.Il.Own 3 .i64 B w v l) (n : Nat) : Go.Il.Own 3 .i64 B (w.drewN n) v l := h
def Tells (p : Prop) (w : World) (e : Ending) (w' : World) : Prop := ∃ r, e = .returned (.bool r) ∧ (r = true ↔ p) ∧ ∃ n, w' = w.drewN n
theorem tells_yes {p : Prop} {w w' : World} {e : Ending} (h : Tells p w e w') (hp : p) : e = .returned (.bool true) ∧ ∃ n, w' = w.drewN n := by
  obtain ⟨r, rfl, hr, hn⟩ := h
  rw [hr.2 hp]
  exact ⟨rfl, hn⟩
theorem tells_no {p : Prop} {w w' : World} {e : Ending} (h : Tells p w e w') (hp : ¬ p) : e = .returned (.bool false) ∧ ∃ n, w' = w.drewN n := by
  obtain ⟨r, rfl, hr, hn⟩ := h
  cases r with
  | true => exact absurd (hr.1 rfl) hp
  | false => exact ⟨rfl, hn⟩
theorem not_next {l : List Int} {x : Int} {k : Nat} (h : x ∉ l.take k) (hk : k < l.length) (e : (l[k] == x) = false) : x ∉ l.take (k + 1) := by
  rw [List.take_succ_eq_append_getElem hk]
  intro q
  rcases List.mem_append.1 q with q | q
  · exact h q
  · simp at q e
    exact e q.symm

set_option maxHeartbeats 4000000 in
theorem hasProg {w : World} {v : Value} {l : List Int} {x : Int} (h : Ints w v l) : Calls Try.prog 23 #[v, .int .i64 x] w (Tells (x ∈ l) w) := by
  obtain ⟨oa, cap, rfl, hl, hc⟩ := cells_at h
  have HC := hide hc
  clear h hc
  go_enter Try.func23, Try.ntmps23
  go_wp2_with fail
  go_loopw [5] (fun i wr => ∃ k : Nat, k ≤ l.length ∧ i = .int .i64 (k : Int) ∧ x ∉ l.take k ∧ ∃ n, wr = w.drewN n) (fun i _ => l.length - (intOf i).toNat)
  case atStart => exact ⟨0, Nat.zero_le _, rfl, by simp, 0, rfl⟩
  case round =>
    obtain ⟨k, hk, rfl, hx, n, rfl⟩ := hrel
    have HX := hide hx
    clear hx
    by_cases hlt : k < l.length
    · have hi : (k : Int) < (l.length : Int) := by omega
      obtain ⟨b, o, rfl, f⟩ := int_cell HC.out hlt
      have hw := wrap_up hlt hl
      cases hq : (l[k] == x) with
      | true =>
        go_wp2_with fail
        go_ret
        have : l[k] = x := by simpa using hq
        exact ⟨true, rfl, ⟨fun _ => this ▸ List.getElem_mem hlt, fun _ => rfl⟩, _, rfl⟩
      | false =>
        have HN := hide (not_next HX.out hlt hq)
        go_wp2_with fail
        exact ⟨⟨k + 1, by omega, by go_num, HN.out, _, rfl⟩, by simp [intOf]; omega⟩
    · obtain rfl : k = l.length := by omega
      rw [List.take_length] at HX
      go_wp2_with fail
      go_ret
      exact ⟨false, rfl, ⟨fun q => by simp at q, fun q => absurd q HX.out⟩, _, rfl⟩

def Inc (l : List Int) (n : Int) : Prop := ∀ i (h : i < l.length), 0 ≤ l[i] ∧ l[i] < n ∧ ∀ j (hj : j < l.length), i = j + 1 → l[j] < l[i]
def IncTo (l : List Int) (n : Int) (k : Nat) : Prop := ∀ i (h : i < l.length), i < k → 0 ≤ l[i] ∧ l[i] < n ∧ ∀ j (hj : j < l.length), i = j + 1 → l[j] < l[i]
theorem inc_all {l : List Int} {n : Int} (h : IncTo l n l.length) : Inc l n := fun i hi => h i hi hi
theorem inc_next {l : List Int} {n : Int} {k : Nat} (h : IncTo l n k) (hk : k < l.length) (h1 : 0 ≤ l[k]) (h2 : l[k] < n) (h3 : ∀ j (hj : j < l.length), k = j + 1 → l[j] < l[k]) : IncTo l n (k + 1) := by
  intro i hi hik
  by_cases e : i < k
  · exact h i hi e
  · obtain rfl : i = k := by omega
    exact ⟨h1, h2, h3⟩

set_option maxHeartbeats 8000000 in
theorem setProg {w : World} {v : Value} {l : List Int} {n : Int} (h : IntsW w v l) : Calls Try.prog 18 #[v, .int .i64 n] w (Tells (Inc l n) w) := by
  obtain ⟨oa, cap, rfl, hl, hc⟩ := h
  have HC := hide hc
  clear hc
  go_enter Try.func18, Try.ntmps18
  go_wp2_with fail
  go_loopw [5] (fun i wr => ∃ k : Nat, k ≤ l.length ∧ i = .int .i64 (k : Int) ∧ IncTo l n k ∧ ∃ n, wr = w.drewN n) (fun i _ => l.length - (intOf i).toNat)
  case atStart => exact ⟨0, Nat.zero_le _, rfl, fun i _ hi => absurd hi (Nat.not_lt_zero i), 0, rfl⟩
  case round =>
    obtain ⟨k, hk, rfl, hx, nd, rfl⟩ := hrel
    have HX := hide hx
    clear hx
    by_cases hlt : k < l.length
    · have hi : (k : Int) < (l.length : Int) := by omega
      obtain ⟨b, o, rfl, f⟩ := int_cell HC.out hlt
      have hw := wrap_upW hlt hl
      by_cases q1 : l[k] < 0
      · have d1 : decide (l[k] < 0) = true := decide_eq_true q1
        have HQ := hide q1
        clear q1
        go_wp2_with fail
        go_big_quiet (fail)
        go_wp2_with fail
        go_ret
        exact ⟨false, rfl, ⟨fun q => by simp at q, fun q => absurd (q k hlt).1 (by have := HQ.out; omega)⟩, _, drews _ _ _⟩
      · by_cases q2 : n ≤ l[k]
        · have d1 : decide (l[k] < 0) = false := decide_eq_false q1
          have d2 : decide (n ≤ l[k]) = true := decide_eq_true q2
          have HQ := hide q2
          clear q1 q2
          go_wp2_with fail
          go_big_quiet (fail)
          go_wp2_with fail
          go_ret
          exact ⟨false, rfl, ⟨fun q => by simp at q, fun q => absurd (q k hlt).2.1 (by have := HQ.out; omega)⟩, _, drews _ _ _⟩
        · have d1 : decide (l[k] < 0) = false := decide_eq_false q1
          have d2 : decide (n ≤ l[k]) = false := decide_eq_false q2
          rcases Nat.eq_zero_or_pos k with h0 | h0
          · have d3 : decide ((0 : Int) < (k : Int)) = false := decide_eq_false (by omega)
            have d4 : decide (0 < k) = false := decide_eq_false (by omega)
            have d5 : ¬ 0 < k := by omega
            have HN := hide (inc_next HX.out hlt (by omega) (by omega) fun j _ e => by omega)
            clear q1 q2 h0
            go_wp2_with fail
            go_big_quiet (fail)
            go_wp2_with fail
            exact ⟨⟨k + 1, by omega, by go_num, HN.out, _, rfl⟩, by simp [intOf]; omega⟩
          · obtain ⟨j, ej⟩ : ∃ j, k = j + 1 := ⟨k - 1, by omega⟩
            have hj : j < l.length := by omega
            have hj64 : (j : Int) < (l.length : Int) := by omega
            obtain ⟨b2, o2, e2, f2⟩ := int_cell HC.out hj
            cases e2
            have d3 : decide ((0 : Int) < (k : Int)) = true := decide_eq_true (by omega)
            have d4 : decide (0 < k) = true := decide_eq_true (by omega)
            have d5 : 0 < k := by omega
            have hw2 := wrap_downW ej hlt hl
            by_cases q3 : l[k] ≤ l[j]
            · have d6 : decide (l[k] ≤ l[j]) = true := decide_eq_true q3
              have HQ := hide q3
              have HE := hide ej
              clear q1 q2 q3 h0 ej
              go_wp2_with fail
              go_big_quiet (fail)
              go_wp2_with fail
              go_ret
              exact ⟨false, rfl, ⟨fun q => by simp at q, fun q => absurd ((q k hlt).2.2 j hj HE.out) (by have := HQ.out; omega)⟩, _, drews _ _ _⟩
            · have d6 : decide (l[k] ≤ l[j]) = false := decide_eq_false q3
              have HN := hide (inc_next HX.out hlt (by omega) (by omega) fun j' _ e => by
                obtain rfl : j' = j := by omega
                omega)
              clear q1 q2 q3 h0 ej
              go_wp2_with fail
              go_big_quiet (fail)
              go_wp2_with fail
              exact ⟨⟨k + 1, by omega, by go_num, HN.out, _, rfl⟩, by simp [intOf]; omega⟩
    · obtain rfl : k = l.length := by omega
      go_wp2_with fail
      go_ret
      exact ⟨true, rfl, ⟨fun _ => inc_all HX.out, fun _ => rfl⟩, _, rfl⟩

set_option maxHeartbeats 8000000 in
theorem isSetProg {w : World} {v : Value} {l : List Int} {n : Int} (h : Ints w v l) : Calls Try.prog 57 #[v, .int .i64 n] w (Tells (Inc l n) w) := by
  obtain ⟨oa, cap, rfl, hl, hc⟩ := cells_at h
  have HC := hide hc
  clear h hc
  go_enter Try.func57, Try.ntmps57
  go_wp2_with fail
  go_loopw [9] (fun i wr => ∃ k : Nat, k ≤ l.length ∧ i = .int .i64 (k : Int) ∧ IncTo l n k ∧ ∃ n, wr = w.drewN n) (fun i _ => l.length - (intOf i).toNat)
  case atStart => exact ⟨0, Nat.zero_le _, rfl, fun i _ hi => absurd hi (Nat.not_lt_zero i), 0, rfl⟩
  case round =>
    obtain ⟨k, hk, rfl, hx, nd, rfl⟩ := hrel
    have HX := hide hx
    clear hx
    by_cases hlt : k < l.length
    · have hi : (k : Int) < (l.length : Int) := by omega
      obtain ⟨b, o, rfl, f⟩ := int_cell HC.out hlt
      have hw := wrap_up hlt hl
      by_cases q1 : l[k] < 0
      · have d1 : decide (l[k] < 0) = true := decide_eq_true q1
        have HQ := hide q1
        clear q1
        go_wp2_with fail
        go_ret
        exact ⟨false, rfl, ⟨fun q => by simp at q, fun q => absurd (q k hlt).1 (by have := HQ.out; omega)⟩, _, rfl⟩
      · by_cases q2 : n ≤ l[k]
        · have d1 : decide (l[k] < 0) = false := decide_eq_false q1
          have d2 : decide (n ≤ l[k]) = true := decide_eq_true q2
          have HQ := hide q2
          clear q1 q2
          go_wp2_with fail
          go_ret
          exact ⟨false, rfl, ⟨fun q => by simp at q, fun q => absurd (q k hlt).2.1 (by have := HQ.out; omega)⟩, _, rfl⟩
        · have d1 : decide (l[k] < 0) = false := decide_eq_false q1
          have d2 : decide (n ≤ l[k]) = false := decide_eq_false q2
          rcases Nat.eq_zero_or_pos k with h0 | h0
          · have d3 : decide ((0 : Int) < (k : Int)) = false := decide_eq_false (by omega)
            have d4 : decide (0 < k) = false := decide_eq_false (by omega)
            have d5 : ¬ 0 < k := by omega
            have HN := hide (inc_next HX.out hlt (by omega) (by omega) fun j _ e => by omega)
            clear q1 q2 h0
            go_wp2_with fail
            exact ⟨⟨k + 1, by omega, by go_num, HN.out, _, rfl⟩, by simp [intOf]; omega⟩
          · obtain ⟨j, ej⟩ : ∃ j, k = j + 1 := ⟨k - 1, by omega⟩
            have hj : j < l.length := by omega
            have hj64 : (j : Int) < (l.length : Int) := by omega
            obtain ⟨b2, o2, e2, f2⟩ := int_cell HC.out hj
            cases e2
            have d3 : decide ((0 : Int) < (k : Int)) = true := decide_eq_true (by omega)
            have d4 : decide (0 < k) = true := decide_eq_true (by omega)
            have d5 : 0 < k := by omega
            have hw2 := wrap_down ej hlt hl
            by_cases q3 : l[k] ≤ l[j]
            · have d6 : decide (l[k] ≤ l[j]) = true := decide_eq_true q3
              have HQ := hide q3
              have HE := hide ej
              clear q1 q2 q3 h0 ej
              go_wp2_with fail
              go_ret
              exact ⟨false, rfl, ⟨fun q => by simp at q, fun q => absurd ((q k hlt).2.2 j hj HE.out) (by have := HQ.out; omega)⟩, _, rfl⟩
            · have d6 : decide (l[k] ≤ l[j]) = false := decide_eq_false q3
              have HN := hide (inc_next HX.out hlt (by omega) (by omega) fun j' _ e => by
                obtain rfl : j' = j := by omega
                omega)
              clear q1 q2 q3 h0 ej
              go_wp2_with fail
              exact ⟨⟨k + 1, by omega, by go_num, HN.out, _, rfl⟩, by simp [intOf]; omega⟩
    · obtain rfl : k = l.length := by omega
      go_wp2_with fail
      go_ret
      exact ⟨true, rfl, ⟨fun _ => inc_all HX.out, fun _ => rfl⟩, _, rfl⟩

set_option maxHeartbeats 4000000 in
theorem indexProg {w : World} {v : Value} {l : List Int} {x : Int} (h : Ints w v l) : Calls Try.prog 60 #[v, .int .i64 x] w fun e w' => (∃ r : Int, e = .returned (.int .i64 r) ∧ (0 ≤ r ↔ x ∈ l)) ∧ ∃ n, w' = w.drewN n := by
  obtain ⟨oa, cap, rfl, hl, hc⟩ := cells_at h
  have HC := hide hc
  clear h hc
  go_enter Try.func60, Try.ntmps60
  go_wp2_with fail
  go_loopw [8] (fun i wr => ∃ k : Nat, k ≤ l.length ∧ i = .int .i64 (k : Int) ∧ x ∉ l.take k ∧ ∃ n, wr = w.drewN n) (fun i _ => l.length - (intOf i).toNat)
  case atStart => exact ⟨0, Nat.zero_le _, rfl, by simp, 0, rfl⟩
  case round =>
    obtain ⟨k, hk, rfl, hx, n, rfl⟩ := hrel
    have HX := hide hx
    clear hx
    by_cases hlt : k < l.length
    · have hi : (k : Int) < (l.length : Int) := by omega
      obtain ⟨b, o, rfl, f⟩ := int_cell HC.out hlt
      have hw := wrap_up hlt hl
      cases hq : (l[k] == x) with
      | true =>
        have hq2 : (x == l[k]) = true := by rw [← hq]; exact Bool.beq_comm
        go_wp2_with fail
        go_ret
        have : l[k] = x := by simpa using hq
        exact ⟨⟨k, rfl, ⟨fun _ => this ▸ List.getElem_mem hlt, fun _ => by omega⟩⟩, _, rfl⟩
      | false =>
        have hq2 : (x == l[k]) = false := by rw [← hq]; exact Bool.beq_comm
        have HN := hide (not_next HX.out hlt hq)
        go_wp2_with fail
        exact ⟨⟨k + 1, by omega, by go_num, HN.out, _, rfl⟩, by simp [intOf]; omega⟩
    · obtain rfl : k = l.length := by omega
      rw [List.take_length] at HX
      go_wp2_with fail
      go_ret
      exact ⟨⟨-1, rfl, ⟨fun q => by omega, fun q => absurd q HX.out⟩⟩, _, rfl⟩
set_option maxHeartbeats 4000000 in
theorem containsProg {w : World} {v : Value} {l : List Int} {x : Int} (h : Ints w v l) : Calls Try.prog 40 #[v, .int .i64 x] w (Tells (x ∈ l) w) := by
  have HR := hide h
  obtain ⟨oa, cap, rfl, _, _⟩ := cells_at h
  clear h
  go_enter Try.func40, Try.ntmps40
  go_wp2_with (first
    | (go_at_call 60
       (with_reducible refine (indexProg HR.out).mono ?_)
       rintro e _ ⟨⟨r, rfl, hr⟩, n, rfl⟩
       have HX := hide hr
       clear hr)
    | fail)
  go_ret
  exact ⟨_, rfl, by rw [decide_eq_true_iff]; exact HX.out, _, rfl⟩

def minus (l m : List Int) : List Int := l.filter fun x => decide (x ∉ m)
theorem minus_take {l m : List Int} {k : Nat} (hk : k < l.length) : minus (l.take (k + 1)) m = minus (l.take k) m ++ if l[k] ∈ m then [] else [l[k]] := by
  unfold minus
  rw [List.take_succ_eq_append_getElem hk, List.filter_append]
  by_cases h : l[k] ∈ m <;> simp [h]
theorem minus_nil {l m : List Int} (h : ∀ x ∈ l, x ∈ m) : minus l m = [] := by
  unfold minus
  rw [List.filter_eq_nil_iff]
  intro x hx
  simp [h x hx]
theorem minus_some {l m : List Int} {x : Int} (h : x ∈ l) (hn : x ∉ m) : 0 < (minus l m).length := by
  have : x ∈ minus l m := List.mem_filter.2 ⟨h, by simpa using hn⟩
  exact List.length_pos_of_mem this

set_option maxHeartbeats 4000000 in
theorem minusProg {w : World} {v u : Value} {l m : List Int} (h : Ints w v l) (hu : Ints w u m) (hlen : l.length ≤ 1000) :
    Calls Try.prog 21 #[v, u] w fun e w' => ∃ oa cap, e = .returned (.slice oa (minus l m).length cap) ∧ Below w.heap.size w w' := by
  obtain ⟨oa, cap, rfl, hl, hc⟩ := cells_at h
  obtain ⟨ou, cu, rfl, _, _⟩ := cells_at hu
  have HC := hide hc
  have HU := hide hu
  clear h hc hu
  go_enter Try.func21, Try.ntmps21
  go_wp2_with fail
  go_loopw [5, 6] (fun r i wr => ∃ k : Nat, k ≤ l.length ∧ i = .int .i64 (k : Int) ∧ Go.Il.Own 3 .i64 w.heap.size wr r (minus (l.take k) m) ∧ Below w.heap.size w wr) (fun _ i _ => l.length - (intOf i).toNat)
  case atStart => exact ⟨0, Nat.zero_le _, rfl, by rw [List.take_zero]; exact Go.Il.Own.nil _ _ _ _, Below.refl _ _⟩
  case round =>
    obtain ⟨k, hk, rfl, hO, hB⟩ := hrel
    have HO := hide hO
    have HB := hide hB
    clear hO hB
    by_cases hlt : k < l.length
    · have hi : (k : Int) < (l.length : Int) := by omega
      obtain ⟨b, o, rfl, f0⟩ := int_cell HC.out hlt
      have f := cell_below HB.out f0
      clear f0
      have hw := wrap_up hlt hl
      have HM := hide (minus_take (m := m) hlt)
      have hz : w.heap.size ≤ wr.heap.size := HB.out.size
      have hml : (minus (l.take k) m).length ≤ 1000 := by
        have := List.length_filter_le (fun x => decide (x ∉ m)) (l.take k)
        unfold minus
        rw [List.length_take] at this
        omega
      by_cases hin : l[k] ∈ m
      · have HI := hide hin
        rw [if_pos hin] at HM
        clear hin
        go_wp2_with (first
          | (go_at_call 23
             (with_reducible refine (hasProg (ints_below HU.out HB.out)).mono ?_)
             rintro e _ hT
             obtain ⟨rfl, n, rfl⟩ := tells_yes hT HI.out
             clear hT)
          | fail)
        refine ⟨⟨k + 1, by omega, by go_num, ?_, HB.out.trans (belowN _ _ _)⟩, by simp [intOf]; omega⟩
        rw [HM.out, List.append_nil]
        exact HO.out
      · have HI := hide hin
        rw [if_neg hin] at HM
        clear hin
        go_wp2_with (first
          | (go_at_call 23
             (with_reducible refine (hasProg (ints_below HU.out HB.out)).mono ?_)
             rintro e _ hT
             obtain ⟨rfl, n, rfl⟩ := tells_no hT HI.out
             clear hT)
          | (at_builtin
             (refine Go.Il.wpl_push EI (by decide) rfl (.tmp 20) (.tmp 25) rfl (own_drew HO.out _) _ _ [l[k]] _ _ rfl rfl rfl rfl rfl hz (by simp; omega) ?_
              intro v1 w1 ho1 hs1
              have HO1 := hide ho1
              have HS1 := hide (HB.out.trans ((belowN _ _ _).trans hs1.below))
              clear ho1 hs1))
          | fail)
        refine ⟨⟨k + 1, by omega, by go_num, ?_, HS1.out⟩, by simp [intOf]; omega⟩
        rw [HM.out]
        exact HO1.out
    · obtain rfl : k = l.length := by omega
      rw [List.take_length] at HO
      obtain ⟨oa2, cap2, rfl⟩ := HO.out.form
      go_wp2_with fail
      go_ret
      exact ⟨_, _, rfl, HB.out⟩
end Go.Proofs.Ytinllamocplgjaa.Cl
