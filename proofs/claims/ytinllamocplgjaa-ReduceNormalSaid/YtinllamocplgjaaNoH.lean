import Derived.Test.YtinllamocplgjaaNoG
set_option maxRecDepth 100000
namespace Go.Proofs.Ytinllamocplgjaa.No
open Go Go.Ms Go.Pg Go.Rc Go.No Go.ChangeShapes Go.WideShapes Go.ChangeAt Go.RowKit Go.Deep Go.Proofs.Ytinllamocplgjaa.Rc

def gone (l : List Pick) (x : Nat) : Bool := !decide ((x : Int) < later l x)
def Reads (B : Nat) (l : List Pick) (w : World) : Prop := ∃ v, w.cell? ⟨B, 0, none⟩ = some v ∧ Picks w v l ∧ ∃ oa n c, v = .slice oa n c

set_option maxHeartbeats 4000000 in
theorem closure {w : World} {B : Nat} {l : List Pick} (h : Reads B l w) {a : Nat} (ha : a < l.length) :
    Calls Try.prog 33 #[.int .i64 a, .pointer (some ⟨B, 0, none⟩)] w fun e w' => e = .returned (.bool (gone l a)) ∧ ∃ n, w' = w.drewN n := by
  obtain ⟨v, hb, hp, oa, n, c, rfl⟩ := h
  have H := hide (isPreemption hp a ha)
  clear hp
  go_enter Try.func33, Try.ntmps33
  go_wp2_with (first
    | (go_at_call 34
       (with_reducible refine H.out.mono ?_)
       rintro e w1 ⟨rfl, n, rfl⟩)
    | fail)
  go_ret
  exact ⟨rfl, n, rfl⟩

def firstGone (l : List Pick) : List Nat → Nat → Int
  | [], _ => -1
  | x :: xs, i => if gone l x = true then i else firstGone l xs (i + 1)

abbrev nat (x : Nat) : Int := Int.ofNat x
theorem reads_drewN {B : Nat} {l : List Pick} {w : World} (h : Reads B l w) (n : Nat) : Reads B l (w.drewN n) := h

set_option maxHeartbeats 4000000 in
theorem indexFunc {w : World} {B : Nat} {l : List Pick} {v : Value} {xs : List Nat} (h : Reads B l w) (hx : ∀ x ∈ xs, x < l.length) (hv : RowAt 1 (NumAt .i64) w v (xs.map Int.ofNat)) :
    Calls Try.prog 53 #[v, .func (.func 33) #[] #[.pointer (some ⟨B, 0, none⟩)]] w fun e w' => e = .returned (.int .i64 (firstGone l xs 0)) ∧ ∃ n, w' = w.drewN n := by
  obtain ⟨oa, ca, rfl, hla, hc⟩ := hv
  have HC := hide hc
  have HR := hide h
  have HX := hide hx
  have hlen : (xs.map Int.ofNat).length = xs.length := by simp
  rw [hlen] at hla ⊢
  clear hc h hx hlen
  go_enter Try.func53, Try.ntmps53
  go_wp2_with fail
  go_loopw [8] (fun i wr => ∃ k : Nat, k ≤ xs.length ∧ i = .int .i64 (k : Int) ∧ firstGone l xs 0 = firstGone l (xs.drop k) k ∧ ∃ n, wr = w.drewN n) (fun i _ => xs.length - (intOf i).toNat)
  case atStart => exact ⟨0, Nat.zero_le _, rfl, rfl, 0, rfl⟩
  case round =>
    obtain ⟨k, hk, rfl, hF, nd, rfl⟩ := hrel
    have HF := hide hF
    clear hF
    by_cases hlt : k < xs.length
    · have h64 : (k : Int) < (xs.length : Int) := by omega
      obtain ⟨b, o, rfl, f⟩ := int_cell (i := k) HC.out (by simpa using hlt)
      have ef : (xs.map Int.ofNat)[k]'(by simpa using hlt) = (xs[k] : Int) := by simp
      rw [ef] at f
      clear ef
      have HD := hide (HX.out xs[k] (List.getElem_mem hlt))
      have HE : Hid (xs.drop k = xs[k] :: xs.drop (k + 1)) := hide (List.drop_eq_getElem_cons hlt)
      cases hg : gone l xs[k] with
      | true =>
        have HG := hide hg
        clear hg
        go_wp2_with (first
          | (go_at_call 33
             (with_reducible refine (closure (reads_drewN HR.out nd) HD.out).mono ?_)
             rintro e w1 ⟨he, n, rfl⟩
             rw [HG.out] at he
             subst he)
          | fail)
        go_ret
        refine ⟨?_, _, rfl⟩
        rw [HF.out, HE.out]
        unfold firstGone
        rw [if_pos HG.out]
        rfl
      | false =>
        have HG := hide hg
        clear hg
        go_wp2_with (first
          | (go_at_call 33
             (with_reducible refine (closure (reads_drewN HR.out nd) HD.out).mono ?_)
             rintro e w1 ⟨he, n, rfl⟩
             rw [HG.out] at he
             subst he)
          | fail)
        refine ⟨⟨k + 1, by omega, by go_num, ?_, _, rfl⟩, by simp [intOf]; omega⟩
        rw [HF.out, HE.out]
        conv => lhs; unfold firstGone
        rw [if_neg (by rw [HG.out]; decide)]
    · obtain rfl : k = xs.length := by omega
      go_wp2_with fail
      go_ret
      refine ⟨?_, _, rfl⟩
      rw [HF.out, List.drop_length]
      rfl
end Go.Proofs.Ytinllamocplgjaa.No
