import Derived.Test.YtmgegkgelecopaaGreatDoorRkF
import Derived.Test.YtmgegkgelecopaaGreatDoorRkLaw
import Derived.BigQuiet
set_option maxRecDepth 100000
namespace Go.Proofs.YtmgegkgelecopaaGreatDoor.Rk
open Go Go.Ms Go.Pg Go.Rk Go.ChangeShapes Go.WideShapes Go.ChangeAt Go.RowKit Go.Deep

theorem keep2 {w w' : World} {x y : Value} {t : TypeId} (h : Below (w.alloc (.cells #[x, y] t)).heap.size (w.alloc (.cells #[x, y] t)) w') : w'.cell? ⟨w.heap.size, 0, none⟩ = some x ∧ w'.cell? ⟨w.heap.size, 1, none⟩ = some y ∧ w.heap.size < w'.heap.size :=
  ⟨(h.cell (p := ⟨w.heap.size, 0, none⟩) (by simp)).trans (new0 w _ _ _), (h.cell (p := ⟨w.heap.size, 1, none⟩) (by simp)).trans (new1 w _ _ _), by
    have := h.size
    simp at this
    omega⟩

def Four (w w' : World) (p q r s : Nat) (a b c e N D : Int) : Prop :=
  w'.cell? ⟨p, 0, none⟩ = some (.int .i64 a) ∧ w'.cell? ⟨p, 1, none⟩ = some (.int .i64 b) ∧ w'.cell? ⟨q, 0, none⟩ = some (.int .i64 c) ∧ w'.cell? ⟨q, 1, none⟩ = some (.int .i64 e) ∧
  w'.cell? ⟨r, 0, none⟩ = some (.int .i64 N) ∧ w'.cell? ⟨r, 1, none⟩ = some (.int .i64 D) ∧ w'.cell? ⟨s, 0, none⟩ = some (.int .i64 N) ∧ w'.cell? ⟨s, 1, none⟩ = some (.int .i64 D) ∧ Hid (Box2 w w' p q a b c e)

theorem Four.step {w w' w'' : World} {p q r s : Nat} {a b c e N D : Int} (h : Four w w' p q r s a b c e N D ∧ r < w'.heap.size ∧ s < w'.heap.size) (k : Below w'.heap.size w' w'') : Four w w'' p q r s a b c e N D ∧ r < w''.heap.size ∧ s < w''.heap.size := by
  obtain ⟨⟨_, _, _, _, h1, h2, h3, h4, h5⟩, l1, l2⟩ := h
  have b2 := h5.out.step k
  exact ⟨⟨b2.n, b2.d, b2.m, b2.e, (k.cell (p := ⟨r, 0, none⟩) l1).trans h1, (k.cell (p := ⟨r, 1, none⟩) l1).trans h2, (k.cell (p := ⟨s, 0, none⟩) l2).trans h3, (k.cell (p := ⟨s, 1, none⟩) l2).trans h4, b2⟩, Nat.lt_of_lt_of_le l1 k.size, Nat.lt_of_lt_of_le l2 k.size⟩
theorem regroup {w w' : World} {p q r s : Nat} {a b c e N D : Int} (h : w'.cell? ⟨p, 0, none⟩ = some (.int .i64 a) ∧ w'.cell? ⟨p, 1, none⟩ = some (.int .i64 b) ∧ w'.cell? ⟨q, 0, none⟩ = some (.int .i64 c) ∧ w'.cell? ⟨q, 1, none⟩ = some (.int .i64 e) ∧ w'.cell? ⟨r, 0, none⟩ = some (.int .i64 N) ∧ w'.cell? ⟨r, 1, none⟩ = some (.int .i64 D) ∧ w'.cell? ⟨s, 0, none⟩ = some (.int .i64 N) ∧ w'.cell? ⟨s, 1, none⟩ = some (.int .i64 D) ∧ Hid (Box2 w w' p q a b c e) ∧ r < w'.heap.size ∧ s < w'.heap.size) :
    Four w w' p q r s a b c e N D ∧ r < w'.heap.size ∧ s < w'.heap.size := ⟨⟨h.1, h.2.1, h.2.2.1, h.2.2.2.1, h.2.2.2.2.1, h.2.2.2.2.2.1, h.2.2.2.2.2.2.1, h.2.2.2.2.2.2.2.1, h.2.2.2.2.2.2.2.2.1⟩, h.2.2.2.2.2.2.2.2.2⟩
theorem ungroup {w w' : World} {p q r s : Nat} {a b c e N D : Int} (h : Four w w' p q r s a b c e N D ∧ r < w'.heap.size ∧ s < w'.heap.size) : w'.cell? ⟨p, 0, none⟩ = some (.int .i64 a) ∧ w'.cell? ⟨p, 1, none⟩ = some (.int .i64 b) ∧ w'.cell? ⟨q, 0, none⟩ = some (.int .i64 c) ∧ w'.cell? ⟨q, 1, none⟩ = some (.int .i64 e) ∧ w'.cell? ⟨r, 0, none⟩ = some (.int .i64 N) ∧ w'.cell? ⟨r, 1, none⟩ = some (.int .i64 D) ∧ w'.cell? ⟨s, 0, none⟩ = some (.int .i64 N) ∧ w'.cell? ⟨s, 1, none⟩ = some (.int .i64 D) ∧ Hid (Box2 w w' p q a b c e) ∧ r < w'.heap.size ∧ s < w'.heap.size :=
  ⟨h.1.1, h.1.2.1, h.1.2.2.1, h.1.2.2.2.1, h.1.2.2.2.2.1, h.1.2.2.2.2.2.1, h.1.2.2.2.2.2.2.1, h.1.2.2.2.2.2.2.2.1, h.1.2.2.2.2.2.2.2.2, h.2⟩

set_option maxHeartbeats 4000000 in
theorem fractions3 (n d a b c e : Int) (hn : I64 n) (hd : I64 d) (ha : I64 a) (hb : I64 b) (hc : I64 c) (he : I64 e) {x : Obj} {w : World} (h0 : w.heap[0]? = some x) (hR : Ranks x) :
    Calls Tryz.prog 3 #[.int .i64 n, .int .i64 d, rat a b, rat c e] w fun r w' => r = .returned (.bool true) ∧ Below w.heap.size w w' := by
  have hB := Box2.new w a b c e 23
  have HR := Lib.hid hR
  have HI := Lib.hid (And.intro hn (And.intro hd (And.intro ha (And.intro hb (And.intro hc he)))))
  have H0 := Lib.hid h0
  clear hR h0 hn hd ha hb hc he
  go_enter Tryz.func3, Tryz.ntmps3
  go_upto_region 1 with (fail)
  generalize (w.alloc (.cells #[.int .i64 a, .int .i64 b] 23)).alloc (.cells #[.int .i64 c, .int .i64 e] 23) = w0 at *
  generalize w.heap.size + 1 = k at *
  have HB := Lib.hid hB
  clear hB
  have KF : Hid (∀ w', Box2 w w' w.heap.size k a b c e → Calls Tryz.prog 9 #[.int .i64 n, .int .i64 d] w' fun r w'' => r = .returned (.tuple #[.agg #[.int .i64 (frN n d), .int .i64 (frD n d)], .int .i64 (frE n d)]) ∧ Box2 w w'' w.heap.size k a b c e ∧ Below w'.heap.size w' w'') := fun w' h =>
    (fraction9 n d HI.out.1 HI.out.2.1 w').mono fun _ _ ⟨e, q⟩ => ⟨e, h.step q, q⟩
  have KG : Hid (∀ w', Box2 w w' w.heap.size k a b c e → Calls Tryz.prog 10 #[.int .i64 n, .int .i64 d] w' fun r w'' => r = .returned (.tuple #[.agg #[.int .i64 (frN n d), .int .i64 (frD n d)], .int .i64 (frE n d)]) ∧ Box2 w w'' w.heap.size k a b c e ∧ Below w'.heap.size w' w'') := fun w' h =>
    (fraction10 n d HI.out.1 HI.out.2.1 w').mono fun _ _ ⟨e, q⟩ => ⟨e, h.step q, q⟩
  generalize frN n d = N at *
  generalize frD n d = D at *
  generalize frE n d = E at *
  go_upto_region 3 with (first
    | (go_at_call 9; with_reducible refine (KF.out _ HB.out).mono ?_; rintro e w1 ⟨rfl, hq1, hb1⟩; have HQ1 := Lib.hid hq1; clear hq1 hb1)
    | (go_at_call 10; with_reducible refine (KG.out _ (HQ1.out.step ((Below.refl _ _).alloc (Nat.le_refl _) _))).mono ?_; rintro e w2 ⟨rfl, hq2, hb2⟩; have HQ2 := Lib.hid hq2; have HC := Lib.hid (keep2 hb2); clear hq2 hb2)
    | fail)
  have hB3 := (HQ2.out.step ((Below.refl w2.heap.size w2).alloc (Nat.le_refl _) (.cells #[.int .i64 N, .int .i64 D] 23))).drew
  have hA3 : Below w2.heap.size w2 (w2.alloc (.cells #[.int .i64 N, .int .i64 D] 23)).drew := ((Below.refl w2.heap.size w2).alloc (Nat.le_refl _) _).drew
  have F : Four w ((w2.alloc (.cells #[.int .i64 N, .int .i64 D] 23)).drew) w.heap.size k w1.heap.size w2.heap.size a b c e N D :=
    ⟨hB3.n, hB3.d, hB3.m, hB3.e, (hA3.cell (p := ⟨w1.heap.size, 0, none⟩) HC.out.2.2).trans HC.out.1, (hA3.cell (p := ⟨w1.heap.size, 1, none⟩) HC.out.2.2).trans HC.out.2.1, new0 w2 _ _ _, new1 w2 _ _ _, hB3⟩
  have hlt1 : w1.heap.size < (w2.alloc (.cells #[.int .i64 N, .int .i64 D] 23)).heap.size := Nat.lt_of_lt_of_le HC.out.2.2 hA3.size
  have hlt2 : w2.heap.size < (w2.alloc (.cells #[.int .i64 N, .int .i64 D] 23)).heap.size := by simp
  clear hB3 hA3
  have K1 : Hid (∀ w', Four w w' w.heap.size k w1.heap.size w2.heap.size a b c e N D ∧ w1.heap.size < w'.heap.size ∧ w2.heap.size < w'.heap.size → Calls Tryz.prog 11 #[rat a b, rat c e] w' fun r w'' => r = .returned (.int .i64 (cmpR a b c e)) ∧ Four w w'' w.heap.size k w1.heap.size w2.heap.size a b c e N D ∧ w1.heap.size < w''.heap.size ∧ w2.heap.size < w''.heap.size) := fun w' h =>
    (compare11 a b c e HI.out.2.2.1 HI.out.2.2.2.1 HI.out.2.2.2.2.1 HI.out.2.2.2.2.2 w').mono fun _ _ ⟨e, q⟩ => ⟨e, Four.step h q⟩
  have K2 : Hid (∀ w', Four w w' w.heap.size k w1.heap.size w2.heap.size a b c e N D ∧ w1.heap.size < w'.heap.size ∧ w2.heap.size < w'.heap.size → Calls Tryz.prog 12 #[rat a b, rat c e] w' fun r w'' => r = .returned (.int .i64 (cmpR a b c e)) ∧ Four w w'' w.heap.size k w1.heap.size w2.heap.size a b c e N D ∧ w1.heap.size < w''.heap.size ∧ w2.heap.size < w''.heap.size) := fun w' h =>
    (compare12 a b c e HI.out.2.2.1 HI.out.2.2.2.1 HI.out.2.2.2.2.1 HI.out.2.2.2.2.2 w').mono fun _ _ ⟨e, q⟩ => ⟨e, Four.step h q⟩
  have K3 : Hid (∀ w', Four w w' w.heap.size k w1.heap.size w2.heap.size a b c e N D ∧ w1.heap.size < w'.heap.size ∧ w2.heap.size < w'.heap.size → Calls Tryz.prog 13 #[] w' fun r w'' => r = .returned (.bool true) ∧ Four w w'' w.heap.size k w1.heap.size w2.heap.size a b c e N D ∧ w1.heap.size < w''.heap.size ∧ w2.heap.size < w''.heap.size) := fun w' h =>
    (HR.out w' ((h.1.2.2.2.2.2.2.2.2.out.below.block 0 (Array.getElem?_eq_some_iff.1 H0.out).1).trans H0.out)).mono fun _ _ ⟨e, q⟩ => ⟨e, Four.step h q⟩
  clear KF KG HQ1 HQ2 HC HB HR H0 HI
  generalize cmpR a b c e = X at *
  have F2 : Four w ((w2.alloc (.cells #[.int .i64 N, .int .i64 D] 23)).drew) w.heap.size k w1.heap.size w2.heap.size a b c e N D ∧ w1.heap.size < (w2.alloc (.cells #[.int .i64 N, .int .i64 D] 23)).drew.heap.size ∧ w2.heap.size < (w2.alloc (.cells #[.int .i64 N, .int .i64 D] 23)).drew.heap.size := ⟨F, hlt1, hlt2⟩
  clear F hlt1 hlt2
  generalize w2.alloc (.cells #[.int .i64 N, .int .i64 D] 23) = w3 at *
  generalize w2.heap.size = q2 at *
  generalize w1.heap.size = q1 at *
  obtain ⟨⟨c0, c1, c2, c3, c4, c5, c6, c7, c8⟩, c9, c10⟩ := F2
  go_region_held (fun w' => w'.cell? ⟨w.heap.size, 0, none⟩ = some (.int .i64 a) ∧ w'.cell? ⟨w.heap.size, 1, none⟩ = some (.int .i64 b) ∧ w'.cell? ⟨k, 0, none⟩ = some (.int .i64 c) ∧ w'.cell? ⟨k, 1, none⟩ = some (.int .i64 e) ∧ w'.cell? ⟨q1, 0, none⟩ = some (.int .i64 N) ∧ w'.cell? ⟨q1, 1, none⟩ = some (.int .i64 D) ∧ w'.cell? ⟨q2, 0, none⟩ = some (.int .i64 N) ∧ w'.cell? ⟨q2, 1, none⟩ = some (.int .i64 D) ∧ Hid (Box2 w w' w.heap.size k a b c e) ∧ q1 < w'.heap.size ∧ q2 < w'.heap.size) (first | assumption | exact ⟨c0, c1, c2, c3, c4, c5, c6, c7, c8, c9, c10⟩)
    (first
      | (go_at_call 11; with_reducible refine (K1.out _ (regroup (by assumption))).mono ?_; rintro e w4 ⟨rfl, hS⟩; have hS2 := ungroup hS)
      | (go_at_call 12; with_reducible refine (K2.out _ (regroup (by assumption))).mono ?_; rintro e w4 ⟨rfl, hS⟩; have hS2 := ungroup hS)
      | (go_at_call 13; with_reducible refine (K3.out _ (regroup (by assumption))).mono ?_; rintro e w4 ⟨rfl, hS⟩; have hS2 := ungroup hS))
  all_goals
    go_wp2_with fail
    go_ret
    exact ⟨rfl, hS2.2.2.2.2.2.2.2.2.1.out.below⟩

theorem lawRankFractions {n d a b c e : Int} (hn : I64 n) (hd : I64 d) (ha : I64 a) (hb : I64 b) (hc : I64 c) (he : I64 e) {x : Obj} {w : World} (h0 : w.heap[0]? = some x) (hR : Ranks x) :
    Calls Tryz.prog 3 #[.int .i64 n, .int .i64 d, rat a b, rat c e] w fun r w' => r = .returned (.bool true) ∧ Below w.heap.size w w' := fractions3 n d a b c e hn hd ha hb hc he h0 hR
end Go.Proofs.YtmgegkgelecopaaGreatDoor.Rk
