import Derived.Test.YtmgegkgelecopaaGreatDoorRkC
import Derived.Test.YtmgegkgelecopaaGreatDoorRkD
set_option maxRecDepth 100000
namespace Go.Proofs.YtmgegkgelecopaaGreatDoor.Rk
open Go Go.Ms Go.Pg Go.Rk Go.ChangeShapes Go.WideShapes Go.ChangeAt Go.RowKit Go.Deep

def Ranks (x : Obj) : Prop := ∀ w : World, w.heap[0]? = some x → Calls Tryz.prog 13 #[] w fun e w' => e = .returned (.bool true) ∧ Below w.heap.size w w'

structure Box3 (w w' : World) (a b c : Nat) (n d m e k f : Int) : Prop where
  la : w.heap.size ≤ a
  lb : w.heap.size ≤ b
  lc : w.heap.size ≤ c
  ua : a < w'.heap.size
  ub : b < w'.heap.size
  uc : c < w'.heap.size
  n : w'.cell? ⟨a, 0, none⟩ = some (.int .i64 n)
  d : w'.cell? ⟨a, 1, none⟩ = some (.int .i64 d)
  m : w'.cell? ⟨b, 0, none⟩ = some (.int .i64 m)
  e : w'.cell? ⟨b, 1, none⟩ = some (.int .i64 e)
  k : w'.cell? ⟨c, 0, none⟩ = some (.int .i64 k)
  f : w'.cell? ⟨c, 1, none⟩ = some (.int .i64 f)
  below : Below w.heap.size w w'

theorem Box3.step {w w' w'' : World} {a b c : Nat} {n d m e k f : Int} (h : Box3 w w' a b c n d m e k f) (q : Below w'.heap.size w' w'') : Box3 w w'' a b c n d m e k f where
  la := h.la
  lb := h.lb
  lc := h.lc
  ua := Nat.lt_of_lt_of_le h.ua q.size
  ub := Nat.lt_of_lt_of_le h.ub q.size
  uc := Nat.lt_of_lt_of_le h.uc q.size
  n := (q.cell (p := ⟨a, 0, none⟩) h.ua).trans h.n
  d := (q.cell (p := ⟨a, 1, none⟩) h.ua).trans h.d
  m := (q.cell (p := ⟨b, 0, none⟩) h.ub).trans h.m
  e := (q.cell (p := ⟨b, 1, none⟩) h.ub).trans h.e
  k := (q.cell (p := ⟨c, 0, none⟩) h.uc).trans h.k
  f := (q.cell (p := ⟨c, 1, none⟩) h.uc).trans h.f
  below := h.below.trans (q.mono h.below.size)
theorem Box3.drewN {w w' : World} {a b c : Nat} {n d m e k f : Int} (h : Box3 w w' a b c n d m e k f) (i : Nat) : Box3 w (w'.drewN i) a b c n d m e k f := h.step ⟨rfl, rfl, rfl, Nat.le_refl _, fun _ _ => rfl⟩
theorem Box3.drew {w w' : World} {a b c : Nat} {n d m e k f : Int} (h : Box3 w w' a b c n d m e k f) : Box3 w w'.drew a b c n d m e k f := h.step ⟨rfl, rfl, rfl, Nat.le_refl _, fun _ _ => rfl⟩
theorem Box3.new (w : World) (n d m e k f : Int) (t : TypeId) : Box3 w (((w.alloc (.cells #[.int .i64 n, .int .i64 d] t)).alloc (.cells #[.int .i64 m, .int .i64 e] t)).alloc (.cells #[.int .i64 k, .int .i64 f] t)) w.heap.size (w.heap.size + 1) (w.heap.size + 1 + 1) n d m e k f where
  la := Nat.le_refl _
  lb := by omega
  lc := by omega
  ua := by
    simp
    omega
  ub := by simp
  uc := by simp
  n := by go_simp
  d := by go_simp
  m := by go_simp
  e := by go_simp
  k := by go_simp
  f := by go_simp
  below := (((Below.refl _ _).alloc (Nat.le_refl _) _).alloc (by simp) _).alloc (by simp; omega) _

theorem cmpK {w w' : World} {a b c : Nat} {n d m e k f : Int} (h : Box3 w w' a b c n d m e k f) {x y z u : Int} (hx : I64 x) (hy : I64 y) (hz : I64 z) (hu : I64 u) :
    Calls Tryz.prog 11 #[rat x y, rat z u] w' fun r w'' => r = .returned (.int .i64 (cmpR x y z u)) ∧ Box3 w w'' a b c n d m e k f :=
  (compare11 x y z u hx hy hz hu w').mono fun _ _ ⟨e, q⟩ => ⟨e, h.step q⟩

theorem cmpS {w w' : World} {a b c : Nat} {n d m e k f x y z u : Int} (hx : I64 x) (hy : I64 y) (hz : I64 z) (hu : I64 u)
    (h : w'.cell? ⟨a, 0, none⟩ = some (.int .i64 n) ∧ w'.cell? ⟨a, 1, none⟩ = some (.int .i64 d) ∧ w'.cell? ⟨b, 0, none⟩ = some (.int .i64 m) ∧ w'.cell? ⟨b, 1, none⟩ = some (.int .i64 e) ∧ w'.cell? ⟨c, 0, none⟩ = some (.int .i64 k) ∧ w'.cell? ⟨c, 1, none⟩ = some (.int .i64 f) ∧ Hid (Box3 w w' a b c n d m e k f)) :
    Calls Tryz.prog 11 #[rat x y, rat z u] w' fun r w'' => r = .returned (.int .i64 (cmpR x y z u)) ∧ w''.cell? ⟨a, 0, none⟩ = some (.int .i64 n) ∧ w''.cell? ⟨a, 1, none⟩ = some (.int .i64 d) ∧ w''.cell? ⟨b, 0, none⟩ = some (.int .i64 m) ∧ w''.cell? ⟨b, 1, none⟩ = some (.int .i64 e) ∧ w''.cell? ⟨c, 0, none⟩ = some (.int .i64 k) ∧ w''.cell? ⟨c, 1, none⟩ = some (.int .i64 f) ∧ Hid (Box3 w w'' a b c n d m e k f) :=
  (cmpK h.2.2.2.2.2.2.out hx hy hz hu).mono fun _ _ ⟨e, q⟩ => ⟨e, q.n, q.d, q.m, q.e, q.k, q.f, q⟩

theorem fr_low {n d : Int} (hn : I64 n) (hE : frE n d = 0) (hd : 0 < d) (hd2 : I64 d) : cmpR n d (frN n d) (frD n d) = 0 ∧ 0 < frD n d ∧ I64 (frN n d) ∧ I64 (frD n d) := by
  have k := frV_ok hE
  rw [if_neg (by omega), if_neg (by omega)] at k
  have g := gcd_pos (n := n) (d := d) (by omega)
  have h := cmpR_lowest (n := n) hd g (Int.gcd_dvd_left _ _) (Int.gcd_dvd_right _ _)
  rw [k.1, k.2]
  refine ⟨h.1, h.2, ?_, ?_⟩
  · have : (n.tdiv (Int.gcd n d)).natAbs ≤ n.natAbs := by rw [Int.natAbs_tdiv]; exact Nat.div_le_self _ _
    obtain ⟨h1, h2⟩ := hn
    have hm : n ≠ minI := fun e => by
      unfold frE at hE
      rw [if_neg (by omega), if_pos (Or.inl e)] at hE
      exact absurd hE (by decide)
    unfold minI at hm
    exact ⟨by omega, by omega⟩
  · have : (d.tdiv (Int.gcd n d)).natAbs ≤ d.natAbs := by rw [Int.natAbs_tdiv]; exact Nat.div_le_self _ _
    obtain ⟨h1, h2⟩ := hd2
    exact ⟨by omega, by omega⟩

theorem Ranks.at {x : Obj} (h : Ranks x) {w w' : World} (h0 : w.heap[0]? = some x) (hB : Below w.heap.size w w') : Calls Tryz.prog 13 #[] w' fun e w'' => e = .returned (.bool true) ∧ Below w.heap.size w w'' :=
  (h w' ((hB.block 0 (Array.getElem?_eq_some_iff.1 h0).1).trans h0)).mono fun _ _ ⟨e, k⟩ => ⟨e, hB.trans (k.mono hB.size)⟩

set_option maxHeartbeats 4000000 in
theorem order4 (n d m e k f : Int) (hn : I64 n) (hd : I64 d) (hm : I64 m) (he : I64 e) (hk : I64 k) (hf : I64 f) {x : Obj} {w : World} (h0 : w.heap[0]? = some x) (hR : Ranks x) :
    Calls Tryz.prog 4 #[rat n d, rat m e, rat k f] w fun r w' => r = .returned (.bool true) ∧ Below w.heap.size w w' := by
  have hB := Box3.new w n d m e k f 23
  have HR := Lib.hid hR
  have HI := Lib.hid (And.intro hn (And.intro hd (And.intro hm (And.intro he (And.intro hk hf)))))
  have H0 := Lib.hid h0
  clear hR h0 hn hd hm he hk hf
  go_enter Tryz.func4, Tryz.ntmps4
  go_upto_region 1 with (fail)
  have hD := hB.drew
  generalize w.heap.size + 1 + 1 = c at *
  generalize w.heap.size + 1 = b at *
  generalize (((w.alloc (.cells #[.int .i64 n, .int .i64 d] 23)).alloc (.cells #[.int .i64 m, .int .i64 e] 23)).alloc (.cells #[.int .i64 k, .int .i64 f] 23)) = w0 at *
  have HB := Lib.hid hB
  clear hB
  obtain ⟨_, _, _, _, _, _, n0, d0, m0, e0, k0, f0, _⟩ := id hD
  go_region_held3 (fun w' => w'.cell? ⟨w.heap.size, 0, none⟩ = some (.int .i64 n) ∧ w'.cell? ⟨w.heap.size, 1, none⟩ = some (.int .i64 d) ∧ w'.cell? ⟨b, 0, none⟩ = some (.int .i64 m) ∧ w'.cell? ⟨b, 1, none⟩ = some (.int .i64 e) ∧ w'.cell? ⟨c, 0, none⟩ = some (.int .i64 k) ∧ w'.cell? ⟨c, 1, none⟩ = some (.int .i64 f) ∧ Hid (Box3 w w' w.heap.size b c n d m e k f)) (first | assumption | exact ⟨n0, d0, m0, e0, k0, f0, hD⟩)
    (first
      | (go_at_call 11; with_reducible refine (cmpS HI.out.1 HI.out.2.1 HI.out.2.2.1 HI.out.2.2.2.1 (by assumption)).mono ?_; rintro e w1 ⟨rfl, hS⟩)
      | (go_at_call 11; with_reducible refine (cmpS HI.out.2.2.1 HI.out.2.2.2.1 HI.out.2.2.2.2.1 HI.out.2.2.2.2.2 (by assumption)).mono ?_; rintro e w1 ⟨rfl, hS⟩)
      | (go_at_call 11; with_reducible refine (cmpS HI.out.1 HI.out.2.1 HI.out.2.2.2.2.1 HI.out.2.2.2.2.2 (by assumption)).mono ?_; rintro e w1 ⟨rfl, hS⟩))
  have KBA : Hid (∀ w', Box3 w w' w.heap.size b c n d m e k f → Calls Tryz.prog 11 #[rat m e, rat n d] w' fun r w'' => r = .returned (.int .i64 (-cmpR n d m e)) ∧ Box3 w w'' w.heap.size b c n d m e k f) := fun w' h => by
    rw [← cmpR_anti]
    exact cmpK h HI.out.2.2.1 HI.out.2.2.2.1 HI.out.1 HI.out.2.1
  have KAA : Hid (∀ w', Box3 w w' w.heap.size b c n d m e k f → Calls Tryz.prog 11 #[rat n d, rat n d] w' fun r w'' => r = .returned (.int .i64 0) ∧ Box3 w w'' w.heap.size b c n d m e k f) := fun w' h => by
    rw [← cmpR_self n d]
    exact cmpK h HI.out.1 HI.out.2.1 HI.out.1 HI.out.2.1
  have HT := Lib.hid (cmpR_trans n d m e k f)
  obtain ⟨r1, r2⟩ := cmpR_range n d m e
  generalize cmpR n d m e = X at *
  generalize cmpR m e k f = Y at *
  generalize cmpR n d k f = Z at *
  have hS2 := hS.2.2.2.2.2.2.out
  go_upto_region 6 with (first
    | (go_at_call 11; with_reducible refine (KBA.out _ (by assumption)).mono ?_; rintro e w1 ⟨rfl, hq⟩; obtain ⟨_, _, _, _, _, _, _, _, _, _, _, _, _⟩ := id hq)
    | (go_at_call 11; with_reducible refine (KAA.out _ (by assumption)).mono ?_; rintro e w1 ⟨rfl, hq⟩; obtain ⟨_, _, _, _, _, _, _, _, _, _, _, _, _⟩ := id hq)
    | fail)
  all_goals first
    | (exfalso
       have ht := HT.out (by omega) (by omega)
       omega)
    | skip
  all_goals
    clear KBA KAA HT
    by_cases hE : frE n d = 0
    · by_cases hp : 0 < d
      · have KL : Hid (∀ w2, Box3 w w2 w.heap.size b c n d m e k f → Calls Tryz.prog 11 #[rat n d, rat (frN n d) (frD n d)] (w2.alloc (.cells #[.int .i64 (frN n d), .int .i64 (frD n d)] 23)) fun r w'' => r = .returned (.int .i64 0) ∧ Box3 w w'' w.heap.size b c n d m e k f ∧ w''.cell? ⟨w2.heap.size, 1, none⟩ = some (.int .i64 (frD n d))) := fun w2 h => by
          obtain ⟨l1, l2, l3, l4⟩ := fr_low HI.out.1 hE hp HI.out.2.1
          rw [← l1]
          refine (compare11 n d _ _ HI.out.1 HI.out.2.1 l3 l4 _).mono fun r w'' q => ⟨q.1, (h.step ((Below.refl _ _).alloc (Nat.le_refl _) _)).step q.2, ?_⟩
          exact (q.2.cell (p := ⟨w2.heap.size, 1, none⟩) (by simp)).trans (new1 w2 _ _ _)
        have KF : Hid (∀ w', Box3 w w' w.heap.size b c n d m e k f → Calls Tryz.prog 9 #[.int .i64 n, .int .i64 d] w' fun r w'' => r = .returned (.tuple #[.agg #[.int .i64 (frN n d), .int .i64 (frD n d)], .int .i64 0]) ∧ Box3 w w'' w.heap.size b c n d m e k f) := fun w' h => by
          rw [← hE]
          exact (fraction9 n d HI.out.1 HI.out.2.1 w').mono fun _ _ ⟨e, q⟩ => ⟨e, h.step q⟩
        have l2 := (fr_low HI.out.1 hE hp HI.out.2.1).2.1
        generalize frN n d = N' at *
        generalize frD n d = D' at *
        clear hE
        go_wp2_with (first
          | (go_at_call 9; with_reducible refine (KF.out _ (by assumption)).mono ?_; rintro e w2 ⟨rfl, hq2⟩; obtain ⟨_, _, _, _, _, _, _, _, _, _, _, _, _⟩ := id hq2)
          | (go_at_call 11; with_reducible refine (KL.out _ (by assumption)).mono ?_; rintro e w3 ⟨rfl, hq3, hq5⟩; obtain ⟨_, _, _, _, _, _, _, _, _, _, _, _, _⟩ := id hq3)
          | (go_at_call 13; with_reducible refine (Ranks.at HR.out H0.out (Box3.below (by assumption))).mono ?_; rintro e w4 ⟨rfl, hq4⟩)
          | fail)
        go_ret
        exact ⟨rfl, hq4⟩
      · have KF : Hid (∀ w', Box3 w w' w.heap.size b c n d m e k f → Calls Tryz.prog 9 #[.int .i64 n, .int .i64 d] w' fun r w'' => r = .returned (.tuple #[.agg #[.int .i64 (frN n d), .int .i64 (frD n d)], .int .i64 0]) ∧ Box3 w w'' w.heap.size b c n d m e k f) := fun w' h => by
          rw [← hE]
          exact (fraction9 n d HI.out.1 HI.out.2.1 w').mono fun _ _ ⟨e, q⟩ => ⟨e, h.step q⟩
        generalize frN n d = N' at *
        generalize frD n d = D' at *
        have hp2 : d ≤ 0 := by omega
        clear hE hp
        go_wp2_with (first
          | (go_at_call 9; with_reducible refine (KF.out _ (by assumption)).mono ?_; rintro e w2 ⟨rfl, hq2⟩; obtain ⟨_, _, _, _, _, _, _, _, _, _, _, _, _⟩ := id hq2)
          | (go_at_call 13; with_reducible refine (Ranks.at HR.out H0.out (Box3.below (Box3.step (by assumption) ((Below.refl _ _).alloc (Nat.le_refl _) _)))).mono ?_; rintro e w4 ⟨rfl, hq4⟩)
          | fail)
        go_ret
        exact ⟨rfl, hq4⟩
    · have KF : Hid (∀ w', Box3 w w' w.heap.size b c n d m e k f → Calls Tryz.prog 9 #[.int .i64 n, .int .i64 d] w' fun r w'' => r = .returned (.tuple #[.agg #[.int .i64 (frN n d), .int .i64 (frD n d)], .int .i64 (frE n d)]) ∧ Box3 w w'' w.heap.size b c n d m e k f) := fun w' h =>
          (fraction9 n d HI.out.1 HI.out.2.1 w').mono fun _ _ ⟨e, q⟩ => ⟨e, h.step q⟩
      have qE : (frE n d != 0) = true := by simpa using hE
      generalize frN n d = N' at *
      generalize frD n d = D' at *
      generalize frE n d = E' at *
      clear hE
      go_wp2_with (first
        | (go_at_call 9; with_reducible refine (KF.out _ (by assumption)).mono ?_; rintro e w2 ⟨rfl, hq2⟩; obtain ⟨_, _, _, _, _, _, _, _, _, _, _, _, _⟩ := id hq2)
        | (go_at_call 13; with_reducible refine (Ranks.at HR.out H0.out (Box3.below (Box3.step (by assumption) ((Below.refl _ _).alloc (Nat.le_refl _) _)))).mono ?_; rintro e w4 ⟨rfl, hq4⟩)
        | fail)
      go_ret
      exact ⟨rfl, hq4⟩
end Go.Proofs.YtmgegkgelecopaaGreatDoor.Rk
