import Derived.Test.YtcojbkhjmaaamaaGreatDoorSmG
import Derived.Test.YtcojbkhjmaaamaaGreatDoorSmF1
import Derived.Deep.RegionHeld3
set_option maxRecDepth 1000000
namespace Go.Proofs.YtcojbkhjmaaamaaGreatDoor.Sm
open Go Go.Pg Go.ChangeShapes Go.WideShapes Go.ChangeAt Go.RowKit Go.Deep

theorem FuncsAt.le {w : World} {n m : Nat} (h : n ≤ m) {v : Value} {l : List Pg.Fd} (k : FuncsAt w n v l) : FuncsAt w m v l := by
  obtain ⟨oa, ca, e, h1, h2⟩ := k
  refine ⟨oa, ca, e, h1, fun i hi => ?_⟩
  obtain ⟨b, o, vp, vb, e, f⟩ := h2 i hi
  exact ⟨b, o, vp, vb, e, f.name, f.params, f.body, f.wft, f.kparams, f.kbody.le h⟩

def Ans (b : Bool) (w : World) (e : Ending) (w' : World) : Prop := e = .returned (.bool b) ∧ Below w.heap.size w w'

theorem langAns {n : Nat} (w : World) (va vb : Value) (l m : List Pg.Fd) (ha : FuncsAt w n va l) (hb : FuncsAt w n vb m) : Calls Tryz.prog 7 #[.agg #[va], .agg #[vb]] w (Ans (eqB l m) w) :=
  (langSame w va vb l m ha hb).mono fun _ _ ⟨r, he, hr, hB⟩ => ⟨by rw [he, eqB_of hr], hB⟩

theorem eqB_comm {α : Type} (a b : α) : eqB a b = eqB b a := by
  rw [Bool.eq_iff_iff, eqB_iff, eqB_iff]
  exact ⟨fun h => h.symm, fun h => h.symm⟩

theorem keeps {w : World} {va vb : Value} {f : FuncId} {x : Array Value} {b : Bool} (C : Hid (∀ w', Below w.heap.size w w' → Calls Tryz.prog f x w' (Ans b w'))) {w' : World}
    (h : w'.cell? ⟨w.heap.size, 0, none⟩ = some va ∧ w'.cell? ⟨w.heap.size + 1, 0, none⟩ = some vb ∧ Hid (Below w.heap.size w w')) :
    Calls Tryz.prog f x w' fun e w'' => e = .returned (.bool b) ∧ w''.cell? ⟨w.heap.size, 0, none⟩ = some va ∧ w''.cell? ⟨w.heap.size + 1, 0, none⟩ = some vb ∧ Hid (Below w.heap.size w w'') :=
  (C.out _ h.2.2.out).mono fun _ _ k => ⟨k.1, cell_below k.2 h.1, cell_below k.2 h.2.1, h.2.2.out.trans (k.2.mono h.2.2.out.size)⟩

set_option maxHeartbeats 100000000 in
theorem law (w : World) (va vb : Value) {na nb : Nat} (l m : List Pg.Fd) (ha : FuncsAt w na va l) (hb : FuncsAt w nb vb m) (o : Array Value × TypeId) (hx : w.heap[0]? = some (.cells o.1 o.2 (0, 0)))
    (hl : ∀ w2, w2.heap[0]? = some (.cells o.1 o.2 (0, 0)) → Calls Tryz.prog 6 #[] w2 fun e w' => e = .returned (.bool true) ∧ Below w2.heap.size w2 w') :
    Calls Tryz.prog 3 #[.agg #[va], .agg #[vb]] w fun e w' => e = .returned (.bool true) ∧ Below w.heap.size w w' := by
  have h0 : 0 < w.heap.size := (Array.getElem?_eq_some_iff.1 hx).1
  replace ha := FuncsAt.le (Nat.le_max_left na nb) ha
  replace hb := FuncsAt.le (Nat.le_max_right na nb) hb
  have Ga : Hid (∀ w', Below w.heap.size w w' → Calls Tryz.prog 5 #[.agg #[va]] w' fun e w2 => IsBool e ∧ Below w'.heap.size w' w2) := fun w' h => great w' va l (ha.below h)
  have Gb : Hid (∀ w', Below w.heap.size w w' → Calls Tryz.prog 5 #[.agg #[vb]] w' fun e w2 => IsBool e ∧ Below w'.heap.size w' w2) := fun w' h => great w' vb m (hb.below h)
  have C1 : Hid (∀ w', Below w.heap.size w w' → Calls Tryz.prog 7 #[.agg #[va], .agg #[vb]] w' (Ans (eqB l m) w')) := fun w' h => langAns w' va vb l m (ha.below h) (hb.below h)
  have C2 : Hid (∀ w', Below w.heap.size w w' → Calls Tryz.prog 8 #[.agg #[va], .agg #[vb]] w' (Ans (eqB l m) w')) := fun w' h => refSame w' va vb l m (ha.below h) (hb.below h)
  have C3 : Hid (∀ w', Below w.heap.size w w' → Calls Tryz.prog 7 #[.agg #[va], .agg #[va]] w' (Ans true w')) := fun w' h => (langAns w' va va l l (ha.below h) (ha.below h)).mono fun _ _ k => by rw [eqB_true rfl] at k; exact k
  have C4 : Hid (∀ w', Below w.heap.size w w' → Calls Tryz.prog 7 #[.agg #[vb], .agg #[va]] w' (Ans (eqB l m) w')) := fun w' h => (langAns w' vb va m l (hb.below h) (ha.below h)).mono fun _ _ k => by rw [eqB_comm] at k; exact k
  have CL : Hid (∀ w', Below w.heap.size w w' → Calls Tryz.prog 6 #[] w' (Ans true w')) := fun w' h => hl w' (by rw [h.block 0 h0]; exact hx)
  clear ha hb hl hx
  generalize eqB l m = b at *
  clear l m
  go_enter Tryz.func3, Tryz.ntmps3
  go_wp2_with (first
    | (go_at_call 6
       refine (CL.out _ U2.out).mono ?_
       rintro e w3 ⟨rfl, hB3⟩
       have U3 : Hid (Below w.heap.size w w3) := U2.out.trans (hB3.mono U2.out.size)
       clear hB3)
    | (go_at_call 6
       refine (CL.out _ U1.out).mono ?_
       rintro e w3 ⟨rfl, hB3⟩
       have U3 : Hid (Below w.heap.size w w3) := U1.out.trans (hB3.mono U1.out.size)
       clear hB3)
    | (go_at_call 5
       refine (Ga.out _ (two _ _ _)).mono ?_
       rintro e w1 ⟨⟨b1, rfl⟩, hB1⟩
       have q0 : w1.cell? ⟨w.heap.size, 0, none⟩ = some va := (boxes hB1 0).1
       have q1 : w1.cell? ⟨w.heap.size + 1, 0, none⟩ = some vb := (boxes hB1 0).2
       have U1 : Hid (Below w.heap.size w w1) := up hB1
       clear hB1 Ga)
    | (go_at_call 5
       refine (Gb.out _ U1.out).mono ?_
       rintro e w2 ⟨⟨b2, rfl⟩, hB2⟩
       have q2 : w2.cell? ⟨w.heap.size, 0, none⟩ = some va := cell_below hB2 q0
       have q3 : w2.cell? ⟨w.heap.size + 1, 0, none⟩ = some vb := cell_below hB2 q1
       have U2 : Hid (Below w.heap.size w w2) := U1.out.trans (hB2.mono U1.out.size)
       clear hB2 q0 q1 Gb)
    | fail)
  · go_ret
    exact ⟨rfl, U3.out⟩
  · go_ret
    exact ⟨rfl, U3.out⟩
  · have U2d : Hid (Below w.heap.size w w2.drew) := U2.out.trans (⟨rfl, rfl, rfl, Nat.le_refl _, fun _ _ => rfl⟩ : Below w.heap.size w2 w2.drew)
    go_region_held3 (fun w' => w'.cell? ⟨w.heap.size, 0, none⟩ = some va ∧ w'.cell? ⟨w.heap.size + 1, 0, none⟩ = some vb ∧ Hid (Below w.heap.size w w')) (first | assumption | exact ⟨q2, q3, U2d⟩)
      (first
        | (go_at_call 7; with_reducible refine (keeps C1 (by assumption)).mono ?_; rintro e w3 ⟨rfl, hS3⟩)
        | (go_at_call 7; with_reducible refine (keeps C3 (by assumption)).mono ?_; rintro e w3 ⟨rfl, hS3⟩)
        | (go_at_call 7; with_reducible refine (keeps C4 (by assumption)).mono ?_; rintro e w3 ⟨rfl, hS3⟩)
        | (go_at_call 8; with_reducible refine (keeps C2 (by assumption)).mono ?_; rintro e w3 ⟨rfl, hS3⟩)
        | (go_at_call 6; with_reducible refine (keeps CL (by assumption)).mono ?_; rintro e w3 ⟨rfl, hS3⟩))
    go_wp2_with fail
    go_ret
    rename_i w3 _ hS3
    exact ⟨rfl, hS3.2.2.out⟩
end Go.Proofs.YtcojbkhjmaaamaaGreatDoor.Sm
