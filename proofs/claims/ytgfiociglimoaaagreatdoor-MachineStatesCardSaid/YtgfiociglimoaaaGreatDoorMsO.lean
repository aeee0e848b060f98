import Derived.Test.YtgfiociglimoaaaGreatDoorMsK
set_option maxRecDepth 100000
namespace Go.Proofs.YtgfiociglimoaaaGreatDoor.Ms
open Go Go.Ms Go.Pg Go.ChangeShapes Go.WideShapes Go.ChangeAt Go.RowKit Go.Deep

theorem drewN_below (w : World) (n : Nat) : Below w.heap.size w (w.drewN n) := ⟨rfl, rfl, rfl, Nat.le_refl _, fun _ _ => rfl⟩
def Says (w : World) {α : Type} (a b : α) (e : Ending) (w' : World) : Prop := ∃ r : Bool, e = .returned (.bool r) ∧ (r = true ↔ a = b) ∧ Below w.heap.size w w'

set_option maxHeartbeats 4000000 in
theorem equalPairs {l m : List (Int × Int)} {va vb : Value} {w : World} (ha : RowAt 2 (PairAt .u8 .i64) w va l) (hb : RowAt 2 (PairAt .u8 .i64) w vb m) : Calls Tryz.prog 33 #[va, vb] w (Says w l m) := by
  obtain ⟨oa, ca, rfl, hlm, ha⟩ := ha
  obtain ⟨ob, cb, rfl, hmm, hb⟩ := hb
  go_enter Tryz.func33, Tryz.ntmps33
  go_wp2
  · have hq : ((l.length : Int) != (m.length : Int)) = true := by assumption
    go_ret
    exact ⟨false, rfl, ⟨fun h => by simp at h, fun h => absurd h (ne_of_length hq)⟩, Below.refl _ _⟩
  · have hq : ((l.length : Int) != (m.length : Int)) = false := by assumption
    have hlen : Hid (l.length = m.length) := length_of hq
    generalize ((l.length : Int) != (m.length : Int)) = bq at *
    subst hq
    go_loopw [13] (fun i wr => ∃ k n : Nat, k ≤ l.length ∧ i = .int .i64 k ∧ (∀ j, j < k → l[j]? = m[j]?) ∧ wr = w.drewN n) (fun i _ => l.length - (intOf i).toNat)
    case atStart => exact ⟨0, 0, Nat.zero_le _, rfl, fun j h => by omega, rfl⟩
    case round =>
      obtain ⟨k, n, hk, rfl, hp, rfl⟩ := hrel
      have P : Hid (∀ j, j < k → l[j]? = m[j]?) := hp
      clear hp
      by_cases hlt : k < l.length
      · obtain ⟨b1, o1, rfl, P1⟩ := ha k hlt
        have hlt2 : k < m.length := by have := hlen.out; omega
        obtain ⟨b2, o2, rfl, P2⟩ := hb k hlt2
        have hi1 : (k : Int) < (l.length : Int) := by omega
        have hi2 : (k : Int) < (m.length : Int) := by omega
        have c1 := P1.1.1
        have c2 := P1.2.1
        have c3 := P2.1.1
        have c4 := P2.2.1
        clear ha hb P1 P2
        have E : Hid (l[k] = m[k] ↔ (l[k].1 = m[k].1 ∧ l[k].2 = m[k].2)) := Prod.ext_iff
        generalize l[k].1 = x1 at *
        generalize l[k].2 = x2 at *
        generalize m[k].1 = y1 at *
        generalize m[k].2 = y2 at *
        by_cases e1 : x1 = y1
        · subst e1
          by_cases e2 : x2 = y2
          · subst e2
            go_wp2
            go_quiet (fail)
            go_wp2
            exact ⟨⟨k + 1, _, by omega, by go_num, get_succ P.out hlt hlt2 (E.out.2 ⟨trivial, trivial⟩), by first | rfl | trivial⟩, by simp [intOf]; omega⟩
          · go_wp2
            go_quiet (fail)
            go_wp2
            go_ret
            exact ⟨false, rfl, ⟨fun h => by simp at h, fun h => absurd (E.out.1 (by subst h; rfl)).2 e2⟩, by first | exact drewN_below _ _ | (rw [World.drewN_drewN]; exact drewN_below _ _)⟩
        · go_wp2
          go_quiet (fail)
          go_wp2
          go_ret
          exact ⟨false, rfl, ⟨fun h => by simp at h, fun h => absurd (E.out.1 (by subst h; rfl)).1 e1⟩, by first | exact drewN_below _ _ | (rw [World.drewN_drewN]; exact drewN_below _ _)⟩
      · go_wp2
        go_ret
        have : k = l.length := by omega
        subst this
        exact ⟨true, rfl, ⟨fun _ => eq_of_get hlen.out P.out, fun _ => rfl⟩, drewN_below _ _⟩
set_option maxHeartbeats 4000000 in
theorem equalHandlers {l m : List (Int × Int)} {va vb : Value} {w : World} (ha : RowAt 2 (PairAt .i64 .i64) w va l) (hb : RowAt 2 (PairAt .i64 .i64) w vb m) : Calls Tryz.prog 48 #[va, vb] w (Says w l m) := by
  obtain ⟨oa, ca, rfl, hlm, ha⟩ := ha
  obtain ⟨ob, cb, rfl, hmm, hb⟩ := hb
  go_enter Tryz.func48, Tryz.ntmps48
  go_wp2
  · have hq : ((l.length : Int) != (m.length : Int)) = true := by assumption
    go_ret
    exact ⟨false, rfl, ⟨fun h => by simp at h, fun h => absurd h (ne_of_length hq)⟩, Below.refl _ _⟩
  · have hq : ((l.length : Int) != (m.length : Int)) = false := by assumption
    have hlen : Hid (l.length = m.length) := length_of hq
    generalize ((l.length : Int) != (m.length : Int)) = bq at *
    subst hq
    go_loopw [13] (fun i wr => ∃ k n : Nat, k ≤ l.length ∧ i = .int .i64 k ∧ (∀ j, j < k → l[j]? = m[j]?) ∧ wr = w.drewN n) (fun i _ => l.length - (intOf i).toNat)
    case atStart => exact ⟨0, 0, Nat.zero_le _, rfl, fun j h => by omega, rfl⟩
    case round =>
      obtain ⟨k, n, hk, rfl, hp, rfl⟩ := hrel
      have P : Hid (∀ j, j < k → l[j]? = m[j]?) := hp
      clear hp
      by_cases hlt : k < l.length
      · obtain ⟨b1, o1, rfl, P1⟩ := ha k hlt
        have hlt2 : k < m.length := by have := hlen.out; omega
        obtain ⟨b2, o2, rfl, P2⟩ := hb k hlt2
        have hi1 : (k : Int) < (l.length : Int) := by omega
        have hi2 : (k : Int) < (m.length : Int) := by omega
        have c1 := P1.1.1
        have c2 := P1.2.1
        have c3 := P2.1.1
        have c4 := P2.2.1
        clear ha hb P1 P2
        have E : Hid (l[k] = m[k] ↔ (l[k].1 = m[k].1 ∧ l[k].2 = m[k].2)) := Prod.ext_iff
        generalize l[k].1 = x1 at *
        generalize l[k].2 = x2 at *
        generalize m[k].1 = y1 at *
        generalize m[k].2 = y2 at *
        by_cases e1 : x1 = y1
        · subst e1
          by_cases e2 : x2 = y2
          · subst e2
            go_wp2
            go_quiet (fail)
            go_wp2
            exact ⟨⟨k + 1, _, by omega, by go_num, get_succ P.out hlt hlt2 (E.out.2 ⟨trivial, trivial⟩), by first | rfl | trivial⟩, by simp [intOf]; omega⟩
          · go_wp2
            go_quiet (fail)
            go_wp2
            go_ret
            exact ⟨false, rfl, ⟨fun h => by simp at h, fun h => absurd (E.out.1 (by subst h; rfl)).2 e2⟩, by first | exact drewN_below _ _ | (rw [World.drewN_drewN]; exact drewN_below _ _)⟩
        · go_wp2
          go_quiet (fail)
          go_wp2
          go_ret
          exact ⟨false, rfl, ⟨fun h => by simp at h, fun h => absurd (E.out.1 (by subst h; rfl)).1 e1⟩, by first | exact drewN_below _ _ | (rw [World.drewN_drewN]; exact drewN_below _ _)⟩
      · go_wp2
        go_ret
        have : k = l.length := by omega
        subst this
        exact ⟨true, rfl, ⟨fun _ => eq_of_get hlen.out P.out, fun _ => rfl⟩, drewN_below _ _⟩
set_option maxHeartbeats 4000000 in
theorem equalInts {l m : List Int} {va vb : Value} {w : World} (ha : RowAt 1 (NumAt .i64) w va l) (hb : RowAt 1 (NumAt .i64) w vb m) : Calls Tryz.prog 34 #[va, vb] w (Says w l m) := by
  obtain ⟨oa, ca, rfl, hlm, ha⟩ := ha
  obtain ⟨ob, cb, rfl, hmm, hb⟩ := hb
  go_enter Tryz.func34, Tryz.ntmps34
  go_wp2
  · have hq : ((l.length : Int) != (m.length : Int)) = true := by assumption
    go_ret
    exact ⟨false, rfl, ⟨fun h => by simp at h, fun h => absurd h (ne_of_length hq)⟩, Below.refl _ _⟩
  · have hq : ((l.length : Int) != (m.length : Int)) = false := by assumption
    have hlen : Hid (l.length = m.length) := length_of hq
    generalize ((l.length : Int) != (m.length : Int)) = bq at *
    subst hq
    go_loopw [13] (fun i wr => ∃ k n : Nat, k ≤ l.length ∧ i = .int .i64 k ∧ (∀ j, j < k → l[j]? = m[j]?) ∧ wr = w.drewN n) (fun i _ => l.length - (intOf i).toNat)
    case atStart => exact ⟨0, 0, Nat.zero_le _, rfl, fun j h => by omega, rfl⟩
    case round =>
      obtain ⟨k, n, hk, rfl, hp, rfl⟩ := hrel
      have P : Hid (∀ j, j < k → l[j]? = m[j]?) := hp
      clear hp
      by_cases hlt : k < l.length
      · obtain ⟨b1, o1, rfl, P1⟩ := ha k hlt
        have hlt2 : k < m.length := by have := hlen.out; omega
        obtain ⟨b2, o2, rfl, P2⟩ := hb k hlt2
        have hi1 : (k : Int) < (l.length : Int) := by omega
        have hi2 : (k : Int) < (m.length : Int) := by omega
        have c1 := P1.1
        have c3 := P2.1
        rw [Nat.mul_one] at c1 c3
        clear ha hb P1 P2
        have E : Hid (∀ x y, l[k] = x → m[k] = y → (x = y → l[k] = m[k]) ∧ (l = m → x = y)) := fun x y h1 h2 => ⟨fun h => by rw [h1, h2, h], fun h => by subst h; rw [← h1, ← h2]⟩
        have F := hide (E.out _ _ rfl rfl)
        clear E
        generalize hx1 : l[k] = x1 at c1 F
        generalize hy1 : m[k] = y1 at c3 F
        have F2 : Hid ((x1 = y1 → l[k] = m[k]) ∧ (l = m → x1 = y1)) := ⟨fun h => by rw [hx1, hy1, h], F.out.2⟩
        clear F hx1 hy1
        by_cases e1 : x1 = y1
        · subst e1
          go_wp2
          go_quiet (fail)
          go_wp2
          exact ⟨⟨k + 1, _, by omega, by go_num, get_succ P.out hlt hlt2 (F2.out.1 (by first | rfl | trivial)), by first | rfl | trivial⟩, by simp [intOf]; omega⟩
        · go_wp2
          go_quiet (fail)
          go_wp2
          go_ret
          exact ⟨false, rfl, ⟨fun h => by simp at h, fun h => absurd (F2.out.2 h) e1⟩, by first | exact drewN_below _ _ | (rw [World.drewN_drewN]; exact drewN_below _ _)⟩
      · go_wp2
        go_ret
        have : k = l.length := by omega
        subst this
        exact ⟨true, rfl, ⟨fun _ => eq_of_get hlen.out P.out, fun _ => rfl⟩, drewN_below _ _⟩
end Go.Proofs.YtgfiociglimoaaaGreatDoor.Ms

set_option maxRecDepth 100000
namespace Go.Proofs.YtgfiociglimoaaaGreatDoor.Ms
open Go Go.Ms Go.Pg Go.ChangeShapes Go.WideShapes Go.ChangeAt Go.RowKit Go.Deep

theorem fr_eq {a b : Fr} : a = b ↔ a.id = b.id ∧ a.chunk = b.chunk ∧ a.pc = b.pc ∧ a.regs = b.regs ∧ a.tries = b.tries := by
  cases a; cases b; simp
theorem th_eq {a b : Th} : a = b ↔ a.rk = b.rk ∧ a.rn = b.rn ∧ a.frames = b.frames := by
  cases a; cases b; simp; exact ⟨fun h => ⟨h.2.1, h.2.2, h.1⟩, fun h => ⟨h.2.2, h.1, h.2.1⟩⟩
theorem ob_eq {a b : Ob} : a = b ↔ a.chunk = b.chunk ∧ a.owner = b.owner ∧ a.cells = b.cells := by
  cases a; cases b
  rw [Ob.mk.injEq]
  exact ⟨fun h => ⟨h.1, h.2.2, h.2.1⟩, fun h => ⟨h.1, h.2.2, h.2.1⟩⟩
theorem oc_eq {a b : Oc} : a = b ↔ a.fin = b.fin ∧ a.fault = b.fault ∧ a.line = b.line ∧ (a.vk = b.vk ∧ a.vn = b.vn) ∧ a.steps = b.steps ∧ a.out = b.out := by
  cases a; cases b
  rw [Oc.mk.injEq]
  exact ⟨fun h => ⟨h.1, h.2.1, h.2.2.1, ⟨h.2.2.2.1, h.2.2.2.2.1⟩, h.2.2.2.2.2.2, h.2.2.2.2.2.1⟩, fun h => ⟨h.1, h.2.1, h.2.2.1, h.2.2.2.1.1, h.2.2.2.1.2, h.2.2.2.2.2, h.2.2.2.2.1⟩⟩
theorem st_eq {a b : St} : a = b ↔ a.threads = b.threads ∧ a.objects = b.objects ∧ a.inputs = b.inputs ∧ a.clocks = b.clocks ∧ a.frames = b.frames ∧ a.outcome = b.outcome := by
  cases a; cases b; simp

theorem boxes {w w' : World} {c d : Array Value} {t u : TypeId} (hB : Below ((w.alloc (.cells c t (0, 0))).alloc (.cells d u (0, 0))).heap.size ((w.alloc (.cells c t (0, 0))).alloc (.cells d u (0, 0))) w') (j : Nat) :
    w'.cell? ⟨w.heap.size, j, none⟩ = c[j]? ∧ w'.cell? ⟨w.heap.size + 1, j, none⟩ = d[j]? := by
  have hs : ((w.alloc (.cells c t (0, 0))).alloc (.cells d u (0, 0))).heap.size = w.heap.size + 2 := by simp
  have h1 := hB.cell (p := ⟨w.heap.size, j, none⟩) (by rw [hs]; show w.heap.size < _; omega)
  have h2 := hB.cell (p := ⟨w.heap.size + 1, j, none⟩) (by rw [hs]; show w.heap.size + 1 < _; omega)
  rw [h1, h2]
  have e2 := new_block (w.alloc (.cells c t (0, 0))) (.cells d u (0, 0))
  have es : (w.alloc (.cells c t (0, 0))).heap.size = w.heap.size + 1 := by simp
  rw [es] at e2
  exact ⟨cell_of (old_block (new_block w (.cells c t (0, 0))) _) j, cell_of e2 j⟩
theorem up {w w' : World} {x y : Obj} (hB : Below ((w.alloc x).alloc y).heap.size ((w.alloc x).alloc y) w') : Below w.heap.size w w' := (two w x y).trans (hB.mono (two w x y).size)

set_option maxHeartbeats 4000000 in
theorem sameFrame (w : World) (a b : Fr) (va ta vb tb : Value) (h1 : RowAt 2 (PairAt .u8 .i64) w va a.regs) (h2 : RowAt 2 (PairAt .i64 .i64) w ta a.tries) (k1 : RowAt 2 (PairAt .u8 .i64) w vb b.regs) (k2 : RowAt 2 (PairAt .i64 .i64) w tb b.tries) :
    Calls Tryz.prog 32 #[.agg #[.int .i64 a.id, .int .i64 a.chunk, .int .i64 a.pc, va, ta], .agg #[.int .i64 b.id, .int .i64 b.chunk, .int .i64 b.pc, vb, tb]] w (Says w a b) := by
  obtain ⟨o1, c1, rfl⟩ := h1.slice
  obtain ⟨o2, c2, rfl⟩ := h2.slice
  obtain ⟨u1, d1, rfl⟩ := k1.slice
  obtain ⟨u2, d2, rfl⟩ := k2.slice
  have H1 := hide h1
  have H2 := hide h2
  have K1 := hide k1
  have K2 := hide k2
  clear h1 h2 k1 k2
  go_enter Tryz.func32, Tryz.ntmps32
  go_wp2_with (first
    | (go_at_call 33
       (
         refine (equalPairs (H1.out.below (PairAt.keeps _ _) (two _ _ _)) (K1.out.below (PairAt.keeps _ _) (two _ _ _))).mono ?_
         rintro e w1 ⟨r1, rfl, hr1, hB1⟩
         have R1 := hide hr1
         have q1 : w1.cell? ⟨w.heap.size, 4, none⟩ = some (.slice o2 a.tries.length c2) := (boxes hB1 4).1
         have q2 : w1.cell? ⟨w.heap.size + 1, 4, none⟩ = some (.slice u2 b.tries.length d2) := (boxes hB1 4).2
         have U1 := hide (up hB1)
         clear hB1 hr1))
    | (go_at_call 48
       (
         refine (equalHandlers (H2.out.below (PairAt.keeps _ _) U1.out) (K2.out.below (PairAt.keeps _ _) U1.out)).mono ?_
         rintro e w2 ⟨r2, rfl, hr2, hB2⟩
         have R2 := hide hr2
         have U2 : Hid (Below w.heap.size w w2) := U1.out.trans (hB2.mono U1.out.size)
         clear hB2 hr2 q1 q2))
    | fail)
  all_goals go_ret
  · have e1 : a.id = b.id := by assumption
    have e2 : a.chunk = b.chunk := by assumption
    have e3 : a.pc = b.pc := by assumption
    have e4 : r1 = true := by assumption
    exact ⟨r2, rfl, ⟨fun h => fr_eq.2 ⟨e1, e2, e3, R1.out.1 e4, R2.out.1 h⟩, fun h => R2.out.2 (congrArg Fr.tries h)⟩, U2.out⟩
  · have g : ¬ r1 = true := by assumption
    exact ⟨false, rfl, ⟨fun h => by simp at h, fun h => absurd (R1.out.2 (congrArg Fr.regs h)) g⟩, U1.out⟩
  · have g : ¬ a.pc = b.pc := by assumption
    exact ⟨false, rfl, ⟨fun h => by simp at h, fun h => absurd (congrArg Fr.pc h) g⟩, two _ _ _⟩
  · have g : ¬ a.chunk = b.chunk := by assumption
    exact ⟨false, rfl, ⟨fun h => by simp at h, fun h => absurd (congrArg Fr.chunk h) g⟩, two _ _ _⟩
  · have g : ¬ a.id = b.id := by assumption
    exact ⟨false, rfl, ⟨fun h => by simp at h, fun h => absurd (congrArg Fr.id h) g⟩, two _ _ _⟩

set_option maxHeartbeats 4000000 in
theorem sameObject (w : World) (a b : Ob) (va vb : Value) (h1 : RowAt 2 (PairAt .u8 .i64) w va a.cells) (k1 : RowAt 2 (PairAt .u8 .i64) w vb b.cells) :
    Calls Tryz.prog 24 #[.agg #[.int .i64 a.chunk, va, .int .i64 a.owner], .agg #[.int .i64 b.chunk, vb, .int .i64 b.owner]] w (Says w a b) := by
  obtain ⟨o1, c1, rfl⟩ := h1.slice
  obtain ⟨u1, d1, rfl⟩ := k1.slice
  have H1 := hide h1
  have K1 := hide k1
  clear h1 k1
  go_enter Tryz.func24, Tryz.ntmps24
  go_wp2_with (first
    | (go_at_call 33
       (
         refine (equalPairs (H1.out.below (PairAt.keeps _ _) (two _ _ _)) (K1.out.below (PairAt.keeps _ _) (two _ _ _))).mono ?_
         rintro e w1 ⟨r1, rfl, hr1, hB1⟩
         have R1 := hide hr1
         have U1 := hide (up hB1)
         clear hB1 hr1))
    | fail)
  all_goals go_ret
  · have e1 : a.chunk = b.chunk := by assumption
    have e2 : a.owner = b.owner := by assumption
    exact ⟨r1, rfl, ⟨fun h => ob_eq.2 ⟨e1, e2, R1.out.1 h⟩, fun h => R1.out.2 (congrArg Ob.cells h)⟩, U1.out⟩
  · have g : ¬ a.owner = b.owner := by assumption
    exact ⟨false, rfl, ⟨fun h => by simp at h, fun h => absurd (congrArg Ob.owner h) g⟩, two _ _ _⟩
  · have g : ¬ a.chunk = b.chunk := by assumption
    exact ⟨false, rfl, ⟨fun h => by simp at h, fun h => absurd (congrArg Ob.chunk h) g⟩, two _ _ _⟩

set_option maxHeartbeats 4000000 in
theorem sameOutcome (w : World) (a b : Oc) (va vb : Value) (h1 : RowAt 1 (NumAt .i64) w va a.out) (k1 : RowAt 1 (NumAt .i64) w vb b.out) :
    Calls Tryz.prog 25 #[.agg #[.int .u8 a.fin, .int .u8 a.fault, .int .i64 a.line, .int .u8 a.vk, .int .i64 a.vn, va, .int .i64 a.steps], .agg #[.int .u8 b.fin, .int .u8 b.fault, .int .i64 b.line, .int .u8 b.vk, .int .i64 b.vn, vb, .int .i64 b.steps]] w (Says w a b) := by
  obtain ⟨o1, c1, rfl⟩ := h1.slice
  obtain ⟨u1, d1, rfl⟩ := k1.slice
  have H1 := hide h1
  have K1 := hide k1
  clear h1 k1
  go_enter Tryz.func25, Tryz.ntmps25
  go_wp2_with (first
    | (go_at_call 34
       (
         refine (equalInts (H1.out.below (NumAt.keeps _) (two _ _ _)) (K1.out.below (NumAt.keeps _) (two _ _ _))).mono ?_
         rintro e w1 ⟨r1, rfl, hr1, hB1⟩
         have R1 := hide hr1
         have U1 := hide (up hB1)
         clear hB1 hr1))
    | fail)
  all_goals go_ret
  · have e1 : a.fin = b.fin := by assumption
    have e2 : a.fault = b.fault := by assumption
    have e3 : a.line = b.line := by assumption
    have e4 : a.vk = b.vk := by assumption
    have e5 : a.vn = b.vn := by assumption
    have e6 : a.steps = b.steps := by assumption
    exact ⟨r1, rfl, ⟨fun h => oc_eq.2 ⟨e1, e2, e3, ⟨e4, e5⟩, e6, R1.out.1 h⟩, fun h => R1.out.2 (congrArg Oc.out h)⟩, U1.out⟩
  · have g : ¬ a.steps = b.steps := by assumption
    exact ⟨false, rfl, ⟨fun h => by simp at h, fun h => absurd (congrArg Oc.steps h) g⟩, two _ _ _⟩
  · have g : ¬ a.vn = b.vn := by assumption
    exact ⟨false, rfl, ⟨fun h => by simp at h, fun h => absurd (congrArg Oc.vn h) g⟩, two _ _ _⟩
  · have g : ¬ a.vk = b.vk := by assumption
    exact ⟨false, rfl, ⟨fun h => by simp at h, fun h => absurd (congrArg Oc.vk h) g⟩, two _ _ _⟩
  · have g : ¬ a.line = b.line := by assumption
    exact ⟨false, rfl, ⟨fun h => by simp at h, fun h => absurd (congrArg Oc.line h) g⟩, two _ _ _⟩
  · have g : ¬ a.fault = b.fault := by assumption
    exact ⟨false, rfl, ⟨fun h => by simp at h, fun h => absurd (congrArg Oc.fault h) g⟩, two _ _ _⟩
  · have g : ¬ a.fin = b.fin := by assumption
    exact ⟨false, rfl, ⟨fun h => by simp at h, fun h => absurd (congrArg Oc.fin h) g⟩, two _ _ _⟩
end Go.Proofs.YtgfiociglimoaaaGreatDoor.Ms

set_option maxRecDepth 100000
namespace Go.Proofs.YtgfiociglimoaaaGreatDoor.Ms
open Go Go.Ms Go.Pg Go.ChangeShapes Go.WideShapes Go.ChangeAt Go.RowKit Go.Deep

theorem cell_alloc {w : World} {b o : Nat} {v : Value} (h : w.cell? ⟨b, o, none⟩ = some v) (ob : Obj) : (w.alloc ob).cell? ⟨b, o, none⟩ = some v := cell_below ((Below.refl _ w).alloc (Nat.le_refl _) ob) h

set_option maxHeartbeats 4000000 in
theorem equalFrames {l m : List Fr} {va vb : Value} {w : World} (ha : RowAt 5 FrAt w va l) (hb : RowAt 5 FrAt w vb m) : Calls Tryz.prog 31 #[va, vb, .func (.func 32) #[] #[]] w (Says w l m) := by
  obtain ⟨oa, ca, rfl, hlm, ha⟩ := ha
  obtain ⟨ob, cb, rfl, hmm, hb⟩ := hb
  go_enter Tryz.func31, Tryz.ntmps31
  go_wp2_with fail
  · have hq : ((l.length : Int) != (m.length : Int)) = true := by assumption
    go_ret
    exact ⟨false, rfl, ⟨fun h => by simp at h, fun h => absurd h (ne_of_length hq)⟩, Below.refl _ _⟩
  · have hq : ((l.length : Int) != (m.length : Int)) = false := by assumption
    have hlen : Hid (l.length = m.length) := length_of hq
    generalize ((l.length : Int) != (m.length : Int)) = bq at *
    subst hq
    go_loopw [17] (fun i wr => ∃ k : Nat, k ≤ l.length ∧ i = .int .i64 k ∧ (∀ j, j < k → l[j]? = m[j]?) ∧ Below w.heap.size w wr) (fun i _ => l.length - (intOf i).toNat)
    case atStart => exact ⟨0, Nat.zero_le _, rfl, fun j h => by omega, Below.refl _ _⟩
    case round =>
      obtain ⟨k, hk, rfl, hp, hB⟩ := hrel
      have B := hide hB
      have P : Hid (∀ j, j < k → l[j]? = m[j]?) := hp
      clear hB hp
      by_cases hlt : k < l.length
      · obtain ⟨b1, o1, rfl, P1⟩ := ha k hlt
        have hlt2 : k < m.length := by have := hlen.out; omega
        obtain ⟨b2, o2, rfl, P2⟩ := hb k hlt2
        have hi1 : (k : Int) < (l.length : Int) := by omega
        have hi2 : (k : Int) < (m.length : Int) := by omega
        obtain ⟨vr, vt, c0, c1, c2, c3, c4, R1, R2⟩ := fr_now B.out P1
        obtain ⟨xr, xt, d0, d1, d2, d3, d4, S1, S2⟩ := fr_now B.out P2
        obtain ⟨ra, rc, rfl⟩ := R1.slice
        obtain ⟨ta, tc, rfl⟩ := R2.slice
        obtain ⟨sa, sc, rfl⟩ := S1.slice
        obtain ⟨ya, yc, rfl⟩ := S2.slice
        have g0 := cell_alloc d0
        have g1 := cell_alloc d1
        have g2 := cell_alloc d2
        have g3 := cell_alloc d3
        have g4 := cell_alloc d4
        have T1 := hide R1
        have T2 := hide R2
        have T3 := hide S1
        have T4 := hide S2
        clear ha hb P1 P2 R1 R2 S1 S2 d0 d1 d2 d3 d4
        go_wp2_with (first
          | (go_at_call 32
             (
               refine (sameFrame _ l[k] m[k] _ _ _ _ (T1.out.below (PairAt.keeps _ _) (B.out.trans ((two _ _ _).mono B.out.size))) (T2.out.below (PairAt.keeps _ _) (B.out.trans ((two _ _ _).mono B.out.size))) (T3.out.below (PairAt.keeps _ _) (B.out.trans ((two _ _ _).mono B.out.size))) (T4.out.below (PairAt.keeps _ _) (B.out.trans ((two _ _ _).mono B.out.size)))).mono ?_
               rintro e w2 ⟨r, rfl, hr, hB2⟩
               have R := hide hr
               have U : Hid (Below w.heap.size w w2) := B.out.trans ((up hB2).mono B.out.size)
               clear hr hB2))
          | fail)
        · have g : (!r) = true := by assumption
          go_ret
          exact ⟨false, rfl, ⟨fun h => by simp at h, fun h => absurd (R.out.2 (by subst h; rfl)) (by simpa using g)⟩, U.out⟩
        · have g : (!r) = false := by assumption
          go_roundw
          case rel => exact ⟨k + 1, by omega, by go_num, get_succ P.out hlt hlt2 (R.out.1 (by simpa using g)), U.out⟩
          case measure => simp [intOf]; omega
      · go_wp2_with fail
        go_ret
        have : k = l.length := by omega
        subst this
        exact ⟨true, rfl, ⟨fun _ => eq_of_get hlen.out P.out, fun _ => rfl⟩, B.out⟩

set_option maxHeartbeats 4000000 in
theorem equalObjects {l m : List Ob} {va vb : Value} {w : World} (ha : RowAt 3 ObAt w va l) (hb : RowAt 3 ObAt w vb m) : Calls Tryz.prog 23 #[va, vb, .func (.func 24) #[] #[]] w (Says w l m) := by
  obtain ⟨oa, ca, rfl, hlm, ha⟩ := ha
  obtain ⟨ob, cb, rfl, hmm, hb⟩ := hb
  go_enter Tryz.func23, Tryz.ntmps23
  go_wp2_with fail
  · have hq : ((l.length : Int) != (m.length : Int)) = true := by assumption
    go_ret
    exact ⟨false, rfl, ⟨fun h => by simp at h, fun h => absurd h (ne_of_length hq)⟩, Below.refl _ _⟩
  · have hq : ((l.length : Int) != (m.length : Int)) = false := by assumption
    have hlen : Hid (l.length = m.length) := length_of hq
    generalize ((l.length : Int) != (m.length : Int)) = bq at *
    subst hq
    go_loopw [17] (fun i wr => ∃ k : Nat, k ≤ l.length ∧ i = .int .i64 k ∧ (∀ j, j < k → l[j]? = m[j]?) ∧ Below w.heap.size w wr) (fun i _ => l.length - (intOf i).toNat)
    case atStart => exact ⟨0, Nat.zero_le _, rfl, fun j h => by omega, Below.refl _ _⟩
    case round =>
      obtain ⟨k, hk, rfl, hp, hB⟩ := hrel
      have B := hide hB
      have P : Hid (∀ j, j < k → l[j]? = m[j]?) := hp
      clear hB hp
      by_cases hlt : k < l.length
      · obtain ⟨b1, o1, rfl, P1⟩ := ha k hlt
        have hlt2 : k < m.length := by have := hlen.out; omega
        obtain ⟨b2, o2, rfl, P2⟩ := hb k hlt2
        have hi1 : (k : Int) < (l.length : Int) := by omega
        have hi2 : (k : Int) < (m.length : Int) := by omega
        obtain ⟨vr, c0, c1, c2, R1⟩ := ob_now B.out P1
        obtain ⟨xr, d0, d1, d2, S1⟩ := ob_now B.out P2
        obtain ⟨ra, rc, rfl⟩ := R1.slice
        obtain ⟨sa, sc, rfl⟩ := S1.slice
        have g0 := cell_alloc d0
        have g1 := cell_alloc d1
        have g2 := cell_alloc d2
        have T1 := hide R1
        have T3 := hide S1
        clear ha hb P1 P2 R1 S1 d0 d1 d2
        go_wp2_with (first
          | (go_at_call 24
             (
               refine (sameObject _ l[k] m[k] _ _ (T1.out.below (PairAt.keeps _ _) (B.out.trans ((two _ _ _).mono B.out.size))) (T3.out.below (PairAt.keeps _ _) (B.out.trans ((two _ _ _).mono B.out.size)))).mono ?_
               rintro e w2 ⟨r, rfl, hr, hB2⟩
               have R := hide hr
               have U : Hid (Below w.heap.size w w2) := B.out.trans ((up hB2).mono B.out.size)
               clear hr hB2))
          | fail)
        · have g : (!r) = true := by assumption
          go_ret
          exact ⟨false, rfl, ⟨fun h => by simp at h, fun h => absurd (R.out.2 (by subst h; rfl)) (by simpa using g)⟩, U.out⟩
        · have g : (!r) = false := by assumption
          go_roundw
          case rel => exact ⟨k + 1, by omega, by go_num, get_succ P.out hlt hlt2 (R.out.1 (by simpa using g)), U.out⟩
          case measure => simp [intOf]; omega
      · go_wp2_with fail
        go_ret
        have : k = l.length := by omega
        subst this
        exact ⟨true, rfl, ⟨fun _ => eq_of_get hlen.out P.out, fun _ => rfl⟩, B.out⟩

set_option maxHeartbeats 4000000 in
theorem sameThread (w : World) (a b : Th) (va vb : Value) (h1 : RowAt 5 FrAt w va a.frames) (k1 : RowAt 5 FrAt w vb b.frames) :
    Calls Tryz.prog 22 #[.agg #[va, .int .u8 a.rk, .int .i64 a.rn], .agg #[vb, .int .u8 b.rk, .int .i64 b.rn]] w (Says w a b) := by
  obtain ⟨o1, c1, rfl⟩ := h1.slice
  obtain ⟨u1, d1, rfl⟩ := k1.slice
  have H1 := hide h1
  have K1 := hide k1
  clear h1 k1
  go_enter Tryz.func22, Tryz.ntmps22
  go_wp2_with (first
    | (go_at_call 31
       (
         refine (equalFrames (H1.out.below FrAt.keeps (two _ _ _)) (K1.out.below FrAt.keeps (two _ _ _))).mono ?_
         rintro e w1 ⟨r1, rfl, hr1, hB1⟩
         have R1 := hide hr1
         have U1 := hide (up hB1)
         clear hB1 hr1))
    | fail)
  all_goals go_ret
  · have e1 : a.rk = b.rk := by assumption
    have e2 : a.rn = b.rn := by assumption
    exact ⟨r1, rfl, ⟨fun h => th_eq.2 ⟨e1, e2, R1.out.1 h⟩, fun h => R1.out.2 (congrArg Th.frames h)⟩, U1.out⟩
  · have g : ¬ a.rn = b.rn := by assumption
    exact ⟨false, rfl, ⟨fun h => by simp at h, fun h => absurd (congrArg Th.rn h) g⟩, two _ _ _⟩
  · have g : ¬ a.rk = b.rk := by assumption
    exact ⟨false, rfl, ⟨fun h => by simp at h, fun h => absurd (congrArg Th.rk h) g⟩, two _ _ _⟩

set_option maxHeartbeats 4000000 in
theorem equalThreads {l m : List Th} {va vb : Value} {w : World} (ha : RowAt 3 ThAt w va l) (hb : RowAt 3 ThAt w vb m) : Calls Tryz.prog 21 #[va, vb, .func (.func 22) #[] #[]] w (Says w l m) := by
  obtain ⟨oa, ca, rfl, hlm, ha⟩ := ha
  obtain ⟨ob, cb, rfl, hmm, hb⟩ := hb
  go_enter Tryz.func21, Tryz.ntmps21
  go_wp2_with fail
  · have hq : ((l.length : Int) != (m.length : Int)) = true := by assumption
    go_ret
    exact ⟨false, rfl, ⟨fun h => by simp at h, fun h => absurd h (ne_of_length hq)⟩, Below.refl _ _⟩
  · have hq : ((l.length : Int) != (m.length : Int)) = false := by assumption
    have hlen : Hid (l.length = m.length) := length_of hq
    generalize ((l.length : Int) != (m.length : Int)) = bq at *
    subst hq
    go_loopw [17] (fun i wr => ∃ k : Nat, k ≤ l.length ∧ i = .int .i64 k ∧ (∀ j, j < k → l[j]? = m[j]?) ∧ Below w.heap.size w wr) (fun i _ => l.length - (intOf i).toNat)
    case atStart => exact ⟨0, Nat.zero_le _, rfl, fun j h => by omega, Below.refl _ _⟩
    case round =>
      obtain ⟨k, hk, rfl, hp, hB⟩ := hrel
      have B := hide hB
      have P : Hid (∀ j, j < k → l[j]? = m[j]?) := hp
      clear hB hp
      by_cases hlt : k < l.length
      · obtain ⟨b1, o1, rfl, P1⟩ := ha k hlt
        have hlt2 : k < m.length := by have := hlen.out; omega
        obtain ⟨b2, o2, rfl, P2⟩ := hb k hlt2
        have hi1 : (k : Int) < (l.length : Int) := by omega
        have hi2 : (k : Int) < (m.length : Int) := by omega
        obtain ⟨vr, c0, c1, c2, R1, _⟩ := thr_now B.out P1
        obtain ⟨xr, d0, d1, d2, S1, _⟩ := thr_now B.out P2
        obtain ⟨ra, rc, rfl⟩ := R1.slice
        obtain ⟨sa, sc, rfl⟩ := S1.slice
        have g0 := cell_alloc d0
        have g1 := cell_alloc d1
        have g2 := cell_alloc d2
        have T1 := hide R1
        have T3 := hide S1
        clear ha hb P1 P2 R1 S1 d0 d1 d2
        go_wp2_with (first
          | (go_at_call 22
             (
               refine (sameThread _ l[k] m[k] _ _ (T1.out.below FrAt.keeps (B.out.trans ((two _ _ _).mono B.out.size))) (T3.out.below FrAt.keeps (B.out.trans ((two _ _ _).mono B.out.size)))).mono ?_
               rintro e w2 ⟨r, rfl, hr, hB2⟩
               have R := hide hr
               have U : Hid (Below w.heap.size w w2) := B.out.trans ((up hB2).mono B.out.size)
               clear hr hB2))
          | fail)
        · have g : (!r) = true := by assumption
          go_ret
          exact ⟨false, rfl, ⟨fun h => by simp at h, fun h => absurd (R.out.2 (by subst h; rfl)) (by simpa using g)⟩, U.out⟩
        · have g : (!r) = false := by assumption
          go_roundw
          case rel => exact ⟨k + 1, by omega, by go_num, get_succ P.out hlt hlt2 (R.out.1 (by simpa using g)), U.out⟩
          case measure => simp [intOf]; omega
      · go_wp2_with fail
        go_ret
        have : k = l.length := by omega
        subst this
        exact ⟨true, rfl, ⟨fun _ => eq_of_get hlen.out P.out, fun _ => rfl⟩, B.out⟩
end Go.Proofs.YtgfiociglimoaaaGreatDoor.Ms

