import Derived.Test.YtcojbkhjmaaamaaGreatDoorChecked
import Derived.Test.YtcojbkhjmaaamaaGreatDoorPgA
import Derived.WalkKit
import Derived.ProofKit
import Derived.OpenShut
import Derived.Handy
import Derived.LoopTactic
import Derived.Deep.Draws
import Derived.Deep.QuietTactic
import Derived.BigQuiet
set_option maxRecDepth 100000
namespace Go.Proofs.YtcojbkhjmaaamaaGreatDoor.Sm
open Go.Pg Go.ChangeShapes Go.WideShapes Go.ChangeAt Go.RowKit Go.Deep

theorem equalStrs (l m : List ByteArray) (oa ob : Option Addr) (ca cb : Nat) (w : World) (hlm : l.length ≤ maxLen) (_hmm : m.length ≤ maxLen)
    (ha : ∀ i (h : i < l.length), ∃ b o, oa = some ⟨b, o, none⟩ ∧ w.cell? ⟨b, o + i, none⟩ = some (.string l[i]) ∧ l[i].size ≤ maxLen)
    (hb : ∀ i (h : i < m.length), ∃ b o, ob = some ⟨b, o, none⟩ ∧ w.cell? ⟨b, o + i, none⟩ = some (.string m[i]) ∧ m[i].size ≤ maxLen) :
    Calls Tryz.prog 27 #[.slice oa l.length ca, .slice ob m.length cb] w fun e w' => (∃ r : Bool, e = .returned (.bool r) ∧ (r = true ↔ l = m)) ∧ ∃ n, w' = w.drewN n := by
  unfold maxLen at hlm
  go_enter Tryz.func27, Tryz.ntmps27
  go_wp2
  · have hq : ((l.length : Int) != (m.length : Int)) = true := by assumption
    go_ret
    exact ⟨⟨false, rfl, by simp; exact ne_of_length hq⟩, 0, rfl⟩
  · have hq : ((l.length : Int) != (m.length : Int)) = false := by assumption
    have hlen : l.length = m.length := length_of hq
    go_loopw [13] (fun i wr => ∃ k n : Nat, k ≤ l.length ∧ i = .int .i64 k ∧ (∀ j, j < k → l[j]? = m[j]?) ∧ wr = w.drewN n) (fun i _ => l.length - (intOf i).toNat)
    case atStart => exact ⟨0, 0, Nat.zero_le _, rfl, fun j h => by omega, rfl⟩
    case round =>
      obtain ⟨k, n, hk, rfl, hp, rfl⟩ := hrel
      by_cases hlt : k < l.length
      · obtain ⟨b1, o1, rfl, c1, s1⟩ := ha k hlt
        have hlt2 : k < m.length := by omega
        obtain ⟨b2, o2, rfl, c2, s2⟩ := hb k hlt2
        have hi1 : (k : Int) < (l.length : Int) := by omega
        have hi2 : (k : Int) < (m.length : Int) := by omega
        have P : Hid (∀ j, j < k → l[j]? = m[j]?) := hp
        clear ha hb hp
        go_wp2
        go_quiet (fail)
        go_wp2
        · have hne : (!l[k].toList == m[k].toList) = true := by assumption
          go_ret
          exact ⟨⟨false, rfl, by simp; exact ne_of_get hlt hlt2 (nbeq_bytes hne)⟩, n + nq, by simp⟩
        · have hne : (!l[k].toList == m[k].toList) = false := by assumption
          exact ⟨⟨k + 1, n + nq, by omega, by simp, get_succ P.out hlt hlt2 (beq_bytes' hne), rfl⟩, by simp [intOf]; omega⟩
      · go_wp2
        go_ret
        have : k = l.length := by omega
        subst this
        exact ⟨⟨true, rfl, by simp; exact eq_of_get hlen hp⟩, n, rfl⟩
theorem sameStrings (l m : List ByteArray) (oa ob : Option Addr) (ca cb : Nat) (w : World) (hlm : l.length ≤ maxLen) (_hmm : m.length ≤ maxLen)
    (ha : ∀ i (h : i < l.length), ∃ b o, oa = some ⟨b, o, none⟩ ∧ w.cell? ⟨b, o + i, none⟩ = some (.string l[i]) ∧ l[i].size ≤ maxLen)
    (hb : ∀ i (h : i < m.length), ∃ b o, ob = some ⟨b, o, none⟩ ∧ w.cell? ⟨b, o + i, none⟩ = some (.string m[i]) ∧ m[i].size ≤ maxLen) :
    Calls Tryz.prog 29 #[.slice oa l.length ca, .slice ob m.length cb] w fun e w' => (∃ r : Bool, e = .returned (.bool r) ∧ (r = true ↔ l = m)) ∧ ∃ n, w' = w.drewN n := by
  unfold maxLen at hlm
  go_enter Tryz.func29, Tryz.ntmps29
  go_wp2
  · have hq : ((l.length : Int) != (m.length : Int)) = true := by assumption
    go_ret
    exact ⟨⟨false, rfl, by simp; exact ne_of_length hq⟩, 0, rfl⟩
  · have hq : ((l.length : Int) != (m.length : Int)) = false := by assumption
    have hlen : l.length = m.length := length_of hq
    go_loopw [5] (fun i wr => ∃ k n : Nat, k ≤ l.length ∧ i = .int .i64 k ∧ (∀ j, j < k → l[j]? = m[j]?) ∧ wr = w.drewN n) (fun i _ => l.length - (intOf i).toNat)
    case atStart => exact ⟨0, 0, Nat.zero_le _, rfl, fun j h => by omega, rfl⟩
    case round =>
      obtain ⟨k, n, hk, rfl, hp, rfl⟩ := hrel
      by_cases hlt : k < l.length
      · obtain ⟨b1, o1, rfl, c1, s1⟩ := ha k hlt
        have hlt2 : k < m.length := by omega
        obtain ⟨b2, o2, rfl, c2, s2⟩ := hb k hlt2
        have hi1 : (k : Int) < (l.length : Int) := by omega
        have hi2 : (k : Int) < (m.length : Int) := by omega
        have P : Hid (∀ j, j < k → l[j]? = m[j]?) := hp
        clear ha hb hp
        go_wp2
        go_quiet (fail)
        go_wp2
        · have hne : (!l[k].toList == m[k].toList) = true := by assumption
          go_ret
          exact ⟨⟨false, rfl, by simp; exact ne_of_get hlt hlt2 (nbeq_bytes hne)⟩, n + nq, by simp⟩
        · have hne : (!l[k].toList == m[k].toList) = false := by assumption
          exact ⟨⟨k + 1, n + nq, by omega, by simp, get_succ P.out hlt hlt2 (beq_bytes' hne), rfl⟩, by simp [intOf]; omega⟩
      · go_wp2
        go_ret
        have : k = l.length := by omega
        subst this
        exact ⟨⟨true, rfl, by simp; exact eq_of_get hlen hp⟩, n, rfl⟩
end Go.Proofs.YtcojbkhjmaaamaaGreatDoor.Sm

set_option maxRecDepth 100000
namespace Go.Proofs.YtcojbkhjmaaamaaGreatDoor.Sm
open Go Go.Pg Go.ChangeShapes Go.WideShapes Go.ChangeAt Go.RowKit Go.Deep

def Says (w : World) {α : Type} (a b : α) (e : Ending) (w' : World) : Prop := ∃ r : Bool, e = .returned (.bool r) ∧ (r = true ↔ a = b) ∧ Below w.heap.size w w'

theorem equalStrs' {l m : List ByteArray} {va vb : Value} {w : World} (ha : StrsAt w va l) (hb : StrsAt w vb m) : Calls Tryz.prog 27 #[va, vb] w (Says w l m) := by
  obtain ⟨oa, ca, rfl, h1, h2⟩ := ha
  obtain ⟨ob, cb, rfl, h3, h4⟩ := hb
  refine (equalStrs l m oa ob ca cb w h1 h3 h2 h4).mono ?_
  rintro e w' ⟨⟨r, rfl, hr⟩, n, rfl⟩
  exact ⟨r, rfl, hr, rfl, rfl, rfl, Nat.le_refl _, fun _ _ => rfl⟩

def SameAt (f : FuncId) (n : Nat) : Prop := ∀ (w : World) (va vb : Value) (l m : List Nd), NodesAt w n va l → NodesAt w n vb m → Calls Tryz.prog f #[va, vb] w (Says w l m)

theorem text_of {a b : ByteArray} (h : a.toList = b.toList) : a = b := beq_bytes.1 (by rw [h]; simp)
theorem hide {p : Prop} (h : p) : Hid p := h

theorem boxes {w w' : World} {c d : Array Value} {t u : TypeId} (hB : Below ((w.alloc (.cells c t (0, 0))).alloc (.cells d u (0, 0))).heap.size ((w.alloc (.cells c t (0, 0))).alloc (.cells d u (0, 0))) w') (j : Nat) :
    w'.cell? ⟨w.heap.size, j, none⟩ = c[j]? ∧ w'.cell? ⟨w.heap.size + 1, j, none⟩ = d[j]? := by
  have hs : ((w.alloc (.cells c t (0, 0))).alloc (.cells d u (0, 0))).heap.size = w.heap.size + 2 := by simp
  have h1 := hB.cell (p := ⟨w.heap.size, j, none⟩) (by rw [hs]; show w.heap.size < _; omega)
  have h2 := hB.cell (p := ⟨w.heap.size + 1, j, none⟩) (by rw [hs]; show w.heap.size + 1 < _; omega)
  have e1 : ((w.alloc (.cells c t (0, 0))).alloc (.cells d u (0, 0))).heap[w.heap.size]? = some (.cells c t (0, 0)) := by
    show ((w.heap.push _).push _)[_]? = _
    rw [Array.getElem?_push, if_neg (by simp), Array.getElem?_push, if_pos rfl]
  have e2 : ((w.alloc (.cells c t (0, 0))).alloc (.cells d u (0, 0))).heap[w.heap.size + 1]? = some (.cells d u (0, 0)) := by
    show ((w.heap.push _).push _)[_]? = _
    rw [Array.getElem?_push, if_pos (by simp)]
  rw [h1, h2]
  unfold World.cell?
  rw [e1, e2]
  exact ⟨rfl, rfl⟩

theorem two (w : World) (x y : Obj) : Below w.heap.size w ((w.alloc x).alloc y) := ((Below.refl _ w).alloc (Nat.le_refl _) x).alloc (by simp [World.alloc, -World.alloc_eq]) y

theorem up {w w' : World} {x y : Obj} (hB : Below ((w.alloc x).alloc y).heap.size ((w.alloc x).alloc y) w') : Below w.heap.size w w' := (two w x y).trans (hB.mono (two w x y).size)

set_option maxHeartbeats 4000000 in
theorem sameNode {n : Nat} (ih : SameAt 28 n) (w : World) (a b : Nd) (va pa ba ea vb pb bb eb : Value) (h1 : NodesAt w n va a.subs) (h2 : StrsAt w pa a.params) (h3 : NodesAt w n ba a.body) (h4 : NodesAt w n ea a.els)
    (k1 : NodesAt w n vb b.subs) (k2 : StrsAt w pb b.params) (k3 : NodesAt w n bb b.body) (k4 : NodesAt w n eb b.els) :
    Calls Tryz.prog 61 #[.agg #[.int .u8 a.kind, .string a.text, .int .i64 a.num, va, pa, ba, ea], .agg #[.int .u8 b.kind, .string b.text, .int .i64 b.num, vb, pb, bb, eb]] w (Says w a b) := by
  obtain ⟨o1, c1, rfl⟩ := h1.slice
  obtain ⟨o2, c2, rfl⟩ := h2.slice
  obtain ⟨o3, c3, rfl⟩ := h3.slice
  obtain ⟨o4, c4, rfl⟩ := h4.slice
  obtain ⟨u1, d1, rfl⟩ := k1.slice
  obtain ⟨u2, d2, rfl⟩ := k2.slice
  obtain ⟨u3, d3, rfl⟩ := k3.slice
  obtain ⟨u4, d4, rfl⟩ := k4.slice
  go_enter Tryz.func61, Tryz.ntmps61
  have A : Hid (SameAt 28 n ∧ NodesAt w n (.slice o1 a.subs.length c1) a.subs ∧ StrsAt w (.slice o2 a.params.length c2) a.params ∧ NodesAt w n (.slice o3 a.body.length c3) a.body ∧ NodesAt w n (.slice o4 a.els.length c4) a.els ∧
    NodesAt w n (.slice u1 b.subs.length d1) b.subs ∧ StrsAt w (.slice u2 b.params.length d2) b.params ∧ NodesAt w n (.slice u3 b.body.length d3) b.body ∧ NodesAt w n (.slice u4 b.els.length d4) b.els) := ⟨ih, h1, h2, h3, h4, k1, k2, k3, k4⟩
  clear ih h1 h2 h3 h4 k1 k2 k3 k4
  go_wp2_with (first
    | (go_at_call 27
       refine (equalStrs' (A.out.2.2.1.below (two _ _ _)) (A.out.2.2.2.2.2.2.1.below (two _ _ _))).mono ?_
       rintro e w1 ⟨r1, rfl, hr1, hB1⟩
       have R1 := hide hr1
       clear hr1
       have q1 : w1.cell? ⟨w.heap.size, 3, none⟩ = some (.slice o1 a.subs.length c1) := (boxes hB1 3).1
       have q2 : w1.cell? ⟨w.heap.size + 1, 3, none⟩ = some (.slice u1 b.subs.length d1) := (boxes hB1 3).2
       have q3 : w1.cell? ⟨w.heap.size, 5, none⟩ = some (.slice o3 a.body.length c3) := (boxes hB1 5).1
       have q4 : w1.cell? ⟨w.heap.size + 1, 5, none⟩ = some (.slice u3 b.body.length d3) := (boxes hB1 5).2
       have q5 : w1.cell? ⟨w.heap.size, 6, none⟩ = some (.slice o4 a.els.length c4) := (boxes hB1 6).1
       have q6 : w1.cell? ⟨w.heap.size + 1, 6, none⟩ = some (.slice u4 b.els.length d4) := (boxes hB1 6).2
       have U1 : Hid (Below w.heap.size w w1) := up hB1
       clear hB1)
    | (go_at_call 28
       have U0 := U1
       refine (A.out.1 _ _ _ _ _ (A.out.2.1.below U1.out) (A.out.2.2.2.2.2.1.below U1.out)).mono ?_
       rintro e w2 ⟨r2, rfl, hr2, hB2⟩
       have R2 := hide hr2
       clear hr2
       have q7 := cell_below hB2 q3
       have q8 := cell_below hB2 q4
       have q9 := cell_below hB2 q5
       have q10 := cell_below hB2 q6
       have U2 : Hid (Below w.heap.size w w2) := U1.out.trans (hB2.mono U1.out.size)
       clear hB2 q1 q2 q3 q4 q5 q6 U0 U1)
    | (go_at_call 28
       have U0 := U2
       refine (A.out.1 _ _ _ _ _ (A.out.2.2.2.1.below U2.out) (A.out.2.2.2.2.2.2.2.1.below U2.out)).mono ?_
       rintro e w3 ⟨r3, rfl, hr3, hB3⟩
       have R3 := hide hr3
       clear hr3
       have q11 := cell_below hB3 q9
       have q12 := cell_below hB3 q10
       have U3 : Hid (Below w.heap.size w w3) := U2.out.trans (hB3.mono U2.out.size)
       clear hB3 q7 q8 q9 q10 U0 U2)
    | (go_at_call 28
       have U0 := U3
       refine (A.out.1 _ _ _ _ _ (A.out.2.2.2.2.1.below U3.out) (A.out.2.2.2.2.2.2.2.2.below U3.out)).mono ?_
       rintro e w4 ⟨r4, rfl, hr4, hB4⟩
       have R4 := hide hr4
       clear hr4
       have U4 : Hid (Below w.heap.size w w4) := U3.out.trans (hB4.mono U3.out.size)
       clear hB4 q11 q12 U0 U3)
    | fail)
  all_goals go_ret
  · have hk : a.kind = b.kind := by assumption
    have ht : a.text = b.text := text_of (by assumption)
    have hn : a.num = b.num := by assumption
    have g1 : r1 = true := by assumption
    have g2 : r2 = true := by assumption
    have g3 : r3 = true := by assumption
    refine ⟨r4, rfl, ⟨fun h => Nd.eq_iff.2 ⟨hk, ht, hn, R1.out.1 g1, R2.out.1 g2, R3.out.1 g3, R4.out.1 h⟩, fun h => R4.out.2 (congrArg Nd.els h)⟩, U4.out⟩
  · have g : ¬ r3 = true := by assumption
    exact ⟨false, rfl, ⟨fun h => by simp at h, fun h => absurd (R3.out.2 (congrArg Nd.body h)) g⟩, U3.out⟩
  · have g : ¬ r2 = true := by assumption
    exact ⟨false, rfl, ⟨fun h => by simp at h, fun h => absurd (R2.out.2 (congrArg Nd.subs h)) g⟩, U2.out⟩
  · have g : ¬ r1 = true := by assumption
    exact ⟨false, rfl, ⟨fun h => by simp at h, fun h => absurd (R1.out.2 (congrArg Nd.params h)) g⟩, U1.out⟩
  · have g : ¬ a.num = b.num := by assumption
    exact ⟨false, rfl, ⟨fun h => by simp at h, fun h => absurd (congrArg Nd.num h) g⟩, two _ _ _⟩
  · have g : ¬ a.text.toList = b.text.toList := by assumption
    exact ⟨false, rfl, ⟨fun h => by simp at h, fun h => absurd (congrArg (fun x => x.text.toList) h) g⟩, two _ _ _⟩
  · have g : ¬ a.kind = b.kind := by assumption
    exact ⟨false, rfl, ⟨fun h => by simp at h, fun h => absurd (congrArg Nd.kind h) g⟩, two _ _ _⟩
end Go.Proofs.YtcojbkhjmaaamaaGreatDoor.Sm

set_option maxRecDepth 100000
namespace Go.Proofs.YtcojbkhjmaaamaaGreatDoor.Sm
open Go Go.Pg Go.ChangeShapes Go.WideShapes Go.ChangeAt Go.RowKit Go.Deep

theorem cell_alloc {w : World} {b o : Nat} {v : Value} (h : w.cell? ⟨b, o, none⟩ = some v) (ob : Obj) : (w.alloc ob).cell? ⟨b, o, none⟩ = some v := cell_below ((Below.refl _ w).alloc (Nat.le_refl _) ob) h

set_option maxHeartbeats 4000000 in
theorem equalNodes {n : Nat} (ih : SameAt 28 n) (l m : List Nd) (oa ob : Option Addr) (ca cb : Nat) (w : World) (hlm : l.length ≤ maxLen)
    (ha : ∀ i (h : i < l.length), ∃ b o vs vp vb ve, oa = some ⟨b, o, none⟩ ∧ NodeAt w (NodesAt w n) b (o + i * 7) l[i] vs vp vb ve)
    (hb : ∀ i (h : i < m.length), ∃ b o vs vp vb ve, ob = some ⟨b, o, none⟩ ∧ NodeAt w (NodesAt w n) b (o + i * 7) m[i] vs vp vb ve) :
    Calls Tryz.prog 60 #[.slice oa l.length ca, .slice ob m.length cb, .func (.func 61) #[] #[]] w (Says w l m) := by
  unfold maxLen at hlm
  go_enter Tryz.func60, Tryz.ntmps60
  go_wp2_with fail
  · have hq : ((l.length : Int) != (m.length : Int)) = true := by assumption
    go_ret
    exact ⟨false, rfl, ⟨fun h => by simp at h, fun h => absurd h (ne_of_length hq)⟩, Below.refl _ _⟩
  · have hq : ((l.length : Int) != (m.length : Int)) = false := by assumption
    have hlen : Hid (l.length = m.length) := length_of hq
    generalize ((l.length : Int) != (m.length : Int)) = bq at *
    subst hq
    have A : Hid (SameAt 28 n) := ih
    clear ih
    go_loopw [17] (fun i wr => ∃ k : Nat, k ≤ l.length ∧ i = .int .i64 k ∧ (∀ j, j < k → l[j]? = m[j]?) ∧ Below w.heap.size w wr) (fun i _ => l.length - (intOf i).toNat)
    case atStart => exact ⟨0, Nat.zero_le _, rfl, fun j h => by omega, Below.refl _ _⟩
    case round =>
      obtain ⟨k, hk, rfl, hp, hB⟩ := hrel
      have B : Hid (Below w.heap.size w wr) := hB
      have P : Hid (∀ j, j < k → l[j]? = m[j]?) := hp
      clear hB hp
      by_cases hlt : k < l.length
      · obtain ⟨b1, o1, s1, p1, y1, e1, rfl, N1⟩ := ha k hlt
        have hlt2 : k < m.length := by have := hlen.out; omega
        obtain ⟨b2, o2, s2, p2, y2, e2, rfl, N2⟩ := hb k hlt2
        have M1 := N1.below B.out (K' := NodesAt wr n) (NodesAt.below B.out n)
        have M2 := N2.below B.out (K' := NodesAt wr n) (NodesAt.below B.out n)
        have hi1 : (k : Int) < (l.length : Int) := by omega
        have hi2 : (k : Int) < (m.length : Int) := by omega
        clear ha hb N1 N2
        obtain ⟨x1, c1, rfl⟩ := M1.ksubs.slice
        obtain ⟨x2, c2, rfl⟩ := M1.kparams.slice
        obtain ⟨x3, c3, rfl⟩ := M1.kbody.slice
        obtain ⟨x4, c4, rfl⟩ := M1.kels.slice
        obtain ⟨z1, d1, rfl⟩ := M2.ksubs.slice
        obtain ⟨z2, d2, rfl⟩ := M2.kparams.slice
        obtain ⟨z3, d3, rfl⟩ := M2.kbody.slice
        obtain ⟨z4, d4, rfl⟩ := M2.kels.slice
        have f1 := M1.kind
        have f2 := M1.text
        have f3 := M1.num
        have f4 := M1.subs
        have f5 := M1.params
        have f6 := M1.body
        have f7 := M1.els
        have g1 := cell_alloc M2.kind
        have g2 := cell_alloc M2.text
        have g3 := cell_alloc M2.num
        have g4 := cell_alloc M2.subs
        have g5 := cell_alloc M2.params
        have g6 := cell_alloc M2.body
        have g7 := cell_alloc M2.els
        have MM : Hid (NodeAt wr (NodesAt wr n) b1 (o1 + k * 7) l[k] _ _ _ _ ∧ NodeAt wr (NodesAt wr n) b2 (o2 + k * 7) m[k] _ _ _ _) := ⟨M1, M2⟩
        clear M1 M2
        go_wp2_with (first
          | (go_at_call 61
             refine (sameNode A.out _ l[k] m[k] _ _ _ _ _ _ _ _ (MM.out.1.ksubs.below (two _ _ _)) (MM.out.1.kparams.below (two _ _ _)) (MM.out.1.kbody.below (two _ _ _)) (MM.out.1.kels.below (two _ _ _))
               (MM.out.2.ksubs.below (two _ _ _)) (MM.out.2.kparams.below (two _ _ _)) (MM.out.2.kbody.below (two _ _ _)) (MM.out.2.kels.below (two _ _ _))).mono ?_
             rintro e w2 ⟨r, rfl, hr, hB2⟩
             have R := hide hr
             have U : Hid (Below w.heap.size w w2) := B.out.trans ((up hB2).mono B.out.size)
             clear hr hB2)
          | fail)
        · have g : (!r) = true := by assumption
          go_ret
          exact ⟨false, rfl, ⟨fun h => by simp at h, fun h => absurd (R.out.2 (by subst h; rfl)) (by simpa using g)⟩, U.out⟩
        · have g : (!r) = false := by assumption
          go_roundw
          case rel => exact ⟨k + 1, by omega, by go_num, get_succ P.out hlt hlt2 (R.out.1 (by simpa using g)), U.out⟩
          case measure => simp [intOf]; omega
      · go_wp2_with fail
        go_ret
        have : k = l.length := by omega
        subst this
        exact ⟨true, rfl, ⟨fun _ => eq_of_get hlen.out P.out, fun _ => rfl⟩, B.out⟩
end Go.Proofs.YtcojbkhjmaaamaaGreatDoor.Sm

set_option maxRecDepth 100000
namespace Go.Proofs.YtcojbkhjmaaamaaGreatDoor.Sm
open Go Go.Pg Go.ChangeShapes Go.WideShapes Go.ChangeAt Go.RowKit Go.Deep

theorem sameNodes_succ {n : Nat} (ih : SameAt 28 n) : SameAt 28 (n + 1) := by
  intro w va vb l m ha hb
  obtain ⟨oa, ca, rfl, h1, h2⟩ := ha
  obtain ⟨ob, cb, rfl, h3, h4⟩ := hb
  have A : Hid (Calls Tryz.prog 60 #[.slice oa l.length ca, .slice ob m.length cb, .func (.func 61) #[] #[]] w (Says w l m)) := equalNodes ih l m oa ob ca cb w h1 h2 h4
  clear ih h1 h2 h3 h4
  go_enter Tryz.func28, Tryz.ntmps28
  go_wp2_with (first
    | (go_at_call 60
       refine A.out.mono ?_
       rintro e w2 ⟨r, rfl, hr, hB⟩)
    | fail)
  go_ret
  exact ⟨r, rfl, hr, hB⟩

theorem sameNodes : ∀ n, SameAt 28 n
  | 0 => fun _ _ _ _ _ h => h.elim
  | n + 1 => sameNodes_succ (sameNodes n)

end Go.Proofs.YtcojbkhjmaaamaaGreatDoor.Sm

set_option maxRecDepth 100000
namespace Go.Proofs.YtcojbkhjmaaamaaGreatDoor.Sm
open Go Go.Pg Go.ChangeShapes Go.WideShapes Go.ChangeAt Go.RowKit Go.Deep

noncomputable def eqB {α : Type} (a b : α) : Bool := @decide (a = b) (Classical.propDecidable _)
theorem eqB_true {α : Type} {a b : α} (h : a = b) : eqB a b = true := by unfold eqB; simp [h]
theorem eqB_false {α : Type} {a b : α} (h : ¬ a = b) : eqB a b = false := by unfold eqB; simp [h]
theorem eqB_iff {α : Type} {a b : α} : eqB a b = true ↔ a = b := by unfold eqB; simp
theorem eqB_of {α : Type} {a b : α} {r : Bool} (h : r = true ↔ a = b) : r = eqB a b := by rw [Bool.eq_iff_iff, h, eqB_iff]

def Reads (w : World) {α : Type} (a b : α) (e : Ending) (w' : World) : Prop := e = .returned (.bool (eqB a b)) ∧ ∃ n, w' = w.drewN n

theorem ntext {a b : ByteArray} (h : ¬ a = b) : (!a.toList == b.toList) = true := by
  cases q : (a.toList == b.toList) with
  | true => exact absurd (beq_bytes.1 q) h
  | false => rfl

theorem drewN_below (w : World) (q : Nat) : Below w.heap.size w (w.drewN q) := ⟨rfl, rfl, rfl, Nat.le_refl _, fun _ _ => rfl⟩

theorem refStrs {l m : List ByteArray} {va vb : Value} {w : World} (ha : StrsAt w va l) (hb : StrsAt w vb m) : Calls Tryz.prog 29 #[va, vb] w (Reads w l m) := by
  obtain ⟨oa, ca, rfl, h1, h2⟩ := ha
  obtain ⟨ob, cb, rfl, h3, h4⟩ := hb
  refine (sameStrings l m oa ob ca cb w h1 h3 h2 h4).mono ?_
  rintro e w' ⟨⟨r, rfl, hr⟩, n, rfl⟩
  exact ⟨by rw [eqB_of hr], n, rfl⟩

theorem strs2 {w : World} {v : Value} {l : List ByteArray} (h : StrsAt w v l) (p q : Nat) : StrsAt ((w.drewN p).drewN q) v l := (h.below (drewN_below _ p)).below (drewN_below _ q)
theorem nodes2 {w : World} {n : Nat} {v : Value} {l : List Nd} (h : NodesAt w n v l) (p q : Nat) : NodesAt ((w.drewN p).drewN q) n v l := (h.below (drewN_below _ p)).below (drewN_below _ q)

theorem Calls.reads {f : FuncId} {x : Array Value} {w : World} {p n : Nat} {α : Type} {a b : α} (h : Calls Tryz.prog f x (w.drewN (p + n)) (Reads (w.drewN (p + n)) a b)) :
    Calls Tryz.prog f x (w.drewN (p + n)) fun e w'' => e = .returned (.bool (eqB a b)) ∧ ∃ m, w'' = w.drewN (p + m) :=
  h.mono fun _ _ ⟨he, m, hm⟩ => ⟨he, n + m, by rw [hm, World.drewN_drewN, Nat.add_assoc]⟩

def ReadsAt (f : FuncId) (n : Nat) : Prop := ∀ (w : World) (va vb : Value) (l m : List Nd), NodesAt w n va l → NodesAt w n vb m → Calls Tryz.prog f #[va, vb] w (Reads w l m)

theorem useReads {n : Nat} (ih : ReadsAt 30 n) {w : World} {p q : Nat} {va vb : Value} {l m : List Nd} (ha : NodesAt w n va l) (hb : NodesAt w n vb m) :
    Calls Tryz.prog 30 #[va, vb] (w.drewN (p + q)) fun e w'' => e = .returned (.bool (eqB l m)) ∧ ∃ k, w'' = w.drewN (p + k) :=
  Calls.reads (ih _ _ _ _ _ (ha.below (drewN_below _ _)) (hb.below (drewN_below _ _)))
theorem useStrs {w : World} {p q : Nat} {va vb : Value} {l m : List ByteArray} (ha : StrsAt w va l) (hb : StrsAt w vb m) :
    Calls Tryz.prog 29 #[va, vb] (w.drewN (p + q)) fun e w'' => e = .returned (.bool (eqB l m)) ∧ ∃ k, w'' = w.drewN (p + k) :=
  Calls.reads (refStrs (ha.below (drewN_below _ _)) (hb.below (drewN_below _ _)))

def regionAt (n : Nat) : Code → Option Code
  | .region id ops d => if id = n then some (.region id ops d) else none
  | .seq a b => match regionAt n a with
    | some c => some c
    | none => regionAt n b
  | .block _ c => regionAt n c
  | .loop c => regionAt n c
  | .scope c => regionAt n c
  | .cond _ a b => match regionAt n a with
    | some c => some c
    | none => regionAt n b
  | _ => none
noncomputable def R6 : Code := (Tryz.f30.body.bind (regionAt 6)).getD .skip

end Go.Proofs.YtcojbkhjmaaamaaGreatDoor.Sm

