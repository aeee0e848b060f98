import Derived.Test.YtcojbkhjmaaamaaGreatDoorSmDr
set_option maxRecDepth 100000
namespace Go.Proofs.YtcojbkhjmaaamaaGreatDoor.Sm
open Go Go.Pg Go.ChangeShapes Go.WideShapes Go.ChangeAt Go.RowKit Go.Deep

theorem fd_eq {a b : Pg.Fd} (h1 : a.name = b.name) (h2 : a.params = b.params) (h3 : a.body = b.body) : a = b := by
  cases a; cases b
  simp only at h1 h2 h3
  subst h1 h2 h3
  rfl

set_option maxHeartbeats 4000000 in
theorem sameFunc {n : Nat} (w : World) (a b : Pg.Fd) (pa ba pb bb : Value) (h2 : StrsAt w pa a.params) (h3 : NodesAt w n ba a.body) (k2 : StrsAt w pb b.params) (k3 : NodesAt w n bb b.body) :
    Calls Tryz.prog 26 #[.agg #[.string a.name, pa, ba], .agg #[.string b.name, pb, bb]] w (Says w a b) := by
  obtain ⟨o2, c2, rfl⟩ := h2.slice
  obtain ⟨o3, c3, rfl⟩ := h3.slice
  obtain ⟨u2, d2, rfl⟩ := k2.slice
  obtain ⟨u3, d3, rfl⟩ := k3.slice
  go_enter Tryz.func26, Tryz.ntmps26
  have A : Hid (StrsAt w (.slice o2 a.params.length c2) a.params ∧ NodesAt w n (.slice o3 a.body.length c3) a.body ∧ StrsAt w (.slice u2 b.params.length d2) b.params ∧ NodesAt w n (.slice u3 b.body.length d3) b.body) := ⟨h2, h3, k2, k3⟩
  clear h2 h3 k2 k3
  go_wp2_with (first
    | (go_at_call 27
       refine (equalStrs' (A.out.1.below (two _ _ _)) (A.out.2.2.1.below (two _ _ _))).mono ?_
       rintro e w1 ⟨r1, rfl, hr1, hB1⟩
       have R1 := hide hr1
       clear hr1
       have q3 : w1.cell? ⟨w.heap.size, 2, none⟩ = some (.slice o3 a.body.length c3) := (boxes hB1 2).1
       have q4 : w1.cell? ⟨w.heap.size + 1, 2, none⟩ = some (.slice u3 b.body.length d3) := (boxes hB1 2).2
       have U1 : Hid (Below w.heap.size w w1) := up hB1
       clear hB1)
    | (go_at_call 28
       have U0 := U1
       refine (sameNodes n _ _ _ _ _ (A.out.2.1.below U1.out) (A.out.2.2.2.below U1.out)).mono ?_
       rintro e w2 ⟨r2, rfl, hr2, hB2⟩
       have R2 := hide hr2
       clear hr2
       have U2 : Hid (Below w.heap.size w w2) := U1.out.trans (hB2.mono U1.out.size)
       clear hB2 q3 q4 U0 U1)
    | fail)
  all_goals go_ret
  · have ht : a.name = b.name := text_of (by assumption)
    have g1 : r1 = true := by assumption
    refine ⟨r2, rfl, ⟨fun h => fd_eq ht (R1.out.1 g1) (R2.out.1 h), fun h => R2.out.2 (congrArg Pg.Fd.body h)⟩, U2.out⟩
  · have g : ¬ r1 = true := by assumption
    exact ⟨false, rfl, ⟨fun h => by simp at h, fun h => absurd (R1.out.2 (congrArg Pg.Fd.params h)) g⟩, U1.out⟩
  · have g : ¬ a.name.toList = b.name.toList := by assumption
    exact ⟨false, rfl, ⟨fun h => by simp at h, fun h => absurd (congrArg (fun x => x.name.toList) h) g⟩, two _ _ _⟩

end Go.Proofs.YtcojbkhjmaaamaaGreatDoor.Sm

set_option maxRecDepth 100000
namespace Go.Proofs.YtcojbkhjmaaamaaGreatDoor.Sm
open Go Go.Pg Go.ChangeShapes Go.WideShapes Go.ChangeAt Go.RowKit Go.Deep

set_option maxHeartbeats 4000000 in
theorem equalFuncs {n : Nat} (l m : List Pg.Fd) (oa ob : Option Addr) (ca cb : Nat) (w : World) (hlm : l.length ≤ maxLen)
    (ha : ∀ i (h : i < l.length), ∃ b o vp vb, oa = some ⟨b, o, none⟩ ∧ FuncAt w n b (o + i * 3) l[i] vp vb)
    (hb : ∀ i (h : i < m.length), ∃ b o vp vb, ob = some ⟨b, o, none⟩ ∧ FuncAt w n b (o + i * 3) m[i] vp vb) :
    Calls Tryz.prog 25 #[.slice oa l.length ca, .slice ob m.length cb, .func (.func 26) #[] #[]] w (Says w l m) := by
  unfold maxLen at hlm
  go_enter Tryz.func25, Tryz.ntmps25
  go_wp2_with fail
  · have hq : ((l.length : Int) != (m.length : Int)) = true := by assumption
    go_ret
    exact ⟨false, rfl, ⟨fun h => by simp at h, fun h => absurd h (ne_of_length hq)⟩, Below.refl _ _⟩
  · have hq : ((l.length : Int) != (m.length : Int)) = false := by assumption
    have hlen : Hid (l.length = m.length) := length_of hq
    generalize ((l.length : Int) != (m.length : Int)) = bq at *
    subst hq
    go_loopw [17] (fun i wr => ∃ k : Nat, k ≤ l.length ∧ i = .int .i64 k ∧ (∀ j, j < k → l[j]? = m[j]?) ∧ Below w.heap.size w wr) (fun i _ => l.length - (intOf i).toNat)
    case atStart => exact ⟨0, Nat.zero_le _, rfl, fun j h => by omega, Below.refl _ _⟩
    case round =>
      obtain ⟨k, hk, rfl, hp, hB⟩ := hrel
      have B : Hid (Below w.heap.size w wr) := hB
      have P : Hid (∀ j, j < k → l[j]? = m[j]?) := hp
      clear hB hp
      by_cases hlt : k < l.length
      · obtain ⟨b1, o1, p1, y1, rfl, N1⟩ := ha k hlt
        have hlt2 : k < m.length := by have := hlen.out; omega
        obtain ⟨b2, o2, p2, y2, rfl, N2⟩ := hb k hlt2
        have M1 := N1.below B.out
        have M2 := N2.below B.out
        have hi1 : (k : Int) < (l.length : Int) := by omega
        have hi2 : (k : Int) < (m.length : Int) := by omega
        clear ha hb N1 N2
        obtain ⟨x2, c2, rfl⟩ := M1.kparams.slice
        obtain ⟨x3, c3, rfl⟩ := M1.kbody.slice
        obtain ⟨z2, d2, rfl⟩ := M2.kparams.slice
        obtain ⟨z3, d3, rfl⟩ := M2.kbody.slice
        have f1 := M1.name
        have f2 := M1.params
        have f3 := M1.body
        have g1 := cell_alloc M2.name
        have g2 := cell_alloc M2.params
        have g3 := cell_alloc M2.body
        have MM : Hid (FuncAt wr n b1 (o1 + k * 3) l[k] _ _ ∧ FuncAt wr n b2 (o2 + k * 3) m[k] _ _) := ⟨M1, M2⟩
        clear M1 M2
        go_wp2_with (first
          | (go_at_call 26
             refine (sameFunc _ l[k] m[k] _ _ _ _ (MM.out.1.kparams.below (two _ _ _)) (MM.out.1.kbody.below (two _ _ _)) (MM.out.2.kparams.below (two _ _ _)) (MM.out.2.kbody.below (two _ _ _))).mono ?_
             rintro e w2 ⟨r, rfl, hr, hB2⟩
             have R := hide hr
             have U : Hid (Below w.heap.size w w2) := B.out.trans ((up hB2).mono B.out.size)
             clear hr hB2)
          | fail)
        · have g : (!r) = true := by assumption
          go_ret
          exact ⟨false, rfl, ⟨fun h => by simp at h, fun h => absurd (R.out.2 (by subst h; rfl)) (by simpa using g)⟩, U.out⟩
        · have g : (!r) = false := by assumption
          go_roundw
          case rel => exact ⟨k + 1, by omega, by go_num, get_succ P.out hlt hlt2 (R.out.1 (by simpa using g)), U.out⟩
          case measure => simp [intOf]; omega
      · go_wp2_with fail
        go_ret
        have : k = l.length := by omega
        subst this
        exact ⟨true, rfl, ⟨fun _ => eq_of_get hlen.out P.out, fun _ => rfl⟩, B.out⟩
end Go.Proofs.YtcojbkhjmaaamaaGreatDoor.Sm

set_option maxRecDepth 100000
namespace Go.Proofs.YtcojbkhjmaaamaaGreatDoor.Sm
open Go Go.Pg Go.ChangeShapes Go.WideShapes Go.ChangeAt Go.RowKit Go.Deep

set_option maxHeartbeats 4000000 in
theorem langSame {n : Nat} (w : World) (va vb : Value) (l m : List Pg.Fd) (ha : FuncsAt w n va l) (hb : FuncsAt w n vb m) : Calls Tryz.prog 7 #[.agg #[va], .agg #[vb]] w (Says w l m) := by
  obtain ⟨oa, ca, rfl, h1, h2⟩ := ha
  obtain ⟨ob, cb, rfl, h3, h4⟩ := hb
  have A : Hid (∀ x y, Calls Tryz.prog 25 #[.slice oa l.length ca, .slice ob m.length cb, .func (.func 26) #[] #[]] ((w.alloc x).alloc y) (Says ((w.alloc x).alloc y) l m)) := fun x y =>
    equalFuncs (n := n) l m oa ob ca cb _ h1 (fun i hi => by
      obtain ⟨b, o, vp, vb, e, k⟩ := h2 i hi
      exact ⟨b, o, vp, vb, e, k.below (two _ _ _)⟩) (fun i hi => by
      obtain ⟨b, o, vp, vb, e, k⟩ := h4 i hi
      exact ⟨b, o, vp, vb, e, k.below (two _ _ _)⟩)
  clear h1 h2 h3 h4
  go_enter Tryz.func7, Tryz.ntmps7
  go_wp2_with (first
    | (go_at_call 25
       refine (A.out _ _).mono ?_
       rintro e w1 ⟨r1, rfl, hr1, hB1⟩
       have R1 := hide hr1
       have U1 : Hid (Below w.heap.size w w1) := up hB1
       clear hr1 hB1)
    | fail)
  go_ret
  exact ⟨r1, rfl, R1.out, U1.out⟩
end Go.Proofs.YtcojbkhjmaaamaaGreatDoor.Sm

set_option maxRecDepth 1000000
namespace Go.Proofs.YtcojbkhjmaaamaaGreatDoor.Sm
open Go Go.Pg Go.ChangeShapes Go.WideShapes Go.ChangeAt Go.RowKit Go.Deep

def stepW (f : List Nd → Int) (x : Nd) (w : Int) : Int :=
  let a := wrap64 (w + wrap64 (wrap64 (wrap64 (1 + wrap64 ((x.text.size : Int) / 16)) + (x.params.length : Int)) + f x.subs))
  let b := if a < 9000 then wrap64 (a + f x.body) else a
  if b < 9000 then wrap64 (b + f x.els) else b
def foldW (f : List Nd → Int) : List Nd → Int → Int
  | [], w => w
  | x :: l, w => if w < 9000 then foldW f l (stepW f x w) else w
theorem step_both {f : List Nd → Int} {x : Nd} {w a : Int} (h : wrap64 (w + wrap64 (wrap64 (wrap64 (1 + wrap64 ((x.text.size : Int) / 16)) + (x.params.length : Int)) + f x.subs)) = a) (h1 : a < 9000) (h2 : wrap64 (a + f x.body) < 9000) :
    stepW f x w = wrap64 (wrap64 (a + f x.body) + f x.els) := by
  unfold stepW
  simp only [h]
  rw [if_pos h1, if_pos h2]
theorem step_one {f : List Nd → Int} {x : Nd} {w a : Int} (h : wrap64 (w + wrap64 (wrap64 (wrap64 (1 + wrap64 ((x.text.size : Int) / 16)) + (x.params.length : Int)) + f x.subs)) = a) (h1 : a < 9000) (h2 : 9000 ≤ wrap64 (a + f x.body)) :
    stepW f x w = wrap64 (a + f x.body) := by
  unfold stepW
  simp only [h]
  rw [if_pos h1, if_neg (by omega)]
theorem step_none {f : List Nd → Int} {x : Nd} {w a : Int} (h : wrap64 (w + wrap64 (wrap64 (wrap64 (1 + wrap64 ((x.text.size : Int) / 16)) + (x.params.length : Int)) + f x.subs)) = a) (h1 : 9000 ≤ a) :
    stepW f x w = a := by
  unfold stepW
  simp only [h]
  rw [if_neg (by omega), if_neg (by omega)]
theorem foldW_stop {f : List Nd → Int} : ∀ {l : List Nd} {x : Int}, ¬ x < 9000 → foldW f l x = x
  | [], _, _ => rfl
  | _ :: _, _, h => by rw [foldW, if_neg h]
theorem foldW_drop {f : List Nd → Int} {l : List Nd} {k : Nat} (hk : k < l.length) {x : Int} (hx : x < 9000) : foldW f (l.drop k) x = foldW f (l.drop (k + 1)) (stepW f l[k] x) := by
  rw [List.drop_eq_getElem_cons hk, foldW, if_pos hx]
def wtN : Nat → Int → List Nd → Int
  | 0, _, _ => 0
  | n + 1, d, l => if 60 < d then 9000 else foldW (wtN n (d + 1)) l 0

def WeighsAt (n : Nat) : Prop := ∀ (w : World) (v : Value) (l : List Nd) (d : Int), 0 ≤ d → d ≤ 61 → NodesAt w n v l →
  Calls Tryz.prog 21 #[v, .int .i64 d] w fun e w' => e = .returned (.int .i64 (wtN n d l)) ∧ ∃ q, w' = w.drewN q

theorem useWeighs {n : Nat} (ih : WeighsAt n) {w : World} {p q : Nat} {v : Value} {l : List Nd} {d : Int} (h0 : 0 ≤ d) (h1 : d ≤ 61) (h : NodesAt w n v l) :
    Calls Tryz.prog 21 #[v, .int .i64 d] (w.drewN (p + q)) fun e w'' => e = .returned (.int .i64 (wtN n d l)) ∧ ∃ k, w'' = w.drewN (p + k) :=
  (ih _ _ _ _ h0 h1 (h.below (drewN_below _ _))).mono fun _ _ ⟨he, m, hm⟩ => ⟨he, q + m, by rw [hm, World.drewN_drewN, Nat.add_assoc]⟩

set_option maxHeartbeats 100000000 in
theorem weighs_succ {n : Nat} (ih : WeighsAt n) : WeighsAt (n + 1) := by
  intro w va l d hd0 hd1 ha
  obtain ⟨oa, ca, rfl, hlm, ha⟩ := ha
  have A : Hid (WeighsAt n) := ih
  clear ih
  unfold maxLen at hlm
  go_enter Tryz.func21, Tryz.ntmps21
  go_wp2_with fail
  · have hd : 60 < d := by assumption
    go_ret
    exact ⟨by rw [wtN, if_pos hd]; rfl, 0, rfl⟩
  · have hd : d ≤ 60 := by omega
    go_loopw [5, 6] (fun u i wr => ∃ (k : Nat) (x : Int), k ≤ l.length ∧ i = .int .i64 k ∧ u = .int .i64 x ∧ foldW (wtN n (d + 1)) (l.drop k) x = foldW (wtN n (d + 1)) l 0 ∧ ∃ q, wr = w.drewN q) (fun _ i _ => l.length - (intOf i).toNat)
    case atStart => exact ⟨0, 0, Nat.zero_le _, rfl, rfl, rfl, 0, rfl⟩
    case round =>
      obtain ⟨k, x, hk, rfl, rfl, hp, q0, rfl⟩ := hrel
      have P : Hid (foldW (wtN n (d + 1)) (l.drop k) x = foldW (wtN n (d + 1)) l 0) := hp
      clear hp
      by_cases hlt : k < l.length
      · by_cases hx : x < 9000
        · obtain ⟨b1, o1, s1, p1, y1, e1, rfl, N1⟩ := ha k hlt
          have M1 := N1
          have hi1 : (k : Int) < (l.length : Int) := by omega
          clear ha N1
          obtain ⟨x1, c1, rfl⟩ := M1.ksubs.slice
          obtain ⟨x2, c2, rfl⟩ := M1.kparams.slice
          obtain ⟨x3, c3, rfl⟩ := M1.kbody.slice
          obtain ⟨x4, c4, rfl⟩ := M1.kels.slice
          have f2 := M1.text
          have f4 := M1.subs
          have f5 := M1.params
          have f6 := M1.body
          have f7 := M1.els
          have MM : Hid (NodeAt w (NodesAt w n) b1 (o1 + k * 7) l[k] _ _ _ _) := M1
          clear M1
          go_wp2_with fail
          go_big_quiet (first
            | (go_at_call 21; with_reducible exact useWeighs A.out (by omega) (by omega) MM.out.ksubs))
          simp only [World.drewN_drewN]
          have hA : ∃ a, wrap64 (x + wrap64 (wrap64 (wrap64 (1 + wrap64 ((l[k].text.size : Int) / 16)) + (l[k].params.length : Int)) + wtN n (d + 1) l[k].subs)) = a := ⟨_, rfl⟩
          obtain ⟨a, hA⟩ := hA
          simp only [hA]
          have HA := hide hA
          clear hA
          have MB : Hid (NodesAt w n _ l[k].body) := MM.out.kbody
          have ME : Hid (NodesAt w n _ l[k].els) := MM.out.kels
          clear MM
          go_wp2_with (first
            | (go_at_call 21
               refine (A.out _ _ l[k].body (d + 1) (by omega) (by omega) (MB.out.below (drewN_below _ _))).mono ?_
               rintro e w2 ⟨rfl, q1, rfl⟩
               simp only [World.drewN_drewN]
               clear MB)
            | (go_at_call 21
               refine (A.out _ _ l[k].els (d + 1) (by omega) (by omega) (ME.out.below (drewN_below _ _))).mono ?_
               rintro e w3 ⟨rfl, q2, rfl⟩
               simp only [World.drewN_drewN])
            | fail)
          · have h1 : a < 9000 := by assumption
            have h2 : wrap64 (a + wtN n (d + 1) l[k].body) < 9000 := by assumption
            refine ⟨⟨k + 1, _, by omega, by go_num, rfl, ?_, _, rfl⟩, by simp [intOf]; omega⟩
            rw [← P.out, foldW_drop hlt hx, step_both HA.out h1 h2]
          · have h1 : a < 9000 := by assumption
            have h2 : 9000 ≤ wrap64 (a + wtN n (d + 1) l[k].body) := by assumption
            refine ⟨⟨k + 1, _, by omega, by go_num, rfl, ?_, _, rfl⟩, by simp [intOf]; omega⟩
            rw [← P.out, foldW_drop hlt hx, step_one HA.out h1 h2]
          · have h1 : 9000 ≤ a := by assumption
            refine ⟨⟨k + 1, _, by omega, by go_num, rfl, ?_, _, rfl⟩, by simp [intOf]; omega⟩
            rw [← P.out, foldW_drop hlt hx, step_none HA.out h1]
        · go_wp2_with fail
          go_ret
          exact ⟨by rw [wtN, if_neg (by omega), ← P.out, foldW_stop (by omega)]; rfl, q0, rfl⟩
      · go_wp2_with fail
        go_ret
        exact ⟨by rw [wtN, if_neg (by omega), ← P.out, List.drop_eq_nil_of_le (by omega), foldW]; rfl, q0, rfl⟩
theorem weighs : ∀ n, WeighsAt n
  | 0 => fun _ _ _ _ _ _ h => h.elim
  | n + 1 => weighs_succ (weighs n)
end Go.Proofs.YtcojbkhjmaaamaaGreatDoor.Sm

set_option maxRecDepth 1000000
namespace Go.Proofs.YtcojbkhjmaaamaaGreatDoor.Sm
open Go Go.Pg Go.ChangeShapes Go.WideShapes Go.ChangeAt Go.RowKit Go.Deep

theorem one (w : World) (x : Obj) : Below w.heap.size w (w.alloc x) := (Below.refl _ w).alloc (Nat.le_refl _) x
theorem box_cell (w : World) (c : Array Value) (t : TypeId) (j : Nat) : (w.alloc (.cells c t (0, 0))).cell? ⟨w.heap.size, j, none⟩ = c[j]? := by
  have e1 : (w.alloc (.cells c t (0, 0))).heap[w.heap.size]? = some (.cells c t (0, 0)) := by
    show (w.heap.push _)[_]? = _
    rw [Array.getElem?_push, if_pos rfl]
  unfold World.cell?
  rw [e1]
  rfl

def IsBool (e : Ending) : Prop := ∃ b, e = .returned (.bool b)

set_option maxHeartbeats 100000000 in
theorem great {n : Nat} (w : World) (va : Value) (l : List Pg.Fd) (ha : FuncsAt w n va l) : Calls Tryz.prog 5 #[.agg #[va]] w fun e w' => IsBool e ∧ Below w.heap.size w w' := by
  obtain ⟨oa, ca, rfl, hlm, ha⟩ := ha
  have ha2 : ∀ x i (h : i < l.length), ∃ b o vp vb, oa = some ⟨b, o, none⟩ ∧ FuncAt (w.alloc x) n b (o + i * 3) l[i] vp vb := fun x i hi => by
    obtain ⟨b, o, vp, vb, e, k⟩ := ha i hi
    exact ⟨b, o, vp, vb, e, k.below (one _ _)⟩
  clear ha
  unfold maxLen at hlm
  go_enter Tryz.func5, Tryz.ntmps5
  go_wp2_with fail
  have G := box_cell w #[.slice oa l.length ca] 24 0
  have B : Hid (Below w.heap.size w (w.alloc (.cells #[.slice oa l.length ca] 24 (0, 0)))) := one _ _
  have ha3 := ha2 (.cells #[.slice oa l.length ca] 24 (0, 0))
  clear ha2
  generalize (w.alloc (.cells #[.slice oa l.length ca] 24 (0, 0))) = w1 at *
  go_loopw [3, 4] (fun u i wr => ∃ (k : Nat) (x : Int), k ≤ l.length ∧ i = .int .i64 k ∧ u = .int .i64 x ∧ ∃ q, wr = w1.drewN q) (fun _ i _ => l.length - (intOf i).toNat)
  case atStart => exact ⟨0, _, Nat.zero_le _, rfl, rfl, 0, rfl⟩
  case round =>
    obtain ⟨k, x, hk, rfl, rfl, q0, rfl⟩ := hrel
    by_cases hlt : k < l.length
    · by_cases hx : x < 9000
      · obtain ⟨b1, o1, p1, y1, rfl, N1⟩ := ha3 k hlt
        have M1 := N1
        have hi1 : (k : Int) < (l.length : Int) := by omega
        clear ha3 N1
        obtain ⟨x2, c2, rfl⟩ := M1.kparams.slice
        obtain ⟨x3, c3, rfl⟩ := M1.kbody.slice
        have f1 := M1.name
        have f2 := M1.params
        have f3 := M1.body
        have MB : Hid (NodesAt w1 n _ l[k].body) := M1.kbody
        clear M1
        go_wp2_with fail
        go_big_quiet (first
          | (go_at_call 21; with_reducible exact useWeighs (weighs n) (by omega) (by omega) MB.out))
        simp only [World.drewN_drewN]
        go_wp2_with fail
        exact ⟨⟨k + 1, _, by omega, by go_num, rfl, _, rfl⟩, by simp [intOf]; omega⟩
      · go_wp2_with fail
        go_ret
        exact ⟨⟨_, rfl⟩, B.out.trans ((drewN_below _ _).mono B.out.size)⟩
    · go_wp2_with fail
      go_ret
      exact ⟨⟨_, rfl⟩, B.out.trans ((drewN_below _ _).mono B.out.size)⟩
end Go.Proofs.YtcojbkhjmaaamaaGreatDoor.Sm

