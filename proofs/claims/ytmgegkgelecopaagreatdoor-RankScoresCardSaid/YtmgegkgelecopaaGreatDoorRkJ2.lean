import Derived.Test.YtmgegkgelecopaaGreatDoorRkD
import Derived.Test.YtmgegkgelecopaaGreatDoorRkC
set_option maxRecDepth 100000
namespace Go.Proofs.YtmgegkgelecopaaGreatDoor.Rk
open Go Go.Ms Go.Pg Go.Rk Go.ChangeShapes Go.WideShapes Go.ChangeAt Go.RowKit Go.Deep

/-! Quotients: 0 by 0. -/
def qN (n d : Int) : Int := if d = 0 then 0 else frN n d
def qD (n d : Int) : Int := if d = 0 then 1 else frD n d
abbrev Fr := Int × Int
def Q (n d : Int) : Fr := (qN n d, qD n d)
def fplus (a b : Fr) : Fr := Q (a.1 * b.2 + b.1 * a.2) (a.2 * b.2)
def fminus (a b : Fr) : Fr := fplus a (-b.1, b.2)
def ftimes (a b : Fr) : Fr := Q (a.1 * b.1) (a.2 * b.2)
def fover (a b : Fr) : Fr := Q (a.1 * b.2) (a.2 * b.1)
def fgap (a b : Fr) : Fr := (if -(fminus a b).1 ≤ (fminus a b).1 then (fminus a b).1 else -(fminus a b).1, (fminus a b).2)
abbrev fr (a : Fr) : Value := rat a.1 a.2

theorem frE_ok {n d : Int} (hn : M64 n) (hd : M64 d) (h : d ≠ 0) : frE n d = 0 := by
  obtain ⟨h1, h2⟩ := hn
  obtain ⟨h3, h4⟩ := hd
  unfold frE minI
  rw [if_neg h, if_neg (by omega)]
theorem qN_abs {n d : Int} (hn : M64 n) (hd : M64 d) : (qN n d).natAbs ≤ n.natAbs := by
  unfold qN
  split
  · simp
  · rename_i h
    rw [(frV_ok (frE_ok hn hd h)).1]
    split
    · rw [Int.natAbs_tdiv, Int.natAbs_neg]; exact Nat.div_le_self _ _
    · rw [Int.natAbs_tdiv]; exact Nat.div_le_self _ _
theorem qD_pos {n d : Int} (hn : M64 n) (hd : M64 d) : 0 < qD n d ∧ (qD n d ≤ 1 ∨ (qD n d).natAbs ≤ d.natAbs) := by
  unfold qD
  split
  · exact ⟨by omega, Or.inl (by omega)⟩
  · rename_i h
    rw [(frV_ok (frE_ok hn hd h)).2]
    have g := gcd_pos (n := n) h
    have hdv : ((Int.gcd n d : Nat) : Int) ∣ d := Int.gcd_dvd_right _ _
    refine ⟨?_, Or.inr ?_⟩
    · split
      · rename_i hneg
        have hdv2 : ((Int.gcd n d : Nat) : Int) ∣ -d := (Int.dvd_neg).2 hdv
        exact (cmpR_lowest (n := -d) (by omega : 0 < -d) g hdv2 hdv2).2
      · exact (cmpR_lowest (n := d) (by omega : 0 < d) g hdv hdv).2
    · split
      · rw [Int.natAbs_tdiv, Int.natAbs_neg]; exact Nat.div_le_self _ _
      · rw [Int.natAbs_tdiv]; exact Nat.div_le_self _ _

def Bd (k : Int) (a : Fr) : Prop := -k ≤ a.1 ∧ a.1 ≤ k ∧ 1 ≤ a.2 ∧ a.2 ≤ k
theorem Bd.mono {k l : Int} {a : Fr} (h : Bd k a) (hl : k ≤ l) : Bd l a := ⟨by have := h.1; omega, by have := h.2.1; omega, h.2.2.1, by have := h.2.2.2; omega⟩
theorem Q_bd {k n d : Int} (hk : 1 ≤ k) (hk2 : k ≤ 9223372036854775807) (hn : -k ≤ n ∧ n ≤ k) (hd : -k ≤ d ∧ d ≤ k) : Bd k (Q n d) := by
  have mn : M64 n := ⟨by omega, by omega⟩
  have md : M64 d := ⟨by omega, by omega⟩
  have h1 := qN_abs mn md
  have h2 := qD_pos mn md
  refine ⟨?_, ?_, ?_, ?_⟩
  · show -k ≤ qN n d; omega
  · show qN n d ≤ k; omega
  · show 1 ≤ qD n d; omega
  · show qD n d ≤ k; omega
theorem mul_bd {a b A B : Int} (ha : -A ≤ a ∧ a ≤ A) (hb : -B ≤ b ∧ b ≤ B) : -(A * B) ≤ a * b ∧ a * b ≤ A * B := by
  have h : (a * b).natAbs ≤ (A * B).natAbs := by
    rw [Int.natAbs_mul, Int.natAbs_mul]
    exact Nat.mul_le_mul (by omega) (by omega)
  have p : 0 ≤ A * B := Int.mul_nonneg (by omega) (by omega)
  omega
theorem fplus_bd {k l : Int} {a b : Fr} (ha : Bd k a) (hb : Bd l b) (hm : 2 * (k * l) ≤ 9223372036854775807) : Bd (2 * (k * l)) (fplus a b) := by
  obtain ⟨a1, a2, a3, a4⟩ := ha
  obtain ⟨b1, b2, b3, b4⟩ := hb
  have p : 1 * 1 ≤ k * l := Int.mul_le_mul (by omega) (by omega) (by omega) (by omega)
  have x := mul_bd (a := a.1) (b := b.2) (A := k) (B := l) ⟨a1, a2⟩ ⟨by omega, b4⟩
  have y := mul_bd (a := b.1) (b := a.2) (A := l) (B := k) ⟨b1, b2⟩ ⟨by omega, a4⟩
  have z := mul_bd (a := a.2) (b := b.2) (A := k) (B := l) ⟨by omega, a4⟩ ⟨by omega, b4⟩
  have e : l * k = k * l := Int.mul_comm l k
  rw [e] at y
  exact Q_bd (by omega) hm ⟨by omega, by omega⟩ ⟨by omega, by omega⟩

/-! Two quotients of one value are one. -/
theorem qN_pos {n d : Int} (hn : M64 n) (hd : M64 d) (h : 0 < d) : qN n d = n / (Int.gcd n d) ∧ qD n d = d / (Int.gcd n d) := by
  have k := frV_ok (frE_ok hn hd (by omega))
  unfold qN qD
  rw [if_neg (by omega), if_neg (by omega), k.1, k.2, if_neg (by omega), if_neg (by omega)]
  refine ⟨?_, Int.tdiv_eq_ediv_of_nonneg (by omega)⟩
  obtain ⟨c, hc⟩ := Int.gcd_dvd_left n d
  have g := gcd_pos (n := n) (d := d) (by omega)
  generalize ((Int.gcd n d : Nat) : Int) = u at *
  rw [hc, Int.mul_tdiv_cancel_left _ (by omega), Int.mul_ediv_cancel_left _ (by omega)]
theorem q_cross {n d : Int} (hn : M64 n) (hd : M64 d) (h : 0 < d) : qN n d * d = n * qD n d := by
  rw [(qN_pos hn hd h).1, (qN_pos hn hd h).2]
  obtain ⟨c, hc⟩ := Int.gcd_dvd_left n d
  obtain ⟨b, hb⟩ := Int.gcd_dvd_right n d
  have g := gcd_pos (n := n) (d := d) (by omega)
  generalize ((Int.gcd n d : Nat) : Int) = u at *
  have e1 : n / u = c := by rw [hc]; exact Int.mul_ediv_cancel_left _ (by omega)
  have e2 : d / u = b := by rw [hb]; exact Int.mul_ediv_cancel_left _ (by omega)
  rw [e1, e2, hc, hb]
  rw [← Int.mul_assoc, Int.mul_comm c u]
theorem q_ext {n d m e : Int} (hn : M64 n) (hd : M64 d) (hm : M64 m) (he : M64 e) (h1 : 0 < d) (h2 : 0 < e) (h : n * e = m * d) : Q n d = Q m e := by
  have a := qN_pos hn hd h1
  have b := qN_pos hm he h2
  have g1 := gcd_pos (n := n) (d := d) (by omega)
  have g2 := gcd_pos (n := m) (d := e) (by omega)
  have k1 : ((Int.gcd n d : Nat) : Int) * e = ((Int.gcd m e : Nat) : Int) * d := by
    have x : Int.gcd (n * e) (d * e) = Int.gcd n d * e.natAbs := Int.gcd_mul_right _ _ _
    have y : Int.gcd (m * d) (e * d) = Int.gcd m e * d.natAbs := Int.gcd_mul_right _ _ _
    have z : Int.gcd (n * e) (d * e) = Int.gcd (m * d) (e * d) := by rw [h, Int.mul_comm d e]
    rw [x, y] at z
    have z2 : ((Int.gcd n d * e.natAbs : Nat) : Int) = ((Int.gcd m e * d.natAbs : Nat) : Int) := by rw [z]
    rw [Int.natCast_mul, Int.natCast_mul] at z2
    have e1 : ((e.natAbs : Nat) : Int) = e := by omega
    have e2 : ((d.natAbs : Nat) : Int) = d := by omega
    rwa [e1, e2] at z2
  obtain ⟨c, hc⟩ := Int.gcd_dvd_left n d
  obtain ⟨b1, hb⟩ := Int.gcd_dvd_right n d
  obtain ⟨c', hc'⟩ := Int.gcd_dvd_left m e
  obtain ⟨b', hb'⟩ := Int.gcd_dvd_right m e
  unfold Q
  rw [a.1, a.2, b.1, b.2]
  generalize ((Int.gcd n d : Nat) : Int) = u at *
  generalize ((Int.gcd m e : Nat) : Int) = v at *
  have e1 : n / u = c := by rw [hc]; exact Int.mul_ediv_cancel_left _ (by omega)
  have e2 : d / u = b1 := by rw [hb]; exact Int.mul_ediv_cancel_left _ (by omega)
  have e3 : m / v = c' := by rw [hc']; exact Int.mul_ediv_cancel_left _ (by omega)
  have e4 : e / v = b' := by rw [hb']; exact Int.mul_ediv_cancel_left _ (by omega)
  rw [e1, e2, e3, e4]
  have hb4 : b1 = b' := by
    have : (u * v) * b' = (u * v) * b1 := by
      rw [hb, hb'] at k1
      have l1 : u * (v * b') = (u * v) * b' := (Int.mul_assoc _ _ _).symm
      have l2 : v * (u * b1) = (u * v) * b1 := by rw [← Int.mul_assoc, Int.mul_comm v u]
      rw [← l1, ← l2, k1]
    exact (Int.eq_of_mul_eq_mul_left (by have := Int.mul_pos g1 g2; omega) this).symm
  have hc4 : c = c' := by
    have bp : 0 < b1 := by
      by_cases q : 0 < b1
      · exact q
      · have := Int.mul_nonpos_of_nonneg_of_nonpos (Int.le_of_lt g1) (by omega : b1 ≤ 0)
        omega
    have : (u * v * b1) * c = (u * v * b1) * c' := by
      rw [hc, hb', hc', hb, ← hb4] at h
      have l1 : u * c * (v * b1) = (u * v * b1) * c := by grind
      have l2 : v * c' * (u * b1) = (u * v * b1) * c' := by grind
      rw [← l1, ← l2, h]
    exact Int.eq_of_mul_eq_mul_left (by have := Int.mul_pos (Int.mul_pos g1 g2) bp; omega) this
  rw [hb4, hc4]
theorem Q_one {n : Int} (hn : M64 n) : Q n 1 = (n, 1) := by
  have h := qN_pos hn (d := 1) ⟨by omega, by omega⟩ (by omega)
  unfold Q
  rw [h.1, h.2, Int.gcd_one]
  simp
end Go.Proofs.YtmgegkgelecopaaGreatDoor.Rk

set_option maxRecDepth 100000
namespace Go.Proofs.YtmgegkgelecopaaGreatDoor.Rk
open Go Go.Ms Go.Pg Go.Rk Go.ChangeShapes Go.WideShapes Go.ChangeAt Go.RowKit Go.Deep

theorem bcell {W w1 : World} (hb : Below W.heap.size W w1) : (∀ b o, b < W.heap.size → w1.cell? ⟨b, o, none⟩ = W.cell? ⟨b, o, none⟩) ∧ (∀ b o, b < W.heap.size → w1.frozen? ⟨b, o, none⟩ = W.frozen? ⟨b, o, none⟩) :=
  ⟨fun b o h => hb.cell (p := ⟨b, o, none⟩) h, fun b o h => hb.frozen (p := ⟨b, o, none⟩) h⟩

theorem lt_new {w w1 : World} {o : Obj} (h : Below (w.alloc o).heap.size (w.alloc o) w1) : w.heap.size < w1.heap.size := by
  have := h.size
  simp at this
  omega

theorem whole69 (n : Int) (w : World) : Calls Tryz.prog 69 #[.int .i64 n] w fun e w' => e = .returned (fr (n, 1)) ∧ Below w.heap.size w w' := by
  go_enter Tryz.func69, Tryz.ntmps69
  go_wp2
  go_returns
  exact ⟨rfl, (Below.refl _ _).alloc (Nat.le_refl _) _⟩

def Kept (w0 _w w1 : World) (b : Nat) (x y : Value) : Prop :=
  w1.cell? ⟨b, 0, none⟩ = some x ∧ w1.cell? ⟨b, 1, none⟩ = some y ∧ w1.frozen? ⟨b, 0, none⟩ = false ∧ w1.frozen? ⟨b, 1, none⟩ = false ∧ b < w1.heap.size ∧ Hid (Below w0.heap.size w0 w1)
theorem kept {w0 w w1 : World} {x y : Value} {t : TypeId} (h0 : Below w0.heap.size w0 w) (h : Below (w.alloc (.cells #[x, y] t)).heap.size (w.alloc (.cells #[x, y] t)) w1) : Kept w0 w w1 w.heap.size x y := by
  have hz := lt_new h
  have hl : w.heap.size < (w.alloc (.cells #[x, y] t)).heap.size := by simp
  refine ⟨(h.cell (p := ⟨w.heap.size, 0, none⟩) hl).trans (new0 w _ _ _), (h.cell (p := ⟨w.heap.size, 1, none⟩) hl).trans (new1 w _ _ _), (h.frozen (p := ⟨w.heap.size, 0, none⟩) hl).trans (by go_simp), (h.frozen (p := ⟨w.heap.size, 1, none⟩) hl).trans (by go_simp), hz, ?_⟩
  exact h0.trans ((((Below.refl w.heap.size w).alloc (Nat.le_refl _) _).trans (h.mono (by simp))).mono h0.size)

theorem kept3 {w w1 : World} {a b : Obj} {x y : Value} {t : TypeId} (h : Below (((w.alloc a).alloc b).alloc (.cells #[x, y] t)).heap.size (((w.alloc a).alloc b).alloc (.cells #[x, y] t)) w1) : Kept w ((w.alloc a).alloc b) w1 (w.heap.size + 1 + 1) x y := by
  have k := kept (two w a b) h
  have e : ((w.alloc a).alloc b).heap.size = w.heap.size + 1 + 1 := by simp
  rwa [e] at k

theorem quotient66 (n d : Int) (hn : M64 n) (hd : M64 d) (w : World) : Calls Tryz.prog 66 #[.int .i64 n, .int .i64 d] w fun e w' => e = .returned (fr (Q n d)) ∧ Below w.heap.size w w' := by
  have mn : I64 n := ⟨by have := hn.1; omega, hn.2⟩
  have md : I64 d := ⟨by have := hd.1; omega, hd.2⟩
  by_cases h0 : d = 0
  · subst h0
    go_enter Tryz.func66, Tryz.ntmps66
    go_wp2_with (first | (go_at_call 69; refine (whole69 _ _).mono ?_; rintro e w1 ⟨rfl, hB⟩; obtain ⟨c0, c1, f0, f1, hz, HB⟩ := kept (Below.refl w.heap.size w) hB; clear hB) | fail)
    refine bodyPost_ret (v := .agg #[.int .i64 0, .int .i64 1]) (by simp [results, Tryz.results66, go_sem, c0, c1]) rfl ⟨?_, (HB.out.setCell (Nat.le_refl _) _).setCell (Nat.le_refl _) _⟩
    unfold Q qN qD
    rw [if_pos rfl, if_pos rfl]
  · have q0 : (d == 0) = false := by simpa using h0
    go_enter Tryz.func66, Tryz.ntmps66
    go_wp2_with (first | (go_at_call 9; refine (fraction9 n d mn md _).mono ?_; rintro e w1 ⟨rfl, hB⟩; obtain ⟨c0, c1, f0, f1, hz, HB⟩ := kept (Below.refl w.heap.size w) hB; clear hB) | fail)
    have hle := Nat.le_of_lt hz
    refine bodyPost_ret (v := .agg #[.int .i64 (frN n d), .int .i64 (frD n d)]) (by simp [results, Tryz.results66, go_sem, c0, c1, hz]) rfl ⟨?_, ?_⟩
    · unfold Q qN qD
      rw [if_neg h0, if_neg h0]
    · exact ((HB.out.setCell (Nat.le_refl _) _).setCell (Nat.le_refl _) _).alloc (by simpa using hle) _

abbrev Ok (a : Fr) : Prop := Bd 1000000000 a
theorem ok_mul {a b : Int} (ha : -1000000000 ≤ a ∧ a ≤ 1000000000) (hb : -1000000000 ≤ b ∧ b ≤ 1000000000) : -1000000000000000000 ≤ a * b ∧ a * b ≤ 1000000000000000000 := mul_bd ha hb

set_option maxHeartbeats 1000000 in
theorem plus67 (a b : Fr) (ha : Ok a) (hb : Ok b) (w : World) : Calls Tryz.prog 67 #[fr a, fr b] w fun e w' => e = .returned (fr (fplus a b)) ∧ Below w.heap.size w w' := by
  obtain ⟨a1, a2⟩ := a
  obtain ⟨b1, b2⟩ := b
  obtain ⟨x1, x2, x3, x4⟩ := ha
  obtain ⟨y1, y2, y3, y4⟩ := hb
  obtain ⟨m1, m2⟩ := ok_mul (a := a1) (b := b2) ⟨x1, x2⟩ ⟨by simp at y3; omega, y4⟩
  obtain ⟨m3, m4⟩ := ok_mul (a := b1) (b := a2) ⟨y1, y2⟩ ⟨by simp at x3; omega, x4⟩
  obtain ⟨m5, m6⟩ := ok_mul (a := a2) (b := b2) ⟨by simp at x3; omega, x4⟩ ⟨by simp at y3; omega, y4⟩
  clear x1 x2 x3 x4 y1 y2 y3 y4
  go_enter Tryz.func67, Tryz.ntmps67
  go_wp2_with (first | (go_at_call 66; refine (quotient66 (a1 * b2 + b1 * a2) (a2 * b2) ⟨by omega, by omega⟩ ⟨by omega, by omega⟩ _).mono ?_; rintro e w1 ⟨rfl, hB⟩; obtain ⟨c0, c1, f0, f1, hz, HB⟩ := kept3 hB; clear hB) | fail)
  exact bodyPost_ret (v := fr (Q (a1 * b2 + b1 * a2) (a2 * b2))) (by simp [results, Tryz.results67, go_sem, c0, c1]) rfl ⟨rfl, (HB.out.setCell (show w.heap.size ≤ w.heap.size + 1 + 1 by omega) _).setCell (show w.heap.size ≤ w.heap.size + 1 + 1 by omega) _⟩
set_option maxHeartbeats 1000000 in
theorem times84 (a b : Fr) (ha : Ok a) (hb : Ok b) (w : World) : Calls Tryz.prog 84 #[fr a, fr b] w fun e w' => e = .returned (fr (ftimes a b)) ∧ Below w.heap.size w w' := by
  obtain ⟨a1, a2⟩ := a
  obtain ⟨b1, b2⟩ := b
  obtain ⟨x1, x2, x3, x4⟩ := ha
  obtain ⟨y1, y2, y3, y4⟩ := hb
  obtain ⟨m1, m2⟩ := ok_mul (a := a1) (b := b1) ⟨x1, x2⟩ ⟨y1, y2⟩
  obtain ⟨m5, m6⟩ := ok_mul (a := a2) (b := b2) ⟨by simp at x3; omega, x4⟩ ⟨by simp at y3; omega, y4⟩
  clear x1 x2 x3 x4 y1 y2 y3 y4
  go_enter Tryz.func84, Tryz.ntmps84
  go_wp2_with (first | (go_at_call 66; refine (quotient66 (a1 * b1) (a2 * b2) ⟨by omega, by omega⟩ ⟨by omega, by omega⟩ _).mono ?_; rintro e w1 ⟨rfl, hB⟩; obtain ⟨c0, c1, f0, f1, hz, HB⟩ := kept3 hB; clear hB) | fail)
  exact bodyPost_ret (v := fr (Q (a1 * b1) (a2 * b2))) (by simp [results, Tryz.results84, go_sem, c0, c1]) rfl ⟨rfl, (HB.out.setCell (show w.heap.size ≤ w.heap.size + 1 + 1 by omega) _).setCell (show w.heap.size ≤ w.heap.size + 1 + 1 by omega) _⟩
set_option maxHeartbeats 1000000 in
theorem over64 (a b : Fr) (ha : Ok a) (hb : Ok b) (w : World) : Calls Tryz.prog 64 #[fr a, fr b] w fun e w' => e = .returned (fr (fover a b)) ∧ Below w.heap.size w w' := by
  obtain ⟨a1, a2⟩ := a
  obtain ⟨b1, b2⟩ := b
  obtain ⟨x1, x2, x3, x4⟩ := ha
  obtain ⟨y1, y2, y3, y4⟩ := hb
  obtain ⟨m1, m2⟩ := ok_mul (a := a1) (b := b2) ⟨x1, x2⟩ ⟨by simp at y3; omega, y4⟩
  obtain ⟨m3, m4⟩ := ok_mul (a := a2) (b := b1) ⟨by simp at x3; omega, x4⟩ ⟨y1, y2⟩
  clear x1 x2 x3 x4 y1 y2 y3 y4
  go_enter Tryz.func64, Tryz.ntmps64
  go_wp2_with (first | (go_at_call 66; refine (quotient66 (a1 * b2) (a2 * b1) ⟨by omega, by omega⟩ ⟨by omega, by omega⟩ _).mono ?_; rintro e w1 ⟨rfl, hB⟩; obtain ⟨c0, c1, f0, f1, hz, HB⟩ := kept3 hB; clear hB) | fail)
  exact bodyPost_ret (v := fr (Q (a1 * b2) (a2 * b1))) (by simp [results, Tryz.results64, go_sem, c0, c1]) rfl ⟨rfl, (HB.out.setCell (show w.heap.size ≤ w.heap.size + 1 + 1 by omega) _).setCell (show w.heap.size ≤ w.heap.size + 1 + 1 by omega) _⟩

set_option maxHeartbeats 1000000 in
theorem minus75 (a b : Fr) (ha : Ok a) (hb : Ok b) (w : World) : Calls Tryz.prog 75 #[fr a, fr b] w fun e w' => e = .returned (fr (fminus a b)) ∧ Below w.heap.size w w' := by
  obtain ⟨a1, a2⟩ := a
  obtain ⟨b1, b2⟩ := b
  have HK := Lib.hid (fun w' => plus67 (a1, a2) (-b1, b2) ha ⟨by have := hb.2.1; simp at this ⊢; omega, by have := hb.1; simp at this ⊢; omega, hb.2.2.1, hb.2.2.2⟩ w')
  obtain ⟨y1, y2, y3, y4⟩ := hb
  simp only at y1 y2
  clear y3 y4 ha
  go_enter Tryz.func75, Tryz.ntmps75
  go_wp2_with (first | (go_at_call 67; refine (HK.out _).mono ?_; rintro e w1 ⟨rfl, hB⟩; obtain ⟨c0, c1, f0, f1, hz, HB⟩ := kept3 hB; clear hB) | fail)
  exact bodyPost_ret (v := fr (fplus (a1, a2) (-b1, b2))) (by simp [results, Tryz.results75, go_sem, c0, c1]) rfl ⟨rfl, (HB.out.setCell (show w.heap.size ≤ w.heap.size + 1 + 1 by omega) _).setCell (show w.heap.size ≤ w.heap.size + 1 + 1 by omega) _⟩

set_option maxHeartbeats 1000000 in
theorem gap78 (a b : Fr) (ha : Ok a) (hb : Ok b) (w : World) : Calls Tryz.prog 78 #[fr a, fr b] w fun e w' => e = .returned (fr (fgap a b)) ∧ Below w.heap.size w w' := by
  obtain ⟨a1, a2⟩ := a
  obtain ⟨b1, b2⟩ := b
  have HK := Lib.hid (fun w' => minus75 (a1, a2) (b1, b2) ha hb w')
  have hbd := fplus_bd (k := 1000000000) (l := 1000000000) (a := (a1, a2)) (b := (-b1, b2)) ha ⟨by have := hb.2.1; simp at this ⊢; omega, by have := hb.1; simp at this ⊢; omega, hb.2.2.1, hb.2.2.2⟩ (by decide)
  have hG : fgap (a1, a2) (b1, b2) = (if -(fminus (a1, a2) (b1, b2)).1 ≤ (fminus (a1, a2) (b1, b2)).1 then (fminus (a1, a2) (b1, b2)).1 else -(fminus (a1, a2) (b1, b2)).1, (fminus (a1, a2) (b1, b2)).2) := rfl
  have HG := Lib.hid hG
  have hbd2 : Bd (2 * (1000000000 * 1000000000)) (fminus (a1, a2) (b1, b2)) := hbd
  clear ha hb hbd hG
  generalize fminus (a1, a2) (b1, b2) = d at *
  obtain ⟨d1, d2⟩ := d
  obtain ⟨z1, z2, z3, z4⟩ := hbd2
  simp only at z1 z2
  clear z3 z4
  go_enter Tryz.func78, Tryz.ntmps78
  go_wp2_with (first | (go_at_call 75; refine (HK.out _).mono ?_; rintro e w1 ⟨rfl, hB⟩; obtain ⟨c0, c1, f0, f1, hz, HB⟩ := kept3 hB; clear hB) | fail)
  · have hle := Nat.le_of_lt hz
    refine bodyPost_ret (v := fr (-d1, d2)) (by simp [results, Tryz.results78, go_sem, c0, c1, hz]) rfl ⟨?_, (((HB.out.setCell (show w.heap.size ≤ w.heap.size + 1 + 1 by omega) _).setCell (show w.heap.size ≤ w.heap.size + 1 + 1 by omega) _).alloc (by simp; omega) _)⟩
    rw [HG.out]
    show _ = Ending.returned (fr (if -d1 ≤ d1 then d1 else -d1, d2))
    rw [if_neg (by omega)]
  · have hle := Nat.le_of_lt hz
    refine bodyPost_ret (v := fr (d1, d2)) (by simp [results, Tryz.results78, go_sem, c0, c1, hz]) rfl ⟨?_, (((HB.out.setCell (show w.heap.size ≤ w.heap.size + 1 + 1 by omega) _).setCell (show w.heap.size ≤ w.heap.size + 1 + 1 by omega) _).alloc (by simp; omega) _)⟩
    rw [HG.out]
    show _ = Ending.returned (fr (if -d1 ≤ d1 then d1 else -d1, d2))
    rw [if_pos (by omega)]
end Go.Proofs.YtmgegkgelecopaaGreatDoor.Rk

set_option maxRecDepth 100000
namespace Go.Proofs.YtmgegkgelecopaaGreatDoor.Rk
open Go Go.Ms Go.Pg Go.Rk Go.ChangeShapes Go.WideShapes Go.ChangeAt Go.RowKit Go.Deep

structure Cn where
  h : Int
  q : Int
  m : Int
  r : Int
  f : Int
  p : Int
abbrev cn (c : Cn) : Value := .agg #[.int .i64 c.h, .int .i64 c.q, .int .i64 c.m, .int .i64 c.r, .int .i64 c.f, .int .i64 c.p]
def val (w : World) (p : Addr) : Value := (w.cell? p).getD undef
theorem val_of {w : World} {p : Addr} {v : Value} (h : w.cell? p = some v) : w.cell? p = some (val w p) := by
  unfold val
  rw [h]
  rfl

def Cl (w w' : World) (a b c : Nat) (x : Cn) : Prop :=
  w'.cell? ⟨a, 0, none⟩ = some (.int .i64 x.h) ∧ w'.cell? ⟨a, 1, none⟩ = some (.int .i64 x.q) ∧ w'.cell? ⟨a, 2, none⟩ = some (.int .i64 x.m) ∧ w'.cell? ⟨a, 3, none⟩ = some (.int .i64 x.r) ∧ w'.cell? ⟨a, 4, none⟩ = some (.int .i64 x.f) ∧ w'.cell? ⟨a, 5, none⟩ = some (.int .i64 x.p) ∧
  w'.cell? ⟨b, 0, none⟩ = some (val w' ⟨b, 0, none⟩) ∧ w'.cell? ⟨b, 1, none⟩ = some (val w' ⟨b, 1, none⟩) ∧ w'.cell? ⟨c, 0, none⟩ = some (val w' ⟨c, 0, none⟩) ∧ w'.cell? ⟨c, 1, none⟩ = some (val w' ⟨c, 1, none⟩) ∧
  w'.frozen? ⟨b, 0, none⟩ = false ∧ w'.frozen? ⟨b, 1, none⟩ = false ∧ w'.frozen? ⟨c, 0, none⟩ = false ∧ w'.frozen? ⟨c, 1, none⟩ = false ∧
  a < w'.heap.size ∧ b < w'.heap.size ∧ c < w'.heap.size ∧ Hid (w.heap.size ≤ b ∧ w.heap.size ≤ c ∧ a ≠ b ∧ a ≠ c ∧ b ≠ c ∧ Below w.heap.size w w')

theorem Cl.step {w w' w'' : World} {a b c : Nat} {x : Cn} (h : Cl w w' a b c x) (k : Below w'.heap.size w' w'') : Cl w w'' a b c x := by
  obtain ⟨h1, h2, h3, h4, h5, h6, r1, r2, r3, r4, f1, f2, f3, f4, la, lb, lc, o1, o2, o3, o4, o5, hB⟩ := h
  exact ⟨(k.cell (p := ⟨a, 0, none⟩) la).trans h1, (k.cell (p := ⟨a, 1, none⟩) la).trans h2, (k.cell (p := ⟨a, 2, none⟩) la).trans h3, (k.cell (p := ⟨a, 3, none⟩) la).trans h4, (k.cell (p := ⟨a, 4, none⟩) la).trans h5, (k.cell (p := ⟨a, 5, none⟩) la).trans h6,
    val_of ((k.cell (p := ⟨b, 0, none⟩) lb).trans r1), val_of ((k.cell (p := ⟨b, 1, none⟩) lb).trans r2), val_of ((k.cell (p := ⟨c, 0, none⟩) lc).trans r3), val_of ((k.cell (p := ⟨c, 1, none⟩) lc).trans r4),
    (k.frozen (p := ⟨b, 0, none⟩) lb).trans f1, (k.frozen (p := ⟨b, 1, none⟩) lb).trans f2, (k.frozen (p := ⟨c, 0, none⟩) lc).trans f3, (k.frozen (p := ⟨c, 1, none⟩) lc).trans f4,
    Nat.lt_of_lt_of_le la k.size, Nat.lt_of_lt_of_le lb k.size, Nat.lt_of_lt_of_le lc k.size, o1, o2, o3, o4, o5, hB.trans (k.mono hB.size)⟩
theorem Cl.drew {w w' : World} {a b c : Nat} {x : Cn} (h : Cl w w' a b c x) : Cl w w'.drew a b c x := h.step ⟨rfl, rfl, rfl, Nat.le_refl _, fun _ _ => rfl⟩

theorem Cl.new (w : World) (x : Cn) : Cl w (((w.alloc (.cells #[.int .i64 x.h, .int .i64 x.q, .int .i64 x.m, .int .i64 x.r, .int .i64 x.f, .int .i64 x.p] 87)).alloc (.cells #[.int .i64 0, .int .i64 0] 84)).alloc (.cells #[.int .i64 0, .int .i64 0] 84)) w.heap.size (w.heap.size + 1) (w.heap.size + 1 + 1) x :=
  ⟨by go_simp, by go_simp, by go_simp, by go_simp, by go_simp, by go_simp, val_of (v := .int .i64 0) (by go_simp), val_of (v := .int .i64 0) (by go_simp), val_of (v := .int .i64 0) (by go_simp), val_of (v := .int .i64 0) (by go_simp),
    by go_simp, by go_simp, by go_simp, by go_simp, by simp <;> omega, by simp <;> omega, by simp, by omega, by omega, by omega, by omega, by omega, (((Below.refl _ _).alloc (Nat.le_refl _) _).alloc (by simp) _).alloc (by simp <;> omega) _⟩

theorem Cl.put1 {w w' : World} {a b c : Nat} {x : Cn} (h : Cl w w' a b c x) (u v : Value) : Cl w ((w'.setCell ⟨b, 0, none⟩ u).setCell ⟨b, 1, none⟩ v) a b c x := by
  obtain ⟨h1, h2, h3, h4, h5, h6, r1, r2, r3, r4, f1, f2, f3, f4, la, lb, lc, o1, o2, o3, o4, o5, hB⟩ := h
  have o3' := o3.symm
  have o4' := o4.symm
  have o5' := o5.symm
  exact ⟨by go_simp, by go_simp, by go_simp, by go_simp, by go_simp, by go_simp, val_of (v := u) (by go_simp), val_of (v := v) (by go_simp), val_of (v := val w' ⟨c, 0, none⟩) (by go_simp), val_of (v := val w' ⟨c, 1, none⟩) (by go_simp),
    by go_simp, by go_simp, by go_simp, by go_simp, by simpa using la, by simpa using lb, by simpa using lc, o1, o2, o3, o4, o5, (hB.setCell o1 _).setCell o1 _⟩
theorem Cl.put2 {w w' : World} {a b c : Nat} {x : Cn} (h : Cl w w' a b c x) (u v : Value) : Cl w ((w'.setCell ⟨c, 0, none⟩ u).setCell ⟨c, 1, none⟩ v) a b c x := by
  obtain ⟨h1, h2, h3, h4, h5, h6, r1, r2, r3, r4, f1, f2, f3, f4, la, lb, lc, o1, o2, o3, o4, o5, hB⟩ := h
  have o3' := o3.symm
  have o4' := o4.symm
  have o5' := o5.symm
  exact ⟨by go_simp, by go_simp, by go_simp, by go_simp, by go_simp, by go_simp, val_of (v := val w' ⟨b, 0, none⟩) (by go_simp), val_of (v := val w' ⟨b, 1, none⟩) (by go_simp), val_of (v := u) (by go_simp), val_of (v := v) (by go_simp),
    by go_simp, by go_simp, by go_simp, by go_simp, by simpa using la, by simpa using lb, by simpa using lc, o1, o2, o3, o4, o5, (hB.setCell o2 _).setCell o2 _⟩

def Small (x : Cn) : Prop := (0 ≤ x.h ∧ x.h ≤ 64) ∧ (0 ≤ x.q ∧ x.q ≤ 64) ∧ (0 ≤ x.m ∧ x.m ≤ 64) ∧ (0 ≤ x.r ∧ x.r ≤ 64) ∧ (0 ≤ x.f ∧ x.f ≤ 128) ∧ (0 ≤ x.p ∧ x.p ≤ 128)
theorem wr {n : Int} (h : -9223372036854775808 ≤ n ∧ n ≤ 9223372036854775807) : IntKind.i64.wrap n = n := by
  rw [IntKind.wrap_i64]
  omega
theorem clK {f : FuncId} {args : Array Value} {V : Value} {w w' : World} {a b c : Nat} {x : Cn} (h : Cl w w' a b c x) (k : Calls Tryz.prog f args w' fun e w'' => e = .returned V ∧ Below w'.heap.size w' w'') : Calls Tryz.prog f args w' fun e w'' => e = .returned V ∧ Cl w w'' a b c x :=
  k.mono fun _ _ ⟨e, q⟩ => ⟨e, h.step q⟩

end Go.Proofs.YtmgegkgelecopaaGreatDoor.Rk

set_option maxRecDepth 100000
namespace Go.Proofs.YtmgegkgelecopaaGreatDoor.Rk
open Go Go.Ms Go.Pg Go.Rk Go.ChangeShapes Go.WideShapes Go.ChangeAt Go.RowKit Go.Deep

theorem kept2 {w w1 : World} {a : Obj} {x y : Value} {t : TypeId} (h : Below ((w.alloc a).alloc (.cells #[x, y] t)).heap.size ((w.alloc a).alloc (.cells #[x, y] t)) w1) : Kept w (w.alloc a) w1 (w.heap.size + 1) x y := by
  have k := kept (w0 := w) ((Below.refl w.heap.size w).alloc (Nat.le_refl _) a) h
  have e : (w.alloc a).heap.size = w.heap.size + 1 := by simp
  rwa [e] at k

def stray (x : Cn) : Fr := if x.q + x.m = 0 then Q 1 2 else (x.q + x.m, 1)
def damp (x : Cn) : Fr := if x.q ≤ 2 then (x.q, 1) else if x.q ≤ 10 then fplus (2, 1) (Q (x.q - 2) 10) else fplus (Q 28 10) (Q (x.q - 10) 1000)

set_option maxHeartbeats 1000000 in
theorem strays74 (x : Cn) (hx : Small x) (w : World) : Calls Tryz.prog 74 #[cn x] w fun e w' => e = .returned (fr (stray x)) ∧ Below w.heap.size w w' := by
  obtain ⟨⟨h1, h2⟩, ⟨q1, q2⟩, ⟨m1, m2⟩, ⟨r1, r2⟩, ⟨f1, f2⟩, ⟨p1, p2⟩⟩ := hx
  have K1 := Lib.hid (fun w' => quotient66 1 2 ⟨by omega, by omega⟩ ⟨by omega, by omega⟩ w')
  by_cases h0 : x.q + x.m = 0
  · have e0 : ((x.q + x.m) == 0) = true := by simpa using h0
    have HE : Hid (stray x = Q 1 2) := if_pos h0
    clear h0
    go_enter Tryz.func74, Tryz.ntmps74
    go_wp2_with (first | (go_at_call 66; refine (K1.out _).mono ?_; rintro e w1 ⟨rfl, hB⟩; obtain ⟨c0, c1, g0, g1, hz, HB⟩ := kept2 hB; clear hB) | fail)
    refine bodyPost_ret (v := fr (Q 1 2)) (by simp [results, Tryz.results74, go_sem, c0, c1]) rfl ⟨by rw [HE.out], (HB.out.setCell (show w.heap.size ≤ w.heap.size + 1 by omega) _).setCell (show w.heap.size ≤ w.heap.size + 1 by omega) _⟩
  · have e0 : ((x.q + x.m) == 0) = false := by simpa using h0
    have HE : Hid (stray x = (x.q + x.m, 1)) := if_neg h0
    clear h0
    go_enter Tryz.func74, Tryz.ntmps74
    go_wp2_with (first | (go_at_call 69; refine (whole69 _ _).mono ?_; rintro e w1 ⟨rfl, hB⟩; obtain ⟨c0, c1, g0, g1, hz, HB⟩ := kept2 hB; clear hB) | fail)
    refine bodyPost_ret (v := fr (x.q + x.m, 1)) (by simp [results, Tryz.results74, go_sem, c0, c1]) rfl ⟨by rw [HE.out], (HB.out.setCell (show w.heap.size ≤ w.heap.size + 1 by omega) _).setCell (show w.heap.size ≤ w.heap.size + 1 by omega) _⟩

def Cm (w w' : World) (a b : Nat) (x : Cn) : Prop :=
  w'.cell? ⟨a, 1, none⟩ = some (.int .i64 x.q) ∧ w'.cell? ⟨b, 0, none⟩ = some (val w' ⟨b, 0, none⟩) ∧ w'.cell? ⟨b, 1, none⟩ = some (val w' ⟨b, 1, none⟩) ∧ w'.frozen? ⟨b, 0, none⟩ = false ∧ w'.frozen? ⟨b, 1, none⟩ = false ∧
  Hid (a < w'.heap.size ∧ b < w'.heap.size ∧ w.heap.size ≤ b ∧ a ≠ b ∧ Below w.heap.size w w')
theorem Cm.step {w w' w'' : World} {a b : Nat} {x : Cn} (h : Cm w w' a b x) (k : Below w'.heap.size w' w'') : Cm w w'' a b x := by
  obtain ⟨h2, r1, r2, f1, f2, la, lb, o1, o2, hB⟩ := h
  exact ⟨(k.cell (p := ⟨a, 1, none⟩) la).trans h2, val_of ((k.cell (p := ⟨b, 0, none⟩) lb).trans r1), val_of ((k.cell (p := ⟨b, 1, none⟩) lb).trans r2), (k.frozen (p := ⟨b, 0, none⟩) lb).trans f1, (k.frozen (p := ⟨b, 1, none⟩) lb).trans f2,
    Nat.lt_of_lt_of_le la k.size, Nat.lt_of_lt_of_le lb k.size, o1, o2, hB.trans (k.mono hB.size)⟩
theorem Cm.put {w w' : World} {a b : Nat} {x : Cn} (h : Cm w w' a b x) (u v : Value) : Cm w ((w'.setCell ⟨b, 0, none⟩ u).setCell ⟨b, 1, none⟩ v) a b x := by
  obtain ⟨h2, r1, r2, f1, f2, la, lb, o1, o2, hB⟩ := h
  have o3 := o2.symm
  exact ⟨by go_simp, val_of (v := u) (by go_simp), val_of (v := v) (by go_simp), by go_simp, by go_simp, by simpa using la, by simpa using lb, o1, o2, (hB.setCell o1 _).setCell o1 _⟩
theorem Cm.new (w : World) (x : Cn) : Cm w ((w.alloc (.cells #[.int .i64 x.h, .int .i64 x.q, .int .i64 x.m, .int .i64 x.r, .int .i64 x.f, .int .i64 x.p] 87)).alloc (.cells #[.int .i64 0, .int .i64 0] 84)) w.heap.size (w.heap.size + 1) x :=
  ⟨by go_simp, val_of (v := .int .i64 0) (by go_simp), val_of (v := .int .i64 0) (by go_simp), by go_simp, by go_simp, by simp <;> omega, by simp, by omega, by omega, two _ _ _⟩
theorem cmKK {f : FuncId} {args : Array Value} {V : Value} {w w' : World} {a b : Nat} {x : Cn} (h : Cm w w' a b x) (k : Calls Tryz.prog f args w' fun e w'' => e = .returned V ∧ Below w'.heap.size w' w'') : Calls Tryz.prog f args w' fun e w'' => e = .returned V ∧ Cm w w'' a b x :=
  k.mono fun _ _ ⟨e, q⟩ => ⟨e, h.step q⟩
theorem Cm.s {w w' : World} {a b : Nat} {x : Cn} (h : Cm w w' a b x) : w'.cell? ⟨a, 1, none⟩ = some (.int .i64 x.q) ∧ w'.cell? ⟨b, 0, none⟩ = some (val w' ⟨b, 0, none⟩) ∧ w'.cell? ⟨b, 1, none⟩ = some (val w' ⟨b, 1, none⟩) ∧ w'.frozen? ⟨b, 0, none⟩ = false ∧ w'.frozen? ⟨b, 1, none⟩ = false ∧ Hid (Cm w w' a b x) := by
  have k := h
  obtain ⟨h2, r1, r2, f1, f2, _⟩ := k
  exact ⟨h2, r1, r2, f1, f2, h⟩

set_option maxHeartbeats 2000000 in
theorem damped81 (x : Cn) (hx : Small x) (w : World) : Calls Tryz.prog 81 #[cn x] w fun e w' => e = .returned (fr (damp x)) ∧ Below w.heap.size w w' := by
  have hB := Cm.new w x
  obtain ⟨⟨h1, h2⟩, ⟨q1, q2⟩, ⟨m1, m2⟩, ⟨r1, r2⟩, ⟨f1, f2⟩, ⟨p1, p2⟩⟩ := hx
  clear h1 h2 m1 m2 r1 r2 f1 f2 p1 p2
  by_cases a1 : x.q ≤ 2
  · have HE : Hid (damp x = (x.q, 1)) := if_pos a1
    clear hB
    go_enter Tryz.func81, Tryz.ntmps81
    go_wp2_with (first | (go_at_call 69; refine (whole69 _ _).mono ?_; rintro e w1 ⟨rfl, hB⟩; obtain ⟨c0, c1, g0, g1, hz, HB⟩ := kept2 hB; clear hB) | fail)
    refine bodyPost_ret (v := fr (x.q, 1)) (by simp [results, Tryz.results81, go_sem, c0, c1]) rfl ⟨by rw [HE.out], (HB.out.setCell (show w.heap.size ≤ w.heap.size + 1 by omega) _).setCell (show w.heap.size ≤ w.heap.size + 1 by omega) _⟩
  · by_cases a2 : x.q ≤ 10
    · have HE : Hid (damp x = fplus (2, 1) (Q (x.q - 2) 10)) := by unfold damp; rw [if_neg a1, if_pos a2]; rfl
      have K1 := Lib.hid (fun w' => quotient66 (x.q - 2) 10 ⟨by omega, by omega⟩ ⟨by omega, by omega⟩ w')
      have K2 := Lib.hid (fun w' => plus67 (2, 1) (Q (x.q - 2) 10) ⟨by decide, by decide, by decide, by decide⟩ (Q_bd (by decide) (by decide) ⟨by omega, by omega⟩ ⟨by omega, by omega⟩) w')
      have e0 := wr (n := x.q - 2) ⟨by omega, by omega⟩
      go_enter Tryz.func81, Tryz.ntmps81
      go_upto_region 4 with (fail)
      have hD : Cm w ((w.alloc (.cells #[.int .i64 x.h, .int .i64 x.q, .int .i64 x.m, .int .i64 x.r, .int .i64 x.f, .int .i64 x.p] 87)).alloc (.cells #[.int .i64 0, .int .i64 0] 84)).drew w.heap.size (w.heap.size + 1) x := hB.step ⟨rfl, rfl, rfl, Nat.le_refl _, fun _ _ => rfl⟩
      have HB := Lib.hid hD
      clear hB hD
      generalize ((w.alloc (.cells #[.int .i64 x.h, .int .i64 x.q, .int .i64 x.m, .int .i64 x.r, .int .i64 x.f, .int .i64 x.p] 87)).alloc (.cells #[.int .i64 0, .int .i64 0] 84)) = w0 at *
      generalize w.heap.size + 1 = b at *
      clear q1 q2 a1 a2
      go_region_held (fun w' => w'.cell? ⟨w.heap.size, 1, none⟩ = some (.int .i64 x.q) ∧ w'.cell? ⟨b, 0, none⟩ = some (val w' ⟨b, 0, none⟩) ∧ w'.cell? ⟨b, 1, none⟩ = some (val w' ⟨b, 1, none⟩) ∧ w'.frozen? ⟨b, 0, none⟩ = false ∧ w'.frozen? ⟨b, 1, none⟩ = false ∧ Hid (Cm w w' w.heap.size b x))
        (first | (with_reducible exact Cm.s HB.out) | (with_reducible exact Cm.s HS.out) | (with_reducible exact Cm.s (Cm.put HS.out _ _)))
        (first
          | (go_at_call 69; with_reducible refine (cmKK HB.out (whole69 _ _)).mono ?_; rintro e w4 ⟨rfl, hS⟩; have HS := Lib.hid hS; clear hS)
          | (go_at_call 66; with_reducible refine (cmKK HS.out (K1.out _)).mono ?_; rintro e w4 ⟨rfl, hS⟩; have HS := Lib.hid hS; clear hS)
          | (go_at_call 67; with_reducible refine (cmKK HS.out (K2.out _)).mono ?_; rintro e w4 ⟨rfl, hS⟩; have HS := Lib.hid hS; clear hS))
      all_goals
        go_wp2_with fail
        obtain ⟨_, r1, r2, _, _, la, lb, o1, o2, hB⟩ := HS.out
        refine bodyPost_ret (v := fr (fplus (2, 1) (Q (x.q - 2) 10))) (by simp [results, Tryz.results81, go_sem, r1, r2]) rfl ⟨by rw [HE.out], (hB.setCell o1 _).setCell o1 _⟩
    · have HE : Hid (damp x = fplus (Q 28 10) (Q (x.q - 10) 1000)) := by unfold damp; rw [if_neg a1, if_neg a2]; rfl
      have K3 := Lib.hid (fun w' => quotient66 28 10 ⟨by omega, by omega⟩ ⟨by omega, by omega⟩ w')
      have K1 := Lib.hid (fun w' => quotient66 (x.q - 10) 1000 ⟨by omega, by omega⟩ ⟨by omega, by omega⟩ w')
      have K2 := Lib.hid (fun w' => plus67 (Q 28 10) (Q (x.q - 10) 1000) (Q_bd (by decide) (by decide) ⟨by omega, by omega⟩ ⟨by omega, by omega⟩) (Q_bd (by decide) (by decide) ⟨by omega, by omega⟩ ⟨by omega, by omega⟩) w')
      have e0 := wr (n := x.q - 10) ⟨by omega, by omega⟩
      go_enter Tryz.func81, Tryz.ntmps81
      go_upto_region 5 with (fail)
      have hD : Cm w ((w.alloc (.cells #[.int .i64 x.h, .int .i64 x.q, .int .i64 x.m, .int .i64 x.r, .int .i64 x.f, .int .i64 x.p] 87)).alloc (.cells #[.int .i64 0, .int .i64 0] 84)).drew w.heap.size (w.heap.size + 1) x := hB.step ⟨rfl, rfl, rfl, Nat.le_refl _, fun _ _ => rfl⟩
      have HB := Lib.hid hD
      clear hB hD
      generalize ((w.alloc (.cells #[.int .i64 x.h, .int .i64 x.q, .int .i64 x.m, .int .i64 x.r, .int .i64 x.f, .int .i64 x.p] 87)).alloc (.cells #[.int .i64 0, .int .i64 0] 84)) = w0 at *
      generalize w.heap.size + 1 = b at *
      clear q1 q2 a1 a2
      go_region_held (fun w' => w'.cell? ⟨w.heap.size, 1, none⟩ = some (.int .i64 x.q) ∧ w'.cell? ⟨b, 0, none⟩ = some (val w' ⟨b, 0, none⟩) ∧ w'.cell? ⟨b, 1, none⟩ = some (val w' ⟨b, 1, none⟩) ∧ w'.frozen? ⟨b, 0, none⟩ = false ∧ w'.frozen? ⟨b, 1, none⟩ = false ∧ Hid (Cm w w' w.heap.size b x))
        (first | (with_reducible exact Cm.s HB.out) | (with_reducible exact Cm.s HS.out) | (with_reducible exact Cm.s (Cm.put HS.out _ _)))
        (first
          | (go_at_call 69; with_reducible refine (cmKK HB.out (whole69 _ _)).mono ?_; rintro e w4 ⟨rfl, hS⟩; have HS := Lib.hid hS; clear hS)
          | (go_at_call 66; with_reducible refine (cmKK HS.out (K1.out _)).mono ?_; rintro e w4 ⟨rfl, hS⟩; have HS := Lib.hid hS; clear hS)
          | (go_at_call 66; with_reducible refine (cmKK HS.out (K3.out _)).mono ?_; rintro e w4 ⟨rfl, hS⟩; have HS := Lib.hid hS; clear hS)
          | (go_at_call 66; with_reducible refine (cmKK HB.out (K3.out _)).mono ?_; rintro e w4 ⟨rfl, hS⟩; have HS := Lib.hid hS; clear hS)
          | (go_at_call 67; with_reducible refine (cmKK HS.out (K2.out _)).mono ?_; rintro e w4 ⟨rfl, hS⟩; have HS := Lib.hid hS; clear hS))
      all_goals
        go_wp2_with fail
        obtain ⟨_, r1, r2, _, _, la, lb, o1, o2, hB⟩ := HS.out
        refine bodyPost_ret (v := fr (fplus (Q 28 10) (Q (x.q - 10) 1000))) (by simp [results, Tryz.results81, go_sem, r1, r2]) rfl ⟨by rw [HE.out], (hB.setCell o1 _).setCell o1 _⟩
end Go.Proofs.YtmgegkgelecopaaGreatDoor.Rk

