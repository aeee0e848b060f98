import Derived.Test.YtmkapmbmgpnjaaaGmB
set_option maxRecDepth 100000
namespace Go.Proofs.Ytmkapmbmgpnjaaa.Se
open Go Go.Ms Go.Pg Go.Bi Go.Se Go.ChangeShapes Go.WideShapes Go.ChangeAt Go.RowKit Go.Deep Go.Proofs.Ytmkapmbmgpnjaaa.Bi

/-! A search that asks sets, as a tree: what it asks first, and how it goes on with each answer. -/

def memQ (q : Q4) (n : Nat) : Bool := if n < 64 then q.a.testBit n else if n < 128 then q.b.testBit (n - 64) else if n < 192 then q.c.testBit (n - 128) else q.d.testBit (n - 192)
theorem sp_mem {q : Q4} (h : q.Ok) : Sp (memQ q) q.a q.b q.c q.d where
  ha := h.a
  hb := h.b
  hc := h.c
  hd := h.d
  h0 r hr := by unfold memQ; rw [if_pos hr]
  h1 r hr := by unfold memQ; rw [if_neg (by omega), if_pos (by omega)]; congr 1; omega
  h2 r hr := by unfold memQ; rw [if_neg (by omega), if_neg (by omega), if_pos (by omega)]; congr 1; omega
  h3 r hr := by unfold memQ; rw [if_neg (by omega), if_neg (by omega), if_neg (by omega)]; congr 1; omega
theorem word_ext {x y : Nat} (hx : x < 2 ^ 64) (hy : y < 2 ^ 64) (h : ∀ r, r < 64 → x.testBit r = y.testBit r) : x = y := by
  apply Nat.eq_of_testBit_eq
  intro i
  by_cases hi : i < 64
  · exact h i hi
  · rw [Nat.testBit_lt_two_pow (Nat.lt_of_lt_of_le hx (Nat.pow_le_pow_right (by decide) (by omega))), Nat.testBit_lt_two_pow (Nat.lt_of_lt_of_le hy (Nat.pow_le_pow_right (by decide) (by omega)))]
theorem sp_ext {p q : Nat → Bool} {s t : Q4} (h : Sp p s.a s.b s.c s.d) (k : Sp q t.a t.b t.c t.d) (e : ∀ n, n < 256 → p n = q n) : s = t := by
  cases s; cases t
  simp only [Q4.mk.injEq]
  exact ⟨word_ext h.ha k.ha fun r hr => by rw [← h.h0 r hr, ← k.h0 r hr]; exact e _ (by omega), word_ext h.hb k.hb fun r hr => by rw [← h.h1 r hr, ← k.h1 r hr]; exact e _ (by omega),
    word_ext h.hc k.hc fun r hr => by rw [← h.h2 r hr, ← k.h2 r hr]; exact e _ (by omega), word_ext h.hd k.hd fun r hr => by rw [← h.h3 r hr, ← k.h3 r hr]; exact e _ (by omega)⟩
theorem mem_ext {s t : Q4} (h : s.Ok) (k : t.Ok) (e : ∀ n, n < 256 → memQ s n = memQ t n) : s = t := sp_ext (sp_mem h) (sp_mem k) e
theorem sp_is {p : Nat → Bool} {s : Q4} (h : Sp p s.a s.b s.c s.d) {n : Nat} (hn : n < 256) : memQ s n = p n := Sp.same (sp_mem (Sp.ok h)) h hn

inductive Tr where
  | fin (kept pass : List Int)
  | err (x : Int)
  | ask (q : Q4) (k : Int → Tr)

def play : Tr → List Int → List (Q4 × Int) → Rs
  | .fin k p, l, _ => .fin k p l
  | .err x, _, _ => .err x
  | .ask q k, l, T => match memo T q with
    | some v => play (k v) l T
    | none => match l with
      | [] => .ask (memQ q)
      | x :: l => play (k x) l ((q, x) :: T)
theorem play_known {q : Q4} {k : Int → Tr} {l : List Int} {T : List (Q4 × Int)} {v : Int} (h : memo T q = some v) : play (.ask q k) l T = play (k v) l T := by rw [play.eq_def]; simp only [h]
theorem play_stop {q : Q4} {k : Int → Tr} {T : List (Q4 × Int)} (h : memo T q = none) : play (.ask q k) [] T = .ask (memQ q) := by rw [play.eq_def]; simp only [h]
theorem play_next {q : Q4} {k : Int → Tr} {x : Int} {l : List Int} {T : List (Q4 × Int)} (h : memo T q = none) : play (.ask q k) (x :: l) T = play (k x) l ((q, x) :: T) := by rw [play.eq_def]; simp only [h]

def trace (o : Q4 → Int) : Tr → List (Q4 × Int) → List Q4
  | .fin _ _, _ => []
  | .err _, _ => []
  | .ask q k, T => match memo T q with
    | some v => trace o (k v) T
    | none => q :: trace o (k (o q)) ((q, o q) :: T)
def leaf (o : Q4 → Int) : Tr → List Int → Rs
  | .fin k p, l => .fin k p l
  | .err x, _ => .err x
  | .ask q k, l => leaf o (k (o q)) l

def TrueTo (o : Q4 → Int) (T : List (Q4 × Int)) : Prop := ∀ e ∈ T, e.2 = o e.1
theorem memo_true {o : Q4 → Int} {T : List (Q4 × Int)} (hT : TrueTo o T) {q : Q4} {v : Int} (h : memo T q = some v) : v = o q := by
  induction T with
  | nil => cases h
  | cons e T ih =>
    unfold memo at h
    by_cases c : e.1 = q
    · rw [if_pos c] at h
      injection h with h
      rw [← h, hT e (by simp), c]
    · rw [if_neg c] at h
      exact ih (fun x hx => hT x (by simp [hx])) h
theorem TrueTo.cons {o : Q4 → Int} {T : List (Q4 × Int)} (hT : TrueTo o T) (q : Q4) : TrueTo o ((q, o q) :: T) := fun e he => by
  rcases List.mem_cons.1 he with rfl | he
  · rfl
  · exact hT e he

theorem play_asks {o : Q4 → Int} : ∀ {t : Tr} {T : List (Q4 × Int)} {k : Nat}, TrueTo o T → (h : k < (trace o t T).length) → play t (((trace o t T).take k).map o) T = .ask (memQ (trace o t T)[k])
  | .fin _ _, _, _, _, h => absurd h (by simp [trace])
  | .err _, _, _, _, h => absurd h (by simp [trace])
  | .ask q f, T, k, hT, h => by
    cases hm : memo T q with
    | some v =>
      have e : trace o (.ask q f) T = trace o (f v) T := by rw [trace, hm]
      simp only [e] at h ⊢
      rw [play_known hm]
      exact play_asks hT h
    | none =>
      have e : trace o (.ask q f) T = q :: trace o (f (o q)) ((q, o q) :: T) := by rw [trace, hm]
      simp only [e] at h ⊢
      cases k with
      | zero => rw [List.take_zero, List.map_nil, play_stop hm]; rfl
      | succ k =>
        rw [List.take_succ_cons, List.map_cons, play_next hm]
        exact play_asks (hT.cons q) (by simpa using h)
theorem play_ends {o : Q4 → Int} : ∀ {t : Tr} {T : List (Q4 × Int)} (l : List Int), TrueTo o T → play t ((trace o t T).map o ++ l) T = leaf o t l
  | .fin _ _, _, _, _ => by simp [trace, play, leaf]
  | .err _, _, _, _ => by simp [play, leaf]
  | .ask q f, T, l, hT => by
    cases hm : memo T q with
    | some v =>
      have e : trace o (.ask q f) T = trace o (f v) T := by rw [trace, hm]
      rw [e, play_known hm, play_ends l hT, leaf, memo_true hT hm]
    | none =>
      have e : trace o (.ask q f) T = q :: trace o (f (o q)) ((q, o q) :: T) := by rw [trace, hm]
      rw [e, List.map_cons, List.cons_append, play_next hm, play_ends l (hT.cons q), leaf]
theorem trace_nodup {o : Q4 → Int} : ∀ {t : Tr} {T : List (Q4 × Int)}, (trace o t T).Nodup ∧ ∀ q ∈ trace o t T, memo T q = none
  | .fin _ _, _ => by simp [trace]
  | .err _, _ => by simp [trace]
  | .ask q f, T => by
    cases hm : memo T q with
    | some v =>
      have e : trace o (.ask q f) T = trace o (f v) T := by rw [trace, hm]
      rw [e]
      exact trace_nodup
    | none =>
      have e : trace o (.ask q f) T = q :: trace o (f (o q)) ((q, o q) :: T) := by rw [trace, hm]
      rw [e]
      obtain ⟨h1, h2⟩ := trace_nodup (o := o) (t := f (o q)) (T := (q, o q) :: T)
      have h3 : ∀ x ∈ trace o (f (o q)) ((q, o q) :: T), x ≠ q ∧ memo T x = none := fun x hx => by
        have := h2 x hx
        unfold memo at this
        by_cases c : q = x
        · rw [if_pos c] at this; cases this
        · rw [if_neg c] at this; exact ⟨fun y => c y.symm, this⟩
      refine ⟨List.nodup_cons.2 ⟨fun hq => (h3 q hq).1 rfl, h1⟩, fun x hx => ?_⟩
      rcases List.mem_cons.1 hx with rfl | hx
      · exact hm
      · exact (h3 x hx).2
inductive Asks (P : Q4 → Prop) : Tr → Prop where
  | fin (k p : List Int) : Asks P (.fin k p)
  | err (x : Int) : Asks P (.err x)
  | ask {q : Q4} {k : Int → Tr} (h : P q) (hk : ∀ x, Asks P (k x)) : Asks P (.ask q k)
theorem trace_asks {o : Q4 → Int} {P : Q4 → Prop} {t : Tr} (h : Asks P t) : ∀ {T : List (Q4 × Int)}, ∀ q ∈ trace o t T, P q := by
  induction h with
  | fin => intro T q hq; simp [trace] at hq
  | err => intro T q hq; simp [trace] at hq
  | @ask q k h hk ih =>
    intro T x hx
    cases hm : memo T q with
    | some v =>
      rw [trace, hm] at hx
      exact ih _ x hx
    | none =>
      rw [trace, hm] at hx
      rcases List.mem_cons.1 hx with rfl | hx
      · exact h
      · exact ih _ x hx
theorem nodup_below : ∀ {m : Nat} {l : List Nat}, l.Nodup → (∀ x ∈ l, x < m) → l.length ≤ m
  | 0, l, _, h => by
    cases l with
    | nil => simp
    | cons x l => exact absurd (h x (by simp)) (by omega)
  | m + 1, l, hd, h => by
    by_cases c : m ∈ l
    · have := nodup_below (m := m) (hd.erase m) fun x hx => by
        have h1 := h x (List.mem_of_mem_erase hx)
        have h2 : x ≠ m := fun e => by subst e; exact (List.Nodup.not_mem_erase hd) hx
        omega
      rw [List.length_erase_of_mem c] at this
      omega
    · have := nodup_below (m := m) hd fun x hx => by
        have h1 := h x hx
        have h2 : x ≠ m := fun e => c (e ▸ hx)
        omega
      omega
structure LowQ (n : Nat) (q : Q4) : Prop where
  ok : q.Ok
  low : ∀ i, i < 256 → n ≤ i → memQ q i = false
theorem small_word {n : Nat} (hn : n ≤ 64) {q : Q4} (h : LowQ n q) : q.a < 2 ^ n ∧ q.b = 0 ∧ q.c = 0 ∧ q.d = 0 := by
  have s := sp_mem h.ok
  refine ⟨?_, word_ext h.ok.b (by decide) fun r hr => ?_, word_ext h.ok.c (by decide) fun r hr => ?_, word_ext h.ok.d (by decide) fun r hr => ?_⟩
  · have : q.a = q.a % 2 ^ n := Nat.eq_of_testBit_eq fun i => by
      rw [Nat.testBit_mod_two_pow]
      by_cases c : i < n
      · rw [decide_eq_true c, Bool.true_and]
      · rw [decide_eq_false c, Bool.false_and]
        by_cases d : i < 64
        · rw [← s.h0 i d]; exact h.low i (by omega) (by omega)
        · exact Nat.testBit_lt_two_pow (Nat.lt_of_lt_of_le h.ok.a (Nat.pow_le_pow_right (by decide) (by omega)))
    rw [this]
    exact Nat.mod_lt _ (Nat.two_pow_pos n)
  · rw [← s.h1 r hr, Nat.zero_testBit]; exact h.low _ (by omega) (by omega)
  · rw [← s.h2 r hr, Nat.zero_testBit]; exact h.low _ (by omega) (by omega)
  · rw [← s.h3 r hr, Nat.zero_testBit]; exact h.low _ (by omega) (by omega)
theorem small_few {n : Nat} (hn : n ≤ 64) {l : List Q4} (hd : l.Nodup) (h : ∀ q ∈ l, LowQ n q) : l.length ≤ 2 ^ n := by
  have := nodup_below (m := 2 ^ n) (l := l.map Q4.a) (by
    rw [List.nodup_iff_pairwise_ne, List.pairwise_map]
    refine hd.imp_of_mem fun {x y} hx hy hne e => hne ?_
    obtain ⟨-, x1, x2, x3⟩ := small_word hn (h x hx)
    obtain ⟨-, y1, y2, y3⟩ := small_word hn (h y hy)
    cases x; cases y
    simp_all) (fun x hx => by
      obtain ⟨q, hq, rfl⟩ := List.mem_map.1 hx
      exact (small_word hn (h q hq)).1)
  simpa using this
end Go.Proofs.Ytmkapmbmgpnjaaa.Se

set_option maxRecDepth 100000
namespace Go.Proofs.Ytmkapmbmgpnjaaa.Se
open Go Go.Ms Go.Pg Go.Bi Go.Se Go.ChangeShapes Go.WideShapes Go.ChangeAt Go.RowKit Go.Deep Go.Proofs.Ytmkapmbmgpnjaaa.Bi

/-! The search for a difference, as a tree. -/

def wordP (p : Nat → Bool) : Nat → Nat
  | 0 => 0
  | n + 1 => if p n then 2 ^ n + wordP p n else wordP p n
theorem wordP_lt (p : Nat → Bool) : ∀ n, wordP p n < 2 ^ n
  | 0 => by simp [wordP]
  | n + 1 => by
    have := wordP_lt p n
    unfold wordP
    split <;> omega
theorem wordP_bit (p : Nat → Bool) : ∀ n r, r < n → (wordP p n).testBit r = p r
  | 0, r, h => absurd h (by omega)
  | n + 1, r, h => by
    have hl := wordP_lt p n
    unfold wordP
    by_cases c : r = n
    · subst c
      cases hp : p r with
      | true => rw [if_pos rfl, Nat.testBit_two_pow_add_eq, Nat.testBit_lt_two_pow hl]; rfl
      | false => rw [if_neg (by simp), Nat.testBit_lt_two_pow hl]
    · have ih := wordP_bit p n r (by omega)
      cases hp : p n with
      | true => rw [if_pos rfl, Nat.testBit_two_pow_add_gt (by omega), ih]
      | false => rw [if_neg (by simp), ih]
def ofP (p : Nat → Bool) : Q4 := ⟨wordP p 64, wordP (fun r => p (64 + r)) 64, wordP (fun r => p (128 + r)) 64, wordP (fun r => p (192 + r)) 64⟩
theorem sp_of (p : Nat → Bool) : Sp p (ofP p).a (ofP p).b (ofP p).c (ofP p).d :=
  ⟨wordP_lt _ _, wordP_lt _ _, wordP_lt _ _, wordP_lt _ _, fun r h => (wordP_bit _ _ r h).symm, fun r h => (wordP_bit (fun r => p (64 + r)) _ r h).symm, fun r h => (wordP_bit (fun r => p (128 + r)) _ r h).symm, fun r h => (wordP_bit (fun r => p (192 + r)) _ r h).symm⟩
theorem ofP_ok (p : Nat → Bool) : (ofP p).Ok := Sp.ok (sp_of p)
theorem mem_of (p : Nat → Bool) {n : Nat} (h : n < 256) : memQ (ofP p) n = p n := sp_is (sp_of p) h
theorem is_of {p : Nat → Bool} {s : Q4} (h : Sp p s.a s.b s.c s.d) : s = ofP p := sp_ext h (sp_of p) fun _ _ => rfl

def orQ (p q : Q4) : Q4 := ⟨p.a ||| q.a, p.b ||| q.b, p.c ||| q.c, p.d ||| q.d⟩
def lessQ (p q : Q4) : Q4 := ⟨less p.a q.a, less p.b q.b, less p.c q.c, less p.d q.d⟩
theorem sp_or {p q : Nat → Bool} {s t : Q4} (h : Sp p s.a s.b s.c s.d) (k : Sp q t.a t.b t.c t.d) : Sp (fun n => p n || q n) (orQ s t).a (orQ s t).b (orQ s t).c (orQ s t).d := by
  refine ⟨Nat.or_lt_two_pow h.ha k.ha, Nat.or_lt_two_pow h.hb k.hb, Nat.or_lt_two_pow h.hc k.hc, Nat.or_lt_two_pow h.hd k.hd, fun r hr => ?_, fun r hr => ?_, fun r hr => ?_, fun r hr => ?_⟩
  · simp only [orQ, Nat.testBit_or, h.h0 r hr, k.h0 r hr]
  · simp only [orQ, Nat.testBit_or, h.h1 r hr, k.h1 r hr]
  · simp only [orQ, Nat.testBit_or, h.h2 r hr, k.h2 r hr]
  · simp only [orQ, Nat.testBit_or, h.h3 r hr, k.h3 r hr]
theorem or_ok {s t : Q4} (h : s.Ok) (k : t.Ok) : (orQ s t).Ok := Sp.ok (sp_or (sp_mem h) (sp_mem k))
theorem less_ok {s t : Q4} (h : s.Ok) (k : t.Ok) : (lessQ s t).Ok := Sp.ok (Sp_less (sp_mem h) (sp_mem k))
theorem mem_or {s t : Q4} (h : s.Ok) (k : t.Ok) {n : Nat} (hn : n < 256) : memQ (orQ s t) n = (memQ s n || memQ t n) := sp_is (sp_or (sp_mem h) (sp_mem k)) hn
theorem mem_less {s t : Q4} (h : s.Ok) (k : t.Ok) {n : Nat} (hn : n < 256) : memQ (lessQ s t) n = (memQ s n && !memQ t n) := sp_is (s := lessQ s t) (Sp_less (sp_mem h) (sp_mem k)) hn

def listQ (q : Q4) : List Nat := (List.range 256).filter (memQ q)
theorem listQ_ofN (q : Q4) : (listQ q).map Int.ofNat = upTo (memQ q) 256 := rfl
theorem mem_listQ {q : Q4} {n : Nat} : n ∈ listQ q ↔ n < 256 ∧ memQ q n = true := by simp [listQ]
theorem listQ_sorted (q : Q4) : (listQ q).Pairwise (· < ·) := List.pairwise_lt_range.filter _
theorem listQ_lt {q : Q4} {n : Nat} (h : n ∈ listQ q) : n < 256 := (mem_listQ.1 h).1

structure Bs where
  pass : Q4
  fail : Q4
  g : Nat
def moved (b : Bs) (c : Q4) (w r : Int) : Option Bs :=
  if w = 2 then some ⟨b.pass, orQ b.pass c, 2⟩ else if r = 1 then some ⟨lessQ b.fail c, b.fail, 2⟩
  else if w = 1 then some ⟨orQ b.pass c, b.fail, max (b.g - 1) 2⟩ else if r = 2 then some ⟨b.pass, lessQ b.fail c, max (b.g - 1) 2⟩ else none
def moveT (b : Bs) (c : Q4) (k : Option Bs → Tr) : Tr := .ask (orQ b.pass c) fun w => .ask (lessQ b.fail c) fun r => k (moved b c w r)
def between (b : Bs) : List Nat := listQ (lessQ b.fail b.pass)
def piece (l : List Nat) (count k : Nat) : List Nat := (l.take ((k + 1) * l.length / count)).drop (k * l.length / count)
def pieceQ (l : List Nat) (count k : Nat) : Q4 := ofP (among (piece l count k))
def rounds (b : Bs) (l : List Nat) (count : Nat) (k : Option Bs → Tr) : Nat → Nat → Tr
  | 0, _ => k none
  | n + 1, i => moveT b (pieceQ l count i) fun
    | some b' => k (some b')
    | none => rounds b l count k n (i + 1)
def doneT (b : Bs) : Tr := .fin (upTo (memQ b.fail) 256) (upTo (memQ b.pass) 256)
def finer (b : Bs) : Bs := ⟨b.pass, b.fail, min (2 * b.g) (between b).length⟩
def countOf (b : Bs) : Nat := min (max b.g 1) (between b).length
def diffT : Nat → Bs → Tr
  | 0, _ => .fin [] []
  | f + 1, b => if (between b).length < 2 then doneT b else
    rounds b (between b) (countOf b) (fun
      | some b' => diffT f b'
      | none => if b.g < (between b).length then diffT f (finer b) else doneT b) (countOf b) 0
def zeroQ : Q4 := ⟨0, 0, 0, 0⟩
def allQ (n : Nat) : Q4 := ofP fun i => decide (i < n)
def diff (n : Nat) : Tr := .ask zeroQ fun v => if v = 1 then .ask (allQ n) fun v => if v = 2 then diffT 70000 ⟨zeroQ, allQ n, 2⟩ else .err 7 else .err 7

structure Fit (n : Nat) (b : Bs) : Prop where
  pass : b.pass.Ok
  fail : LowQ n b.fail
  sub : ∀ i, i < 256 → memQ b.pass i = true → memQ b.fail i = true
  gran : 2 ≤ b.g ∧ b.g ≤ 256
theorem zero_ok : zeroQ.Ok := ⟨by decide, by decide, by decide, by decide⟩
theorem mem_zero {i : Nat} (h : i < 256) : memQ zeroQ i = false := sp_is (s := zeroQ) Sp.zero h
theorem small_all {n : Nat} : LowQ n (allQ n) := ⟨ofP_ok _, fun i hi h => by rw [allQ, mem_of _ hi]; exact decide_eq_false (by omega)⟩
theorem fit_start (n : Nat) : Fit n ⟨zeroQ, allQ n, 2⟩ := ⟨zero_ok, small_all, fun i hi h => (by rw [mem_zero hi] at h; cases h), ⟨Nat.le_refl _, by show 2 ≤ 256; decide⟩⟩
theorem Fit.small_pass {n : Nat} {b : Bs} (h : Fit n b) : LowQ n b.pass := ⟨h.pass, fun i hi hn => by
  cases c : memQ b.pass i with
  | false => rfl
  | true => rw [← h.sub i hi c, h.fail.low i hi hn]⟩
theorem mem_between {n : Nat} {b : Bs} (h : Fit n b) {i : Nat} : i ∈ between b ↔ i < 256 ∧ memQ b.fail i = true ∧ memQ b.pass i = false := by
  unfold between
  rw [mem_listQ]
  constructor
  · rintro ⟨hi, k⟩
    rw [mem_less h.fail.ok h.pass hi] at k
    simpa [hi] using k
  · rintro ⟨hi, k1, k2⟩
    exact ⟨hi, by rw [mem_less h.fail.ok h.pass hi, k1, k2]; rfl⟩
theorem piece_sub {l : List Nat} {count k : Nat} {i : Nat} (h : i ∈ piece l count k) : i ∈ l := List.mem_of_mem_take (List.mem_of_mem_drop h)
theorem mem_piece {l : List Nat} {count k i : Nat} (hi : i < 256) : memQ (pieceQ l count k) i = true ↔ i ∈ piece l count k := by rw [pieceQ, mem_of _ hi]; simp [among]
theorem piece_length {l : List Nat} {count k : Nat} (hk : k < count) : (piece l count k).length = (k + 1) * l.length / count - k * l.length / count := by
  unfold piece
  rw [List.length_drop, List.length_take]
  have : (k + 1) * l.length / count ≤ l.length := by
    apply Nat.div_le_of_le_mul
    exact Nat.mul_le_mul_right _ hk
  omega
theorem piece_some {l : List Nat} {count k : Nat} (hk : k < count) (hc : count ≤ l.length) : 0 < (piece l count k).length := by
  rw [piece_length hk, Nat.succ_mul]
  have h1 : k * l.length / count + 1 ≤ (k * l.length + l.length) / count := by
    have : (k * l.length + count) / count = k * l.length / count + 1 := Nat.add_div_right _ (by omega)
    rw [← this]
    exact Nat.div_le_div_right (by omega)
  omega
theorem piece_less {l : List Nat} {count k : Nat} (hk : k < count) (h2 : 2 ≤ count) (hc : count ≤ l.length) : (piece l count k).length < l.length := by
  rw [piece_length hk]
  by_cases c : k + 1 = count
  · have h1 : 1 ≤ k * l.length / count := by
      rw [Nat.le_div_iff_mul_le (by omega)]
      have : 1 * l.length ≤ k * l.length := Nat.mul_le_mul_right _ (by omega)
      omega
    have : (k + 1) * l.length / count ≤ l.length := Nat.div_le_of_le_mul (Nat.mul_le_mul_right _ hk)
    omega
  · have h1 : (k + 1) * l.length / count < l.length := by
      rw [Nat.div_lt_iff_lt_mul (by omega), Nat.mul_comm l.length]
      exact Nat.mul_lt_mul_of_pos_right (by omega) (by omega)
    exact Nat.lt_of_le_of_lt (Nat.sub_le _ _) h1
end Go.Proofs.Ytmkapmbmgpnjaaa.Se

set_option maxRecDepth 100000
namespace Go.Proofs.Ytmkapmbmgpnjaaa.Se
open Go Go.Ms Go.Pg Go.Bi Go.Se Go.ChangeShapes Go.WideShapes Go.ChangeAt Go.RowKit Go.Deep Go.Proofs.Ytmkapmbmgpnjaaa.Bi

/-! The search for a difference comes to an end, and to what is asked of it. -/

theorem sorted_ext : ∀ {l m : List Nat}, l.Pairwise (· < ·) → m.Pairwise (· < ·) → (∀ x, x ∈ l ↔ x ∈ m) → l = m
  | [], [], _, _, _ => rfl
  | [], b :: m, _, _, h => absurd ((h b).2 (by simp)) (by simp)
  | a :: l, [], _, _, h => absurd ((h a).1 (by simp)) (by simp)
  | a :: l, b :: m, hl, hm, h => by
    rw [List.pairwise_cons] at hl hm
    have hab : a = b := by
      have h1 := (h a).1 (by simp)
      have h2 := (h b).2 (by simp)
      rcases List.mem_cons.1 h1 with e | e
      · exact e
      · rcases List.mem_cons.1 h2 with f | f
        · exact f.symm
        · have := hm.1 a e; have := hl.1 b f; omega
    subst hab
    have := sorted_ext hl.2 hm.2 fun x => by
      have hx := h x
      simp only [List.mem_cons] at hx
      constructor
      · intro q
        have := hl.1 x q
        rcases hx.1 (.inr q) with e | e
        · omega
        · exact e
      · intro q
        have := hm.1 x q
        rcases hx.2 (.inr q) with e | e
        · omega
        · exact e
    rw [this]

theorem nodup_of_sorted {l : List Nat} (h : l.Pairwise (· < ·)) : l.Nodup := h.imp fun h => Nat.ne_of_lt h
theorem between_sorted (b : Bs) : (between b).Pairwise (· < ·) := listQ_sorted _
theorem between_le (b : Bs) : (between b).length ≤ 256 := by
  have := List.length_filter_le (memQ (lessQ b.fail b.pass)) (List.range 256)
  simpa [between, listQ] using this
theorem piece_sorted {l : List Nat} (h : l.Pairwise (· < ·)) (count k : Nat) : (piece l count k).Pairwise (· < ·) := (h.sublist (List.take_sublist _ _)).sublist (List.drop_sublist _ _)
theorem filter_split (p : Nat → Bool) : ∀ l : List Nat, (l.filter fun i => !p i).length + (l.filter p).length = l.length
  | [] => rfl
  | x :: l => by
    have := filter_split p l
    cases h : p x <;> simp [h] <;> omega
def rest (l : List Nat) (count k : Nat) : List Nat := l.filter fun i => !decide (i ∈ piece l count k)
theorem rest_length {l : List Nat} (h : l.Pairwise (· < ·)) (count k : Nat) : (rest l count k).length + (piece l count k).length = l.length := by
  have e : l.filter (fun i => decide (i ∈ piece l count k)) = piece l count k := sorted_ext (h.filter _) (piece_sorted h _ _) fun x => by
    simp only [List.mem_filter, decide_eq_true_eq]
    exact ⟨fun q => q.2, fun q => ⟨piece_sub q, q⟩⟩
  have := filter_split (fun i => decide (i ∈ piece l count k)) l
  rw [e] at this
  exact this

theorem moved_fit {n : Nat} {b b' : Bs} {k count : Nat} {w r : Int} (h : Fit n b) (hk : k < count) (h2 : 2 ≤ count) (hc : count ≤ (between b).length) (hm : moved b (pieceQ (between b) count k) w r = some b') :
    Fit n b' ∧ 0 < (between b').length ∧ (between b').length < (between b).length := by
  have ok : (pieceQ (between b) count k).Ok := ofP_ok _
  have mc : ∀ {i}, i < 256 → (memQ (pieceQ (between b) count k) i = true ↔ i ∈ piece (between b) count k) := fun hi => mem_piece hi
  have pl := piece_less hk h2 hc
  have ps := piece_some hk hc
  have rl := rest_length (between_sorted b) count k
  have pm : ∀ {i}, i ∈ piece (between b) count k → i < 256 ∧ memQ b.fail i = true ∧ memQ b.pass i = false := fun hi => (mem_between h).1 (piece_sub hi)
  have piece_is : ∀ b1 : Bs, Fit n b1 → (∀ i, i < 256 → ((memQ b1.fail i = true ∧ memQ b1.pass i = false) ↔ i ∈ piece (between b) count k)) → 0 < (between b1).length ∧ (between b1).length < (between b).length := fun b1 f1 e => by
    have : between b1 = piece (between b) count k := sorted_ext (between_sorted _) (piece_sorted (between_sorted _) _ _) fun x => by
      rw [mem_between f1]
      constructor
      · rintro ⟨hx, q⟩
        exact (e x hx).1 q
      · intro q
        exact ⟨(pm q).1, (e x (pm q).1).2 q⟩
    rw [this]
    exact ⟨ps, pl⟩
  have rest_is : ∀ b1 : Bs, Fit n b1 → (∀ i, i < 256 → ((memQ b1.fail i = true ∧ memQ b1.pass i = false) ↔ ((memQ b.fail i = true ∧ memQ b.pass i = false) ∧ i ∉ piece (between b) count k))) → 0 < (between b1).length ∧ (between b1).length < (between b).length := fun b1 f1 e => by
    have : between b1 = rest (between b) count k := sorted_ext (between_sorted _) ((between_sorted b).filter _) fun x => by
      unfold rest
      rw [mem_between f1, List.mem_filter, mem_between h]
      constructor
      · rintro ⟨hx, q⟩
        have := (e x hx).1 q
        exact ⟨⟨hx, this.1⟩, by simpa using this.2⟩
      · rintro ⟨⟨hx, q⟩, q2⟩
        exact ⟨hx, (e x hx).2 ⟨q, by simpa using q2⟩⟩
    rw [this]
    omega
  have sub_or : ∀ i, i < 256 → memQ (orQ b.pass (pieceQ (between b) count k)) i = true → memQ b.fail i = true := fun i hi q => by
    rw [mem_or h.pass ok hi] at q
    rcases Bool.or_eq_true_iff.1 q with q | q
    · exact h.sub i hi q
    · exact (pm ((mc hi).1 q)).2.1
  have small_less : LowQ n (lessQ b.fail (pieceQ (between b) count k)) := ⟨less_ok h.fail.ok ok, fun i hi hn => by rw [mem_less h.fail.ok ok hi, h.fail.low i hi hn]; rfl⟩
  have small_or : LowQ n (orQ b.pass (pieceQ (between b) count k)) := ⟨or_ok h.pass ok, fun i hi hn => by
    cases c : memQ (orQ b.pass (pieceQ (between b) count k)) i with
    | false => rfl
    | true => rw [← sub_or i hi c, h.fail.low i hi hn]⟩
  have g1 : 2 ≤ max (b.g - 1) 2 ∧ max (b.g - 1) 2 ≤ 256 := by have := h.gran; omega
  have notp : ∀ {i}, i < 256 → (memQ (pieceQ (between b) count k) i = false ↔ i ∉ piece (between b) count k) := fun hi => by rw [← mc hi]; simp
  unfold moved at hm
  by_cases c1 : w = 2
  · rw [if_pos c1] at hm
    injection hm with hm
    subst hm
    have f1 : Fit n ⟨b.pass, orQ b.pass (pieceQ (between b) count k), 2⟩ := ⟨h.pass, small_or, fun i hi q => by show memQ (orQ _ _) i = true; rw [mem_or h.pass ok hi, show memQ b.pass i = true from q]; rfl, by show 2 ≤ 2 ∧ 2 ≤ 256; decide⟩
    refine ⟨f1, piece_is _ f1 fun i hi => ?_⟩
    show (memQ (orQ _ _) i = true ∧ memQ b.pass i = false) ↔ _
    rw [mem_or h.pass ok hi, ← mc hi]
    constructor
    · rintro ⟨q1, q2⟩
      rw [q2, Bool.false_or] at q1
      exact q1
    · intro q
      exact ⟨by rw [q, Bool.or_true], (pm ((mc hi).1 q)).2.2⟩
  rw [if_neg c1] at hm
  by_cases c2 : r = 1
  · rw [if_pos c2] at hm
    injection hm with hm
    subst hm
    have f1 : Fit n ⟨lessQ b.fail (pieceQ (between b) count k), b.fail, 2⟩ := ⟨small_less.ok, h.fail, fun i hi q => by have q' : memQ (lessQ b.fail (pieceQ (between b) count k)) i = true := q; rw [mem_less h.fail.ok ok hi] at q'; exact (Bool.and_eq_true_iff.1 q').1, by show 2 ≤ 2 ∧ 2 ≤ 256; decide⟩
    refine ⟨f1, piece_is _ f1 fun i hi => ?_⟩
    show (memQ b.fail i = true ∧ memQ (lessQ _ _) i = false) ↔ _
    rw [mem_less h.fail.ok ok hi, ← mc hi]
    constructor
    · rintro ⟨q1, q2⟩
      rw [q1, Bool.true_and] at q2
      simpa using q2
    · intro q
      exact ⟨(pm ((mc hi).1 q)).2.1, by rw [q]; simp⟩
  rw [if_neg c2] at hm
  by_cases c3 : w = 1
  · rw [if_pos c3] at hm
    injection hm with hm
    subst hm
    have f1 : Fit n ⟨orQ b.pass (pieceQ (between b) count k), b.fail, max (b.g - 1) 2⟩ := ⟨small_or.ok, h.fail, sub_or, g1⟩
    refine ⟨f1, rest_is _ f1 fun i hi => ?_⟩
    show (memQ b.fail i = true ∧ memQ (orQ _ _) i = false) ↔ _
    rw [mem_or h.pass ok hi, Bool.or_eq_false_iff, notp hi, and_assoc]
  rw [if_neg c3] at hm
  by_cases c4 : r = 2
  · rw [if_pos c4] at hm
    injection hm with hm
    subst hm
    have f1 : Fit n ⟨b.pass, lessQ b.fail (pieceQ (between b) count k), max (b.g - 1) 2⟩ := ⟨h.pass, small_less, fun i hi q => by
      show memQ (lessQ _ _) i = true
      have q' : memQ b.pass i = true := q
      rw [mem_less h.fail.ok ok hi, h.sub i hi q', (notp hi).2 fun x => by rw [(pm x).2.2] at q'; cases q']
      rfl, g1⟩
    refine ⟨f1, rest_is _ f1 fun i hi => ?_⟩
    show (memQ (lessQ _ _) i = true ∧ memQ b.pass i = false) ↔ _
    rw [mem_less h.fail.ok ok hi, Bool.and_eq_true_iff, Bool.not_eq_true', notp hi]
    constructor
    · rintro ⟨⟨q1, q2⟩, q3⟩; exact ⟨⟨q1, q3⟩, q2⟩
    · rintro ⟨⟨q1, q2⟩, q3⟩; exact ⟨⟨q1, q3⟩, q2⟩
  rw [if_neg c4] at hm
  cases hm
theorem finer_fit {n : Nat} {b : Bs} (h : Fit n b) (h2 : 2 ≤ (between b).length) : Fit n (finer b) ∧ between (finer b) = between b :=
  ⟨⟨h.pass, h.fail, h.sub, by show 2 ≤ min (2 * b.g) (between b).length ∧ min (2 * b.g) (between b).length ≤ 256; have := h.gran; have := between_le b; omega⟩, rfl⟩
def size (b : Bs) : Nat := (between b).length * 257 + (257 - b.g)
theorem size_moved {n : Nat} {b b' : Bs} (h' : Fit n b') (hl : (between b').length < (between b).length) : size b' < size b := by
  have := h'.gran
  unfold size
  omega
theorem size_finer {b : Bs} {n : Nat} (h : Fit n b) (h2 : 2 ≤ (between b).length) (hg : b.g < (between b).length) : size (finer b) < size b := by
  have := h.gran
  have := between_le b
  show (between b).length * 257 + (257 - min (2 * b.g) (between b).length) < (between b).length * 257 + (257 - b.g)
  omega
theorem size_le {n : Nat} {b : Bs} (h : Fit n b) : size b < 70000 := by
  have := h.gran
  have := between_le b
  unfold size
  omega
theorem count_two {n : Nat} {b : Bs} (h : Fit n b) (h2 : 2 ≤ (between b).length) : 2 ≤ countOf b ∧ countOf b ≤ (between b).length := by
  have := h.gran
  unfold countOf
  omega
theorem single {l : List Nat} {k : Nat} (hk : k < l.length) : piece l l.length k = [l[k]] := by
  unfold piece
  rw [Nat.mul_div_cancel _ (by omega), Nat.mul_div_cancel _ (by omega), List.take_succ_eq_append_getElem hk, List.drop_append_of_le_length (by rw [List.length_take]; omega), List.drop_take_self]
  rfl
end Go.Proofs.Ytmkapmbmgpnjaaa.Se

set_option maxRecDepth 100000
namespace Go.Proofs.Ytmkapmbmgpnjaaa.Se
open Go Go.Ms Go.Pg Go.Bi Go.Se Go.ChangeShapes Go.WideShapes Go.ChangeAt Go.RowKit Go.Deep Go.Proofs.Ytmkapmbmgpnjaaa.Bi

/-! What the search for a difference comes to, for an oracle; and what it asks. -/

def Tells (o : Q4 → Int) (b : Bs) : Prop := o b.pass = 1 ∧ o b.fail = 2
def Stuck (o : Q4 → Int) (b : Bs) (c : Q4) : Prop := o (orQ b.pass c) ≠ 1 ∧ o (orQ b.pass c) ≠ 2 ∧ o (lessQ b.fail c) ≠ 1 ∧ o (lessQ b.fail c) ≠ 2
theorem moved_none {o : Q4 → Int} {b : Bs} {c : Q4} (h : moved b c (o (orQ b.pass c)) (o (lessQ b.fail c)) = none) : Stuck o b c := by
  unfold moved at h
  split at h
  · cases h
  split at h
  · cases h
  split at h
  · cases h
  split at h
  · cases h
  rename_i a b c d
  exact ⟨c, a, b, d⟩
theorem moved_tells {o : Q4 → Int} {b b' : Bs} {c : Q4} (ht : Tells o b) (h : moved b c (o (orQ b.pass c)) (o (lessQ b.fail c)) = some b') : Tells o b' := by
  unfold moved at h
  split at h
  · rename_i c1; injection h with h; subst h; exact ⟨ht.1, c1⟩
  split at h
  · rename_i c1; injection h with h; subst h; exact ⟨c1, ht.2⟩
  split at h
  · rename_i c1; injection h with h; subst h; exact ⟨c1, ht.2⟩
  split at h
  · rename_i c1; injection h with h; subst h; exact ⟨ht.1, c1⟩
  cases h
theorem leaf_rounds {o : Q4 → Int} {b : Bs} {l : List Nat} {count : Nat} {f : Option Bs → Tr} {r : List Int} : ∀ (m i : Nat),
    (∃ j b', j < i + m ∧ moved b (pieceQ l count j) (o (orQ b.pass (pieceQ l count j))) (o (lessQ b.fail (pieceQ l count j))) = some b' ∧ leaf o (rounds b l count f m i) r = leaf o (f (some b')) r) ∨
    ((∀ j, i ≤ j → j < i + m → Stuck o b (pieceQ l count j)) ∧ leaf o (rounds b l count f m i) r = leaf o (f none) r)
  | 0, i => .inr ⟨fun j h1 h2 => absurd h2 (by omega), rfl⟩
  | m + 1, i => by
    have e : leaf o (rounds b l count f (m + 1) i) r = leaf o (match moved b (pieceQ l count i) (o (orQ b.pass (pieceQ l count i))) (o (lessQ b.fail (pieceQ l count i))) with
      | some b' => f (some b')
      | none => rounds b l count f m (i + 1)) r := rfl
    cases hm : moved b (pieceQ l count i) (o (orQ b.pass (pieceQ l count i))) (o (lessQ b.fail (pieceQ l count i))) with
    | some b' =>
      rw [hm] at e
      exact .inl ⟨i, b', by omega, hm, e⟩
    | none =>
      rw [hm] at e
      rcases leaf_rounds (o := o) (b := b) (l := l) (count := count) (f := f) (r := r) m (i + 1) with ⟨j, b', hj, h1, h2⟩ | ⟨h1, h2⟩
      · exact .inl ⟨j, b', by omega, h1, e.trans h2⟩
      · refine .inr ⟨fun j g1 g2 => ?_, e.trans h2⟩
        by_cases c : j = i
        · subst c; exact moved_none hm
        · exact h1 j (by omega) (by omega)
structure Final (o : Q4 → Int) (n : Nat) (b : Bs) : Prop where
  fit : Fit n b
  tells : Tells o b
  some : 0 < (between b).length
  one : 2 ≤ (between b).length → ∀ x ∈ between b, Stuck o b (ofP (among [x]))
theorem diffT_final {o : Q4 → Int} {n : Nat} {r : List Int} : ∀ {f : Nat} {b : Bs}, Fit n b → Tells o b → 0 < (between b).length → size b < f → ∃ b', leaf o (diffT f b) r = leaf o (doneT b') r ∧ Final o n b'
  | 0, b, _, _, _, hs => absurd hs (by omega)
  | f + 1, b, hf, ht, hp, hs => by
    by_cases c : (between b).length < 2
    · refine ⟨b, by rw [diffT, if_pos c], hf, ht, hp, fun h => absurd h (by omega)⟩
    have h2 : 2 ≤ (between b).length := by omega
    obtain ⟨c2, cl⟩ := count_two hf h2
    have e : diffT (f + 1) b = rounds b (between b) (countOf b) (fun
      | some b' => diffT f b'
      | none => if b.g < (between b).length then diffT f (finer b) else doneT b) (countOf b) 0 := by rw [diffT, if_neg c] <;> rfl
    rw [e]
    rcases leaf_rounds (o := o) (b := b) (l := between b) (count := countOf b) (r := r) (f := fun
      | some b' => diffT f b'
      | none => if b.g < (between b).length then diffT f (finer b) else doneT b) (countOf b) 0 with ⟨j, b', hj, h1, h3⟩ | ⟨h1, h3⟩
    · obtain ⟨f1, p1, l1⟩ := moved_fit hf (by omega) c2 cl h1
      obtain ⟨b2, e2, fin2⟩ := diffT_final (r := r) (f := f) f1 (moved_tells ht h1) p1 (by have := size_moved f1 l1; omega)
      exact ⟨b2, h3.trans e2, fin2⟩
    · by_cases g : b.g < (between b).length
      · obtain ⟨f1, e1⟩ := finer_fit hf h2
        obtain ⟨b2, e2, fin2⟩ := diffT_final (r := r) (f := f) f1 ht (by rw [e1]; exact hp) (by have := size_finer hf h2 g; omega)
        refine ⟨b2, h3.trans ?_, fin2⟩
        show leaf o (if b.g < (between b).length then diffT f (finer b) else doneT b) r = _
        rw [if_pos g, e2]
      · refine ⟨b, h3.trans ?_, hf, ht, hp, fun _ x hx => ?_⟩
        · show leaf o (if b.g < (between b).length then diffT f (finer b) else doneT b) r = _
          rw [if_neg g]
        · obtain ⟨k, hk, rfl⟩ := List.getElem_of_mem hx
          have hc : countOf b = (between b).length := by have := hf.gran; unfold countOf; omega
          have := h1 k (by omega) (by omega)
          rw [hc] at this
          unfold pieceQ at this
          rw [single hk] at this
          exact this
theorem diff_leaf {o : Q4 → Int} {n : Nat} (hn : n ≤ 256) (r : List Int) :
    (o zeroQ = 1 ∧ o (allQ n) = 2 ∧ ∃ b, leaf o (diff n) r = .fin (upTo (memQ b.fail) 256) (upTo (memQ b.pass) 256) r ∧ Final o n b) ∨
    (¬ (o zeroQ = 1 ∧ o (allQ n) = 2) ∧ leaf o (diff n) r = .err 7) := by
  by_cases h1 : o zeroQ = 1
  · by_cases h2 : o (allQ n) = 2
    · have f0 := fit_start n
      have hp : 0 < (between ⟨zeroQ, allQ n, 2⟩).length := by
        by_cases c : n = 0
        · subst c
          have : allQ 0 = zeroQ := mem_ext (ofP_ok _) zero_ok fun i hi => by rw [mem_zero hi, allQ, mem_of _ hi]; simp
          rw [this] at h2
          omega
        · have : 0 ∈ between ⟨zeroQ, allQ n, 2⟩ := (mem_between f0).2 ⟨by omega, by show memQ (allQ n) 0 = true; rw [allQ, mem_of _ (by omega)]; exact decide_eq_true (by omega), mem_zero (by omega)⟩
          exact List.length_pos_of_mem this
      obtain ⟨b, e, fin⟩ := diffT_final (o := o) (r := r) (f := 70000) f0 ⟨h1, h2⟩ hp (size_le f0)
      refine .inl ⟨h1, h2, b, ?_, fin⟩
      have : leaf o (diff n) r = leaf o (diffT 70000 ⟨zeroQ, allQ n, 2⟩) r := by
        rw [diff, leaf, if_pos h1, leaf, if_pos h2]
      rw [this, e]
      rfl
    · exact .inr ⟨fun q => h2 q.2, by rw [diff, leaf, if_pos h1, leaf, if_neg h2, leaf]⟩
  · exact .inr ⟨fun q => h1 q.1, by rw [diff, leaf, if_neg h1, leaf]⟩

theorem asks_rounds {n : Nat} {b : Bs} (h : Fit n b) {count : Nat} (h2 : 2 ≤ count) (hc : count ≤ (between b).length) {f : Option Bs → Tr} (hf : ∀ x, (∀ b', x = some b' → Fit n b') → Asks (LowQ n) (f x)) : ∀ (m i : Nat), i + m ≤ count → Asks (LowQ n) (rounds b (between b) count f m i)
  | 0, i, _ => hf none fun _ e => by cases e
  | m + 1, i, hi => by
    have ok : (pieceQ (between b) count i).Ok := ofP_ok _
    refine .ask ⟨or_ok h.pass ok, fun x hx hn => ?_⟩ fun w => .ask ⟨less_ok h.fail.ok ok, fun x hx hn => by rw [mem_less h.fail.ok ok hx, h.fail.low x hx hn]; rfl⟩ fun r => ?_
    · rw [mem_or h.pass ok hx, h.small_pass.low x hx hn, Bool.false_or, Bool.eq_false_iff]
      intro q
      have := (mem_between h).1 (piece_sub ((mem_piece hx).1 q))
      rw [h.fail.low x hx hn] at this
      exact absurd this.2.1 (by simp)
    · show Asks _ (match moved b (pieceQ (between b) count i) w r with
        | some b' => f (some b')
        | none => rounds b (between b) count f m (i + 1))
      cases hm : moved b (pieceQ (between b) count i) w r with
      | some b' => exact hf _ fun b2 e => by injection e with e; subst e; exact (moved_fit h (by omega) h2 hc hm).1
      | none => exact asks_rounds h h2 hc hf m (i + 1) (by omega)
theorem asks_diffT {n : Nat} : ∀ {f : Nat} {b : Bs}, Fit n b → Asks (LowQ n) (diffT f b)
  | 0, _, _ => .fin _ _
  | f + 1, b, h => by
    rw [diffT]
    split
    · exact .fin _ _
    rename_i c
    obtain ⟨c2, cl⟩ := count_two h (by omega)
    refine asks_rounds h c2 cl (fun x hx => ?_) _ _ (by omega)
    cases x with
    | some b' => exact asks_diffT (hx b' rfl)
    | none =>
      show Asks _ (if b.g < (between b).length then diffT f (finer b) else doneT b)
      split
      · exact asks_diffT (finer_fit h (by omega)).1
      · exact .fin _ _
theorem asks_diff (n : Nat) : Asks (LowQ n) (diff n) := by
  refine .ask ⟨zero_ok, fun i hi _ => mem_zero hi⟩ fun v => ?_
  split
  · refine .ask small_all fun v => ?_
    split
    · exact asks_diffT (fit_start n)
    · exact .err _
  · exact .err _
theorem trace_few {o : Q4 → Int} {n : Nat} (hn : n ≤ 8) : (trace o (diff n) []).length ≤ 256 :=
  Nat.le_trans (small_few (n := n) (by omega) (trace_nodup (o := o) (t := diff n) (T := [])).1 (trace_asks (asks_diff n))) (Nat.le_trans (Nat.pow_le_pow_right (by decide) hn) (by decide))
end Go.Proofs.Ytmkapmbmgpnjaaa.Se

