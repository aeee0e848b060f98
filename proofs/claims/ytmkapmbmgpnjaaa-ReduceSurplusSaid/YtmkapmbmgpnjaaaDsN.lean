import Derived.Test.YtmkapmbmgpnjaaaDsD
import Derived.Test.YtmkapmbmgpnjaaaGrF
import Derived.Test.YtmkapmbmgpnjaaaIlB
import Derived.Test.YtmkapmbmgpnjaaaGeF
import Derived.Test.YtmkapmbmgpnjaaaDsG
set_option maxRecDepth 100000
set_option linter.unusedSimpArgs false
set_option linter.unusedVariables false
namespace Go.Proofs.Ytmkapmbmgpnjaaa.Se
open Go Go.Ms Go.Pg Go.Bi Go.Se Go.ChangeShapes Go.WideShapes Go.ChangeAt Go.RowKit Go.Deep Go.Proofs.Ytmkapmbmgpnjaaa.Bi

/-! The elements of two sets; and what the law asks of a difference. -/

def plus : List Int → List Int → List Int
  | [], ys => ys
  | x :: xs, [] => x :: xs
  | x :: xs, y :: ys => if x = y then x :: plus xs ys else if x ≤ y then x :: plus xs (y :: ys) else y :: plus (x :: xs) ys
termination_by a b => a.length + b.length
theorem plus_nil (l : List Int) : plus l [] = l := by cases l <;> rw [plus.eq_def]
theorem plus_none (l : List Int) : plus [] l = l := by rw [plus.eq_def]
theorem plus_cons (x : Int) (xs : List Int) (y : Int) (ys : List Int) : plus (x :: xs) (y :: ys) = if x = y then x :: plus xs ys else if x ≤ y then x :: plus xs (y :: ys) else y :: plus (x :: xs) ys := by rw [plus.eq_def]
theorem mem_plus (z : Int) : ∀ (n : Nat) (a b : List Int), a.length + b.length ≤ n → (z ∈ plus a b ↔ z ∈ a ∨ z ∈ b)
  | n, [], b, _ => by simp [plus_none]
  | n, x :: xs, [], _ => by simp [plus_nil]
  | 0, x :: xs, y :: ys, h => absurd h (by simp)
  | n + 1, x :: xs, y :: ys, h => by
    simp only [List.length_cons] at h
    rw [plus_cons]
    split
    · rename_i e
      subst e
      simp only [List.mem_cons, mem_plus z n xs ys (by omega)]
      constructor
      · rintro (h | h | h)
        · exact .inl (.inl h)
        · exact .inl (.inr h)
        · exact .inr (.inr h)
      · rintro ((h | h) | (h | h))
        · exact .inl h
        · exact .inr (.inl h)
        · exact .inl h
        · exact .inr (.inr h)
    split
    · have := mem_plus z n xs (y :: ys) (by simp only [List.length_cons]; omega)
      simp only [List.mem_cons] at this ⊢
      rw [this, or_assoc]
    · have := mem_plus z n (x :: xs) ys (by simp only [List.length_cons]; omega)
      simp only [List.mem_cons] at this ⊢
      rw [this, ← or_assoc, or_comm (a := z = y), or_assoc]
theorem plus_sorted : ∀ (n : Nat) (a b : List Int), a.length + b.length ≤ n → a.Pairwise (· < ·) → b.Pairwise (· < ·) → (plus a b).Pairwise (· < ·)
  | n, [], b, _, _, hb => by rw [plus_none]; exact hb
  | n, x :: xs, [], _, ha, _ => by rw [plus_nil]; exact ha
  | 0, x :: xs, y :: ys, h, _, _ => absurd h (by simp)
  | n + 1, x :: xs, y :: ys, h, ha, hb => by
    simp only [List.length_cons] at h
    have ha' := List.pairwise_cons.1 ha
    have hb' := List.pairwise_cons.1 hb
    rw [plus_cons]
    split
    · rename_i e
      refine List.pairwise_cons.2 ⟨fun z hz => ?_, plus_sorted n xs ys (by omega) ha'.2 hb'.2⟩
      rcases (mem_plus z n xs ys (by omega)).1 hz with q | q
      · exact ha'.1 z q
      · rw [e]; exact hb'.1 z q
    split
    · refine List.pairwise_cons.2 ⟨fun z hz => ?_, plus_sorted n xs (y :: ys) (by simp only [List.length_cons]; omega) ha'.2 hb⟩
      rcases (mem_plus z n xs (y :: ys) (by simp only [List.length_cons]; omega)).1 hz with q | q
      · exact ha'.1 z q
      · rcases List.mem_cons.1 q with q | q
        · omega
        · have := hb'.1 z q; omega
    · refine List.pairwise_cons.2 ⟨fun z hz => ?_, plus_sorted n (x :: xs) ys (by simp only [List.length_cons]; omega) ha hb'.2⟩
      rcases (mem_plus z n (x :: xs) ys (by simp only [List.length_cons]; omega)).1 hz with q | q
      · rcases List.mem_cons.1 q with q | q
        · omega
        · have := ha'.1 z q; omega
      · exact hb'.1 z q
theorem sortedZ_ext : ∀ {l m : List Int}, l.Pairwise (· < ·) → m.Pairwise (· < ·) → (∀ x, x ∈ l ↔ x ∈ m) → l = m
  | [], [], _, _, _ => rfl
  | [], b :: m, _, _, h => absurd ((h b).2 (by simp)) (by simp)
  | a :: l, [], _, _, h => absurd ((h a).1 (by simp)) (by simp)
  | a :: l, b :: m, hl, hm, h => by
    rw [List.pairwise_cons] at hl hm
    have hab : a = b := by
      have h1 := (h a).1 (by simp)
      have h2 := (h b).2 (by simp)
      rcases List.mem_cons.1 h1 with e | e
      · exact e
      · rcases List.mem_cons.1 h2 with f | f
        · exact f.symm
        · have := hm.1 a e; have := hl.1 b f; omega
    subst hab
    have := sortedZ_ext hl.2 hm.2 fun x => by
      have hx := h x
      simp only [List.mem_cons] at hx
      constructor
      · intro q
        have := hl.1 x q
        rcases hx.1 (.inr q) with e | e
        · omega
        · exact e
      · intro q
        have := hm.1 x q
        rcases hx.2 (.inr q) with e | e
        · omega
        · exact e
    rw [this]
theorem upTo_sorted (p : Nat → Bool) (n : Nat) : (upTo p n).Pairwise (· < ·) := by
  unfold upTo
  rw [List.pairwise_map]
  exact (List.pairwise_lt_range.filter _).imp fun h => by simpa using h
theorem mem_upTo {p : Nat → Bool} {n : Nat} {z : Int} : z ∈ upTo p n ↔ ∃ i : Nat, i < n ∧ p i = true ∧ z = (i : Int) := by
  unfold upTo
  rw [List.mem_map]
  constructor
  · rintro ⟨i, hi, rfl⟩
    simp only [List.mem_filter, List.mem_range] at hi
    exact ⟨i, hi.1, hi.2, rfl⟩
  · rintro ⟨i, h1, h2, rfl⟩
    exact ⟨i, by simp [h1, h2], rfl⟩
theorem upTo_congr {p q : Nat → Bool} {n : Nat} (h : ∀ i, i < n → p i = q i) : upTo p n = upTo q n := by
  unfold upTo
  congr 1
  exact List.filter_congr fun i hi => h i (List.mem_range.1 hi)
theorem plus_upTo {p q r : Nat → Bool} {n : Nat} (h : ∀ i, i < n → r i = (p i || q i)) : plus (upTo p n) (upTo q n) = upTo r n := by
  refine sortedZ_ext (plus_sorted _ _ _ (Nat.le_refl _) (upTo_sorted _ _) (upTo_sorted _ _)) (upTo_sorted _ _) fun z => ?_
  rw [mem_plus z _ _ _ (Nat.le_refl _), mem_upTo, mem_upTo, mem_upTo]
  constructor
  · rintro (⟨i, h1, h2, h3⟩ | ⟨i, h1, h2, h3⟩)
    · exact ⟨i, h1, by rw [h i h1, h2]; rfl, h3⟩
    · exact ⟨i, h1, by rw [h i h1, h2, Bool.or_true], h3⟩
  · rintro ⟨i, h1, h2, h3⟩
    rw [h i h1] at h2
    rcases Bool.or_eq_true_iff.1 h2 with h2 | h2
    · exact .inl ⟨i, h1, h2, h3⟩
    · exact .inr ⟨i, h1, h2, h3⟩
theorem minus_upTo {p q r : Nat → Bool} {n : Nat} (h : ∀ i, i < n → r i = (p i && !q i)) : minus (upTo p n) (upTo q n) = upTo r n := by
  refine sortedZ_ext ((upTo_sorted _ _).filter _) (upTo_sorted _ _) fun z => ?_
  unfold minus
  rw [List.mem_filter, mem_upTo (p := p), mem_upTo (p := r)]
  constructor
  · rintro ⟨⟨i, h1, h2, h3⟩, k⟩
    refine ⟨i, h1, ?_, h3⟩
    rw [h i h1, h2]
    cases hq : q i with
    | false => rfl
    | true => simp [mem_upTo] at k; exact absurd h3 (k i h1 hq)
  · rintro ⟨i, h1, h2, h3⟩
    rw [h i h1, Bool.and_eq_true_iff] at h2
    refine ⟨⟨i, h1, h2.1, h3⟩, ?_⟩
    simp only [Bool.not_eq_true', decide_eq_false_iff_not, mem_upTo]
    rintro ⟨j, g1, g2, g3⟩
    obtain rfl : i = j := by omega
    rw [g2] at h2
    exact absurd h2.2 (by simp)
theorem one_upTo {x n : Nat} (h : x < n) : [(x : Int)] = upTo (fun i => decide (i = x)) n := by
  refine sortedZ_ext (by simp) (upTo_sorted _ _) fun z => ?_
  rw [mem_upTo]
  constructor
  · intro q
    rw [List.mem_singleton] at q
    exact ⟨x, h, decide_eq_true rfl, q⟩
  · rintro ⟨i, _, h2, h3⟩
    have := of_decide_eq_true h2
    subst this
    rw [h3]; simp
theorem mem_among {x i : Nat} (h : i < 256) : memQ (ofP (among [x])) i = decide (i = x) := by
  rw [mem_of _ h]; simp [among]
theorem nil_upTo : ([] : List Int) = upTo (memQ zeroQ) 256 := by
  refine sortedZ_ext (by simp) (upTo_sorted _ _) fun z => ?_
  rw [mem_upTo]
  constructor
  · intro h; cases h
  · rintro ⟨i, h1, h2, _⟩
    rw [mem_zero h1] at h2; cases h2
theorem all_upTo {n : Nat} (h : n ≤ 256) : (List.range n).map Int.ofNat = upTo (memQ (allQ n)) 256 := by
  refine sortedZ_ext ?_ (upTo_sorted _ _) fun z => ?_
  · rw [List.pairwise_map]
    exact List.pairwise_lt_range.imp fun h => by simpa using h
  rw [mem_upTo, List.mem_map]
  constructor
  · rintro ⟨i, hi, rfl⟩
    have := List.mem_range.1 hi
    exact ⟨i, by omega, by rw [allQ, mem_of _ (by omega)]; exact decide_eq_true this, rfl⟩
  · rintro ⟨i, h1, h2, h3⟩
    rw [allQ, mem_of _ h1] at h2
    exact ⟨i, List.mem_range.2 (of_decide_eq_true h2), h3.symm⟩
theorem set_upTo {p : Nat → Bool} {n : Nat} (h : ∀ i, i < 256 → p i = true → i < n) : IsSet (upTo p 256) n := by
  intro i hi _
  have hs := List.pairwise_iff_getElem.1 (upTo_sorted p 256)
  obtain ⟨j, h1, h2, h3⟩ := mem_upTo.1 (List.getElem_mem hi)
  have := h j h1 h2
  refine ⟨by omega, fun j hj e => ?_⟩
  subst e
  exact hs j (j + 1) hj hi (by omega)

def ora (o : Orc) (q : Q4) : Int := (say o (upTo (memQ q) 256) : Nat)
theorem ora_three {o : Orc} {q : Q4} (h1 : ora o q ≠ 1) (h2 : ora o q ≠ 2) : ora o q = 3 := by
  unfold ora at *
  rcases say_value o (upTo (memQ q) 256) with h | h | h <;> rw [h] at h1 h2 ⊢ <;> first | rfl | (exact absurd rfl h1) | (exact absurd rfl h2)
end Go.Proofs.Ytmkapmbmgpnjaaa.Se

set_option maxRecDepth 100000
set_option linter.unusedSimpArgs false
set_option linter.unusedVariables false
namespace Go.Proofs.Ytmkapmbmgpnjaaa.Se
open Go Go.Ms Go.Pg Go.Bi Go.Se Go.ChangeShapes Go.WideShapes Go.ChangeAt Go.RowKit Go.Deep Go.Proofs.Ytmkapmbmgpnjaaa.Bi

def Grid (B : Nat) (w : World) (v : Value) (ls : List (List Int)) : Prop :=
  ∃ xs, w.ownsRow B 30 1 v ls.length xs ∧ ∀ i (h : i < ls.length), ∃ u, xs[i]? = some u ∧ Il.Own 3 .i64 B w u ls[i]

theorem own_kept {w w' : World} {B : Nat} {e : TypeId} {size : Nat} {v : Value} {n : Nat} {xs : List Value} (h : w.ownsRow B e size v n xs) (k : ∀ (g : Nat) cs fr, B ≤ g → w.heap[g]? = some (Obj.cells cs e fr) → v.ownBlock = some g → w'.heap[g]? = w.heap[g]?) : w'.ownsRow B e size v n xs := by
  refine ⟨h.1, ?_⟩
  rcases h.2 with h2 | ⟨g, cap, cur, rfl, hb, hh, r⟩
  · exact .inl h2
  · exact .inr ⟨g, cap, cur, rfl, hb, (k g _ _ hb hh rfl).trans hh, r⟩
theorem Grid.kept {B : Nat} {w w' : World} {v : Value} {ls : List (List Int)} (h : Grid B w v ls) (k : ∀ (g : Nat) cs t fr, B ≤ g → w.heap[g]? = some (Obj.cells cs t fr) → w'.heap[g]? = w.heap[g]?) : Grid B w' v ls := by
  obtain ⟨xs, h1, h2⟩ := h
  exact ⟨xs, own_kept h1 fun g cs fr hB hg _ => k g cs _ fr hB hg, fun i hi => by
    obtain ⟨u, h3, h4⟩ := h2 i hi
    exact ⟨u, h3, own_kept h4 fun g cs fr hB hg _ => k g cs _ fr hB hg⟩⟩
theorem Grid.below {B : Nat} {w w' : World} {v : Value} {ls : List (List Int)} (h : Grid B w v ls) (k : Below w.heap.size w w') : Grid B w' v ls :=
  h.kept fun g _ _ _ _ hg => k.block g (block_lt hg)
theorem Grid.nil (B : Nat) (w : World) : Grid B w (.slice none 0 0) [] := ⟨[], World.ownsRow_nil _ _ _ _, fun i h => absurd h (Nat.not_lt_zero i)⟩
theorem own_base {w : World} {B C : Nat} {e : TypeId} {size : Nat} {v : Value} {n : Nat} {xs : List Value} (h : w.ownsRow B e size v n xs) (hC : C ≤ B) : w.ownsRow C e size v n xs := by
  refine ⟨h.1, ?_⟩
  rcases h.2 with h2 | ⟨g, cap, cur, hv, hb, hh, r⟩
  · exact .inl h2
  · exact .inr ⟨g, cap, cur, hv, by omega, hh, r⟩
theorem Grid.snoc {B : Nat} {w w1 : World} {v v' u : Value} {ls : List (List Int)} {l : List Int} {xs : List Value} (h1 : w.ownsRow B 30 1 v ls.length xs) (h2 : ∀ i (h : i < ls.length), ∃ u, xs[i]? = some u ∧ Il.Own 3 .i64 B w u ls[i]) (hu : Il.Own 3 .i64 B w u l)
    (hn : w1.ownsRow B 30 1 v' (ls.length + 1) (xs ++ [u])) (hg : w.grownBy w1 v.ownBlock) : Grid B w1 v' (ls ++ [l]) := by
  have keep : ∀ {q : Value} {m : List Int}, Il.Own 3 .i64 B w q m → Il.Own 3 .i64 B w1 q m := fun hq => own_kept hq fun g cs fr _ hgg hb => hg.block g (block_lt hgg) fun e => by
    obtain ⟨cs1, fr1, e1⟩ := Go.Il.own_typeS h1 g e.symm
    obtain ⟨cs2, fr2, e2⟩ := Go.Il.own_typeS hq g hb
    rw [e1] at e2
    cases e2
  refine ⟨xs ++ [u], by simpa using hn, fun i hi => ?_⟩
  have hx : xs.length = ls.length := by have := h1.1; omega
  by_cases q : i < ls.length
  · obtain ⟨y, h3, h4⟩ := h2 i q
    exact ⟨y, by rw [List.getElem?_append_left (by omega)]; exact h3, by rw [List.getElem_append_left q]; exact keep h4⟩
  · have e : i = ls.length := by simp at hi; omega
    subst e
    refine ⟨u, by rw [List.getElem?_append_right (by omega), hx]; simp, ?_⟩
    simpa using keep hu
theorem Grid.base {B C : Nat} {w : World} {v : Value} {ls : List (List Int)} (h : Grid B w v ls) (hC : C ≤ B) : Grid C w v ls := by
  obtain ⟨xs, h1, h2⟩ := h
  exact ⟨xs, own_base h1 hC, fun i hi => by obtain ⟨u, h3, h4⟩ := h2 i hi; exact ⟨u, h3, own_base h4 hC⟩⟩

theorem EV39 : Go.Il.IntElem Try.prog 34 39 .u8 1 := Go.Il.IntElem.mk Try.underlying34 (by kernel_rfl)
theorem info30 : (Try.prog.info? 30).map (fun i => (i.zero, i.size, i.bytes)) = some (some (.slice none 0 0), 1, 24) := by kernel_rfl
theorem EL30 : Go.Il.Elem Try.prog 22 30 1 24 := by
  obtain ⟨i0, hi, hz0, hz1, hz2⟩ := info_parts info30
  exact ⟨Try.underlying22, i0, _, hi, hz0, hz1, hz2, rfl, by decide⟩
theorem vs_own {w : World} {B : Nat} {v : Value} {l : List Int} (h : Go.Il.Own 39 .u8 B w v l) (hl : l.length ≤ 5000) : Vs w w.heap.size v l := by
  obtain ⟨oa, cap, rfl, hc⟩ := h.at
  rcases h.2 with ⟨e, h0⟩ | ⟨g, cap', cur, e, hb, hh, hnc, hcap, hr⟩
  · injection e with e1 e2 e3
    refine ⟨oa, cap, rfl, by omega, hl, fun i hi => by omega⟩
  · injection e with e1 e2 e3
    subst e1 e3
    refine ⟨_, _, rfl, hnc, hl, fun i hi => ?_⟩
    obtain ⟨g', e, hcell⟩ := hc i hi
    injection e with e
    injection e with e _
    subst e
    exact ⟨g, 0, rfl, block_lt hh, by simpa using hcell⟩
theorem leaf_end {o : Q4 → Int} : ∀ {t : Tr} {l : List Int}, (∃ k p, leaf o t l = .fin k p l) ∨ (∃ x, leaf o t l = .err x)
  | .fin k p, l => .inl ⟨k, p, rfl⟩
  | .err x, l => .inr ⟨x, rfl⟩
  | .ask q f, l => leaf_end (t := f (o q)) (l := l)
def Asker (wh z st : Int) (t : Tr) : Prop := ∀ (w : World) (an : Value) (l : List Int), Vs w w.heap.size an l → l.length ≤ 4096 → (∀ x ∈ l, 0 ≤ x ∧ x < 256) →
  Calls Try.prog 46 #[.int .u8 wh, .int .i64 z, .int .i64 st, an] w fun e w' => ∃ res, res = play t l [] ∧ Gives w.heap.size w' res e ∧ Below w.heap.size w w'
def Found (B : Nat) (w' : World) (qs : List (List Int)) : Rs → Ending → Prop
  | .fin k p _, e => ∃ kv pv av, e = .returned (.tuple #[questV true nilV kv pv, av, .int .i64 0]) ∧ Go.Il.Own 3 .i64 B w' kv k ∧ Go.Il.Own 3 .i64 B w' pv p ∧ Grid B w' av qs
  | .err x, e => ∃ av, e = .returned (.tuple #[questV false nilV nilV nilV, av, .int .i64 x]) ∧ Grid B w' av qs
  | .ask _, _ => False
abbrev boxO (sn sb : Value) (o : Orc) : Obj := .cells #[sn, sb, .int .u64 (o.salt : Int), .int .u8 (o.loose : Int)] 48
def lenV : Value → Nat
  | .slice _ n _ => n
  | _ => 0
theorem grid_form {B : Nat} {w : World} {v : Value} {ls : List (List Int)} (h : Grid B w v ls) : ∃ oa cap, v = .slice oa ls.length cap := by
  obtain ⟨xs, h1, _⟩ := h
  exact Go.Il.own_formS h1
theorem true_nil {o : Q4 → Int} : TrueTo o [] := fun e he => by cases he

theorem Grid.keptT {B : Nat} {w w' : World} {v : Value} {ls : List (List Int)} (h : Grid B w v ls) (k : ∀ (g : Nat) cs t fr, w.heap[g]? = some (Obj.cells cs t fr) → t = 30 ∨ t = 3 → w'.heap[g]? = some (Obj.cells cs t fr)) : Grid B w' v ls := by
  obtain ⟨xs, h1, h2⟩ := h
  exact ⟨xs, own_kept h1 fun g cs fr _ hg _ => (k g cs _ fr hg (.inl rfl)).trans hg.symm, fun i hi => by
    obtain ⟨u, h3, h4⟩ := h2 i hi
    exact ⟨u, h3, own_kept h4 fun g cs fr _ hg _ => (k g cs _ fr hg (.inr rfl)).trans hg.symm⟩⟩
theorem grid_pushed {B : Nat} {w2 w3 : World} {v v3 u : Value} {ls : List (List Int)} {l : List Int} {xs : List Value} (hB : B ≤ w2.heap.size) (h1 : w2.ownsRow B 30 1 v ls.length xs) (h2 : ∀ i (h : i < ls.length), ∃ u, xs[i]? = some u ∧ Go.Il.Own 3 .i64 B w2 u ls[i])
    (hu : Go.Il.Own 3 .i64 B w2 u l) (hn : w3.ownsRow B 30 1 v3 (ls.length + 1) (xs ++ [u])) (hg : (w2.alloc (.cells #[u] 30)).grownBy w3 v.ownBlock) :
    Grid B w3 v3 (ls ++ [l]) ∧ Below B w2 w3 ∧ (∀ (b : Nat) cs t fr, w2.heap[b]? = some (Obj.cells cs t fr) → t ≠ 30 → w3.heap[b]? = some (Obj.cells cs t fr)) := by
  have ha := World.ownsRow.alloc h1 (.cells #[u] 30)
  refine ⟨Grid.snoc ha (fun i hi => by
    obtain ⟨q, h3, h4⟩ := h2 i hi
    exact ⟨q, h3, World.ownsRow.alloc h4 _⟩) (World.ownsRow.alloc hu _) hn hg, ?_, ?_⟩
  · exact ((Below.refl B w2).alloc hB _).grown hg (by simp; omega) (fun k e => (ha.lt k e).1)
  · intro b cs t fr hb ht
    exact Go.Il.Tp.grown (S := fun t => t ≠ 30) ha (by simp) hg b cs t fr (old_block hb _) ht

set_option maxHeartbeats 16000000 in
theorem searchedRef {w : World} {sn sb : Value} {o : Orc} {wh z st : Int} {t : Tr} (ho : OrcAt w sn sb o) (hm : Small o) (hA : Asker wh z st t) (htr : (trace (ora o) t []).length ≤ 4096) (hne : leaf (ora o) t [] ≠ .err 0) :
    Calls Try.prog 42 #[.int .u8 wh, orcV sn sb o, .int .i64 z, .int .i64 st] w fun e w' => Found w.heap.size w' ((trace (ora o) t []).map fun q => upTo (memQ q) 256) (leaf (ora o) t []) e ∧ Below w.heap.size w w' := by
  have hB0 := ((Below.refl w.heap.size w).alloc (Nat.le_refl _) (boxO sn sb o)).alloc (by simp) (boxQ false nilV nilV nilV)
  have HB0 := hide hB0
  have HO0 := hide (ho.old hB0)
  have HX0 : Hid (((w.alloc (boxO sn sb o)).alloc (boxQ false nilV nilV nilV)).heap[w.heap.size]? = some (boxO sn sb o)) := hide (old_block (new_block w _) _)
  have HR0 : Hid (((w.alloc (boxO sn sb o)).alloc (boxQ false nilV nilV nilV)).heap[w.heap.size + 1]? = some (boxQ false nilV nilV nilV)) := hide (alloc_at (by simp))
  have hsz : ((w.alloc (boxO sn sb o)).alloc (boxQ false nilV nilV nilV)).heap.size = w.heap.size + 2 := by simp
  have HSZ := hide hsz
  have HM := hide hm
  have HA := hide hA
  have HNE := hide hne
  obtain ⟨N, hN⟩ : ∃ N, N = (trace (ora o) t []).length := ⟨_, rfl⟩
  have HN := hide hN
  have HTR : Hid (N ≤ 4096) := hide (by rw [hN]; exact htr)
  clear hB0 ho hm hA htr hne hsz hN
  go_enter Try.func42, Try.ntmps42
  go_wp2_with fail
  change (Code.loop _).wp _ _ _ ((w.alloc (boxO sn sb o)).alloc (boxQ false nilV nilV nilV))
  generalize (w.alloc (boxO sn sb o)).alloc (boxQ false nilV nilV nilV) = W0 at *
  go_loopw [11, 12] (fun s11 s12 wr => ∃ k, k ≤ N ∧ Hid (Go.Il.Own 39 .u8 W0.heap.size wr s12 (((trace (ora o) t []).take k).map (ora o))) ∧ Hid (Grid W0.heap.size wr s11 (((trace (ora o) t []).take k).map fun q => upTo (memQ q) 256)) ∧ Hid (Below W0.heap.size W0 wr)) (fun s11 s12 _ => 5000 - lenV s12)
  case atStart => exact ⟨0, Nat.zero_le _, hide (Go.Il.Own.nil _ _ _ _), hide (Grid.nil _ _), hide (Below.refl _ _)⟩
  case round =>
    obtain ⟨k, hk, HOW, HGR, HB⟩ := hrel
    have HTK := hide (play_asks (o := ora o) (t := t) (T := []) (k := k) true_nil)
    obtain ⟨l, hl⟩ : ∃ l, l = ((trace (ora o) t []).take k).map (ora o) := ⟨_, rfl⟩
    have HL := hide hl
    have HLN : Hid (l.length = k) := hide (by rw [hl, List.length_map, List.length_take, ← HN.out]; omega)
    obtain ⟨gl, hgl⟩ : ∃ gl : List (List Int), gl = ((trace (ora o) t []).take k).map fun q => upTo (memQ q) 256 := ⟨_, rfl⟩
    have HGL := hide hgl
    have HGN : Hid (gl.length = k) := hide (by rw [hgl, List.length_map, List.length_take, ← HN.out]; omega)
    rw [← hl] at HOW HTK
    rw [← hgl] at HGR
    have HKN := hide hk
    obtain ⟨o12, c12, rfl⟩ := Go.Il.Own.form HOW.out
    obtain ⟨o11, c11, rfl⟩ := grid_form HGR.out
    have t1 : decide ((l.length : Int) ≤ 4096) = true := decide_eq_true (by have := HLN.out; have := HTR.out; omega)
    have t2 : decide (l.length ≤ 4096) = true := decide_eq_true (by have := HLN.out; have := HTR.out; omega)
    have HWF : Hid (∀ x ∈ l, 0 ≤ x ∧ x < 256) := hide fun x hx => by
      rw [hl] at hx
      obtain ⟨q, _, rfl⟩ := List.mem_map.1 hx
      unfold ora
      rcases say_value o (upTo (memQ q) 256) with h | h | h <;> rw [h] <;> omega
    have HAC := hide (HA.out wr _ l (vs_own HOW.out (by have := HLN.out; have := HTR.out; omega)) (by have := HLN.out; have := HTR.out; omega) HWF.out)
    clear hl hgl hk
    go_wp2_with fail
    (with_reducible refine HAC.out.mono ?_)
    rintro e w1 ⟨res, hres, hgv, hB1⟩
    clear HAC t1 t2
    have HB1 := hide (HB.out.trans (hB1.mono HB.out.size))
    have HOW1 := hide (own_kept HOW.out fun g _ _ _ hh _ => hB1.block g (block_lt hh))
    have HGR1 := hide (HGR.out.below hB1)
    have HW1 : Hid (W0.heap.size ≤ w1.heap.size) := hide (Nat.le_trans HB.out.size hB1.size)
    have HWR : Hid (W0.heap.size ≤ wr.heap.size) := hide HB.out.size
    clear hB1 HB HOW HGR
    by_cases hlt : k < N
    · have hltr : k < (trace (ora o) t []).length := by rw [← HN.out]; exact hlt
      have hpl := HTK.out hltr
      obtain ⟨q, hq⟩ : ∃ q, q = (trace (ora o) t [])[k] := ⟨_, rfl⟩
      rw [← hq] at hpl
      rw [hpl] at hres
      subst hres
      obtain ⟨s, rfl, hs⟩ := hgv
      obtain ⟨os, cs, rfl⟩ := Go.Il.Own.form hs
      obtain ⟨u, hu⟩ : ∃ u, u = upTo (memQ q) 256 := ⟨_, rfl⟩
      have HUQ := hide hu
      have HUL : Hid (u.length ≤ 256) := hide (by rw [hu]; unfold upTo; rw [List.length_map]; exact Nat.le_trans (List.length_filter_le _ _) (by simp))
      have HTA : Hid ((trace (ora o) t []).take (k + 1) = (trace (ora o) t []).take k ++ [q]) := hide (by rw [List.take_succ_eq_append_getElem hltr, hq])
      rw [← hu] at hs ⊢
      have hA2 := (Below.refl w1.heap.size w1).alloc (Nat.le_refl _) (boxQ false (.slice os u.length cs) nilV nilV)
      have HQ2 := hide (new_block w1 (boxQ false (.slice os u.length cs) nilV nilV))
      have HS2 := hide (own_mono (B' := W0.heap.size) HWR.out (own_up hs hA2))
      have HOW2 := hide (own_kept HOW1.out fun g _ _ _ hh _ => hA2.block g (block_lt hh))
      have HGR2 := hide (HGR1.out.below hA2)
      have HB2 := hide (HB1.out.trans (hA2.mono HW1.out))
      have hsz2 : W0.heap.size ≤ (w1.alloc (boxQ false (.slice os u.length cs) nilV nilV)).heap.size := Nat.le_trans HW1.out hA2.size
      have HLT := hide hlt
      obtain ⟨xs, hg1, hg2⟩ := HGR2.out
      have HG1 := hide hg1
      have HG2 := hide hg2
      have hgn : gl.length ≤ 10000000 := by have := HGN.out; have := HTR.out; omega
      obtain ⟨q0, q1, q2, q3⟩ := q_cells HQ2.out
      have hb2 := block_lt HQ2.out
      have HZ2 := hide hsz2
      clear hs hA2 hg1 hg2 hlt hltr hpl hq hu HOW1 HGR1 HGR2
      go_wp2_with (first
        | (at_builtin
           (refine Go.Il.wpl_pushS EL30 (by decide) rfl (.tmp 35) (.tmp 38) rfl HG1.out _ #[.slice os u.length cs] rfl rfl rfl (by intro x hx; simp only [List.mem_cons, List.not_mem_nil, or_false] at hx; subst hx; rfl) (by simp) (by have := HW1.out; omega) hgn ?_
            intro v3 w3 hn hgw
            have hgp := grid_pushed hsz2 HG1.out HG2.out HS2.out hn hgw
            have HG3 := hide hgp.1
            have HB3 := hide (HB2.out.trans hgp.2.1)
            have HT3 := hide hgp.2.2
            have x3 := hgp.2.2 _ _ _ _ HQ2.out (by decide)
            have q13 := (q_cells x3).2.1
            have y3 := (HB3.out.block _ (block_lt HX0.out)).trans HX0.out
            have z0 : w3.cell? ⟨w.heap.size, 0, none⟩ = some sn := cell_of y3 0
            have z1 : w3.cell? ⟨w.heap.size, 1, none⟩ = some sb := cell_of y3 1
            have z2 : w3.cell? ⟨w.heap.size, 2, none⟩ = some (.int .u64 (o.salt : Int)) := cell_of y3 2
            have z3 : w3.cell? ⟨w.heap.size, 3, none⟩ = some (.int .u8 (o.loose : Int)) := cell_of y3 3
            have HZ3 : Hid (W0.heap.size ≤ w3.heap.size) := hide HB3.out.size
            clear hn hgw hgp x3 y3 hsz2 hgn q0 q1 q2 q3))
        | fail)
      have HO3 := hide (HO0.out.old HB3.out)
      have HS3 : Hid (Go.Il.Own 3 .i64 W0.heap.size w3 (.slice os u.length cs) u) := hide (own_kept HS2.out fun g cs fr _ hh _ => (HT3.out g cs _ fr hh (by decide)).trans hh.symm)
      have HOW3 : Hid (Go.Il.Own 39 .u8 W0.heap.size w3 (.slice o12 l.length c12) l) := hide (own_kept HOW2.out fun g cs fr _ hh _ => (HT3.out g cs _ fr hh (by decide)).trans hh.symm)
      (with_reducible refine (sayRef HO3.out (ints_own HS3.out (by have := HUL.out; omega)) HM.out).mono ?_)
      rintro e w4 ⟨rfl, hB4⟩
      have HB4 := hide (HB3.out.trans (hB4.mono HZ3.out))
      have HOW4 : Hid (Go.Il.Own 39 .u8 W0.heap.size w4 (.slice o12 l.length c12) l) := hide (own_kept HOW3.out fun g _ _ _ hh _ => hB4.block g (block_lt hh))
      have HG4 := hide (HG3.out.below hB4)
      have hsz4 : W0.heap.size ≤ w4.heap.size := Nat.le_trans HZ3.out hB4.size
      obtain ⟨sv, hsv⟩ : ∃ sv, sv = say o u := ⟨_, rfl⟩
      have HSV := hide hsv
      rw [← hsv]
      have hln4 : l.length + [(sv : Int)].length ≤ 10000000 := by have := HLN.out; have := HTR.out; have := HKN.out; simp; omega
      clear hB4 hsv z0 z1 z2 z3 q13
      go_wp2_with (first
        | (at_builtin
           (refine Go.Il.wpl_push EV39 (by decide) rfl (.tmp 40) (.tmp 45) rfl HOW4.out _ _ [(sv : Int)] _ _ rfl rfl rfl rfl rfl hsz4 hln4 ?_
            intro v7 w7 ho7 hs7
            have HO7 := hide ho7
            have HS7 := hide hs7
            clear ho7 hs7 hsz4 hln4))
        | fail)
      have hora : ora o q = (sv : Int) := by unfold ora; rw [HSV.out, HUQ.out]
      obtain ⟨o7, c7, rfl⟩ := Go.Il.Own.form HO7.out
      refine ⟨⟨k + 1, by have := HLT.out; omega, hide ?_, hide ?_, hide (HB4.out.trans HS7.out.below)⟩, by simp [lenV]; have := HLN.out; have := HTR.out; have := HKN.out; omega⟩
      · rw [HTA.out, List.map_append, List.map_cons, List.map_nil, ← HL.out, hora]
        exact HO7.out
      · rw [HTA.out, List.map_append, List.map_cons, List.map_nil, ← HGL.out, ← HUQ.out]
        exact HG4.out.keptT fun g cs t fr hh ht => HS7.out.block hh (by rcases ht with rfl | rfl <;> decide)
    · obtain rfl : k = N := by have := HKN.out; omega
      have hpl : play t l [] = leaf (ora o) t [] := by
        have := play_ends (o := ora o) (t := t) (T := []) [] true_nil
        rw [List.append_nil] at this
        rw [HL.out, HN.out, List.take_length]
        exact this
      rw [hpl] at hres
      have HGE : Hid (Grid W0.heap.size w1 (.slice o11 gl.length c11) ((trace (ora o) t []).map fun q => upTo (memQ q) 256)) := hide (by have := HGR1.out; rw [HGL.out, HN.out, List.take_length] at this; rw [HGL.out, HN.out, List.take_length]; exact this)
      have HR1 := hide ((HB1.out.block _ (block_lt HR0.out)).trans HR0.out)
      have HWL : Hid (w.heap.size + 2 = W0.heap.size) := hide HSZ.out.symm
      subst hres
      rcases leaf_end (o := ora o) (t := t) (l := []) with ⟨fk, fp, hlf⟩ | ⟨x, hlf⟩
      · have HLF := hide hlf
        rw [hlf, Gives, if_pos rfl] at hgv
        obtain ⟨kv, pv, rfl, hk1, hp1⟩ := hgv
        obtain ⟨ok, ck, rfl⟩ := Go.Il.Own.form hk1
        obtain ⟨op, cp, rfl⟩ := Go.Il.Own.form hp1
        have hA2 := (Below.refl w1.heap.size w1).alloc (Nat.le_refl _) (boxQ true nilV (.slice ok fk.length ck) (.slice op fp.length cp))
        have HQ2 := hide (new_block w1 (boxQ true nilV (.slice ok fk.length ck) (.slice op fp.length cp)))
        have HK2 := hide (own_up hk1 hA2)
        have HP2 := hide (own_up hp1 hA2)
        have HG2 := hide (HGE.out.below hA2)
        have HR2 := hide ((hA2.block _ (block_lt HR1.out)).trans HR1.out)
        have HB2 := hide (HB1.out.trans (hA2.mono HW1.out))
        clear hk1 hp1 hA2 hlf
        obtain ⟨q0, q1, q2, q3⟩ := q_cells HQ2.out
        have hb2 := block_lt HQ2.out
        have s0 := Bi.frozen_of HR2.out 0
        have s1 := Bi.frozen_of HR2.out 1
        have s2 := Bi.frozen_of HR2.out 2
        have s3 := Bi.frozen_of HR2.out 3
        have hbR := block_lt HR2.out
        obtain ⟨p0, p1, p2, p3⟩ := q_cells HR2.out
        go_wp2_with fail
        refine final8 (X := putQ (w1.alloc (boxQ true nilV (.slice ok fk.length ck) (.slice op fp.length cp))) (w.heap.size + 1) true nilV (.slice ok fk.length ck) (.slice op fp.length cp)) rfl ?_
        have HP := hide (putQ_block (e := true) (b := nilV) (l := .slice ok fk.length ck) (q := .slice op fp.length cp) HR2.out)
        have HQ := hide (putQ_below (d := true) (a := nilV) (l := .slice ok fk.length ck) (p := .slice op fp.length cp) (HB0.out.trans (HB2.out.mono HB0.out.size)) (B := w.heap.size + 1) (by omega))
        have HOK := hide (own_putQ (d := true) (a := nilV) (k := .slice ok fk.length ck) (p := .slice op fp.length cp) HK2.out HR2.out)
        have HOP := hide (own_putQ (d := true) (a := nilV) (k := .slice ok fk.length ck) (p := .slice op fp.length cp) HP2.out HR2.out)
        have HOG := hide (HG2.out.kept (w' := putQ (w1.alloc (boxQ true nilV (.slice ok fk.length ck) (.slice op fp.length cp))) (w.heap.size + 1) true nilV (.slice ok fk.length ck) (.slice op fp.length cp)) fun g _ _ _ hg _ => putQ_other (by have := HWL.out; omega))
        clear q0 q1 q2 q3 s0 s1 s2 s3 p0 p1 p2 p3 hb2 hbR
        generalize putQ (w1.alloc (boxQ true nilV (.slice ok fk.length ck) (.slice op fp.length cp))) (w.heap.size + 1) true nilV (.slice ok fk.length ck) (.slice op fp.length cp) = X at *
        obtain ⟨y0, y1, y2, y3⟩ := q_cells HP.out
        refine bodyPost_ret (v := .tuple #[questV true nilV (.slice ok fk.length ck) (.slice op fp.length cp), .slice o11 gl.length c11, .int .i64 0]) (by simp [results, Try.results42, go_sem, y0, y1, y2, y3]) rfl ?_
        rw [HLF.out]
        exact ⟨⟨_, _, _, rfl, own_mono (by have := HWR.out; have := HWL.out; omega) HOK.out, own_mono (by have := HWR.out; have := HWL.out; omega) HOP.out, HOG.out.base (by have := HWL.out; omega)⟩, HQ.out⟩
      · have HLF := hide hlf
        rw [hlf, Gives] at hgv
        subst hgv
        have hx : x ≠ 0 := fun e => HNE.out (by rw [hlf, e])
        have dx : (x == 0) = false := beq_false_of_ne hx
        have dx2 : decide (x = 0) = false := decide_eq_false hx
        have hA2 := (Below.refl w1.heap.size w1).alloc (Nat.le_refl _) (boxQ false nilV nilV nilV)
        have HQ2 := hide (new_block w1 (boxQ false nilV nilV nilV))
        have HG2 := hide (HGE.out.below hA2)
        have HR2 := hide ((hA2.block _ (block_lt HR1.out)).trans HR1.out)
        have HB2 := hide (HB1.out.trans (hA2.mono HW1.out))
        clear hA2 hlf
        obtain ⟨q0, q1, q2, q3⟩ := q_cells HQ2.out
        have hb2 := block_lt HQ2.out
        have s0 := Bi.frozen_of HR2.out 0
        have s1 := Bi.frozen_of HR2.out 1
        have s2 := Bi.frozen_of HR2.out 2
        have s3 := Bi.frozen_of HR2.out 3
        have hbR := block_lt HR2.out
        obtain ⟨p0, p1, p2, p3⟩ := q_cells HR2.out
        go_wp2_with fail
        refine final8 (X := putQ (w1.alloc (boxQ false nilV nilV nilV)) (w.heap.size + 1) false nilV nilV nilV) rfl ?_
        have HP := hide (putQ_block (e := false) (b := nilV) (l := nilV) (q := nilV) HR2.out)
        have HQ := hide (putQ_below (d := false) (a := nilV) (l := nilV) (p := nilV) (HB0.out.trans (HB2.out.mono HB0.out.size)) (B := w.heap.size + 1) (by omega))
        have HOG := hide (HG2.out.kept (w' := putQ (w1.alloc (boxQ false nilV nilV nilV)) (w.heap.size + 1) false nilV nilV nilV) fun g _ _ _ hg _ => putQ_other (by have := HWL.out; omega))
        clear q0 q1 q2 q3 s0 s1 s2 s3 p0 p1 p2 p3 hb2 hbR
        generalize putQ (w1.alloc (boxQ false nilV nilV nilV)) (w.heap.size + 1) false nilV nilV nilV = X at *
        obtain ⟨y0, y1, y2, y3⟩ := q_cells HP.out
        refine bodyPost_ret (v := .tuple #[questV false nilV nilV nilV, .slice o11 gl.length c11, .int .i64 x]) (by simp [results, Try.results42, go_sem, y0, y1, y2, y3]) rfl ?_
        rw [HLF.out]
        exact ⟨⟨_, rfl, HOG.out.base (by have := HWL.out; omega)⟩, HQ.out⟩
end Go.Proofs.Ytmkapmbmgpnjaaa.Se

set_option maxRecDepth 100000
set_option linter.unusedSimpArgs false
set_option linter.unusedVariables false
namespace Go.Proofs.Ytmkapmbmgpnjaaa.Se
open Go Go.Ms Go.Pg Go.Bi Go.Se Go.ChangeShapes Go.WideShapes Go.ChangeAt Go.RowKit Go.Deep Go.Proofs.Ytmkapmbmgpnjaaa.Bi

/-! What the laws of the searches share. -/

def Awake : Prop := ∀ w : World, Calls Try.prog 41 #[] w fun e w' => e = .returned (.bool true) ∧ Below w.heap.size w w'
theorem o_cells {w : World} {B : Nat} {sn sb : Value} {o : Orc} (h : w.heap[B]? = some (boxO sn sb o)) : w.cell? ⟨B, 0, none⟩ = some sn ∧ w.cell? ⟨B, 1, none⟩ = some sb ∧ w.cell? ⟨B, 2, none⟩ = some (.int .u64 (o.salt : Int)) ∧ w.cell? ⟨B, 3, none⟩ = some (.int .u8 (o.loose : Int)) :=
  ⟨cell_of h 0, cell_of h 1, cell_of h 2, cell_of h 3⟩
set_option maxHeartbeats 4000000 in
theorem allNone {w : World} {z : Int} (hz : z < 0) : Calls Try.prog 32 #[.int .i64 z] w fun e w' => e = .returned (.slice none 0 0) ∧ Below w.heap.size w w' := by
  have t0 : decide (0 < z) = false := decide_eq_false (by omega)
  have t1 : ¬ 0 < z := by omega
  go_enter Try.func32, Try.ntmps32
  go_wp2_with fail
  go_loopw [3, 4] (fun v i wr => v = .slice none 0 0 ∧ i = .int .i64 0 ∧ wr = w) (fun _ i _ => 0)
  case atStart => exact ⟨rfl, rfl, rfl⟩
  case round =>
    obtain ⟨rfl, rfl, rfl⟩ := hrel
    go_wp2_with fail
    go_ret
    exact ⟨rfl, Below.refl _ _⟩
theorem allRefZ {w : World} {z : Int} {n : Nat} (hn : n ≤ 256) (h : max z 0 = (n : Int)) :
    Calls Try.prog 32 #[.int .i64 z] w fun e w' => ∃ v, e = .returned v ∧ Below w.heap.size w w' ∧ Go.Il.Own 3 .i64 w.heap.size w' v ((List.range n).map Int.ofNat) := by
  by_cases hz : z < 0
  · refine (allNone hz).mono ?_
    rintro e w' ⟨rfl, hB⟩
    obtain rfl : n = 0 := by omega
    exact ⟨_, rfl, hB, Go.Il.Own.nil _ _ _ _⟩
  · obtain rfl : z = (n : Int) := by omega
    exact allRef (by omega)

end Go.Proofs.Ytmkapmbmgpnjaaa.Se

