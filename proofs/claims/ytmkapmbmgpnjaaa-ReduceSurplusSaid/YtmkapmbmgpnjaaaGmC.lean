import Derived.Test.YtmkapmbmgpnjaaaGmB
set_option maxRecDepth 100000
set_option linter.unusedSimpArgs false
set_option linter.unusedVariables false
namespace Go.Proofs.Ytmkapmbmgpnjaaa.Se
open Go Go.Ms Go.Pg Go.Bi Go.Se Go.ChangeShapes Go.WideShapes Go.ChangeAt Go.RowKit Go.Deep Go.Proofs.Ytmkapmbmgpnjaaa.Bi

set_option maxHeartbeats 4000000 in
theorem hasRef {w : World} {v : Value} {l : List Int} {n : Int} (h : IntsW w v l) : Calls Try.prog 19 #[v, .int .i64 n] w fun e w' => e = .returned (.bool (decide (n ∈ l))) ∧ ∃ k, w' = w.drewN k := by
  obtain ⟨oa, cap, rfl, hl, hc⟩ := h
  go_enter Try.func19, Try.ntmps19
  go_wp2_with fail
  go_loopw [5] (fun i wr => ∃ k : Nat, k ≤ l.length ∧ i = .int .i64 (k : Int) ∧ Hid (n ∉ l.take k) ∧ ∃ d, wr = w.drewN d) (fun i _ => l.length - (intOf i).toNat)
  case atStart => exact ⟨0, Nat.zero_le _, rfl, hide (by simp), 0, rfl⟩
  case round =>
    obtain ⟨k, hk, rfl, hN, nd, rfl⟩ := hrel
    by_cases hlt : k < l.length
    · obtain ⟨b, o, rfl, f⟩ := int_cell hc hlt
      have hi : (k : Int) < (l.length : Int) := by omega
      have hw := wrap_upW hlt hl
      have HC := hide hc
      clear hc
      by_cases he : l[k] = n
      · have hb : (l[k] == n) = true := by simp [he]
        have HM : Hid (n ∈ l) := hide (he ▸ List.getElem_mem hlt)
        clear he
        go_wp2_with fail
        go_ret
        exact ⟨by rw [decide_eq_true HM.out]; rfl, _, rfl⟩
      · have hb : (l[k] == n) = false := beq_false_of_ne he
        have HNE := hide he
        clear he
        go_wp2_with fail
        refine ⟨⟨k + 1, hlt, by go_num, hide ?_, _, rfl⟩, by simp [intOf]; omega⟩
        rw [List.take_succ_eq_append_getElem hlt, List.mem_append, List.mem_singleton]
        rintro (q | q)
        · exact hN.out q
        · exact HNE.out q.symm
    · obtain rfl : k = l.length := by omega
      go_wp2_with fail
      go_ret
      refine ⟨by rw [decide_eq_false (by have := hN.out; rwa [List.take_length] at this)]; rfl, _, rfl⟩

theorem own_drewN {e : TypeId} {k : IntKind} {B : Nat} {w : World} {v : Value} {l : List Int} (h : Go.Il.Own e k B w v l) (n : Nat) : Go.Il.Own e k B (w.drewN n) v l := h
def minus (l m : List Int) : List Int := l.filter fun x => !decide (x ∈ m)
theorem minus_take {l m : List Int} {k : Nat} (hk : k < l.length) : minus (l.take (k + 1)) m = minus (l.take k) m ++ (if l[k] ∈ m then [] else [l[k]]) := by
  unfold minus
  rw [List.take_succ_eq_append_getElem hk, List.filter_append]
  by_cases h : l[k] ∈ m <;> simp [h]
theorem minus_length (l m : List Int) : (minus l m).length ≤ l.length := List.length_filter_le _ _
set_option maxHeartbeats 8000000 in
theorem minusRef {w : World} {v u : Value} {l m : List Int} (h : IntsW w v l) (g : IntsW w u m) (hl : l.length ≤ 100000) :
    Calls Try.prog 43 #[v, u] w fun e w' => ∃ r, e = .returned r ∧ Go.Il.Own 3 .i64 w.heap.size w' r (minus l m) ∧ Below w.heap.size w w' := by
  have HG := hide g
  have HL := hide hl
  have HV := hide h
  obtain ⟨oa, cap, rfl, hl2, hc⟩ := h
  obtain ⟨ob, cb, rfl, -, -⟩ := g
  have HC := hide hc
  clear hc
  go_enter Try.func43, Try.ntmps43
  go_wp2_with fail
  go_loopw [5, 6] (fun r i wr => ∃ k : Nat, k ≤ l.length ∧ i = .int .i64 (k : Int) ∧ Go.Il.Own 3 .i64 w.heap.size wr r (minus (l.take k) m) ∧ Below w.heap.size w wr) (fun _ i _ => l.length - (intOf i).toNat)
  case atStart => exact ⟨0, Nat.zero_le _, rfl, by simpa [minus] using Go.Il.Own.nil 3 .i64 w.heap.size w, Below.refl _ _⟩
  case round =>
    obtain ⟨k, hk, rfl, hO, hB⟩ := hrel
    have HO := hide hO
    have HB := hide hB
    clear hO hB
    by_cases hlt : k < l.length
    · obtain ⟨b, o, rfl, f0⟩ := int_cell HC.out hlt
      have f := cell_old HB.out f0
      have hi : (k : Int) < (l.length : Int) := by omega
      have hw := wrap_upW hlt hl2
      have HT := hide (minus_take (m := m) hlt)
      have hgr := ints_below HG.out HB.out
      have HGR := hide hgr
      clear f0 hgr
      generalize l[k] = x at *
      by_cases hm : x ∈ m
      · have hd : decide (x ∈ m) = true := decide_eq_true hm
        rw [if_pos hm, List.append_nil] at HT
        have HH := hide (hasRef (n := x) HGR.out)
        rw [hd] at HH
        clear hm hd
        go_wp2_with fail
        (with_reducible refine HH.out.mono ?_)
        rintro e w1 ⟨rfl, d, rfl⟩
        go_wp2_with fail
        refine ⟨⟨k + 1, hlt, by go_num, ?_, HB.out.trans (belowN _ _ _)⟩, by simp [intOf]; omega⟩
        rw [HT.out]
        exact HO.out
      · have hd : decide (x ∈ m) = false := decide_eq_false hm
        rw [if_neg hm] at HT
        have HH := hide (hasRef (n := x) HGR.out)
        rw [hd] at HH
        clear hm hd
        have hlen : (minus (l.take k) m).length + [x].length ≤ 10000000 := by
          have := minus_length (l.take k) m
          have := HL.out
          simp at *
          omega
        have hsz : w.heap.size ≤ wr.heap.size := HB.out.size
        go_wp2_with fail
        (with_reducible refine HH.out.mono ?_)
        rintro e w1 ⟨rfl, d, rfl⟩
        have f2 : (wr.drewN d).cell? ⟨b, o + k, none⟩ = some (.int .i64 x) := f
        go_wp2_with (first
          | (at_builtin
             (refine Go.Il.wpl_push EI (by decide) rfl (.tmp 20) (.tmp 25) rfl (own_drewN HO.out d) _ _ [x] _ _ rfl rfl rfl rfl rfl hsz hlen ?_
              intro v1 w1 ho1 hs1
              have HO1 := hide ho1
              have HS1 := hide hs1
              clear ho1 hs1 hlen))
          | fail)
        refine ⟨⟨k + 1, hlt, by go_num, ?_, (HB.out.trans (belowN _ _ d)).trans HS1.out.below⟩, by simp [intOf]; omega⟩
        rw [HT.out]
        exact HO1.out
    · obtain rfl : k = l.length := by omega
      rw [List.take_length] at HO
      go_wp2_with fail
      go_ret
      exact ⟨_, rfl, HO.out, HB.out⟩
end Go.Proofs.Ytmkapmbmgpnjaaa.Se

set_option maxRecDepth 100000
set_option linter.unusedSimpArgs false
set_option linter.unusedVariables false
namespace Go.Proofs.Ytmkapmbmgpnjaaa.Se
open Go Go.Ms Go.Pg Go.Bi Go.Se Go.ChangeShapes Go.WideShapes Go.ChangeAt Go.RowKit Go.Deep Go.Proofs.Ytmkapmbmgpnjaaa.Bi

def Lists (w : World) (v : Value) (ls : List (List Int)) : Prop := ∃ oa cap, v = .slice oa ls.length cap ∧ ls.length ≤ 9223372036854775807 ∧ ∀ i (h : i < ls.length), ∃ b o s, oa = some ⟨b, o, none⟩ ∧ w.cell? ⟨b, o + i, none⟩ = some s ∧ IntsW w s ls[i]
theorem lists_old {w w' : World} {v : Value} {ls : List (List Int)} (h : Lists w v ls) (hB : Below w.heap.size w w') : Lists w' v ls := by
  obtain ⟨oa, cap, rfl, hl, hc⟩ := h
  exact ⟨oa, cap, rfl, hl, fun i hi => by
    obtain ⟨b, o, s, e, hx, hs⟩ := hc i hi
    exact ⟨b, o, s, e, cell_old hB hx, ints_below hs hB⟩⟩
theorem list_cell {w : World} {oa : Option Addr} {i : Nat} {ls : List (List Int)} (h : ∀ i (h : i < ls.length), ∃ b o s, oa = some ⟨b, o, none⟩ ∧ w.cell? ⟨b, o + i, none⟩ = some s ∧ IntsW w s ls[i]) (hi : i < ls.length) : ∃ b o s, oa = some ⟨b, o, none⟩ ∧ w.cell? ⟨b, o + i, none⟩ = some s ∧ IntsW w s ls[i] := h i hi
def holdsOne (set : List Int) (ls : List (List Int)) : Bool := ls.any fun l => (minus l set).isEmpty
theorem holdsOne_take {set : List Int} {ls : List (List Int)} {k : Nat} (hk : k < ls.length) : holdsOne set (ls.take (k + 1)) = (holdsOne set (ls.take k) || (minus ls[k] set).isEmpty) := by
  unfold holdsOne
  rw [List.take_succ_eq_append_getElem hk, List.any_append]
  simp

set_option maxHeartbeats 8000000 in
theorem containsRef {w : World} {v u : Value} {set : List Int} {ls : List (List Int)} (h : IntsW w v set) (g : Lists w u ls) (hl : ∀ l ∈ ls, l.length ≤ 100000) :
    Calls Try.prog 96 #[v, u] w fun e w' => e = .returned (.bool (holdsOne set ls)) ∧ Below w.heap.size w w' := by
  have HV := hide h
  have HL := hide hl
  have HG := hide g
  obtain ⟨ob, cb, rfl, -, -⟩ := h
  obtain ⟨oa, cap, rfl, hll, hc⟩ := g
  have HC := hide hc
  clear hc hl
  go_enter Try.func96, Try.ntmps96
  go_wp2_with fail
  go_loopw [5] (fun i wr => ∃ k : Nat, k ≤ ls.length ∧ i = .int .i64 (k : Int) ∧ Hid (holdsOne set (ls.take k) = false) ∧ Below w.heap.size w wr) (fun i _ => ls.length - (intOf i).toNat)
  case atStart => exact ⟨0, Nat.zero_le _, rfl, hide (by simp [holdsOne]), Below.refl _ _⟩
  case round =>
    obtain ⟨k, hk, rfl, hN, hB⟩ := hrel
    have HB := hide hB
    clear hB
    by_cases hlt : k < ls.length
    · obtain ⟨b, o, s, rfl, f0, hs0⟩ := list_cell HC.out hlt
      have f := cell_old HB.out f0
      have HS := hide (ints_below hs0 HB.out)
      have hi : (k : Int) < (ls.length : Int) := by omega
      have hw := wrap_upW hlt hll
      have HT := hide (holdsOne_take (set := set) hlt)
      have HM := hide (HL.out _ (List.getElem_mem hlt))
      have HMEM := hide (List.getElem_mem hlt)
      generalize ls[k] = x at *
      have HR := hide (minusRef HS.out (ints_below HV.out HB.out) HM.out)
      clear f0 hs0
      obtain ⟨L, hL⟩ : ∃ L, L = (minus x set).length := ⟨_, rfl⟩
      by_cases h0 : L = 0
      · have HE : Hid ((minus x set).isEmpty = true) := hide (by rw [List.isEmpty_iff]; exact List.eq_nil_of_length_eq_zero (by omega))
        have hd : ((L : Int) == 0) = true := by simp [h0]
        have HLL := hide hL
        clear hL h0
        go_wp2_with fail
        (with_reducible refine HR.out.mono ?_)
        rintro e w1 ⟨r, rfl, hO, hB1⟩
        obtain ⟨or, cr, rfl⟩ := Go.Il.Own.form hO
        rw [← HLL.out]
        have HB1 := hide (HB.out.trans (hB1.mono HB.out.size))
        clear hO hB1
        go_wp2_with fail
        go_ret
        refine ⟨?_, HB1.out⟩
        have : holdsOne set ls = true := by
          unfold holdsOne
          rw [List.any_eq_true]
          exact ⟨x, HMEM.out, HE.out⟩
        rw [this]
        rfl
      · have HE : Hid ((minus x set).isEmpty = false) := hide (by rw [Bool.eq_false_iff]; intro q; rw [List.isEmpty_iff] at q; rw [q] at hL; simp at hL; exact h0 hL)
        have hd : ((L : Int) == 0) = false := beq_false_of_ne (by omega)
        have HLL := hide hL
        clear hL h0
        go_wp2_with fail
        (with_reducible refine HR.out.mono ?_)
        rintro e w1 ⟨r, rfl, hO, hB1⟩
        obtain ⟨or, cr, rfl⟩ := Go.Il.Own.form hO
        rw [← HLL.out]
        have HB1 := hide (HB.out.trans (hB1.mono HB.out.size))
        clear hO hB1
        go_wp2_with fail
        refine ⟨⟨k + 1, hlt, by go_num, hide ?_, HB1.out⟩, by simp [intOf]; omega⟩
        rw [HT.out, hN.out, HE.out]
        rfl
    · obtain rfl : k = ls.length := by omega
      rw [List.take_length] at hN
      go_wp2_with fail
      go_ret
      rw [hN.out]
      exact ⟨rfl, HB.out⟩

def u64 (z : Int) : Nat := (z % 18446744073709551616).toNat
theorem u64_lt (z : Int) : u64 z < 18446744073709551616 := by unfold u64; omega
theorem u64_wrap (z : Int) : IntKind.u64.wrap z = (u64 z : Int) := by
  unfold u64
  simp [IntKind.wrap, IntKind.signed, IntKind.bits]
  omega
def fold29 (a : Nat) : Nat := a ^^^ (a / 536870912)
def mulM (a c : Nat) : Nat := a * c % 18446744073709551616
def mixStep (h : Nat) (x : Int) : Nat := fold29 (mulM (h ^^^ u64 x) 13787848793156543929)
def mixes (salt : Nat) (l : List Int) : Nat := l.foldl mixStep (salt ^^^ 11400714819323198485)
def mixed (salt : Nat) (l : List Int) : Nat := mulM (mixes salt l ^^^ (mixes salt l / 4294967296)) 10723151780598845931
theorem xor_lt {a b : Nat} (ha : a < 18446744073709551616) (hb : b < 18446744073709551616) : a ^^^ b < 18446744073709551616 := Nat.xor_lt_two_pow (n := 64) ha hb
theorem mulM_lt (a c : Nat) : mulM a c < 18446744073709551616 := Nat.mod_lt _ (by decide)
theorem div_lt64 {a c : Nat} (ha : a < 18446744073709551616) : a / c < 18446744073709551616 := Nat.lt_of_le_of_lt (Nat.div_le_self _ _) ha
theorem fold29_lt {a : Nat} (h : a < 18446744073709551616) : fold29 a < 18446744073709551616 := xor_lt h (div_lt64 h)
theorem mixStep_lt (h : Nat) (x : Int) : mixStep h x < 18446744073709551616 := fold29_lt (mulM_lt _ _)
theorem mixes_take {salt : Nat} {l : List Int} {k : Nat} (hk : k < l.length) : mixes salt (l.take (k + 1)) = mixStep (mixes salt (l.take k)) l[k] := by
  unfold mixes
  rw [List.take_succ_eq_append_getElem hk, List.foldl_append, List.foldl_cons, List.foldl_nil]
theorem xorAt {x y : Nat} (hx : x < 18446744073709551616) (hy : y < 18446744073709551616) : bits .xor .u64 (x : Int) (y : Int) = ((x ^^^ y : Nat) : Int) := u64_xor_nat x y (by omega) (by omega)
theorem mulAt (x y : Nat) : IntKind.u64.wrap ((x : Int) * (y : Int)) = ((mulM x y : Nat) : Int) := by
  rw [u64_wrap]
  unfold mulM
  unfold u64
  rw [show (x : Int) * (y : Int) = ((x * y : Nat) : Int) by simp]
  omega
set_option maxHeartbeats 8000000 in
theorem mixedRef {w : World} {salt : Nat} {v : Value} {l : List Int} (hs : salt < 18446744073709551616) (h : IntsW w v l) :
    Calls Try.prog 95 #[.int .u64 (salt : Int), v] w fun e w' => e = .returned (.int .u64 (mixed salt l : Nat)) ∧ w' = w := by
  obtain ⟨oa, cap, rfl, hl, hc⟩ := h
  have hx0 := xorAt hs (by decide : 11400714819323198485 < 18446744073709551616)
  have HS0 := hide (xor_lt hs (by decide : 11400714819323198485 < 18446744073709551616))
  have HC := hide hc
  obtain ⟨h0, e0⟩ : ∃ h0, h0 = salt ^^^ 11400714819323198485 := ⟨_, rfl⟩
  rw [← e0] at hx0 HS0
  have hx0 : bits .xor .u64 (salt : Int) 11400714819323198485 = (h0 : Int) := hx0
  have HE0 := hide e0
  clear hs hc e0
  go_enter Try.func95, Try.ntmps95
  go_wp2_with fail
  go_loopw [5, 6] (fun s5 i wr => ∃ k h : Nat, k ≤ l.length ∧ i = .int .i64 (k : Int) ∧ s5 = .int .u64 (h : Int) ∧ Hid (h = mixes salt (l.take k)) ∧ Hid (h < 18446744073709551616) ∧ wr = w) (fun _ i _ => l.length - (intOf i).toNat)
  case atStart => exact ⟨0, h0, Nat.zero_le _, rfl, rfl, hide (by rw [HE0.out]; rfl), HS0, rfl⟩
  case round =>
    obtain ⟨k, h, hk, rfl, rfl, HH, HLT, rfl⟩ := hrel
    by_cases hlt : k < l.length
    · obtain ⟨b, o, rfl, f⟩ := int_cell HC.out hlt
      have hi : (k : Int) < (l.length : Int) := by omega
      have hw := wrap_upW hlt hl
      have HT := hide (mixes_take (salt := salt) hlt)
      generalize l[k] = x at *
      have wx := u64_wrap x
      have hxo := xorAt HLT.out (u64_lt x)
      have HXO := hide (xor_lt HLT.out (u64_lt x))
      obtain ⟨a, ha⟩ : ∃ a, a = h ^^^ u64 x := ⟨_, rfl⟩
      rw [← ha] at hxo HXO
      obtain ⟨m, hm⟩ : ∃ m, m = mulM a 13787848793156543929 := ⟨_, rfl⟩
      have hmu : IntKind.u64.wrap ((a : Int) * 13787848793156543929) = (m : Int) := by rw [hm]; exact mulAt a 13787848793156543929
      have hml := mulM_lt a 13787848793156543929
      rw [← hm] at hml
      obtain ⟨n, hn⟩ : ∃ n, n = m / 536870912 := ⟨_, rfl⟩
      have hsr : (m : Int) / 536870912 = (n : Int) := by rw [hn]; simp
      have hxo2 := xorAt hml (by rw [hn]; exact div_lt64 hml : n < 18446744073709551616)
      have HR : Hid (m ^^^ n = mixStep h x) := hide (by rw [mixStep, ← ha, ← hm, fold29, ← hn])
      have HRL := hide (mixStep_lt h x)
      clear ha hm hn hml
      go_wp2_with fail
      exact ⟨⟨k + 1, mixStep h x, hlt, by go_num, by rw [HR.out], hide (by rw [HT.out, ← HH.out]), HRL, trivial⟩, by simp [intOf]; omega⟩
    · obtain rfl : k = l.length := by omega
      rw [List.take_length] at HH
      obtain ⟨n, hn⟩ : ∃ n, n = h / 4294967296 := ⟨_, rfl⟩
      have hsr : (h : Int) / 4294967296 = (n : Int) := by rw [hn]; simp
      have hnl : n < 18446744073709551616 := by rw [hn]; exact div_lt64 HLT.out
      have hxo2 := xorAt HLT.out hnl
      obtain ⟨a, ha⟩ : ∃ a, a = h ^^^ n := ⟨_, rfl⟩
      rw [← ha] at hxo2
      have hmu : IntKind.u64.wrap ((a : Int) * 10723151780598845931) = (mulM a 10723151780598845931 : Nat) := mulAt a 10723151780598845931
      have HR : Hid (mulM a 10723151780598845931 = mixed salt l) := hide (by rw [mixed, ← HH.out, ← hn, ← ha])
      clear hn ha hnl
      generalize mulM a 10723151780598845931 = z at *
      go_wp2_with fail
      go_ret
      rw [← HR.out]
      exact ⟨rfl, rfl⟩
end Go.Proofs.Ytmkapmbmgpnjaaa.Se

set_option maxRecDepth 100000
set_option linter.unusedSimpArgs false
set_option linter.unusedVariables false
namespace Go.Proofs.Ytmkapmbmgpnjaaa.Se
open Go Go.Ms Go.Pg Go.Bi Go.Se Go.ChangeShapes Go.WideShapes Go.ChangeAt Go.RowKit Go.Deep Go.Proofs.Ytmkapmbmgpnjaaa.Bi

structure Orc where
  need : List (List Int)
  bar : List (List Int)
  salt : Nat
  loose : Nat
def say (o : Orc) (set : List Int) : Nat :=
  if mixed o.salt set / 1048576 % 256 < o.loose then 1 + mixed o.salt set / 1048576 / 256 % 3
  else if (holdsOne set o.need && !holdsOne set o.bar) = true then 2 else 1
theorem say_value (o : Orc) (set : List Int) : say o set = 1 ∨ say o set = 2 ∨ say o set = 3 := by
  unfold say
  split
  · omega
  · split
    · exact .inr (.inl rfl)
    · exact .inl rfl
structure OrcAt (w : World) (sn sb : Value) (o : Orc) : Prop where
  need : Lists w sn o.need
  bar : Lists w sb o.bar
  salt : o.salt < 18446744073709551616
  loose : o.loose < 256
abbrev orcV (sn sb : Value) (o : Orc) : Value := .agg #[sn, sb, .int .u64 (o.salt : Int), .int .u8 (o.loose : Int)]
theorem OrcAt.old {w w' : World} {sn sb : Value} {o : Orc} (h : OrcAt w sn sb o) (hB : Below w.heap.size w w') : OrcAt w' sn sb o := ⟨lists_old h.need hB, lists_old h.bar hB, h.salt, h.loose⟩
structure Small (o : Orc) : Prop where
  need : ∀ l ∈ o.need, l.length ≤ 100000
  bar : ∀ l ∈ o.bar, l.length ≤ 100000

set_option maxHeartbeats 8000000 in
theorem sayRef {w : World} {sn sb s : Value} {o : Orc} {set : List Int} (h : OrcAt w sn sb o) (hs : IntsW w s set) (hm : Small o) :
    Calls Try.prog 31 #[orcV sn sb o, s] w fun e w' => e = .returned (.int .u8 (say o set : Nat)) ∧ Below w.heap.size w w' := by
  have hB0 := (Below.refl w.heap.size w).alloc (Nat.le_refl _) (.cells #[sn, sb, .int .u64 (o.salt : Int), .int .u8 (o.loose : Int)] 48)
  have HB0 := hide hB0
  have H0 := hide (h.old hB0)
  have HS0 := hide (ints_below hs hB0)
  have HSM := hide hm
  have HX := hide (new_block w (.cells #[sn, sb, .int .u64 (o.salt : Int), .int .u8 (o.loose : Int)] 48))
  have HMX := hide (fun W (q : IntsW W s set) => mixedRef (w := W) h.salt q)
  obtain ⟨mx, hmx⟩ : ∃ mx, mx = mixed o.salt set := ⟨_, rfl⟩
  rw [← hmx] at HMX
  obtain ⟨hh, ehh⟩ : ∃ hh, hh = mx / 1048576 := ⟨_, rfl⟩
  have e1 : (mx : Int) / 1048576 = (hh : Int) := by rw [ehh]; simp
  obtain ⟨rm, hrm⟩ : ∃ rm, rm = hh % 256 := ⟨_, rfl⟩
  have e2 : (hh : Int).tmod 256 = (rm : Int) := by rw [Int.tmod_eq_emod_of_nonneg (by omega), hrm]; simp
  obtain ⟨qq, hqq⟩ : ∃ qq, qq = hh / 256 := ⟨_, rfl⟩
  have e4 : (hh : Int).tdiv 256 = (qq : Int) := by rw [Int.tdiv_eq_ediv_of_nonneg (by omega), hqq]; simp
  obtain ⟨r3, hr3⟩ : ∃ r3, r3 = qq % 3 := ⟨_, rfl⟩
  have e5 : (qq : Int).tmod 3 = (r3 : Int) := by rw [Int.tmod_eq_emod_of_nonneg (by omega), hr3]; simp
  have hml : mx < 18446744073709551616 := by rw [hmx]; exact mulM_lt _ _
  have e8 : IntKind.u64.wrap (qq : Int) = (qq : Int) := wraps_u64 _ (by omega) (by omega)
  have e6 : (r3 : Int) % 256 = (r3 : Int) := by omega
  have e7 : (1 + (r3 : Int)) % 256 = ((1 + r3 : Nat) : Int) := by omega
  have e3 : IntKind.u64.wrap (o.loose : Int) = (o.loose : Int) := by have := h.loose; simp [IntKind.wrap, IntKind.signed, IntKind.bits]; omega
  have HSAY : Hid (say o set = if rm < o.loose then 1 + r3 else if (holdsOne set o.need && !holdsOne set o.bar) = true then 2 else 1) := hide (by rw [say, ← hmx, ← ehh, ← hrm, ← hqq, ← hr3])
  have x0 : (w.alloc (.cells #[sn, sb, .int .u64 (o.salt : Int), .int .u8 (o.loose : Int)] 48)).cell? ⟨w.heap.size, 0, none⟩ = some sn := cell_of HX.out 0
  have x1 : (w.alloc (.cells #[sn, sb, .int .u64 (o.salt : Int), .int .u8 (o.loose : Int)] 48)).cell? ⟨w.heap.size, 1, none⟩ = some sb := cell_of HX.out 1
  have x2 : (w.alloc (.cells #[sn, sb, .int .u64 (o.salt : Int), .int .u8 (o.loose : Int)] 48)).cell? ⟨w.heap.size, 2, none⟩ = some (.int .u64 (o.salt : Int)) := cell_of HX.out 2
  have x3 : (w.alloc (.cells #[sn, sb, .int .u64 (o.salt : Int), .int .u8 (o.loose : Int)] 48)).cell? ⟨w.heap.size, 3, none⟩ = some (.int .u8 (o.loose : Int)) := cell_of HX.out 3
  obtain ⟨os, cs, rfl, -, -⟩ := hs
  obtain ⟨on, lnn, cn, rfl⟩ : ∃ on lnn cn, sn = .slice on lnn cn := by obtain ⟨a, b, c, -⟩ := h.need; exact ⟨_, _, _, c⟩
  obtain ⟨ob, lnb, cb, rfl⟩ : ∃ ob lnb cb, sb = .slice ob lnb cb := by obtain ⟨a, b, c, -⟩ := h.bar; exact ⟨_, _, _, c⟩
  clear hB0 h hm hmx ehh hrm hqq hr3 hml
  by_cases hlt : rm < o.loose
  · have t1 : decide ((rm : Int) < (o.loose : Int)) = true := decide_eq_true (by omega)
    have t2 : decide (rm < o.loose) = true := decide_eq_true hlt
    rw [if_pos hlt] at HSAY
    clear hlt
    go_enter Try.func31, Try.ntmps31
    go_wp2_with fail
    (with_reducible refine (HMX.out _ HS0.out).mono ?_)
    rintro e w1 ⟨rfl, rfl⟩
    go_wp2_with fail
    go_ret
    rw [HSAY.out]
    exact ⟨rfl, HB0.out⟩
  · have t1 : decide ((rm : Int) < (o.loose : Int)) = false := decide_eq_false (by omega)
    have t2 : decide (rm < o.loose) = false := decide_eq_false hlt
    rw [if_neg hlt] at HSAY
    clear hlt
    have HN := hide (containsRef HS0.out H0.out.need HSM.out.need)
    cases hn : holdsOne set o.need with
    | false =>
      rw [hn] at HN HSAY
      clear hn
      go_enter Try.func31, Try.ntmps31
      go_wp2_with fail
      (with_reducible refine (HMX.out _ HS0.out).mono ?_)
      rintro e w1 ⟨rfl, rfl⟩
      go_wp2_with fail
      (with_reducible refine HN.out.mono ?_)
      rintro e w1 ⟨rfl, hB1⟩
      have HB1 := hide (HB0.out.trans (hB1.mono HB0.out.size))
      clear hB1
      go_wp2_with fail
      go_ret
      rw [HSAY.out]
      exact ⟨rfl, HB1.out⟩
    | true =>
      rw [hn] at HN HSAY
      have HNB := hide (fun W (hW : Below (w.alloc (.cells #[.slice on lnn cn, .slice ob lnb cb, .int .u64 (o.salt : Int), .int .u8 (o.loose : Int)] 48)).heap.size (w.alloc (.cells #[.slice on lnn cn, .slice ob lnb cb, .int .u64 (o.salt : Int), .int .u8 (o.loose : Int)] 48)) W) => containsRef (ints_below HS0.out hW) (H0.out.old hW).bar HSM.out.bar)
      cases hb : holdsOne set o.bar with
      | false =>
        rw [hb] at HNB HSAY
        clear hn hb
        go_enter Try.func31, Try.ntmps31
        go_wp2_with fail
        (with_reducible refine (HMX.out _ HS0.out).mono ?_)
        rintro e w1 ⟨rfl, rfl⟩
        go_wp2_with fail
        (with_reducible refine HN.out.mono ?_)
        rintro e w1 ⟨rfl, hB1⟩
        have HB1 := hide (HB0.out.trans (hB1.mono HB0.out.size))
        have HC := hide (HNB.out w1 hB1)
        have hx1 := (hB1.block _ (block_lt HX.out)).trans HX.out
        have y1 : w1.cell? ⟨w.heap.size, 1, none⟩ = some (.slice ob lnb cb) := cell_of hx1 1
        clear hB1 x0 x1 x2 x3 hx1
        go_wp2_with fail
        (with_reducible refine HC.out.mono ?_)
        rintro e w2 ⟨rfl, hB2⟩
        have HB2 := hide (HB1.out.trans (hB2.mono HB1.out.size))
        clear hB2
        go_wp2_with fail
        go_ret
        rw [HSAY.out]
        exact ⟨rfl, HB2.out⟩
      | true =>
        rw [hb] at HNB HSAY
        clear hn hb
        go_enter Try.func31, Try.ntmps31
        go_wp2_with fail
        (with_reducible refine (HMX.out _ HS0.out).mono ?_)
        rintro e w1 ⟨rfl, rfl⟩
        go_wp2_with fail
        (with_reducible refine HN.out.mono ?_)
        rintro e w1 ⟨rfl, hB1⟩
        have HB1 := hide (HB0.out.trans (hB1.mono HB0.out.size))
        have HC := hide (HNB.out w1 hB1)
        have hx1 := (hB1.block _ (block_lt HX.out)).trans HX.out
        have y1 : w1.cell? ⟨w.heap.size, 1, none⟩ = some (.slice ob lnb cb) := cell_of hx1 1
        clear hB1 x0 x1 x2 x3 hx1
        go_wp2_with fail
        (with_reducible refine HC.out.mono ?_)
        rintro e w2 ⟨rfl, hB2⟩
        have HB2 := hide (HB1.out.trans (hB2.mono HB1.out.size))
        clear hB2
        go_wp2_with fail
        go_ret
        rw [HSAY.out]
        exact ⟨rfl, HB2.out⟩
end Go.Proofs.Ytmkapmbmgpnjaaa.Se

set_option maxRecDepth 100000
set_option linter.unusedSimpArgs false
set_option linter.unusedVariables false
namespace Go.Proofs.Ytmkapmbmgpnjaaa.Se
open Go Go.Ms Go.Pg Go.Bi Go.Se Go.ChangeShapes Go.WideShapes Go.ChangeAt Go.RowKit Go.Deep Go.Proofs.Ytmkapmbmgpnjaaa.Bi

def msum : List (List Int) → Nat
  | [] => 0
  | l :: ls => min l.length 100 + msum ls
theorem msum_append (a b : List (List Int)) : msum (a ++ b) = msum a + msum b := by
  induction a with
  | nil => simp [msum]
  | cons x a ih => simp [msum, ih]; omega
theorem msum_take {ls : List (List Int)} {k : Nat} (hk : k < ls.length) : msum (ls.take (k + 1)) = msum (ls.take k) + min ls[k].length 100 := by
  rw [List.take_succ_eq_append_getElem hk, msum_append]
  simp [msum]
theorem msum_le (ls : List (List Int)) : msum ls ≤ ls.length * 100 := by
  induction ls with
  | nil => simp [msum]
  | cons x a ih => simp [msum]; omega
theorem msum_mem {ls : List (List Int)} {l : List Int} (h : l ∈ ls) : min l.length 100 ≤ msum ls := by
  induction ls with
  | nil => cases h
  | cons x a ih =>
    rcases List.mem_cons.1 h with rfl | h
    · simp [msum]
    · have := ih h
      simp [msum]; omega
def great (o : Orc) : Bool := decide (8 < o.need.length) || decide (8 < o.bar.length) || decide (60 < msum o.need + msum o.bar)
theorem small_of {o : Orc} (h : great o = false) : Small o := by
  unfold great at h
  simp only [Bool.or_eq_false_iff, decide_eq_false_iff_not] at h
  refine ⟨fun l hl => ?_, fun l hl => ?_⟩
  · have := msum_mem hl; omega
  · have := msum_mem hl; omega

set_option maxHeartbeats 16000000 in
theorem greatRef {w : World} {sn sb : Value} {o : Orc} (h : OrcAt w sn sb o) :
    Calls Try.prog 28 #[orcV sn sb o] w fun e w' => e = .returned (.bool (great o)) ∧ Below w.heap.size w w' := by
  have hB0 := ((Below.refl w.heap.size w).alloc (Nat.le_refl _) (.cells #[sn, sb, .int .u64 (o.salt : Int), .int .u8 (o.loose : Int)] 48)).alloc (by simp) (.cells #[sn, sb] 22)
  have HB0 := hide hB0
  have HX := hide (new_block w (.cells #[sn, sb, .int .u64 (o.salt : Int), .int .u8 (o.loose : Int)] 48))
  have HY : Hid (((w.alloc (.cells #[sn, sb, .int .u64 (o.salt : Int), .int .u8 (o.loose : Int)] 48)).alloc (.cells #[sn, sb] 22)).heap[w.heap.size + 1]? = some (.cells #[sn, sb] 22 (0, 0))) := hide (alloc_at (by simp))
  have HO := hide (h.old hB0)
  have x0 : (w.alloc (.cells #[sn, sb, .int .u64 (o.salt : Int), .int .u8 (o.loose : Int)] 48)).cell? ⟨w.heap.size, 0, none⟩ = some sn := cell_of HX.out 0
  have x1 : (w.alloc (.cells #[sn, sb, .int .u64 (o.salt : Int), .int .u8 (o.loose : Int)] 48)).cell? ⟨w.heap.size, 1, none⟩ = some sb := cell_of HX.out 1
  obtain ⟨on, cn, hsn, hln, -⟩ := h.need
  obtain ⟨ob, cb, hsb, hlb, -⟩ := h.bar
  subst hsn hsb
  have HLN := hide hln
  have HLB := hide hlb
  clear hB0 h hln hlb
  go_enter Try.func28, Try.ntmps28
  go_wp2_with fail
  have y0 : ((w.alloc (.cells #[.slice on o.need.length cn, .slice ob o.bar.length cb, .int .u64 (o.salt : Int), .int .u8 (o.loose : Int)] 48)).alloc (.cells #[.slice on o.need.length cn, .slice ob o.bar.length cb] 22)).cell? ⟨w.heap.size + 1, 0, none⟩ = some (.slice on o.need.length cn) := cell_of HY.out 0
  have y1 : ((w.alloc (.cells #[.slice on o.need.length cn, .slice ob o.bar.length cb, .int .u64 (o.salt : Int), .int .u8 (o.loose : Int)] 48)).alloc (.cells #[.slice on o.need.length cn, .slice ob o.bar.length cb] 22)).cell? ⟨w.heap.size + 1, 1, none⟩ = some (.slice ob o.bar.length cb) := cell_of HY.out 1
  clear x0 x1
  generalize (w.alloc (.cells #[.slice on o.need.length cn, .slice ob o.bar.length cb, .int .u64 (o.salt : Int), .int .u8 (o.loose : Int)] 48)).alloc (.cells #[.slice on o.need.length cn, .slice ob o.bar.length cb] 22) = W at *
  go_loopw [3, 13] (fun s3 i wr => ∃ k n : Nat, k ≤ 2 ∧ i = .int .i64 (k : Int) ∧ s3 = .int .i64 (n : Int) ∧ Hid ((0 < k → o.need.length ≤ 8) ∧ (1 < k → o.bar.length ≤ 8) ∧ n = (if 0 < k then msum o.need else 0) + (if 1 < k then msum o.bar else 0)) ∧ wr = W) (fun _ i _ => 2 - (intOf i).toNat)
  case atStart => exact ⟨0, 0, by omega, rfl, rfl, hide ⟨fun h => by omega, fun h => by omega, by simp⟩, rfl⟩
  case round =>
    obtain ⟨k, n, hk, rfl, rfl, HN, rfl⟩ := hrel
    rcases (show k = 0 ∨ k = 1 ∨ k = 2 by omega) with rfl | rfl | rfl
    · by_cases h8 : 8 < o.need.length
      · have t1 : decide ((8 : Int) < (o.need.length : Int)) = true := decide_eq_true (by omega)
        have t2 : decide (8 < o.need.length) = true := decide_eq_true h8
        have HG : Hid (great o = true) := hide (by simp [great, h8])
        clear h8
        go_wp2_with fail
        go_ret
        rw [HG.out]
        exact ⟨rfl, HB0.out⟩
      · have t1 : decide ((8 : Int) < (o.need.length : Int)) = false := decide_eq_false (by omega)
        have t2 : decide (8 < o.need.length) = false := decide_eq_false h8
        have H8 : Hid (o.need.length ≤ 8) := hide (by omega)
        have HNN : Hid (n = 0) := hide (by have := HN.out.2.2; simpa using this)
        have HNB : Hid (n ≤ 800) := hide (by rw [HNN.out]; omega)
        obtain ⟨oa2, cap2, e2, -, hcell⟩ := HO.out.need
        injection e2 with e2 e3 e4
        subst e2 e4
        have HC := hide hcell
        clear h8 hcell e3
        go_wp2_with fail
        obtain ⟨wo, rfl⟩ : ∃ wo : World, wo = wr := ⟨_, rfl⟩
        go_loopw [3, 6] (fun s3 i wy => ∃ j z : Nat, j ≤ o.need.length ∧ i = .int .i64 (j : Int) ∧ s3 = .int .i64 (z : Int) ∧ Hid (z = n + msum (o.need.take j)) ∧ wy = wo) (fun _ i _ => o.need.length - (intOf i).toNat)
        case atStart => exact ⟨0, n, Nat.zero_le _, rfl, rfl, hide (by simp [msum]), rfl⟩
        case round =>
          obtain ⟨j, z, hj, rfl, rfl, HZ, rfl⟩ := hrel
          by_cases hlt : j < o.need.length
          · obtain ⟨b, oo, s, rfl, f, hs⟩ := list_cell HC.out hlt
            have hi : (j : Int) < (o.need.length : Int) := by omega
            have hw : IntKind.i64.wrap ((j : Int) + 1) = (j : Int) + 1 := wrap_in (by omega) (by have := H8.out; omega)
            have HT := hide (msum_take hlt)
            obtain ⟨os, cs, rfl, -, -⟩ := hs
            generalize o.need[j].length = L at *
            obtain ⟨m, hm⟩ : ∃ m, m = min L 100 := ⟨_, rfl⟩
            have hmin : (if (100 : Int) < (L : Int) then (100 : Int) else (L : Int)) = (m : Int) := by rw [hm]; split <;> omega
            have hmin2 : (if 100 < L then (100 : Int) else (L : Int)) = (m : Int) := by rw [hm]; split <;> omega
            have hz : IntKind.i64.wrap ((z : Int) + (m : Int)) = ((z + m : Nat) : Int) := by
              have h1 := msum_le (o.need.take j)
              have h2 : (o.need.take j).length ≤ 8 := by have := H8.out; simp; omega
              have h3 := HZ.out
              have h4 := HNB.out
              rw [wrap_in (by omega) (by omega)]
              omega
            rw [← hm] at HT
            clear hm
            go_wp2_with fail
            refine ⟨⟨j + 1, z + m, hlt, by go_num, by go_num, hide (by rw [HT.out, HZ.out]; omega), trivial⟩, by simp [intOf]; omega⟩
          · obtain rfl : j = o.need.length := by omega
            have hw : IntKind.i64.wrap (0 + 1) = 1 := by decide
            rw [List.take_length] at HZ
            clear hj
            go_wp2_with fail
            refine ⟨⟨1, z, by omega, rfl, rfl, hide ⟨fun _ => H8.out, fun q => by omega, by rw [HZ.out, HNN.out]; simp⟩, trivial⟩, by simp [intOf]⟩
    · by_cases h8 : 8 < o.bar.length
      · have t1 : decide ((8 : Int) < (o.bar.length : Int)) = true := decide_eq_true (by omega)
        have t2 : decide (8 < o.bar.length) = true := decide_eq_true h8
        have HG : Hid (great o = true) := hide (by simp [great, h8])
        clear h8
        go_wp2_with fail
        go_ret
        rw [HG.out]
        exact ⟨rfl, HB0.out⟩
      · have t1 : decide ((8 : Int) < (o.bar.length : Int)) = false := decide_eq_false (by omega)
        have t2 : decide (8 < o.bar.length) = false := decide_eq_false h8
        have H8 : Hid (o.bar.length ≤ 8) := hide (by omega)
        have HNN : Hid (n = msum o.need) := hide (by have := HN.out.2.2; simpa using this)
        have HNB : Hid (n ≤ 800) := hide (by rw [HNN.out]; have := msum_le o.need; have := HN.out.1 (by omega); omega)
        obtain ⟨oa2, cap2, e2, -, hcell⟩ := HO.out.bar
        injection e2 with e2 e3 e4
        subst e2 e4
        have HC := hide hcell
        clear h8 hcell e3
        go_wp2_with fail
        obtain ⟨wo, rfl⟩ : ∃ wo : World, wo = wr := ⟨_, rfl⟩
        go_loopw [3, 6] (fun s3 i wy => ∃ j z : Nat, j ≤ o.bar.length ∧ i = .int .i64 (j : Int) ∧ s3 = .int .i64 (z : Int) ∧ Hid (z = n + msum (o.bar.take j)) ∧ wy = wo) (fun _ i _ => o.bar.length - (intOf i).toNat)
        case atStart => exact ⟨0, n, Nat.zero_le _, rfl, rfl, hide (by simp [msum]), rfl⟩
        case round =>
          obtain ⟨j, z, hj, rfl, rfl, HZ, rfl⟩ := hrel
          by_cases hlt : j < o.bar.length
          · obtain ⟨b, oo, s, rfl, f, hs⟩ := list_cell HC.out hlt
            have hi : (j : Int) < (o.bar.length : Int) := by omega
            have hw : IntKind.i64.wrap ((j : Int) + 1) = (j : Int) + 1 := wrap_in (by omega) (by have := H8.out; omega)
            have HT := hide (msum_take hlt)
            obtain ⟨os, cs, rfl, -, -⟩ := hs
            generalize o.bar[j].length = L at *
            obtain ⟨m, hm⟩ : ∃ m, m = min L 100 := ⟨_, rfl⟩
            have hmin : (if (100 : Int) < (L : Int) then (100 : Int) else (L : Int)) = (m : Int) := by rw [hm]; split <;> omega
            have hmin2 : (if 100 < L then (100 : Int) else (L : Int)) = (m : Int) := by rw [hm]; split <;> omega
            have hz : IntKind.i64.wrap ((z : Int) + (m : Int)) = ((z + m : Nat) : Int) := by
              have h1 := msum_le (o.bar.take j)
              have h2 : (o.bar.take j).length ≤ 8 := by have := H8.out; simp; omega
              have h3 := HZ.out
              have h4 := HNB.out
              rw [wrap_in (by omega) (by omega)]
              omega
            rw [← hm] at HT
            clear hm
            go_wp2_with fail
            refine ⟨⟨j + 1, z + m, hlt, by go_num, by go_num, hide (by rw [HT.out, HZ.out]; omega), trivial⟩, by simp [intOf]; omega⟩
          · obtain rfl : j = o.bar.length := by omega
            have hw : IntKind.i64.wrap (1 + 1) = 2 := by decide
            rw [List.take_length] at HZ
            clear hj
            go_wp2_with fail
            refine ⟨⟨2, z, by omega, rfl, rfl, hide ⟨fun _ => HN.out.1 (by omega), fun q => H8.out, by rw [HZ.out, HNN.out]; simp⟩, trivial⟩, by simp [intOf]⟩
    · obtain ⟨h1, h2, h3⟩ := HN.out
      have HH : Hid (great o = decide (60 < n)) := hide (by
        rw [h3]
        have a1 := h1 (by omega)
        have a2 := h2 (by omega)
        simp only [great, decide_eq_false (show ¬ 8 < o.need.length by omega), decide_eq_false (show ¬ 8 < o.bar.length by omega), Bool.false_or]
        rfl)
      clear h1 h2 h3
      go_wp2_with fail
      go_ret
      rw [HH.out]
      refine ⟨?_, HB0.out⟩
      simp
      omega
end Go.Proofs.Ytmkapmbmgpnjaaa.Se

set_option maxRecDepth 100000
set_option linter.unusedSimpArgs false
set_option linter.unusedVariables false
namespace Go.Proofs.Ytmkapmbmgpnjaaa.Se
open Go Go.Ms Go.Pg Go.Bi Go.Se Go.ChangeShapes Go.WideShapes Go.ChangeAt Go.RowKit Go.Deep Go.Proofs.Ytmkapmbmgpnjaaa.Bi

def Up (l : List Int) (n : Int) (k : Nat) : Prop := ∀ i (_ : i < l.length), i < k → (0 ≤ l[i] ∧ l[i] < n) ∧ ∀ j (_ : j < l.length), i = j + 1 → l[j] < l[i]
def IsSet (l : List Int) (n : Int) : Prop := Up l n l.length
theorem up_next {l : List Int} {n : Int} {k : Nat} (h : Up l n k) (hk : k < l.length) (h1 : 0 ≤ l[k] ∧ l[k] < n) (h3 : ∀ j (hj : j < l.length), k = j + 1 → l[j] < l[k]) : Up l n (k + 1) := by
  intro i hi hik
  by_cases e : i < k
  · exact h i hi e
  · obtain rfl : i = k := by omega
    exact ⟨h1, h3⟩
theorem wrap_down {j k n : Nat} (e : k = j + 1) (h : k < n) (hn : n ≤ 9223372036854775807) : IntKind.i64.wrap ((k : Int) - 1) = (j : Int) := by
  simp [IntKind.wrap, IntKind.signed, IntKind.bits]
  omega
set_option maxHeartbeats 4000000 in
theorem isSetProg {w : World} {s : Value} {l : List Int} {n : Int} (hs : IntsW w s l) (hI : IsSet l n) : Calls Try.prog 69 #[s, .int .i64 n] w fun e w' => e = .returned (.bool true) ∧ ∃ d, w' = w.drewN d := by
  obtain ⟨os, cs, rfl, hls, hs⟩ := hs
  have HI := hide hI
  clear hI
  go_enter Try.func69, Try.ntmps69
  go_wp2_with fail
  go_loopw [9] (fun v wr => ∃ (k : Nat) (m : Nat), k ≤ l.length ∧ v = .int .i64 k ∧ wr = w.drewN m) (fun v _ => l.length - (intOf v).toNat)
  case atStart => exact ⟨0, 0, Nat.zero_le _, rfl, rfl⟩
  case round =>
    obtain ⟨k, nd, hk, rfl, rfl⟩ := hrel
    by_cases hlt : k < l.length
    · have hi1 : (k : Int) < (l.length : Int) := by omega
      have hw := wrap_upW hlt hls
      obtain ⟨r1, o1, rfl, f1⟩ := int_cell hs hlt
      have h1 := HI.out k hlt hlt
      have t0 : decide (l[k] < 0) = false := decide_eq_false (by omega)
      have t1 : decide (n ≤ l[k]) = false := decide_eq_false (by omega)
      by_cases k0 : k = 0
      · have hg : decide (0 < k) = false := decide_eq_false (by omega)
        have hg2 : decide ((0 : Int) < (k : Int)) = false := decide_eq_false (by omega)
        clear k0 h1
        go_wp2_with fail
        refine ⟨⟨k + 1, _, by omega, by go_num, rfl⟩, by simp [intOf]; omega⟩
      · obtain ⟨j, rfl⟩ : ∃ j, k = j + 1 := ⟨k - 1, by omega⟩
        have hj : j < l.length := by omega
        obtain ⟨r2, o2, he, f2⟩ := int_cell hs hj
        simp only [Option.some.injEq, Addr.mk.injEq] at he
        obtain ⟨rfl, rfl, _⟩ := he
        have hi2 : (j : Int) < (l.length : Int) := by omega
        have hd : IntKind.i64.wrap (((j + 1 : Nat) : Int) - 1) = (j : Int) := wrap_down rfl hlt hls
        have hg : decide ((0 : Int) < ((j + 1 : Nat) : Int)) = true := decide_eq_true (by omega)
        have h2 := h1.2 j hj rfl
        have t2 : decide (l[j + 1] ≤ l[j]) = false := decide_eq_false (by omega)
        clear hs h1 h2
        go_wp2_with fail
        refine ⟨⟨j + 1 + 1, _, by omega, by go_num, rfl⟩, by simp [intOf]; omega⟩
    · go_wp2_with fail
      go_ret
      exact ⟨rfl, _, rfl⟩
end Go.Proofs.Ytmkapmbmgpnjaaa.Se

set_option maxRecDepth 100000
set_option linter.unusedSimpArgs false
set_option linter.unusedVariables false
namespace Go.Proofs.Ytmkapmbmgpnjaaa.Se
open Go Go.Ms Go.Pg Go.Bi Go.Se Go.ChangeShapes Go.WideShapes Go.ChangeAt Go.RowKit Go.Deep Go.Proofs.Ytmkapmbmgpnjaaa.Bi

abbrev ofN (xs : List Nat) : List Int := xs.map fun n : Nat => (n : Int)
theorem NatsM.ints {w : World} {m : Nat} {v : Value} {xs : List Nat} (h : NatsM w m v xs) : IntsW w v (ofN xs) := by
  obtain ⟨oa, cap, rfl, hl, hc⟩ := h
  refine ⟨oa, cap, by simp, by simpa using hl, fun i hi => ?_⟩
  obtain ⟨b, o, e, _, hx⟩ := hc i (by simpa using hi)
  exact ⟨b, o, e, by simpa using hx⟩
theorem natsM_up {w w' : World} {m m' : Nat} {v : Value} {xs : List Nat} (h : NatsM w m v xs) (hm : m ≤ m') (hw : m ≤ w.heap.size) (hB : Below w.heap.size w w') : NatsM w' m' v xs := by
  obtain ⟨oa, cap, rfl, hl, hc⟩ := h
  exact ⟨oa, cap, rfl, hl, fun i hi => by
    obtain ⟨b, o, e, hb, hx⟩ := hc i hi
    exact ⟨b, o, e, by omega, (hB.cell (p := ⟨b, o + i, none⟩) (by show b < w.heap.size; omega)).trans hx⟩⟩
theorem enters37 (args : Array Value) (W : World) : (callFunc 114 args).run Try.prog W = .ok (.enter 114 args) W := by
  simp [callFunc, go_sem, Try.func114]
  rfl
theorem pairwise_of {xs : List Nat} (h : IsSet (ofN xs) 256) : xs.Pairwise (· < ·) ∧ ∀ n ∈ xs, n < 256 := by
  have step : ∀ i, (hi : i + 1 < xs.length) → xs[i] < xs[i + 1] := fun i hi => by
    have := (h (i + 1) (by simpa using hi) (by simpa using hi)).2 i (by simp; omega) rfl
    simp at this
    exact this
  have far : ∀ d i, (hi : i + (d + 1) < xs.length) → xs[i] < xs[i + (d + 1)] := fun d => by
    induction d with
    | zero => intro i hi; exact step i hi
    | succ d ih =>
      intro i hi
      have h1 := ih i (by omega)
      have h2 := step (i + (d + 1)) (by omega)
      exact Nat.lt_trans h1 h2
  refine ⟨List.pairwise_iff_getElem.2 fun i j hi hj hij => ?_, fun n hn => ?_⟩
  · obtain ⟨d, rfl⟩ : ∃ d, j = i + (d + 1) := ⟨j - i - 1, by omega⟩
    exact far d i hj
  · obtain ⟨i, hi, rfl⟩ := List.getElem_of_mem hn
    have := (h i (by simpa using hi) (by simpa using hi)).1
    simp at this
    omega
end Go.Proofs.Ytmkapmbmgpnjaaa.Se

