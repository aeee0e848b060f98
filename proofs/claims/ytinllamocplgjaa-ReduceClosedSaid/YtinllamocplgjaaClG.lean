import Derived.Test.YtinllamocplgjaaClF
set_option maxRecDepth 100000
namespace Go.Proofs.Ytinllamocplgjaa.Cl
open Go Go.Ms Go.Pg Go.Rc Go.Cl Go.ChangeShapes Go.WideShapes Go.ChangeAt Go.RowKit Go.Deep Go.Proofs.Ytinllamocplgjaa.Rc

def Runs : Prop := ∀ w : World, Calls Try.prog 10 #[] w fun e w' => e = .returned (.bool true) ∧ Below w.heap.size w w'
theorem runsAt (h : Runs) (w : World) : Calls Try.prog 10 #[] w fun e w' => e = .returned (.bool true) ∧ Below w.heap.size w w' := h w
abbrev Yes (w : World) (args : Array Value) : Prop := Calls Try.prog 5 args w fun e w' => e = .returned (.bool true) ∧ Below w.heap.size w w'

theorem mem_ints {xs : List Nat} {n : Nat} : (n : Int) ∈ ints xs ↔ n ∈ xs := by
  unfold ints
  constructor
  · intro h
    obtain ⟨m, hm, e⟩ := List.mem_map.1 h
    have : m = n := by
      have e2 : (m : Int) = (n : Int) := e
      omega
    exact this ▸ hm
  · intro h
    exact List.mem_map.2 ⟨n, h, rfl⟩
theorem of_ints {xs : List Nat} {v : Int} (h : v ∈ ints xs) : ∃ n ∈ xs, v = (n : Int) := by
  obtain ⟨m, hm, e⟩ := List.mem_map.1 h
  exact ⟨m, hm, e.symm⟩
theorem to_ints {l : List Int} {n : Nat} (h : Inc l n) : l = ints (l.map Int.toNat) := by
  unfold ints
  rw [List.map_map]
  apply List.ext_getElem
  · simp
  · intro i h1 h2
    have := (h i h1).1
    simp
    omega
theorem inc_bits {x N : Nat} (h : ∀ b, x.testBit b = true → b < N) : Inc (ints (bitsOf x)) N := by
  intro i hi
  have hl : i < (bitsOf x).length := by simpa [ints] using hi
  have e : (ints (bitsOf x))[i] = ((bitsOf x)[i] : Int) := by simp [ints]
  have hm := (mem_bits (x := x)).1 (List.getElem_mem hl)
  refine ⟨by rw [e]; omega, by rw [e]; have := h _ hm.2; omega, fun j hj e2 => ?_⟩
  have hl2 : j < (bitsOf x).length := by simpa [ints] using hj
  have e3 : (ints (bitsOf x))[j] = ((bitsOf x)[j] : Int) := by simp [ints]
  rw [e, e3]
  have := List.pairwise_iff_getElem.1 (bits_sorted x) j i hl2 hl (by omega)
  omega
theorem exists_closure {xss : List (List Nat)} (h : ∀ xs ∈ xss, ∀ m ∈ xs, m < xss.length) : ∃ A, Clos (needOf xss) xss.length A ∧ Thru xss.length xss.length A := by
  have : ∀ k, k ≤ xss.length → ∃ A, Clos (needOf xss) xss.length A ∧ Thru xss.length k A := by
    intro k
    induction k with
    | zero => intro _; exact ⟨inits xss, good_inits h, thru_zero _ _⟩
    | succ k ih =>
      intro hk
      obtain ⟨A, h1, h2⟩ := ih (by omega)
      exact ⟨_, good_round h1 (by omega), thru_round h2 (by omega)⟩
  exact this _ (Nat.le_refl _)
theorem close_unique {xss : List (List Nat)} {xs : List Nat} {x y : Nat} (h : IsClose xss xs x) (k : IsClose xss xs y) : x = y :=
  bits_eq fun b => ⟨fun hb => h.least (fun n => y.testBit n = true) (fun a b _ => k.closed a b) k.has b hb, fun hb => k.least (fun n => x.testBit n = true) (fun a b _ => h.closed a b) h.has b hb⟩
theorem stay_unique {xss : List (List Nat)} {xs : List Nat} {c x y : Nat} (h : IsStay xss xs c x) (k : IsStay xss xs c y) : x = y :=
  bits_eq fun b => ⟨fun hb => k.most (fun n => x.testBit n = true) (fun a b _ => h.closed a b) h.within h.gone b hb, fun hb => h.most (fun n => y.testBit n = true) (fun a b _ => k.closed a b) k.within k.gone b hb⟩
theorem bits_closed {xss : List (List Nat)} {x : Nat} (hN : xss.length ≤ 20) (hl : ∀ b, x.testBit b = true → b < xss.length) (hc : ∀ a b, x.testBit a = true → needOf xss a b → x.testBit b = true) : ∀ a b, a ∈ bitsOf x → needOf xss a b → b ∈ bitsOf x := by
  intro a b ha hab
  have h1 := hc a b (mem_bits.1 ha).2 hab
  exact mem_bits.2 ⟨by have := hl b h1; omega, h1⟩
theorem in_bits {x N b : Nat} (hN : N ≤ 20) (hl : ∀ b, x.testBit b = true → b < N) (h : x.testBit b = true) : b ∈ bitsOf x := mem_bits.2 ⟨by have := hl b h; omega, h⟩
theorem own_ints {w : World} {B : Nat} {u : Value} {x : Nat} (h : Go.Il.Own 3 .i64 B w u (upTo x 256)) : Ints w u (ints (bitsOf x)) := by
  refine own_row h (fun v hv => ?_) (Nat.le_trans (upTo_length x 256) (by omega))
  obtain ⟨n, hn, rfl⟩ := of_ints (xs := bitsOf x) hv
  have := (mem_bits.1 hn).1
  simp [WfI, Lit.wf, IntKind.min, IntKind.max, IntKind.signed, IntKind.bits]
  omega
theorem ints_length (xs : List Nat) : (ints xs).length = xs.length := by simp [ints]
theorem lb {xs : List Nat} {N : Nat} (h : Inc (ints xs) N) (hN : N ≤ 20) : (ints xs).length ≤ 1000 := Nat.le_trans (inc_length h) (by omega)

set_option maxHeartbeats 4000000 in
theorem lawBig {w : World} {oa : Option Addr} {n cap : Nat} {v1 v2 : Value} {z : Int} (hn : 20 < n) (hA : Runs) : Yes w #[.slice oa n cap, v1, v2, .int .i64 z] := by
  have HA := hide hA
  have h1 : (20 : Int) < (n : Int) := by omega
  clear hA
  go_enter Try.func5, Try.ntmps5
  go_wp2_with (first
    | (go_at_call 10
       (with_reducible refine (runsAt HA.out _).mono ?_)
       rintro e w1 ⟨rfl, hB⟩
       have HB := hide hB
       clear hB)
    | fail)
  go_ret
  exact ⟨rfl, HB.out⟩

set_option maxHeartbeats 8000000 in
theorem lawInvalid {w : World} {v0 v1 v2 : Value} {ls : List (List Int)} {z : Int} (h : NeedsW w v0 ls) (hN : ls.length ≤ 20) (hv : ¬ Valid ls) (hA : Runs) : Yes w #[v0, v1, v2, .int .i64 z] := by
  have HH := hide h
  have HV := hide hv
  have HA := hide hA
  obtain ⟨oa, cap, rfl, _, _⟩ := h
  have h1 : (ls.length : Int) ≤ 20 := by omega
  clear hA hv
  go_enter Try.func5, Try.ntmps5
  go_wp2_with (first
    | (go_at_call 17
       (with_reducible refine (checkRef HH.out hN).mono ?_)
       rintro e _ ⟨⟨r, rfl, hr, hr2⟩, n, rfl⟩
       have hr3 : r = 1 := by
         rcases hr2 with q | q
         · exact absurd (hr.1 q) HV.out
         · exact q
       subst hr3
       clear hr hr2)
    | (go_at_call 10
       (with_reducible refine (runsAt HA.out _).mono ?_)
       rintro e w1 ⟨rfl, hB⟩
       have HB := hide ((belowN w.heap.size w _).trans hB)
       clear hB)
    | fail)
  go_ret
  exact ⟨rfl, HB.out⟩

set_option maxHeartbeats 8000000 in
theorem lawFirst {w : World} {v0 v1 v2 : Value} {ls : List (List Int)} {s : List Int} {z : Int} (h : NeedsW w v0 ls) (hN : ls.length ≤ 20) (hv : Valid ls) (hs : IntsW w v1 s) (hi : ¬ Inc s ls.length) (hA : Runs) : Yes w #[v0, v1, v2, .int .i64 z] := by
  have HH := hide h
  have HV := hide hv
  have HA := hide hA
  have HS := hide hs
  have HI := hide hi
  obtain ⟨oa, cap, rfl, _, _⟩ := h
  obtain ⟨oa1, cap1, rfl, _, _⟩ := hs
  have h1 : (ls.length : Int) ≤ 20 := by omega
  clear hA hv hi
  go_enter Try.func5, Try.ntmps5
  go_wp2_with (first
    | (go_at_call 17
       (with_reducible refine (checkRef HH.out hN).mono ?_)
       rintro e _ ⟨⟨r, rfl, hr, hr2⟩, n, rfl⟩
       have hr3 : r = 0 := hr.2 HV.out
       subst hr3
       clear hr hr2)
    | (go_at_call 18
       (with_reducible refine (setProg (intsW_drewN HS.out _)).mono ?_)
       rintro e _ hT
       obtain ⟨rfl, n2, rfl⟩ := tells_no hT HI.out
       clear hT)
    | (go_at_call 10
       (with_reducible refine (runsAt HA.out _).mono ?_)
       rintro e w1 ⟨rfl, hB⟩
       have HB := hide ((belowN w.heap.size w _).trans hB)
       clear hB)
    | fail)
  go_ret
  exact ⟨rfl, HB.out⟩

set_option maxHeartbeats 8000000 in
theorem lawSecond {w : World} {v0 v1 v2 : Value} {ls : List (List Int)} {s t : List Int} {z : Int} (h : NeedsW w v0 ls) (hN : ls.length ≤ 20) (hv : Valid ls) (hs : IntsW w v1 s) (hi : Inc s ls.length) (ht : IntsW w v2 t) (hj : ¬ Inc t ls.length) (hA : Runs) : Yes w #[v0, v1, v2, .int .i64 z] := by
  have HH := hide h
  have HV := hide hv
  have HA := hide hA
  have HS := hide hs
  have HI := hide hi
  have HT := hide ht
  have HJ := hide hj
  obtain ⟨oa, cap, rfl, _, _⟩ := h
  obtain ⟨oa1, cap1, rfl, _, _⟩ := hs
  obtain ⟨oa2, cap2, rfl, _, _⟩ := ht
  have h1 : (ls.length : Int) ≤ 20 := by omega
  clear hA hv hi hj
  go_enter Try.func5, Try.ntmps5
  go_wp2_with (first
    | (go_at_call 17
       (with_reducible refine (checkRef HH.out hN).mono ?_)
       rintro e _ ⟨⟨r, rfl, hr, hr2⟩, n, rfl⟩
       have hr3 : r = 0 := hr.2 HV.out
       subst hr3
       clear hr hr2)
    | (go_at_call 18
       (with_reducible refine (setProg (intsW_drewN HT.out _)).mono ?_)
       rintro e _ hT
       obtain ⟨rfl, n2, rfl⟩ := tells_no hT HJ.out
       clear hT)
    | (go_at_call 18
       (with_reducible refine (setProg (intsW_drewN HS.out _)).mono ?_)
       rintro e _ hT
       obtain ⟨rfl, n2, rfl⟩ := tells_yes hT HI.out
       clear hT)
    | (go_at_call 10
       (with_reducible refine (runsAt HA.out _).mono ?_)
       rintro e w1 ⟨rfl, hB⟩
       have HB := hide ((belowN w.heap.size w _).trans hB)
       clear hB)
    | fail)
  go_ret
  exact ⟨rfl, HB.out⟩

set_option maxHeartbeats 16000000 in
theorem law_p_none {w : World} {v0 v1 v2 : Value} {xss : List (List Nat)} {xs ys : List Nat} {x y : Nat} {z : Int} (h : NeedsAt w v0 (xss.map ints)) (hN : xss.length ≤ 20) (hv : Valid (xss.map ints)) (hs : Ints w v1 (ints xs)) (hi : Inc (ints xs) xss.length) (ht : Ints w v2 (ints ys)) (hj : Inc (ints ys) xss.length) (hA : Runs)
    (hx : IsClose xss xs x) (hy : IsClose xss ys y) (hp : ∀ n ∈ xs, y.testBit n = true) (hc : z ∉ ints (bitsOf x)) : Yes w #[v0, v1, v2, .int .i64 z] := by
  have HV := hide hv
  have HA := hide hA
  have HI := hide hi
  have HJ := hide hj
  have HCX := hide hx
  have HCY := hide hy
  have HN := hide hN
  have HPX := hide (inc_bits hx.low)
  have HPY := hide (inc_bits hy.low)
  have HDX := hide (bits_closed hN hx.low hx.closed)
  have HLX := hide (inc_lt HPX.out)
  have LS := hide (lb hi hN)
  have LX := hide (lb HPX.out hN)
  have LY := hide (lb HPY.out hN)
  have ESX : Hid (minus (ints xs) (ints (bitsOf x)) = []) := hide (minus_nil fun v hv => by
    obtain ⟨n, hn, rfl⟩ := of_ints hv
    exact mem_ints.2 (in_bits hN hx.low (hx.has n hn)))
  have ESY : Hid (minus (ints xs) (ints (bitsOf y)) = []) := hide (minus_nil fun v hv => by
    obtain ⟨n, hn, rfl⟩ := of_ints hv
    exact mem_ints.2 (in_bits hN hy.low (hp n hn)))
  have EXY : Hid (minus (ints (bitsOf x)) (ints (bitsOf y)) = []) := hide (minus_nil fun v hv => by
    obtain ⟨n, hn, rfl⟩ := of_ints hv
    exact mem_ints.2 (in_bits hN hy.low (hx.least (fun n => y.testBit n = true) (fun a b _ => hy.closed a b) hp n (mem_bits.1 hn).2)))
  have HCI := hide hc
  have HH0 := hide h
  have HS0 := hide hs
  have HT0 := hide ht
  have HB0 := hide (Below.refl w.heap.size w)
  obtain ⟨oa, cap, rfl, _, _⟩ := h
  obtain ⟨oa1, cap1, rfl, _, _⟩ := cells_at hs
  obtain ⟨oa2, cap2, rfl, _, _⟩ := cells_at ht
  have hlen : (xss.map ints).length = xss.length := by simp
  have HN2 : Hid ((xss.map ints).length ≤ 20) := hide (by rw [hlen]; exact hN)
  rw [hlen] at HH0 ⊢
  have h1 : (xss.length : Int) ≤ 20 := by omega
  clear hlen hA hv hs hi ht hj hx hy hp hc
  go_enter Try.func5, Try.ntmps5
  go_wp2_with (first
    | (go_at_call 17
       (with_reducible refine (checkRef (needs_w HH0.out) HN2.out).mono ?_)
       rintro e w1 ⟨⟨r, rfl, hr0, _⟩, n1, hw⟩
       have hr3 : r = 0 := hr0.2 HV.out
       subst hr3
       have hb : Below w.heap.size w w1 := by rw [hw]; exact belowN _ _ _
       clear hr0 hw
       have HB1 := hide (HB0.out.trans (hb.mono HB0.out.size))
       have HH1 := hide (needs_below HH0.out hb)
       have HS1 := hide (ints_below HS0.out hb)
       have HT1 := hide (ints_below HT0.out hb)
       clear hb)
    | (go_at_call 18
       (with_reducible refine (setProg (ints_w HS1.out)).mono ?_)
       rintro e w2 hT
       obtain ⟨rfl, n2, hw⟩ := tells_yes hT HI.out
       have hb : Below w1.heap.size w1 w2 := by rw [hw]; exact belowN _ _ _
       clear hT hw
       have HB2 := hide (HB1.out.trans (hb.mono HB1.out.size))
       have HH2 := hide (needs_below HH1.out hb)
       have HS2 := hide (ints_below HS1.out hb)
       have HT2 := hide (ints_below HT1.out hb)
       clear hb)
    | (go_at_call 18
       (with_reducible refine (setProg (ints_w HT2.out)).mono ?_)
       rintro e w3 hT
       obtain ⟨rfl, n3, hw⟩ := tells_yes hT HJ.out
       have hb : Below w2.heap.size w2 w3 := by rw [hw]; exact belowN _ _ _
       clear hT hw
       have HB3 := hide (HB2.out.trans (hb.mono HB2.out.size))
       have HH3 := hide (needs_below HH2.out hb)
       have HS3 := hide (ints_below HS2.out hb)
       have HT3 := hide (ints_below HT2.out hb)
       clear hb)
    | (go_at_call 19
       (with_reducible refine (closeProg HH3.out hN HV.out HS3.out HI.out).mono ?_)
       rintro e w4 ⟨xq, uq, rfl, hb, hcq, hoq⟩
       rw [close_unique hcq HCX.out] at hoq
       have HA4 := hide (own_ints hoq)
       obtain ⟨oq, cq, rfl⟩ := hoq.form
       clear hcq hoq
       have HB4 := hide (HB3.out.trans (hb.mono HB3.out.size))
       have HH4 := hide (needs_below HH3.out hb)
       have HS4 := hide (ints_below HS3.out hb)
       have HT4 := hide (ints_below HT3.out hb)
       clear hb)
    | (go_at_call 18
       (with_reducible refine (setProg (ints_w HA4.out)).mono ?_)
       rintro e w5 hT
       obtain ⟨rfl, n5, hw⟩ := tells_yes hT HPX.out
       have hb : Below w4.heap.size w4 w5 := by rw [hw]; exact belowN _ _ _
       clear hT hw
       have HB5 := hide (HB4.out.trans (hb.mono HB4.out.size))
       have HH5 := hide (needs_below HH4.out hb)
       have HS5 := hide (ints_below HS4.out hb)
       have HT5 := hide (ints_below HT4.out hb)
       have HA5 := hide (ints_below HA4.out hb)
       clear hb)
    | (go_at_call 20
       (with_reducible refine (closedRef HH5.out hN HV.out HA5.out HLX.out HDX.out).mono ?_)
       rintro e w6 ⟨rfl, hb⟩
       have HB6 := hide (HB5.out.trans (hb.mono HB5.out.size))
       have HH6 := hide (needs_below HH5.out hb)
       have HS6 := hide (ints_below HS5.out hb)
       have HT6 := hide (ints_below HT5.out hb)
       have HA6 := hide (ints_below HA5.out hb)
       clear hb)
    | (go_at_call 21
       (with_reducible refine (minusProg HS6.out HA6.out LS.out).mono ?_)
       rw [ESX.out]
       rintro e w7 ⟨oq, cq, rfl, hb⟩
       have HB7 := hide (HB6.out.trans (hb.mono HB6.out.size))
       have HH7 := hide (needs_below HH6.out hb)
       have HS7 := hide (ints_below HS6.out hb)
       have HT7 := hide (ints_below HT6.out hb)
       have HA7 := hide (ints_below HA6.out hb)
       clear hb)
    | (go_at_call 19
       (with_reducible refine (closeProg HH7.out hN HV.out HT7.out HJ.out).mono ?_)
       rintro e w8 ⟨xq, uq, rfl, hb, hcq, hoq⟩
       rw [close_unique hcq HCY.out] at hoq
       have HW8 := hide (own_ints hoq)
       obtain ⟨oq, cq, rfl⟩ := hoq.form
       clear hcq hoq
       have HB8 := hide (HB7.out.trans (hb.mono HB7.out.size))
       have HH8 := hide (needs_below HH7.out hb)
       have HS8 := hide (ints_below HS7.out hb)
       have HT8 := hide (ints_below HT7.out hb)
       have HA8 := hide (ints_below HA7.out hb)
       clear hb)
    | (go_at_call 21
       (with_reducible refine (minusProg HS8.out HW8.out LS.out).mono ?_)
       rw [ESY.out]
       rintro e w9 ⟨oq, cq, rfl, hb⟩
       have HB9 := hide (HB8.out.trans (hb.mono HB8.out.size))
       have HH9 := hide (needs_below HH8.out hb)
       have HS9 := hide (ints_below HS8.out hb)
       have HT9 := hide (ints_below HT8.out hb)
       have HA9 := hide (ints_below HA8.out hb)
       have HW9 := hide (ints_below HW8.out hb)
       clear hb)
    | (go_at_call 21
       (with_reducible refine (minusProg HA9.out HW9.out LX.out).mono ?_)
       rw [EXY.out]
       rintro e w10 ⟨oq, cq, rfl, hb⟩
       have HB10 := hide (HB9.out.trans (hb.mono HB9.out.size))
       have HH10 := hide (needs_below HH9.out hb)
       have HS10 := hide (ints_below HS9.out hb)
       have HT10 := hide (ints_below HT9.out hb)
       have HA10 := hide (ints_below HA9.out hb)
       have HW10 := hide (ints_below HW9.out hb)
       clear hb)
    | (go_at_call 22
       (with_reducible refine (withoutNone HH10.out hN HV.out HA10.out HPX.out HDX.out HCI.out).mono ?_)
       rintro e w11 ⟨uq, rfl, hb⟩
       have HB11 := hide (HB10.out.trans (hb.mono HB10.out.size))
       have HH11 := hide (needs_below HH10.out hb)
       have HS11 := hide (ints_below HS10.out hb)
       have HT11 := hide (ints_below HT10.out hb)
       have HA11 := hide (ints_below HA10.out hb)
       have HW11 := hide (ints_below HW10.out hb)
       clear hb)
    | (go_at_call 23
       (with_reducible refine (hasProg HA11.out).mono ?_)
       rintro e w12 hT
       obtain ⟨rfl, n12, hw⟩ := tells_no hT HCI.out
       have hb : Below w11.heap.size w11 w12 := by rw [hw]; exact belowN _ _ _
       clear hT hw
       have HB12 := hide (HB11.out.trans (hb.mono HB11.out.size))
       have HH12 := hide (needs_below HH11.out hb)
       have HS12 := hide (ints_below HS11.out hb)
       have HT12 := hide (ints_below HT11.out hb)
       have HA12 := hide (ints_below HA11.out hb)
       have HW12 := hide (ints_below HW11.out hb)
       clear hb)
    | (go_at_call 10
       (with_reducible refine (runsAt HA.out _).mono ?_)
       rintro e w13 ⟨rfl, hb⟩
       have HB13 := hide (HB12.out.trans (hb.mono HB12.out.size))
       clear hb)
    | fail)
  go_ret
  exact ⟨rfl, HB13.out⟩

set_option maxHeartbeats 16000000 in
theorem law_p_q1f {w : World} {v0 v1 v2 : Value} {xss : List (List Nat)} {xs ys : List Nat} {x y z c : Nat} (h : NeedsAt w v0 (xss.map ints)) (hN : xss.length ≤ 20) (hv : Valid (xss.map ints)) (hs : Ints w v1 (ints xs)) (hi : Inc (ints xs) xss.length) (ht : Ints w v2 (ints ys)) (hj : Inc (ints ys) xss.length) (hA : Runs)
    (hx : IsClose xss xs x) (hy : IsClose xss ys y) (hp : ∀ n ∈ xs, y.testBit n = true) (hc : c ∈ bitsOf x) (hz : IsStay xss (bitsOf x) c z) (hq : ¬ ∀ b, y.testBit b = true → x.testBit b = true) : Yes w #[v0, v1, v2, .int .i64 c] := by
  have HV := hide hv
  have HA := hide hA
  have HI := hide hi
  have HJ := hide hj
  have HCX := hide hx
  have HCY := hide hy
  have HN := hide hN
  have HPX := hide (inc_bits hx.low)
  have HPY := hide (inc_bits hy.low)
  have HDX := hide (bits_closed hN hx.low hx.closed)
  have HLX := hide (inc_lt HPX.out)
  have LS := hide (lb hi hN)
  have LX := hide (lb HPX.out hN)
  have LY := hide (lb HPY.out hN)
  have ESX : Hid (minus (ints xs) (ints (bitsOf x)) = []) := hide (minus_nil fun v hv => by
    obtain ⟨n, hn, rfl⟩ := of_ints hv
    exact mem_ints.2 (in_bits hN hx.low (hx.has n hn)))
  have ESY : Hid (minus (ints xs) (ints (bitsOf y)) = []) := hide (minus_nil fun v hv => by
    obtain ⟨n, hn, rfl⟩ := of_ints hv
    exact mem_ints.2 (in_bits hN hy.low (hp n hn)))
  have EXY : Hid (minus (ints (bitsOf x)) (ints (bitsOf y)) = []) := hide (minus_nil fun v hv => by
    obtain ⟨n, hn, rfl⟩ := of_ints hv
    exact mem_ints.2 (in_bits hN hy.low (hx.least (fun n => y.testBit n = true) (fun a b _ => hy.closed a b) hp n (mem_bits.1 hn).2)))
  have HCI : Hid ((c : Int) ∈ ints (bitsOf x)) := hide (mem_ints.2 hc)
  have HCB := hide hc
  have HCZ := hide hz
  have HPZ := hide (inc_bits hz.low)
  have HDZ := hide (bits_closed hN hz.low hz.closed)
  have HLZ := hide (inc_lt HPZ.out)
  have LZ := hide (lb HPZ.out hN)
  have EZX : Hid (minus (ints (bitsOf z)) (ints (bitsOf x)) = []) := hide (minus_nil fun v hv => by
    obtain ⟨n, hn, rfl⟩ := of_ints hv
    exact mem_ints.2 (hz.within n (mem_bits.1 hn).2))
  have HCNZ : Hid ((c : Int) ∉ ints (bitsOf z)) := hide fun q => hz.gone (mem_bits.1 (mem_ints.1 q)).2
  obtain ⟨m2, em2, hm2⟩ : ∃ m, (minus (ints (bitsOf y)) (ints (bitsOf x))).length = m ∧ 0 < m := by
    obtain ⟨n, hn⟩ := Classical.not_forall.1 hq
    obtain ⟨hn1, hn2⟩ := Classical.not_imp.1 hn
    exact ⟨_, rfl, minus_some (mem_ints.2 (in_bits hN hy.low hn1)) fun q => hn2 (mem_bits.1 (mem_ints.1 q)).2⟩
  have EM2 := hide em2
  have b1 : ((m2 : Int) == 0) = false := by
    rw [beq_eq_false_iff_ne]
    omega
  have b2 : ¬ (m2 : Int) = 0 := by omega
  have b3 : ¬ m2 = 0 := by omega
  clear em2
  have HH0 := hide h
  have HS0 := hide hs
  have HT0 := hide ht
  have HB0 := hide (Below.refl w.heap.size w)
  obtain ⟨oa, cap, rfl, _, _⟩ := h
  obtain ⟨oa1, cap1, rfl, _, _⟩ := cells_at hs
  obtain ⟨oa2, cap2, rfl, _, _⟩ := cells_at ht
  have hlen : (xss.map ints).length = xss.length := by simp
  have HN2 : Hid ((xss.map ints).length ≤ 20) := hide (by rw [hlen]; exact hN)
  rw [hlen] at HH0 ⊢
  have h1 : (xss.length : Int) ≤ 20 := by omega
  clear hlen hA hv hs hi ht hj hx hy hp hc hz hq
  go_enter Try.func5, Try.ntmps5
  go_wp2_with (first
    | (go_at_call 17
       (with_reducible refine (checkRef (needs_w HH0.out) HN2.out).mono ?_)
       rintro e w1 ⟨⟨r, rfl, hr0, _⟩, n1, hw⟩
       have hr3 : r = 0 := hr0.2 HV.out
       subst hr3
       have hb : Below w.heap.size w w1 := by rw [hw]; exact belowN _ _ _
       clear hr0 hw
       have HB1 := hide (HB0.out.trans (hb.mono HB0.out.size))
       have HH1 := hide (needs_below HH0.out hb)
       have HS1 := hide (ints_below HS0.out hb)
       have HT1 := hide (ints_below HT0.out hb)
       clear hb)
    | (go_at_call 18
       (with_reducible refine (setProg (ints_w HS1.out)).mono ?_)
       rintro e w2 hT
       obtain ⟨rfl, n2, hw⟩ := tells_yes hT HI.out
       have hb : Below w1.heap.size w1 w2 := by rw [hw]; exact belowN _ _ _
       clear hT hw
       have HB2 := hide (HB1.out.trans (hb.mono HB1.out.size))
       have HH2 := hide (needs_below HH1.out hb)
       have HS2 := hide (ints_below HS1.out hb)
       have HT2 := hide (ints_below HT1.out hb)
       clear hb)
    | (go_at_call 18
       (with_reducible refine (setProg (ints_w HT2.out)).mono ?_)
       rintro e w3 hT
       obtain ⟨rfl, n3, hw⟩ := tells_yes hT HJ.out
       have hb : Below w2.heap.size w2 w3 := by rw [hw]; exact belowN _ _ _
       clear hT hw
       have HB3 := hide (HB2.out.trans (hb.mono HB2.out.size))
       have HH3 := hide (needs_below HH2.out hb)
       have HS3 := hide (ints_below HS2.out hb)
       have HT3 := hide (ints_below HT2.out hb)
       clear hb)
    | (go_at_call 19
       (with_reducible refine (closeProg HH3.out hN HV.out HS3.out HI.out).mono ?_)
       rintro e w4 ⟨xq, uq, rfl, hb, hcq, hoq⟩
       rw [close_unique hcq HCX.out] at hoq
       have HA4 := hide (own_ints hoq)
       obtain ⟨oq, cq, rfl⟩ := hoq.form
       clear hcq hoq
       have HB4 := hide (HB3.out.trans (hb.mono HB3.out.size))
       have HH4 := hide (needs_below HH3.out hb)
       have HS4 := hide (ints_below HS3.out hb)
       have HT4 := hide (ints_below HT3.out hb)
       clear hb)
    | (go_at_call 18
       (with_reducible refine (setProg (ints_w HA4.out)).mono ?_)
       rintro e w5 hT
       obtain ⟨rfl, n5, hw⟩ := tells_yes hT HPX.out
       have hb : Below w4.heap.size w4 w5 := by rw [hw]; exact belowN _ _ _
       clear hT hw
       have HB5 := hide (HB4.out.trans (hb.mono HB4.out.size))
       have HH5 := hide (needs_below HH4.out hb)
       have HS5 := hide (ints_below HS4.out hb)
       have HT5 := hide (ints_below HT4.out hb)
       have HA5 := hide (ints_below HA4.out hb)
       clear hb)
    | (go_at_call 20
       (with_reducible refine (closedRef HH5.out hN HV.out HA5.out HLX.out HDX.out).mono ?_)
       rintro e w6 ⟨rfl, hb⟩
       have HB6 := hide (HB5.out.trans (hb.mono HB5.out.size))
       have HH6 := hide (needs_below HH5.out hb)
       have HS6 := hide (ints_below HS5.out hb)
       have HT6 := hide (ints_below HT5.out hb)
       have HA6 := hide (ints_below HA5.out hb)
       clear hb)
    | (go_at_call 21
       (with_reducible refine (minusProg HS6.out HA6.out LS.out).mono ?_)
       rw [ESX.out]
       rintro e w7 ⟨oq, cq, rfl, hb⟩
       have HB7 := hide (HB6.out.trans (hb.mono HB6.out.size))
       have HH7 := hide (needs_below HH6.out hb)
       have HS7 := hide (ints_below HS6.out hb)
       have HT7 := hide (ints_below HT6.out hb)
       have HA7 := hide (ints_below HA6.out hb)
       clear hb)
    | (go_at_call 19
       (with_reducible refine (closeProg HH7.out hN HV.out HT7.out HJ.out).mono ?_)
       rintro e w8 ⟨xq, uq, rfl, hb, hcq, hoq⟩
       rw [close_unique hcq HCY.out] at hoq
       have HW8 := hide (own_ints hoq)
       obtain ⟨oq, cq, rfl⟩ := hoq.form
       clear hcq hoq
       have HB8 := hide (HB7.out.trans (hb.mono HB7.out.size))
       have HH8 := hide (needs_below HH7.out hb)
       have HS8 := hide (ints_below HS7.out hb)
       have HT8 := hide (ints_below HT7.out hb)
       have HA8 := hide (ints_below HA7.out hb)
       clear hb)
    | (go_at_call 21
       (with_reducible refine (minusProg HS8.out HW8.out LS.out).mono ?_)
       rw [ESY.out]
       rintro e w9 ⟨oq, cq, rfl, hb⟩
       have HB9 := hide (HB8.out.trans (hb.mono HB8.out.size))
       have HH9 := hide (needs_below HH8.out hb)
       have HS9 := hide (ints_below HS8.out hb)
       have HT9 := hide (ints_below HT8.out hb)
       have HA9 := hide (ints_below HA8.out hb)
       have HW9 := hide (ints_below HW8.out hb)
       clear hb)
    | (go_at_call 21
       (with_reducible refine (minusProg HA9.out HW9.out LX.out).mono ?_)
       rw [EXY.out]
       rintro e w10 ⟨oq, cq, rfl, hb⟩
       have HB10 := hide (HB9.out.trans (hb.mono HB9.out.size))
       have HH10 := hide (needs_below HH9.out hb)
       have HS10 := hide (ints_below HS9.out hb)
       have HT10 := hide (ints_below HT9.out hb)
       have HA10 := hide (ints_below HA9.out hb)
       have HW10 := hide (ints_below HW9.out hb)
       clear hb)
    | (go_at_call 22
       (with_reducible refine (withoutSome HH10.out hN HV.out HA10.out HPX.out HDX.out HCB.out).mono ?_)
       rintro e w11 ⟨zq, uq, rfl, hb, hcq, hoq⟩
       rw [stay_unique hcq HCZ.out] at hoq
       have HZ11 := hide (own_ints hoq)
       obtain ⟨oq, cq, rfl⟩ := hoq.form
       clear hcq hoq
       have HB11 := hide (HB10.out.trans (hb.mono HB10.out.size))
       have HH11 := hide (needs_below HH10.out hb)
       have HS11 := hide (ints_below HS10.out hb)
       have HT11 := hide (ints_below HT10.out hb)
       have HA11 := hide (ints_below HA10.out hb)
       have HW11 := hide (ints_below HW10.out hb)
       clear hb)
    | (go_at_call 23
       (with_reducible refine (hasProg HA11.out).mono ?_)
       rintro e w12 hT
       obtain ⟨rfl, n12, hw⟩ := tells_yes hT HCI.out
       have hb : Below w11.heap.size w11 w12 := by rw [hw]; exact belowN _ _ _
       clear hT hw
       have HB12 := hide (HB11.out.trans (hb.mono HB11.out.size))
       have HH12 := hide (needs_below HH11.out hb)
       have HS12 := hide (ints_below HS11.out hb)
       have HT12 := hide (ints_below HT11.out hb)
       have HA12 := hide (ints_below HA11.out hb)
       have HW12 := hide (ints_below HW11.out hb)
       have HZ12 := hide (ints_below HZ11.out hb)
       clear hb)
    | (go_at_call 18
       (with_reducible refine (setProg (ints_w HZ12.out)).mono ?_)
       rintro e w13 hT
       obtain ⟨rfl, n13, hw⟩ := tells_yes hT HPZ.out
       have hb : Below w12.heap.size w12 w13 := by rw [hw]; exact belowN _ _ _
       clear hT hw
       have HB13 := hide (HB12.out.trans (hb.mono HB12.out.size))
       have HH13 := hide (needs_below HH12.out hb)
       have HS13 := hide (ints_below HS12.out hb)
       have HT13 := hide (ints_below HT12.out hb)
       have HA13 := hide (ints_below HA12.out hb)
       have HW13 := hide (ints_below HW12.out hb)
       have HZ13 := hide (ints_below HZ12.out hb)
       clear hb)
    | (go_at_call 20
       (with_reducible refine (closedRef HH13.out hN HV.out HZ13.out HLZ.out HDZ.out).mono ?_)
       rintro e w14 ⟨rfl, hb⟩
       have HB14 := hide (HB13.out.trans (hb.mono HB13.out.size))
       have HH14 := hide (needs_below HH13.out hb)
       have HS14 := hide (ints_below HS13.out hb)
       have HT14 := hide (ints_below HT13.out hb)
       have HA14 := hide (ints_below HA13.out hb)
       have HW14 := hide (ints_below HW13.out hb)
       have HZ14 := hide (ints_below HZ13.out hb)
       clear hb)
    | (go_at_call 21
       (with_reducible refine (minusProg HZ14.out HA14.out LZ.out).mono ?_)
       rw [EZX.out]
       rintro e w15 ⟨oq, cq, rfl, hb⟩
       have HB15 := hide (HB14.out.trans (hb.mono HB14.out.size))
       have HH15 := hide (needs_below HH14.out hb)
       have HS15 := hide (ints_below HS14.out hb)
       have HT15 := hide (ints_below HT14.out hb)
       have HA15 := hide (ints_below HA14.out hb)
       have HW15 := hide (ints_below HW14.out hb)
       have HZ15 := hide (ints_below HZ14.out hb)
       clear hb)
    | (go_at_call 23
       (with_reducible refine (hasProg HZ15.out).mono ?_)
       rintro e w16 hT
       obtain ⟨rfl, n16, hw⟩ := tells_no hT HCNZ.out
       have hb : Below w15.heap.size w15 w16 := by rw [hw]; exact belowN _ _ _
       clear hT hw
       have HB16 := hide (HB15.out.trans (hb.mono HB15.out.size))
       have HH16 := hide (needs_below HH15.out hb)
       have HS16 := hide (ints_below HS15.out hb)
       have HT16 := hide (ints_below HT15.out hb)
       have HA16 := hide (ints_below HA15.out hb)
       have HW16 := hide (ints_below HW15.out hb)
       have HZ16 := hide (ints_below HZ15.out hb)
       clear hb)
    | (go_at_call 21
       (with_reducible refine (minusProg HW16.out HA16.out LY.out).mono ?_)
       rw [EM2.out]
       rintro e w17 ⟨oq, cq, rfl, hb⟩
       have HB17 := hide (HB16.out.trans (hb.mono HB16.out.size))
       have HH17 := hide (needs_below HH16.out hb)
       have HS17 := hide (ints_below HS16.out hb)
       have HT17 := hide (ints_below HT16.out hb)
       have HA17 := hide (ints_below HA16.out hb)
       have HW17 := hide (ints_below HW16.out hb)
       have HZ17 := hide (ints_below HZ16.out hb)
       clear hb)
    | (go_at_call 10
       (with_reducible refine (runsAt HA.out _).mono ?_)
       rintro e w18 ⟨rfl, hb⟩
       have HB18 := hide (HB17.out.trans (hb.mono HB17.out.size))
       clear hb)
    | fail)
  go_ret
  exact ⟨rfl, HB18.out⟩

set_option maxHeartbeats 16000000 in
theorem law_p_q2t {w : World} {v0 v1 v2 : Value} {xss : List (List Nat)} {xs ys : List Nat} {x y z c : Nat} (h : NeedsAt w v0 (xss.map ints)) (hN : xss.length ≤ 20) (hv : Valid (xss.map ints)) (hs : Ints w v1 (ints xs)) (hi : Inc (ints xs) xss.length) (ht : Ints w v2 (ints ys)) (hj : Inc (ints ys) xss.length) (hA : Runs)
    (hx : IsClose xss xs x) (hy : IsClose xss ys y) (hp : ∀ n ∈ xs, y.testBit n = true) (hc : c ∈ bitsOf x) (hz : IsStay xss (bitsOf x) c z) (hq : ∀ b, y.testBit b = true → x.testBit b = true) (hr : y.testBit c = true) : Yes w #[v0, v1, v2, .int .i64 c] := by
  have HV := hide hv
  have HA := hide hA
  have HI := hide hi
  have HJ := hide hj
  have HCX := hide hx
  have HCY := hide hy
  have HN := hide hN
  have HPX := hide (inc_bits hx.low)
  have HPY := hide (inc_bits hy.low)
  have HDX := hide (bits_closed hN hx.low hx.closed)
  have HLX := hide (inc_lt HPX.out)
  have LS := hide (lb hi hN)
  have LX := hide (lb HPX.out hN)
  have LY := hide (lb HPY.out hN)
  have ESX : Hid (minus (ints xs) (ints (bitsOf x)) = []) := hide (minus_nil fun v hv => by
    obtain ⟨n, hn, rfl⟩ := of_ints hv
    exact mem_ints.2 (in_bits hN hx.low (hx.has n hn)))
  have ESY : Hid (minus (ints xs) (ints (bitsOf y)) = []) := hide (minus_nil fun v hv => by
    obtain ⟨n, hn, rfl⟩ := of_ints hv
    exact mem_ints.2 (in_bits hN hy.low (hp n hn)))
  have EXY : Hid (minus (ints (bitsOf x)) (ints (bitsOf y)) = []) := hide (minus_nil fun v hv => by
    obtain ⟨n, hn, rfl⟩ := of_ints hv
    exact mem_ints.2 (in_bits hN hy.low (hx.least (fun n => y.testBit n = true) (fun a b _ => hy.closed a b) hp n (mem_bits.1 hn).2)))
  have HCI : Hid ((c : Int) ∈ ints (bitsOf x)) := hide (mem_ints.2 hc)
  have HCB := hide hc
  have HCZ := hide hz
  have HPZ := hide (inc_bits hz.low)
  have HDZ := hide (bits_closed hN hz.low hz.closed)
  have HLZ := hide (inc_lt HPZ.out)
  have LZ := hide (lb HPZ.out hN)
  have EZX : Hid (minus (ints (bitsOf z)) (ints (bitsOf x)) = []) := hide (minus_nil fun v hv => by
    obtain ⟨n, hn, rfl⟩ := of_ints hv
    exact mem_ints.2 (hz.within n (mem_bits.1 hn).2))
  have HCNZ : Hid ((c : Int) ∉ ints (bitsOf z)) := hide fun q => hz.gone (mem_bits.1 (mem_ints.1 q)).2
  have EYX : Hid (minus (ints (bitsOf y)) (ints (bitsOf x)) = []) := hide (minus_nil fun v hv => by
    obtain ⟨n, hn, rfl⟩ := of_ints hv
    exact mem_ints.2 (in_bits hN hx.low (hq n (mem_bits.1 hn).2)))
  have HCY2 : Hid ((c : Int) ∈ ints (bitsOf y)) := hide (mem_ints.2 (in_bits hN hy.low hr))
  have HH0 := hide h
  have HS0 := hide hs
  have HT0 := hide ht
  have HB0 := hide (Below.refl w.heap.size w)
  obtain ⟨oa, cap, rfl, _, _⟩ := h
  obtain ⟨oa1, cap1, rfl, _, _⟩ := cells_at hs
  obtain ⟨oa2, cap2, rfl, _, _⟩ := cells_at ht
  have hlen : (xss.map ints).length = xss.length := by simp
  have HN2 : Hid ((xss.map ints).length ≤ 20) := hide (by rw [hlen]; exact hN)
  rw [hlen] at HH0 ⊢
  have h1 : (xss.length : Int) ≤ 20 := by omega
  clear hlen hA hv hs hi ht hj hx hy hp hc hz hq hr
  go_enter Try.func5, Try.ntmps5
  go_wp2_with (first
    | (go_at_call 17
       (with_reducible refine (checkRef (needs_w HH0.out) HN2.out).mono ?_)
       rintro e w1 ⟨⟨r, rfl, hr0, _⟩, n1, hw⟩
       have hr3 : r = 0 := hr0.2 HV.out
       subst hr3
       have hb : Below w.heap.size w w1 := by rw [hw]; exact belowN _ _ _
       clear hr0 hw
       have HB1 := hide (HB0.out.trans (hb.mono HB0.out.size))
       have HH1 := hide (needs_below HH0.out hb)
       have HS1 := hide (ints_below HS0.out hb)
       have HT1 := hide (ints_below HT0.out hb)
       clear hb)
    | (go_at_call 18
       (with_reducible refine (setProg (ints_w HS1.out)).mono ?_)
       rintro e w2 hT
       obtain ⟨rfl, n2, hw⟩ := tells_yes hT HI.out
       have hb : Below w1.heap.size w1 w2 := by rw [hw]; exact belowN _ _ _
       clear hT hw
       have HB2 := hide (HB1.out.trans (hb.mono HB1.out.size))
       have HH2 := hide (needs_below HH1.out hb)
       have HS2 := hide (ints_below HS1.out hb)
       have HT2 := hide (ints_below HT1.out hb)
       clear hb)
    | (go_at_call 18
       (with_reducible refine (setProg (ints_w HT2.out)).mono ?_)
       rintro e w3 hT
       obtain ⟨rfl, n3, hw⟩ := tells_yes hT HJ.out
       have hb : Below w2.heap.size w2 w3 := by rw [hw]; exact belowN _ _ _
       clear hT hw
       have HB3 := hide (HB2.out.trans (hb.mono HB2.out.size))
       have HH3 := hide (needs_below HH2.out hb)
       have HS3 := hide (ints_below HS2.out hb)
       have HT3 := hide (ints_below HT2.out hb)
       clear hb)
    | (go_at_call 19
       (with_reducible refine (closeProg HH3.out hN HV.out HS3.out HI.out).mono ?_)
       rintro e w4 ⟨xq, uq, rfl, hb, hcq, hoq⟩
       rw [close_unique hcq HCX.out] at hoq
       have HA4 := hide (own_ints hoq)
       obtain ⟨oq, cq, rfl⟩ := hoq.form
       clear hcq hoq
       have HB4 := hide (HB3.out.trans (hb.mono HB3.out.size))
       have HH4 := hide (needs_below HH3.out hb)
       have HS4 := hide (ints_below HS3.out hb)
       have HT4 := hide (ints_below HT3.out hb)
       clear hb)
    | (go_at_call 18
       (with_reducible refine (setProg (ints_w HA4.out)).mono ?_)
       rintro e w5 hT
       obtain ⟨rfl, n5, hw⟩ := tells_yes hT HPX.out
       have hb : Below w4.heap.size w4 w5 := by rw [hw]; exact belowN _ _ _
       clear hT hw
       have HB5 := hide (HB4.out.trans (hb.mono HB4.out.size))
       have HH5 := hide (needs_below HH4.out hb)
       have HS5 := hide (ints_below HS4.out hb)
       have HT5 := hide (ints_below HT4.out hb)
       have HA5 := hide (ints_below HA4.out hb)
       clear hb)
    | (go_at_call 20
       (with_reducible refine (closedRef HH5.out hN HV.out HA5.out HLX.out HDX.out).mono ?_)
       rintro e w6 ⟨rfl, hb⟩
       have HB6 := hide (HB5.out.trans (hb.mono HB5.out.size))
       have HH6 := hide (needs_below HH5.out hb)
       have HS6 := hide (ints_below HS5.out hb)
       have HT6 := hide (ints_below HT5.out hb)
       have HA6 := hide (ints_below HA5.out hb)
       clear hb)
    | (go_at_call 21
       (with_reducible refine (minusProg HS6.out HA6.out LS.out).mono ?_)
       rw [ESX.out]
       rintro e w7 ⟨oq, cq, rfl, hb⟩
       have HB7 := hide (HB6.out.trans (hb.mono HB6.out.size))
       have HH7 := hide (needs_below HH6.out hb)
       have HS7 := hide (ints_below HS6.out hb)
       have HT7 := hide (ints_below HT6.out hb)
       have HA7 := hide (ints_below HA6.out hb)
       clear hb)
    | (go_at_call 19
       (with_reducible refine (closeProg HH7.out hN HV.out HT7.out HJ.out).mono ?_)
       rintro e w8 ⟨xq, uq, rfl, hb, hcq, hoq⟩
       rw [close_unique hcq HCY.out] at hoq
       have HW8 := hide (own_ints hoq)
       obtain ⟨oq, cq, rfl⟩ := hoq.form
       clear hcq hoq
       have HB8 := hide (HB7.out.trans (hb.mono HB7.out.size))
       have HH8 := hide (needs_below HH7.out hb)
       have HS8 := hide (ints_below HS7.out hb)
       have HT8 := hide (ints_below HT7.out hb)
       have HA8 := hide (ints_below HA7.out hb)
       clear hb)
    | (go_at_call 21
       (with_reducible refine (minusProg HS8.out HW8.out LS.out).mono ?_)
       rw [ESY.out]
       rintro e w9 ⟨oq, cq, rfl, hb⟩
       have HB9 := hide (HB8.out.trans (hb.mono HB8.out.size))
       have HH9 := hide (needs_below HH8.out hb)
       have HS9 := hide (ints_below HS8.out hb)
       have HT9 := hide (ints_below HT8.out hb)
       have HA9 := hide (ints_below HA8.out hb)
       have HW9 := hide (ints_below HW8.out hb)
       clear hb)
    | (go_at_call 21
       (with_reducible refine (minusProg HA9.out HW9.out LX.out).mono ?_)
       rw [EXY.out]
       rintro e w10 ⟨oq, cq, rfl, hb⟩
       have HB10 := hide (HB9.out.trans (hb.mono HB9.out.size))
       have HH10 := hide (needs_below HH9.out hb)
       have HS10 := hide (ints_below HS9.out hb)
       have HT10 := hide (ints_below HT9.out hb)
       have HA10 := hide (ints_below HA9.out hb)
       have HW10 := hide (ints_below HW9.out hb)
       clear hb)
    | (go_at_call 22
       (with_reducible refine (withoutSome HH10.out hN HV.out HA10.out HPX.out HDX.out HCB.out).mono ?_)
       rintro e w11 ⟨zq, uq, rfl, hb, hcq, hoq⟩
       rw [stay_unique hcq HCZ.out] at hoq
       have HZ11 := hide (own_ints hoq)
       obtain ⟨oq, cq, rfl⟩ := hoq.form
       clear hcq hoq
       have HB11 := hide (HB10.out.trans (hb.mono HB10.out.size))
       have HH11 := hide (needs_below HH10.out hb)
       have HS11 := hide (ints_below HS10.out hb)
       have HT11 := hide (ints_below HT10.out hb)
       have HA11 := hide (ints_below HA10.out hb)
       have HW11 := hide (ints_below HW10.out hb)
       clear hb)
    | (go_at_call 23
       (with_reducible refine (hasProg HA11.out).mono ?_)
       rintro e w12 hT
       obtain ⟨rfl, n12, hw⟩ := tells_yes hT HCI.out
       have hb : Below w11.heap.size w11 w12 := by rw [hw]; exact belowN _ _ _
       clear hT hw
       have HB12 := hide (HB11.out.trans (hb.mono HB11.out.size))
       have HH12 := hide (needs_below HH11.out hb)
       have HS12 := hide (ints_below HS11.out hb)
       have HT12 := hide (ints_below HT11.out hb)
       have HA12 := hide (ints_below HA11.out hb)
       have HW12 := hide (ints_below HW11.out hb)
       have HZ12 := hide (ints_below HZ11.out hb)
       clear hb)
    | (go_at_call 18
       (with_reducible refine (setProg (ints_w HZ12.out)).mono ?_)
       rintro e w13 hT
       obtain ⟨rfl, n13, hw⟩ := tells_yes hT HPZ.out
       have hb : Below w12.heap.size w12 w13 := by rw [hw]; exact belowN _ _ _
       clear hT hw
       have HB13 := hide (HB12.out.trans (hb.mono HB12.out.size))
       have HH13 := hide (needs_below HH12.out hb)
       have HS13 := hide (ints_below HS12.out hb)
       have HT13 := hide (ints_below HT12.out hb)
       have HA13 := hide (ints_below HA12.out hb)
       have HW13 := hide (ints_below HW12.out hb)
       have HZ13 := hide (ints_below HZ12.out hb)
       clear hb)
    | (go_at_call 20
       (with_reducible refine (closedRef HH13.out hN HV.out HZ13.out HLZ.out HDZ.out).mono ?_)
       rintro e w14 ⟨rfl, hb⟩
       have HB14 := hide (HB13.out.trans (hb.mono HB13.out.size))
       have HH14 := hide (needs_below HH13.out hb)
       have HS14 := hide (ints_below HS13.out hb)
       have HT14 := hide (ints_below HT13.out hb)
       have HA14 := hide (ints_below HA13.out hb)
       have HW14 := hide (ints_below HW13.out hb)
       have HZ14 := hide (ints_below HZ13.out hb)
       clear hb)
    | (go_at_call 21
       (with_reducible refine (minusProg HZ14.out HA14.out LZ.out).mono ?_)
       rw [EZX.out]
       rintro e w15 ⟨oq, cq, rfl, hb⟩
       have HB15 := hide (HB14.out.trans (hb.mono HB14.out.size))
       have HH15 := hide (needs_below HH14.out hb)
       have HS15 := hide (ints_below HS14.out hb)
       have HT15 := hide (ints_below HT14.out hb)
       have HA15 := hide (ints_below HA14.out hb)
       have HW15 := hide (ints_below HW14.out hb)
       have HZ15 := hide (ints_below HZ14.out hb)
       clear hb)
    | (go_at_call 23
       (with_reducible refine (hasProg HZ15.out).mono ?_)
       rintro e w16 hT
       obtain ⟨rfl, n16, hw⟩ := tells_no hT HCNZ.out
       have hb : Below w15.heap.size w15 w16 := by rw [hw]; exact belowN _ _ _
       clear hT hw
       have HB16 := hide (HB15.out.trans (hb.mono HB15.out.size))
       have HH16 := hide (needs_below HH15.out hb)
       have HS16 := hide (ints_below HS15.out hb)
       have HT16 := hide (ints_below HT15.out hb)
       have HA16 := hide (ints_below HA15.out hb)
       have HW16 := hide (ints_below HW15.out hb)
       have HZ16 := hide (ints_below HZ15.out hb)
       clear hb)
    | (go_at_call 21
       (with_reducible refine (minusProg HW16.out HA16.out LY.out).mono ?_)
       rw [EYX.out]
       rintro e w17 ⟨oq, cq, rfl, hb⟩
       have HB17 := hide (HB16.out.trans (hb.mono HB16.out.size))
       have HH17 := hide (needs_below HH16.out hb)
       have HS17 := hide (ints_below HS16.out hb)
       have HT17 := hide (ints_below HT16.out hb)
       have HA17 := hide (ints_below HA16.out hb)
       have HW17 := hide (ints_below HW16.out hb)
       have HZ17 := hide (ints_below HZ16.out hb)
       clear hb)
    | (go_at_call 23
       (with_reducible refine (hasProg HW17.out).mono ?_)
       rintro e w18 hT
       obtain ⟨rfl, n18, hw⟩ := tells_yes hT HCY2.out
       have hb : Below w17.heap.size w17 w18 := by rw [hw]; exact belowN _ _ _
       clear hT hw
       have HB18 := hide (HB17.out.trans (hb.mono HB17.out.size))
       have HH18 := hide (needs_below HH17.out hb)
       have HS18 := hide (ints_below HS17.out hb)
       have HT18 := hide (ints_below HT17.out hb)
       have HA18 := hide (ints_below HA17.out hb)
       have HW18 := hide (ints_below HW17.out hb)
       have HZ18 := hide (ints_below HZ17.out hb)
       clear hb)
    | (go_at_call 10
       (with_reducible refine (runsAt HA.out _).mono ?_)
       rintro e w19 ⟨rfl, hb⟩
       have HB19 := hide (HB18.out.trans (hb.mono HB18.out.size))
       clear hb)
    | fail)
  go_ret
  exact ⟨rfl, HB19.out⟩

set_option maxHeartbeats 16000000 in
theorem law_p_q2f {w : World} {v0 v1 v2 : Value} {xss : List (List Nat)} {xs ys : List Nat} {x y z c : Nat} (h : NeedsAt w v0 (xss.map ints)) (hN : xss.length ≤ 20) (hv : Valid (xss.map ints)) (hs : Ints w v1 (ints xs)) (hi : Inc (ints xs) xss.length) (ht : Ints w v2 (ints ys)) (hj : Inc (ints ys) xss.length) (hA : Runs)
    (hx : IsClose xss xs x) (hy : IsClose xss ys y) (hp : ∀ n ∈ xs, y.testBit n = true) (hc : c ∈ bitsOf x) (hz : IsStay xss (bitsOf x) c z) (hq : ∀ b, y.testBit b = true → x.testBit b = true) (hr : ¬ y.testBit c = true) : Yes w #[v0, v1, v2, .int .i64 c] := by
  have HV := hide hv
  have HA := hide hA
  have HI := hide hi
  have HJ := hide hj
  have HCX := hide hx
  have HCY := hide hy
  have HN := hide hN
  have HPX := hide (inc_bits hx.low)
  have HPY := hide (inc_bits hy.low)
  have HDX := hide (bits_closed hN hx.low hx.closed)
  have HLX := hide (inc_lt HPX.out)
  have LS := hide (lb hi hN)
  have LX := hide (lb HPX.out hN)
  have LY := hide (lb HPY.out hN)
  have ESX : Hid (minus (ints xs) (ints (bitsOf x)) = []) := hide (minus_nil fun v hv => by
    obtain ⟨n, hn, rfl⟩ := of_ints hv
    exact mem_ints.2 (in_bits hN hx.low (hx.has n hn)))
  have ESY : Hid (minus (ints xs) (ints (bitsOf y)) = []) := hide (minus_nil fun v hv => by
    obtain ⟨n, hn, rfl⟩ := of_ints hv
    exact mem_ints.2 (in_bits hN hy.low (hp n hn)))
  have EXY : Hid (minus (ints (bitsOf x)) (ints (bitsOf y)) = []) := hide (minus_nil fun v hv => by
    obtain ⟨n, hn, rfl⟩ := of_ints hv
    exact mem_ints.2 (in_bits hN hy.low (hx.least (fun n => y.testBit n = true) (fun a b _ => hy.closed a b) hp n (mem_bits.1 hn).2)))
  have HCI : Hid ((c : Int) ∈ ints (bitsOf x)) := hide (mem_ints.2 hc)
  have HCB := hide hc
  have HCZ := hide hz
  have HPZ := hide (inc_bits hz.low)
  have HDZ := hide (bits_closed hN hz.low hz.closed)
  have HLZ := hide (inc_lt HPZ.out)
  have LZ := hide (lb HPZ.out hN)
  have EZX : Hid (minus (ints (bitsOf z)) (ints (bitsOf x)) = []) := hide (minus_nil fun v hv => by
    obtain ⟨n, hn, rfl⟩ := of_ints hv
    exact mem_ints.2 (hz.within n (mem_bits.1 hn).2))
  have HCNZ : Hid ((c : Int) ∉ ints (bitsOf z)) := hide fun q => hz.gone (mem_bits.1 (mem_ints.1 q)).2
  have EYX : Hid (minus (ints (bitsOf y)) (ints (bitsOf x)) = []) := hide (minus_nil fun v hv => by
    obtain ⟨n, hn, rfl⟩ := of_ints hv
    exact mem_ints.2 (in_bits hN hx.low (hq n (mem_bits.1 hn).2)))
  have HCY2 : Hid ((c : Int) ∉ ints (bitsOf y)) := hide fun q => hr (mem_bits.1 (mem_ints.1 q)).2
  have EYZ : Hid (minus (ints (bitsOf y)) (ints (bitsOf z)) = []) := hide (minus_nil fun v hv => by
    obtain ⟨n, hn, rfl⟩ := of_ints hv
    exact mem_ints.2 (in_bits hN hz.low (hz.most (fun b => y.testBit b = true) (fun a b _ => hy.closed a b) (fun b hb => in_bits hN hx.low (hq b hb)) hr n (mem_bits.1 hn).2)))
  have HH0 := hide h
  have HS0 := hide hs
  have HT0 := hide ht
  have HB0 := hide (Below.refl w.heap.size w)
  obtain ⟨oa, cap, rfl, _, _⟩ := h
  obtain ⟨oa1, cap1, rfl, _, _⟩ := cells_at hs
  obtain ⟨oa2, cap2, rfl, _, _⟩ := cells_at ht
  have hlen : (xss.map ints).length = xss.length := by simp
  have HN2 : Hid ((xss.map ints).length ≤ 20) := hide (by rw [hlen]; exact hN)
  rw [hlen] at HH0 ⊢
  have h1 : (xss.length : Int) ≤ 20 := by omega
  clear hlen hA hv hs hi ht hj hx hy hp hc hz hq hr
  go_enter Try.func5, Try.ntmps5
  go_wp2_with (first
    | (go_at_call 17
       (with_reducible refine (checkRef (needs_w HH0.out) HN2.out).mono ?_)
       rintro e w1 ⟨⟨r, rfl, hr0, _⟩, n1, hw⟩
       have hr3 : r = 0 := hr0.2 HV.out
       subst hr3
       have hb : Below w.heap.size w w1 := by rw [hw]; exact belowN _ _ _
       clear hr0 hw
       have HB1 := hide (HB0.out.trans (hb.mono HB0.out.size))
       have HH1 := hide (needs_below HH0.out hb)
       have HS1 := hide (ints_below HS0.out hb)
       have HT1 := hide (ints_below HT0.out hb)
       clear hb)
    | (go_at_call 18
       (with_reducible refine (setProg (ints_w HS1.out)).mono ?_)
       rintro e w2 hT
       obtain ⟨rfl, n2, hw⟩ := tells_yes hT HI.out
       have hb : Below w1.heap.size w1 w2 := by rw [hw]; exact belowN _ _ _
       clear hT hw
       have HB2 := hide (HB1.out.trans (hb.mono HB1.out.size))
       have HH2 := hide (needs_below HH1.out hb)
       have HS2 := hide (ints_below HS1.out hb)
       have HT2 := hide (ints_below HT1.out hb)
       clear hb)
    | (go_at_call 18
       (with_reducible refine (setProg (ints_w HT2.out)).mono ?_)
       rintro e w3 hT
       obtain ⟨rfl, n3, hw⟩ := tells_yes hT HJ.out
       have hb : Below w2.heap.size w2 w3 := by rw [hw]; exact belowN _ _ _
       clear hT hw
       have HB3 := hide (HB2.out.trans (hb.mono HB2.out.size))
       have HH3 := hide (needs_below HH2.out hb)
       have HS3 := hide (ints_below HS2.out hb)
       have HT3 := hide (ints_below HT2.out hb)
       clear hb)
    | (go_at_call 19
       (with_reducible refine (closeProg HH3.out hN HV.out HS3.out HI.out).mono ?_)
       rintro e w4 ⟨xq, uq, rfl, hb, hcq, hoq⟩
       rw [close_unique hcq HCX.out] at hoq
       have HA4 := hide (own_ints hoq)
       obtain ⟨oq, cq, rfl⟩ := hoq.form
       clear hcq hoq
       have HB4 := hide (HB3.out.trans (hb.mono HB3.out.size))
       have HH4 := hide (needs_below HH3.out hb)
       have HS4 := hide (ints_below HS3.out hb)
       have HT4 := hide (ints_below HT3.out hb)
       clear hb)
    | (go_at_call 18
       (with_reducible refine (setProg (ints_w HA4.out)).mono ?_)
       rintro e w5 hT
       obtain ⟨rfl, n5, hw⟩ := tells_yes hT HPX.out
       have hb : Below w4.heap.size w4 w5 := by rw [hw]; exact belowN _ _ _
       clear hT hw
       have HB5 := hide (HB4.out.trans (hb.mono HB4.out.size))
       have HH5 := hide (needs_below HH4.out hb)
       have HS5 := hide (ints_below HS4.out hb)
       have HT5 := hide (ints_below HT4.out hb)
       have HA5 := hide (ints_below HA4.out hb)
       clear hb)
    | (go_at_call 20
       (with_reducible refine (closedRef HH5.out hN HV.out HA5.out HLX.out HDX.out).mono ?_)
       rintro e w6 ⟨rfl, hb⟩
       have HB6 := hide (HB5.out.trans (hb.mono HB5.out.size))
       have HH6 := hide (needs_below HH5.out hb)
       have HS6 := hide (ints_below HS5.out hb)
       have HT6 := hide (ints_below HT5.out hb)
       have HA6 := hide (ints_below HA5.out hb)
       clear hb)
    | (go_at_call 21
       (with_reducible refine (minusProg HS6.out HA6.out LS.out).mono ?_)
       rw [ESX.out]
       rintro e w7 ⟨oq, cq, rfl, hb⟩
       have HB7 := hide (HB6.out.trans (hb.mono HB6.out.size))
       have HH7 := hide (needs_below HH6.out hb)
       have HS7 := hide (ints_below HS6.out hb)
       have HT7 := hide (ints_below HT6.out hb)
       have HA7 := hide (ints_below HA6.out hb)
       clear hb)
    | (go_at_call 19
       (with_reducible refine (closeProg HH7.out hN HV.out HT7.out HJ.out).mono ?_)
       rintro e w8 ⟨xq, uq, rfl, hb, hcq, hoq⟩
       rw [close_unique hcq HCY.out] at hoq
       have HW8 := hide (own_ints hoq)
       obtain ⟨oq, cq, rfl⟩ := hoq.form
       clear hcq hoq
       have HB8 := hide (HB7.out.trans (hb.mono HB7.out.size))
       have HH8 := hide (needs_below HH7.out hb)
       have HS8 := hide (ints_below HS7.out hb)
       have HT8 := hide (ints_below HT7.out hb)
       have HA8 := hide (ints_below HA7.out hb)
       clear hb)
    | (go_at_call 21
       (with_reducible refine (minusProg HS8.out HW8.out LS.out).mono ?_)
       rw [ESY.out]
       rintro e w9 ⟨oq, cq, rfl, hb⟩
       have HB9 := hide (HB8.out.trans (hb.mono HB8.out.size))
       have HH9 := hide (needs_below HH8.out hb)
       have HS9 := hide (ints_below HS8.out hb)
       have HT9 := hide (ints_below HT8.out hb)
       have HA9 := hide (ints_below HA8.out hb)
       have HW9 := hide (ints_below HW8.out hb)
       clear hb)
    | (go_at_call 21
       (with_reducible refine (minusProg HA9.out HW9.out LX.out).mono ?_)
       rw [EXY.out]
       rintro e w10 ⟨oq, cq, rfl, hb⟩
       have HB10 := hide (HB9.out.trans (hb.mono HB9.out.size))
       have HH10 := hide (needs_below HH9.out hb)
       have HS10 := hide (ints_below HS9.out hb)
       have HT10 := hide (ints_below HT9.out hb)
       have HA10 := hide (ints_below HA9.out hb)
       have HW10 := hide (ints_below HW9.out hb)
       clear hb)
    | (go_at_call 22
       (with_reducible refine (withoutSome HH10.out hN HV.out HA10.out HPX.out HDX.out HCB.out).mono ?_)
       rintro e w11 ⟨zq, uq, rfl, hb, hcq, hoq⟩
       rw [stay_unique hcq HCZ.out] at hoq
       have HZ11 := hide (own_ints hoq)
       obtain ⟨oq, cq, rfl⟩ := hoq.form
       clear hcq hoq
       have HB11 := hide (HB10.out.trans (hb.mono HB10.out.size))
       have HH11 := hide (needs_below HH10.out hb)
       have HS11 := hide (ints_below HS10.out hb)
       have HT11 := hide (ints_below HT10.out hb)
       have HA11 := hide (ints_below HA10.out hb)
       have HW11 := hide (ints_below HW10.out hb)
       clear hb)
    | (go_at_call 23
       (with_reducible refine (hasProg HA11.out).mono ?_)
       rintro e w12 hT
       obtain ⟨rfl, n12, hw⟩ := tells_yes hT HCI.out
       have hb : Below w11.heap.size w11 w12 := by rw [hw]; exact belowN _ _ _
       clear hT hw
       have HB12 := hide (HB11.out.trans (hb.mono HB11.out.size))
       have HH12 := hide (needs_below HH11.out hb)
       have HS12 := hide (ints_below HS11.out hb)
       have HT12 := hide (ints_below HT11.out hb)
       have HA12 := hide (ints_below HA11.out hb)
       have HW12 := hide (ints_below HW11.out hb)
       have HZ12 := hide (ints_below HZ11.out hb)
       clear hb)
    | (go_at_call 18
       (with_reducible refine (setProg (ints_w HZ12.out)).mono ?_)
       rintro e w13 hT
       obtain ⟨rfl, n13, hw⟩ := tells_yes hT HPZ.out
       have hb : Below w12.heap.size w12 w13 := by rw [hw]; exact belowN _ _ _
       clear hT hw
       have HB13 := hide (HB12.out.trans (hb.mono HB12.out.size))
       have HH13 := hide (needs_below HH12.out hb)
       have HS13 := hide (ints_below HS12.out hb)
       have HT13 := hide (ints_below HT12.out hb)
       have HA13 := hide (ints_below HA12.out hb)
       have HW13 := hide (ints_below HW12.out hb)
       have HZ13 := hide (ints_below HZ12.out hb)
       clear hb)
    | (go_at_call 20
       (with_reducible refine (closedRef HH13.out hN HV.out HZ13.out HLZ.out HDZ.out).mono ?_)
       rintro e w14 ⟨rfl, hb⟩
       have HB14 := hide (HB13.out.trans (hb.mono HB13.out.size))
       have HH14 := hide (needs_below HH13.out hb)
       have HS14 := hide (ints_below HS13.out hb)
       have HT14 := hide (ints_below HT13.out hb)
       have HA14 := hide (ints_below HA13.out hb)
       have HW14 := hide (ints_below HW13.out hb)
       have HZ14 := hide (ints_below HZ13.out hb)
       clear hb)
    | (go_at_call 21
       (with_reducible refine (minusProg HZ14.out HA14.out LZ.out).mono ?_)
       rw [EZX.out]
       rintro e w15 ⟨oq, cq, rfl, hb⟩
       have HB15 := hide (HB14.out.trans (hb.mono HB14.out.size))
       have HH15 := hide (needs_below HH14.out hb)
       have HS15 := hide (ints_below HS14.out hb)
       have HT15 := hide (ints_below HT14.out hb)
       have HA15 := hide (ints_below HA14.out hb)
       have HW15 := hide (ints_below HW14.out hb)
       have HZ15 := hide (ints_below HZ14.out hb)
       clear hb)
    | (go_at_call 23
       (with_reducible refine (hasProg HZ15.out).mono ?_)
       rintro e w16 hT
       obtain ⟨rfl, n16, hw⟩ := tells_no hT HCNZ.out
       have hb : Below w15.heap.size w15 w16 := by rw [hw]; exact belowN _ _ _
       clear hT hw
       have HB16 := hide (HB15.out.trans (hb.mono HB15.out.size))
       have HH16 := hide (needs_below HH15.out hb)
       have HS16 := hide (ints_below HS15.out hb)
       have HT16 := hide (ints_below HT15.out hb)
       have HA16 := hide (ints_below HA15.out hb)
       have HW16 := hide (ints_below HW15.out hb)
       have HZ16 := hide (ints_below HZ15.out hb)
       clear hb)
    | (go_at_call 21
       (with_reducible refine (minusProg HW16.out HA16.out LY.out).mono ?_)
       rw [EYX.out]
       rintro e w17 ⟨oq, cq, rfl, hb⟩
       have HB17 := hide (HB16.out.trans (hb.mono HB16.out.size))
       have HH17 := hide (needs_below HH16.out hb)
       have HS17 := hide (ints_below HS16.out hb)
       have HT17 := hide (ints_below HT16.out hb)
       have HA17 := hide (ints_below HA16.out hb)
       have HW17 := hide (ints_below HW16.out hb)
       have HZ17 := hide (ints_below HZ16.out hb)
       clear hb)
    | (go_at_call 23
       (with_reducible refine (hasProg HW17.out).mono ?_)
       rintro e w18 hT
       obtain ⟨rfl, n18, hw⟩ := tells_no hT HCY2.out
       have hb : Below w17.heap.size w17 w18 := by rw [hw]; exact belowN _ _ _
       clear hT hw
       have HB18 := hide (HB17.out.trans (hb.mono HB17.out.size))
       have HH18 := hide (needs_below HH17.out hb)
       have HS18 := hide (ints_below HS17.out hb)
       have HT18 := hide (ints_below HT17.out hb)
       have HA18 := hide (ints_below HA17.out hb)
       have HW18 := hide (ints_below HW17.out hb)
       have HZ18 := hide (ints_below HZ17.out hb)
       clear hb)
    | (go_at_call 21
       (with_reducible refine (minusProg HW18.out HZ18.out LY.out).mono ?_)
       rw [EYZ.out]
       rintro e w19 ⟨oq, cq, rfl, hb⟩
       have HB19 := hide (HB18.out.trans (hb.mono HB18.out.size))
       have HH19 := hide (needs_below HH18.out hb)
       have HS19 := hide (ints_below HS18.out hb)
       have HT19 := hide (ints_below HT18.out hb)
       have HA19 := hide (ints_below HA18.out hb)
       have HW19 := hide (ints_below HW18.out hb)
       have HZ19 := hide (ints_below HZ18.out hb)
       clear hb)
    | (go_at_call 10
       (with_reducible refine (runsAt HA.out _).mono ?_)
       rintro e w20 ⟨rfl, hb⟩
       have HB20 := hide (HB19.out.trans (hb.mono HB19.out.size))
       clear hb)
    | fail)
  go_ret
  exact ⟨rfl, HB20.out⟩

set_option maxHeartbeats 16000000 in
theorem law_n_none {w : World} {v0 v1 v2 : Value} {xss : List (List Nat)} {xs ys : List Nat} {x y : Nat} {z : Int} (h : NeedsAt w v0 (xss.map ints)) (hN : xss.length ≤ 20) (hv : Valid (xss.map ints)) (hs : Ints w v1 (ints xs)) (hi : Inc (ints xs) xss.length) (ht : Ints w v2 (ints ys)) (hj : Inc (ints ys) xss.length) (hA : Runs)
    (hx : IsClose xss xs x) (hy : IsClose xss ys y) (hp : ¬ ∀ n ∈ xs, y.testBit n = true) (hc : z ∉ ints (bitsOf x)) : Yes w #[v0, v1, v2, .int .i64 z] := by
  have HV := hide hv
  have HA := hide hA
  have HI := hide hi
  have HJ := hide hj
  have HCX := hide hx
  have HCY := hide hy
  have HN := hide hN
  have HPX := hide (inc_bits hx.low)
  have HPY := hide (inc_bits hy.low)
  have HDX := hide (bits_closed hN hx.low hx.closed)
  have HLX := hide (inc_lt HPX.out)
  have LS := hide (lb hi hN)
  have LX := hide (lb HPX.out hN)
  have LY := hide (lb HPY.out hN)
  have ESX : Hid (minus (ints xs) (ints (bitsOf x)) = []) := hide (minus_nil fun v hv => by
    obtain ⟨n, hn, rfl⟩ := of_ints hv
    exact mem_ints.2 (in_bits hN hx.low (hx.has n hn)))
  obtain ⟨m1, em1, hm1⟩ : ∃ m, (minus (ints xs) (ints (bitsOf y))).length = m ∧ 0 < m := by
    obtain ⟨n, hn⟩ := Classical.not_forall.1 hp
    obtain ⟨hn1, hn2⟩ := Classical.not_imp.1 hn
    exact ⟨_, rfl, minus_some (mem_ints.2 hn1) fun q => hn2 (mem_bits.1 (mem_ints.1 q)).2⟩
  have EM1 := hide em1
  have a1 : ((m1 : Int) == 0) = false := by
    rw [beq_eq_false_iff_ne]
    omega
  have a2 : ¬ (m1 : Int) = 0 := by omega
  have a3 : ¬ m1 = 0 := by omega
  clear em1
  have HCI := hide hc
  have HH0 := hide h
  have HS0 := hide hs
  have HT0 := hide ht
  have HB0 := hide (Below.refl w.heap.size w)
  obtain ⟨oa, cap, rfl, _, _⟩ := h
  obtain ⟨oa1, cap1, rfl, _, _⟩ := cells_at hs
  obtain ⟨oa2, cap2, rfl, _, _⟩ := cells_at ht
  have hlen : (xss.map ints).length = xss.length := by simp
  have HN2 : Hid ((xss.map ints).length ≤ 20) := hide (by rw [hlen]; exact hN)
  rw [hlen] at HH0 ⊢
  have h1 : (xss.length : Int) ≤ 20 := by omega
  clear hlen hA hv hs hi ht hj hx hy hp hc
  go_enter Try.func5, Try.ntmps5
  go_wp2_with (first
    | (go_at_call 17
       (with_reducible refine (checkRef (needs_w HH0.out) HN2.out).mono ?_)
       rintro e w1 ⟨⟨r, rfl, hr0, _⟩, n1, hw⟩
       have hr3 : r = 0 := hr0.2 HV.out
       subst hr3
       have hb : Below w.heap.size w w1 := by rw [hw]; exact belowN _ _ _
       clear hr0 hw
       have HB1 := hide (HB0.out.trans (hb.mono HB0.out.size))
       have HH1 := hide (needs_below HH0.out hb)
       have HS1 := hide (ints_below HS0.out hb)
       have HT1 := hide (ints_below HT0.out hb)
       clear hb)
    | (go_at_call 18
       (with_reducible refine (setProg (ints_w HS1.out)).mono ?_)
       rintro e w2 hT
       obtain ⟨rfl, n2, hw⟩ := tells_yes hT HI.out
       have hb : Below w1.heap.size w1 w2 := by rw [hw]; exact belowN _ _ _
       clear hT hw
       have HB2 := hide (HB1.out.trans (hb.mono HB1.out.size))
       have HH2 := hide (needs_below HH1.out hb)
       have HS2 := hide (ints_below HS1.out hb)
       have HT2 := hide (ints_below HT1.out hb)
       clear hb)
    | (go_at_call 18
       (with_reducible refine (setProg (ints_w HT2.out)).mono ?_)
       rintro e w3 hT
       obtain ⟨rfl, n3, hw⟩ := tells_yes hT HJ.out
       have hb : Below w2.heap.size w2 w3 := by rw [hw]; exact belowN _ _ _
       clear hT hw
       have HB3 := hide (HB2.out.trans (hb.mono HB2.out.size))
       have HH3 := hide (needs_below HH2.out hb)
       have HS3 := hide (ints_below HS2.out hb)
       have HT3 := hide (ints_below HT2.out hb)
       clear hb)
    | (go_at_call 19
       (with_reducible refine (closeProg HH3.out hN HV.out HS3.out HI.out).mono ?_)
       rintro e w4 ⟨xq, uq, rfl, hb, hcq, hoq⟩
       rw [close_unique hcq HCX.out] at hoq
       have HA4 := hide (own_ints hoq)
       obtain ⟨oq, cq, rfl⟩ := hoq.form
       clear hcq hoq
       have HB4 := hide (HB3.out.trans (hb.mono HB3.out.size))
       have HH4 := hide (needs_below HH3.out hb)
       have HS4 := hide (ints_below HS3.out hb)
       have HT4 := hide (ints_below HT3.out hb)
       clear hb)
    | (go_at_call 18
       (with_reducible refine (setProg (ints_w HA4.out)).mono ?_)
       rintro e w5 hT
       obtain ⟨rfl, n5, hw⟩ := tells_yes hT HPX.out
       have hb : Below w4.heap.size w4 w5 := by rw [hw]; exact belowN _ _ _
       clear hT hw
       have HB5 := hide (HB4.out.trans (hb.mono HB4.out.size))
       have HH5 := hide (needs_below HH4.out hb)
       have HS5 := hide (ints_below HS4.out hb)
       have HT5 := hide (ints_below HT4.out hb)
       have HA5 := hide (ints_below HA4.out hb)
       clear hb)
    | (go_at_call 20
       (with_reducible refine (closedRef HH5.out hN HV.out HA5.out HLX.out HDX.out).mono ?_)
       rintro e w6 ⟨rfl, hb⟩
       have HB6 := hide (HB5.out.trans (hb.mono HB5.out.size))
       have HH6 := hide (needs_below HH5.out hb)
       have HS6 := hide (ints_below HS5.out hb)
       have HT6 := hide (ints_below HT5.out hb)
       have HA6 := hide (ints_below HA5.out hb)
       clear hb)
    | (go_at_call 21
       (with_reducible refine (minusProg HS6.out HA6.out LS.out).mono ?_)
       rw [ESX.out]
       rintro e w7 ⟨oq, cq, rfl, hb⟩
       have HB7 := hide (HB6.out.trans (hb.mono HB6.out.size))
       have HH7 := hide (needs_below HH6.out hb)
       have HS7 := hide (ints_below HS6.out hb)
       have HT7 := hide (ints_below HT6.out hb)
       have HA7 := hide (ints_below HA6.out hb)
       clear hb)
    | (go_at_call 19
       (with_reducible refine (closeProg HH7.out hN HV.out HT7.out HJ.out).mono ?_)
       rintro e w8 ⟨xq, uq, rfl, hb, hcq, hoq⟩
       rw [close_unique hcq HCY.out] at hoq
       have HW8 := hide (own_ints hoq)
       obtain ⟨oq, cq, rfl⟩ := hoq.form
       clear hcq hoq
       have HB8 := hide (HB7.out.trans (hb.mono HB7.out.size))
       have HH8 := hide (needs_below HH7.out hb)
       have HS8 := hide (ints_below HS7.out hb)
       have HT8 := hide (ints_below HT7.out hb)
       have HA8 := hide (ints_below HA7.out hb)
       clear hb)
    | (go_at_call 21
       (with_reducible refine (minusProg HS8.out HW8.out LS.out).mono ?_)
       rw [EM1.out]
       rintro e w9 ⟨oq, cq, rfl, hb⟩
       have HB9 := hide (HB8.out.trans (hb.mono HB8.out.size))
       have HH9 := hide (needs_below HH8.out hb)
       have HS9 := hide (ints_below HS8.out hb)
       have HT9 := hide (ints_below HT8.out hb)
       have HA9 := hide (ints_below HA8.out hb)
       have HW9 := hide (ints_below HW8.out hb)
       clear hb)
    | (go_at_call 22
       (with_reducible refine (withoutNone HH9.out hN HV.out HA9.out HPX.out HDX.out HCI.out).mono ?_)
       rintro e w10 ⟨uq, rfl, hb⟩
       have HB10 := hide (HB9.out.trans (hb.mono HB9.out.size))
       have HH10 := hide (needs_below HH9.out hb)
       have HS10 := hide (ints_below HS9.out hb)
       have HT10 := hide (ints_below HT9.out hb)
       have HA10 := hide (ints_below HA9.out hb)
       have HW10 := hide (ints_below HW9.out hb)
       clear hb)
    | (go_at_call 23
       (with_reducible refine (hasProg HA10.out).mono ?_)
       rintro e w11 hT
       obtain ⟨rfl, n11, hw⟩ := tells_no hT HCI.out
       have hb : Below w10.heap.size w10 w11 := by rw [hw]; exact belowN _ _ _
       clear hT hw
       have HB11 := hide (HB10.out.trans (hb.mono HB10.out.size))
       have HH11 := hide (needs_below HH10.out hb)
       have HS11 := hide (ints_below HS10.out hb)
       have HT11 := hide (ints_below HT10.out hb)
       have HA11 := hide (ints_below HA10.out hb)
       have HW11 := hide (ints_below HW10.out hb)
       clear hb)
    | (go_at_call 10
       (with_reducible refine (runsAt HA.out _).mono ?_)
       rintro e w12 ⟨rfl, hb⟩
       have HB12 := hide (HB11.out.trans (hb.mono HB11.out.size))
       clear hb)
    | fail)
  go_ret
  exact ⟨rfl, HB12.out⟩

set_option maxHeartbeats 16000000 in
theorem law_n_q1f {w : World} {v0 v1 v2 : Value} {xss : List (List Nat)} {xs ys : List Nat} {x y z c : Nat} (h : NeedsAt w v0 (xss.map ints)) (hN : xss.length ≤ 20) (hv : Valid (xss.map ints)) (hs : Ints w v1 (ints xs)) (hi : Inc (ints xs) xss.length) (ht : Ints w v2 (ints ys)) (hj : Inc (ints ys) xss.length) (hA : Runs)
    (hx : IsClose xss xs x) (hy : IsClose xss ys y) (hp : ¬ ∀ n ∈ xs, y.testBit n = true) (hc : c ∈ bitsOf x) (hz : IsStay xss (bitsOf x) c z) (hq : ¬ ∀ b, y.testBit b = true → x.testBit b = true) : Yes w #[v0, v1, v2, .int .i64 c] := by
  have HV := hide hv
  have HA := hide hA
  have HI := hide hi
  have HJ := hide hj
  have HCX := hide hx
  have HCY := hide hy
  have HN := hide hN
  have HPX := hide (inc_bits hx.low)
  have HPY := hide (inc_bits hy.low)
  have HDX := hide (bits_closed hN hx.low hx.closed)
  have HLX := hide (inc_lt HPX.out)
  have LS := hide (lb hi hN)
  have LX := hide (lb HPX.out hN)
  have LY := hide (lb HPY.out hN)
  have ESX : Hid (minus (ints xs) (ints (bitsOf x)) = []) := hide (minus_nil fun v hv => by
    obtain ⟨n, hn, rfl⟩ := of_ints hv
    exact mem_ints.2 (in_bits hN hx.low (hx.has n hn)))
  obtain ⟨m1, em1, hm1⟩ : ∃ m, (minus (ints xs) (ints (bitsOf y))).length = m ∧ 0 < m := by
    obtain ⟨n, hn⟩ := Classical.not_forall.1 hp
    obtain ⟨hn1, hn2⟩ := Classical.not_imp.1 hn
    exact ⟨_, rfl, minus_some (mem_ints.2 hn1) fun q => hn2 (mem_bits.1 (mem_ints.1 q)).2⟩
  have EM1 := hide em1
  have a1 : ((m1 : Int) == 0) = false := by
    rw [beq_eq_false_iff_ne]
    omega
  have a2 : ¬ (m1 : Int) = 0 := by omega
  have a3 : ¬ m1 = 0 := by omega
  clear em1
  have HCI : Hid ((c : Int) ∈ ints (bitsOf x)) := hide (mem_ints.2 hc)
  have HCB := hide hc
  have HCZ := hide hz
  have HPZ := hide (inc_bits hz.low)
  have HDZ := hide (bits_closed hN hz.low hz.closed)
  have HLZ := hide (inc_lt HPZ.out)
  have LZ := hide (lb HPZ.out hN)
  have EZX : Hid (minus (ints (bitsOf z)) (ints (bitsOf x)) = []) := hide (minus_nil fun v hv => by
    obtain ⟨n, hn, rfl⟩ := of_ints hv
    exact mem_ints.2 (hz.within n (mem_bits.1 hn).2))
  have HCNZ : Hid ((c : Int) ∉ ints (bitsOf z)) := hide fun q => hz.gone (mem_bits.1 (mem_ints.1 q)).2
  obtain ⟨m2, em2, hm2⟩ : ∃ m, (minus (ints (bitsOf y)) (ints (bitsOf x))).length = m ∧ 0 < m := by
    obtain ⟨n, hn⟩ := Classical.not_forall.1 hq
    obtain ⟨hn1, hn2⟩ := Classical.not_imp.1 hn
    exact ⟨_, rfl, minus_some (mem_ints.2 (in_bits hN hy.low hn1)) fun q => hn2 (mem_bits.1 (mem_ints.1 q)).2⟩
  have EM2 := hide em2
  have b1 : ((m2 : Int) == 0) = false := by
    rw [beq_eq_false_iff_ne]
    omega
  have b2 : ¬ (m2 : Int) = 0 := by omega
  have b3 : ¬ m2 = 0 := by omega
  clear em2
  have HH0 := hide h
  have HS0 := hide hs
  have HT0 := hide ht
  have HB0 := hide (Below.refl w.heap.size w)
  obtain ⟨oa, cap, rfl, _, _⟩ := h
  obtain ⟨oa1, cap1, rfl, _, _⟩ := cells_at hs
  obtain ⟨oa2, cap2, rfl, _, _⟩ := cells_at ht
  have hlen : (xss.map ints).length = xss.length := by simp
  have HN2 : Hid ((xss.map ints).length ≤ 20) := hide (by rw [hlen]; exact hN)
  rw [hlen] at HH0 ⊢
  have h1 : (xss.length : Int) ≤ 20 := by omega
  clear hlen hA hv hs hi ht hj hx hy hp hc hz hq
  go_enter Try.func5, Try.ntmps5
  go_wp2_with (first
    | (go_at_call 17
       (with_reducible refine (checkRef (needs_w HH0.out) HN2.out).mono ?_)
       rintro e w1 ⟨⟨r, rfl, hr0, _⟩, n1, hw⟩
       have hr3 : r = 0 := hr0.2 HV.out
       subst hr3
       have hb : Below w.heap.size w w1 := by rw [hw]; exact belowN _ _ _
       clear hr0 hw
       have HB1 := hide (HB0.out.trans (hb.mono HB0.out.size))
       have HH1 := hide (needs_below HH0.out hb)
       have HS1 := hide (ints_below HS0.out hb)
       have HT1 := hide (ints_below HT0.out hb)
       clear hb)
    | (go_at_call 18
       (with_reducible refine (setProg (ints_w HS1.out)).mono ?_)
       rintro e w2 hT
       obtain ⟨rfl, n2, hw⟩ := tells_yes hT HI.out
       have hb : Below w1.heap.size w1 w2 := by rw [hw]; exact belowN _ _ _
       clear hT hw
       have HB2 := hide (HB1.out.trans (hb.mono HB1.out.size))
       have HH2 := hide (needs_below HH1.out hb)
       have HS2 := hide (ints_below HS1.out hb)
       have HT2 := hide (ints_below HT1.out hb)
       clear hb)
    | (go_at_call 18
       (with_reducible refine (setProg (ints_w HT2.out)).mono ?_)
       rintro e w3 hT
       obtain ⟨rfl, n3, hw⟩ := tells_yes hT HJ.out
       have hb : Below w2.heap.size w2 w3 := by rw [hw]; exact belowN _ _ _
       clear hT hw
       have HB3 := hide (HB2.out.trans (hb.mono HB2.out.size))
       have HH3 := hide (needs_below HH2.out hb)
       have HS3 := hide (ints_below HS2.out hb)
       have HT3 := hide (ints_below HT2.out hb)
       clear hb)
    | (go_at_call 19
       (with_reducible refine (closeProg HH3.out hN HV.out HS3.out HI.out).mono ?_)
       rintro e w4 ⟨xq, uq, rfl, hb, hcq, hoq⟩
       rw [close_unique hcq HCX.out] at hoq
       have HA4 := hide (own_ints hoq)
       obtain ⟨oq, cq, rfl⟩ := hoq.form
       clear hcq hoq
       have HB4 := hide (HB3.out.trans (hb.mono HB3.out.size))
       have HH4 := hide (needs_below HH3.out hb)
       have HS4 := hide (ints_below HS3.out hb)
       have HT4 := hide (ints_below HT3.out hb)
       clear hb)
    | (go_at_call 18
       (with_reducible refine (setProg (ints_w HA4.out)).mono ?_)
       rintro e w5 hT
       obtain ⟨rfl, n5, hw⟩ := tells_yes hT HPX.out
       have hb : Below w4.heap.size w4 w5 := by rw [hw]; exact belowN _ _ _
       clear hT hw
       have HB5 := hide (HB4.out.trans (hb.mono HB4.out.size))
       have HH5 := hide (needs_below HH4.out hb)
       have HS5 := hide (ints_below HS4.out hb)
       have HT5 := hide (ints_below HT4.out hb)
       have HA5 := hide (ints_below HA4.out hb)
       clear hb)
    | (go_at_call 20
       (with_reducible refine (closedRef HH5.out hN HV.out HA5.out HLX.out HDX.out).mono ?_)
       rintro e w6 ⟨rfl, hb⟩
       have HB6 := hide (HB5.out.trans (hb.mono HB5.out.size))
       have HH6 := hide (needs_below HH5.out hb)
       have HS6 := hide (ints_below HS5.out hb)
       have HT6 := hide (ints_below HT5.out hb)
       have HA6 := hide (ints_below HA5.out hb)
       clear hb)
    | (go_at_call 21
       (with_reducible refine (minusProg HS6.out HA6.out LS.out).mono ?_)
       rw [ESX.out]
       rintro e w7 ⟨oq, cq, rfl, hb⟩
       have HB7 := hide (HB6.out.trans (hb.mono HB6.out.size))
       have HH7 := hide (needs_below HH6.out hb)
       have HS7 := hide (ints_below HS6.out hb)
       have HT7 := hide (ints_below HT6.out hb)
       have HA7 := hide (ints_below HA6.out hb)
       clear hb)
    | (go_at_call 19
       (with_reducible refine (closeProg HH7.out hN HV.out HT7.out HJ.out).mono ?_)
       rintro e w8 ⟨xq, uq, rfl, hb, hcq, hoq⟩
       rw [close_unique hcq HCY.out] at hoq
       have HW8 := hide (own_ints hoq)
       obtain ⟨oq, cq, rfl⟩ := hoq.form
       clear hcq hoq
       have HB8 := hide (HB7.out.trans (hb.mono HB7.out.size))
       have HH8 := hide (needs_below HH7.out hb)
       have HS8 := hide (ints_below HS7.out hb)
       have HT8 := hide (ints_below HT7.out hb)
       have HA8 := hide (ints_below HA7.out hb)
       clear hb)
    | (go_at_call 21
       (with_reducible refine (minusProg HS8.out HW8.out LS.out).mono ?_)
       rw [EM1.out]
       rintro e w9 ⟨oq, cq, rfl, hb⟩
       have HB9 := hide (HB8.out.trans (hb.mono HB8.out.size))
       have HH9 := hide (needs_below HH8.out hb)
       have HS9 := hide (ints_below HS8.out hb)
       have HT9 := hide (ints_below HT8.out hb)
       have HA9 := hide (ints_below HA8.out hb)
       have HW9 := hide (ints_below HW8.out hb)
       clear hb)
    | (go_at_call 22
       (with_reducible refine (withoutSome HH9.out hN HV.out HA9.out HPX.out HDX.out HCB.out).mono ?_)
       rintro e w10 ⟨zq, uq, rfl, hb, hcq, hoq⟩
       rw [stay_unique hcq HCZ.out] at hoq
       have HZ10 := hide (own_ints hoq)
       obtain ⟨oq, cq, rfl⟩ := hoq.form
       clear hcq hoq
       have HB10 := hide (HB9.out.trans (hb.mono HB9.out.size))
       have HH10 := hide (needs_below HH9.out hb)
       have HS10 := hide (ints_below HS9.out hb)
       have HT10 := hide (ints_below HT9.out hb)
       have HA10 := hide (ints_below HA9.out hb)
       have HW10 := hide (ints_below HW9.out hb)
       clear hb)
    | (go_at_call 23
       (with_reducible refine (hasProg HA10.out).mono ?_)
       rintro e w11 hT
       obtain ⟨rfl, n11, hw⟩ := tells_yes hT HCI.out
       have hb : Below w10.heap.size w10 w11 := by rw [hw]; exact belowN _ _ _
       clear hT hw
       have HB11 := hide (HB10.out.trans (hb.mono HB10.out.size))
       have HH11 := hide (needs_below HH10.out hb)
       have HS11 := hide (ints_below HS10.out hb)
       have HT11 := hide (ints_below HT10.out hb)
       have HA11 := hide (ints_below HA10.out hb)
       have HW11 := hide (ints_below HW10.out hb)
       have HZ11 := hide (ints_below HZ10.out hb)
       clear hb)
    | (go_at_call 18
       (with_reducible refine (setProg (ints_w HZ11.out)).mono ?_)
       rintro e w12 hT
       obtain ⟨rfl, n12, hw⟩ := tells_yes hT HPZ.out
       have hb : Below w11.heap.size w11 w12 := by rw [hw]; exact belowN _ _ _
       clear hT hw
       have HB12 := hide (HB11.out.trans (hb.mono HB11.out.size))
       have HH12 := hide (needs_below HH11.out hb)
       have HS12 := hide (ints_below HS11.out hb)
       have HT12 := hide (ints_below HT11.out hb)
       have HA12 := hide (ints_below HA11.out hb)
       have HW12 := hide (ints_below HW11.out hb)
       have HZ12 := hide (ints_below HZ11.out hb)
       clear hb)
    | (go_at_call 20
       (with_reducible refine (closedRef HH12.out hN HV.out HZ12.out HLZ.out HDZ.out).mono ?_)
       rintro e w13 ⟨rfl, hb⟩
       have HB13 := hide (HB12.out.trans (hb.mono HB12.out.size))
       have HH13 := hide (needs_below HH12.out hb)
       have HS13 := hide (ints_below HS12.out hb)
       have HT13 := hide (ints_below HT12.out hb)
       have HA13 := hide (ints_below HA12.out hb)
       have HW13 := hide (ints_below HW12.out hb)
       have HZ13 := hide (ints_below HZ12.out hb)
       clear hb)
    | (go_at_call 21
       (with_reducible refine (minusProg HZ13.out HA13.out LZ.out).mono ?_)
       rw [EZX.out]
       rintro e w14 ⟨oq, cq, rfl, hb⟩
       have HB14 := hide (HB13.out.trans (hb.mono HB13.out.size))
       have HH14 := hide (needs_below HH13.out hb)
       have HS14 := hide (ints_below HS13.out hb)
       have HT14 := hide (ints_below HT13.out hb)
       have HA14 := hide (ints_below HA13.out hb)
       have HW14 := hide (ints_below HW13.out hb)
       have HZ14 := hide (ints_below HZ13.out hb)
       clear hb)
    | (go_at_call 23
       (with_reducible refine (hasProg HZ14.out).mono ?_)
       rintro e w15 hT
       obtain ⟨rfl, n15, hw⟩ := tells_no hT HCNZ.out
       have hb : Below w14.heap.size w14 w15 := by rw [hw]; exact belowN _ _ _
       clear hT hw
       have HB15 := hide (HB14.out.trans (hb.mono HB14.out.size))
       have HH15 := hide (needs_below HH14.out hb)
       have HS15 := hide (ints_below HS14.out hb)
       have HT15 := hide (ints_below HT14.out hb)
       have HA15 := hide (ints_below HA14.out hb)
       have HW15 := hide (ints_below HW14.out hb)
       have HZ15 := hide (ints_below HZ14.out hb)
       clear hb)
    | (go_at_call 21
       (with_reducible refine (minusProg HW15.out HA15.out LY.out).mono ?_)
       rw [EM2.out]
       rintro e w16 ⟨oq, cq, rfl, hb⟩
       have HB16 := hide (HB15.out.trans (hb.mono HB15.out.size))
       have HH16 := hide (needs_below HH15.out hb)
       have HS16 := hide (ints_below HS15.out hb)
       have HT16 := hide (ints_below HT15.out hb)
       have HA16 := hide (ints_below HA15.out hb)
       have HW16 := hide (ints_below HW15.out hb)
       have HZ16 := hide (ints_below HZ15.out hb)
       clear hb)
    | (go_at_call 10
       (with_reducible refine (runsAt HA.out _).mono ?_)
       rintro e w17 ⟨rfl, hb⟩
       have HB17 := hide (HB16.out.trans (hb.mono HB16.out.size))
       clear hb)
    | fail)
  go_ret
  exact ⟨rfl, HB17.out⟩

set_option maxHeartbeats 16000000 in
theorem law_n_q2t {w : World} {v0 v1 v2 : Value} {xss : List (List Nat)} {xs ys : List Nat} {x y z c : Nat} (h : NeedsAt w v0 (xss.map ints)) (hN : xss.length ≤ 20) (hv : Valid (xss.map ints)) (hs : Ints w v1 (ints xs)) (hi : Inc (ints xs) xss.length) (ht : Ints w v2 (ints ys)) (hj : Inc (ints ys) xss.length) (hA : Runs)
    (hx : IsClose xss xs x) (hy : IsClose xss ys y) (hp : ¬ ∀ n ∈ xs, y.testBit n = true) (hc : c ∈ bitsOf x) (hz : IsStay xss (bitsOf x) c z) (hq : ∀ b, y.testBit b = true → x.testBit b = true) (hr : y.testBit c = true) : Yes w #[v0, v1, v2, .int .i64 c] := by
  have HV := hide hv
  have HA := hide hA
  have HI := hide hi
  have HJ := hide hj
  have HCX := hide hx
  have HCY := hide hy
  have HN := hide hN
  have HPX := hide (inc_bits hx.low)
  have HPY := hide (inc_bits hy.low)
  have HDX := hide (bits_closed hN hx.low hx.closed)
  have HLX := hide (inc_lt HPX.out)
  have LS := hide (lb hi hN)
  have LX := hide (lb HPX.out hN)
  have LY := hide (lb HPY.out hN)
  have ESX : Hid (minus (ints xs) (ints (bitsOf x)) = []) := hide (minus_nil fun v hv => by
    obtain ⟨n, hn, rfl⟩ := of_ints hv
    exact mem_ints.2 (in_bits hN hx.low (hx.has n hn)))
  obtain ⟨m1, em1, hm1⟩ : ∃ m, (minus (ints xs) (ints (bitsOf y))).length = m ∧ 0 < m := by
    obtain ⟨n, hn⟩ := Classical.not_forall.1 hp
    obtain ⟨hn1, hn2⟩ := Classical.not_imp.1 hn
    exact ⟨_, rfl, minus_some (mem_ints.2 hn1) fun q => hn2 (mem_bits.1 (mem_ints.1 q)).2⟩
  have EM1 := hide em1
  have a1 : ((m1 : Int) == 0) = false := by
    rw [beq_eq_false_iff_ne]
    omega
  have a2 : ¬ (m1 : Int) = 0 := by omega
  have a3 : ¬ m1 = 0 := by omega
  clear em1
  have HCI : Hid ((c : Int) ∈ ints (bitsOf x)) := hide (mem_ints.2 hc)
  have HCB := hide hc
  have HCZ := hide hz
  have HPZ := hide (inc_bits hz.low)
  have HDZ := hide (bits_closed hN hz.low hz.closed)
  have HLZ := hide (inc_lt HPZ.out)
  have LZ := hide (lb HPZ.out hN)
  have EZX : Hid (minus (ints (bitsOf z)) (ints (bitsOf x)) = []) := hide (minus_nil fun v hv => by
    obtain ⟨n, hn, rfl⟩ := of_ints hv
    exact mem_ints.2 (hz.within n (mem_bits.1 hn).2))
  have HCNZ : Hid ((c : Int) ∉ ints (bitsOf z)) := hide fun q => hz.gone (mem_bits.1 (mem_ints.1 q)).2
  have EYX : Hid (minus (ints (bitsOf y)) (ints (bitsOf x)) = []) := hide (minus_nil fun v hv => by
    obtain ⟨n, hn, rfl⟩ := of_ints hv
    exact mem_ints.2 (in_bits hN hx.low (hq n (mem_bits.1 hn).2)))
  have HCY2 : Hid ((c : Int) ∈ ints (bitsOf y)) := hide (mem_ints.2 (in_bits hN hy.low hr))
  have HH0 := hide h
  have HS0 := hide hs
  have HT0 := hide ht
  have HB0 := hide (Below.refl w.heap.size w)
  obtain ⟨oa, cap, rfl, _, _⟩ := h
  obtain ⟨oa1, cap1, rfl, _, _⟩ := cells_at hs
  obtain ⟨oa2, cap2, rfl, _, _⟩ := cells_at ht
  have hlen : (xss.map ints).length = xss.length := by simp
  have HN2 : Hid ((xss.map ints).length ≤ 20) := hide (by rw [hlen]; exact hN)
  rw [hlen] at HH0 ⊢
  have h1 : (xss.length : Int) ≤ 20 := by omega
  clear hlen hA hv hs hi ht hj hx hy hp hc hz hq hr
  go_enter Try.func5, Try.ntmps5
  go_wp2_with (first
    | (go_at_call 17
       (with_reducible refine (checkRef (needs_w HH0.out) HN2.out).mono ?_)
       rintro e w1 ⟨⟨r, rfl, hr0, _⟩, n1, hw⟩
       have hr3 : r = 0 := hr0.2 HV.out
       subst hr3
       have hb : Below w.heap.size w w1 := by rw [hw]; exact belowN _ _ _
       clear hr0 hw
       have HB1 := hide (HB0.out.trans (hb.mono HB0.out.size))
       have HH1 := hide (needs_below HH0.out hb)
       have HS1 := hide (ints_below HS0.out hb)
       have HT1 := hide (ints_below HT0.out hb)
       clear hb)
    | (go_at_call 18
       (with_reducible refine (setProg (ints_w HS1.out)).mono ?_)
       rintro e w2 hT
       obtain ⟨rfl, n2, hw⟩ := tells_yes hT HI.out
       have hb : Below w1.heap.size w1 w2 := by rw [hw]; exact belowN _ _ _
       clear hT hw
       have HB2 := hide (HB1.out.trans (hb.mono HB1.out.size))
       have HH2 := hide (needs_below HH1.out hb)
       have HS2 := hide (ints_below HS1.out hb)
       have HT2 := hide (ints_below HT1.out hb)
       clear hb)
    | (go_at_call 18
       (with_reducible refine (setProg (ints_w HT2.out)).mono ?_)
       rintro e w3 hT
       obtain ⟨rfl, n3, hw⟩ := tells_yes hT HJ.out
       have hb : Below w2.heap.size w2 w3 := by rw [hw]; exact belowN _ _ _
       clear hT hw
       have HB3 := hide (HB2.out.trans (hb.mono HB2.out.size))
       have HH3 := hide (needs_below HH2.out hb)
       have HS3 := hide (ints_below HS2.out hb)
       have HT3 := hide (ints_below HT2.out hb)
       clear hb)
    | (go_at_call 19
       (with_reducible refine (closeProg HH3.out hN HV.out HS3.out HI.out).mono ?_)
       rintro e w4 ⟨xq, uq, rfl, hb, hcq, hoq⟩
       rw [close_unique hcq HCX.out] at hoq
       have HA4 := hide (own_ints hoq)
       obtain ⟨oq, cq, rfl⟩ := hoq.form
       clear hcq hoq
       have HB4 := hide (HB3.out.trans (hb.mono HB3.out.size))
       have HH4 := hide (needs_below HH3.out hb)
       have HS4 := hide (ints_below HS3.out hb)
       have HT4 := hide (ints_below HT3.out hb)
       clear hb)
    | (go_at_call 18
       (with_reducible refine (setProg (ints_w HA4.out)).mono ?_)
       rintro e w5 hT
       obtain ⟨rfl, n5, hw⟩ := tells_yes hT HPX.out
       have hb : Below w4.heap.size w4 w5 := by rw [hw]; exact belowN _ _ _
       clear hT hw
       have HB5 := hide (HB4.out.trans (hb.mono HB4.out.size))
       have HH5 := hide (needs_below HH4.out hb)
       have HS5 := hide (ints_below HS4.out hb)
       have HT5 := hide (ints_below HT4.out hb)
       have HA5 := hide (ints_below HA4.out hb)
       clear hb)
    | (go_at_call 20
       (with_reducible refine (closedRef HH5.out hN HV.out HA5.out HLX.out HDX.out).mono ?_)
       rintro e w6 ⟨rfl, hb⟩
       have HB6 := hide (HB5.out.trans (hb.mono HB5.out.size))
       have HH6 := hide (needs_below HH5.out hb)
       have HS6 := hide (ints_below HS5.out hb)
       have HT6 := hide (ints_below HT5.out hb)
       have HA6 := hide (ints_below HA5.out hb)
       clear hb)
    | (go_at_call 21
       (with_reducible refine (minusProg HS6.out HA6.out LS.out).mono ?_)
       rw [ESX.out]
       rintro e w7 ⟨oq, cq, rfl, hb⟩
       have HB7 := hide (HB6.out.trans (hb.mono HB6.out.size))
       have HH7 := hide (needs_below HH6.out hb)
       have HS7 := hide (ints_below HS6.out hb)
       have HT7 := hide (ints_below HT6.out hb)
       have HA7 := hide (ints_below HA6.out hb)
       clear hb)
    | (go_at_call 19
       (with_reducible refine (closeProg HH7.out hN HV.out HT7.out HJ.out).mono ?_)
       rintro e w8 ⟨xq, uq, rfl, hb, hcq, hoq⟩
       rw [close_unique hcq HCY.out] at hoq
       have HW8 := hide (own_ints hoq)
       obtain ⟨oq, cq, rfl⟩ := hoq.form
       clear hcq hoq
       have HB8 := hide (HB7.out.trans (hb.mono HB7.out.size))
       have HH8 := hide (needs_below HH7.out hb)
       have HS8 := hide (ints_below HS7.out hb)
       have HT8 := hide (ints_below HT7.out hb)
       have HA8 := hide (ints_below HA7.out hb)
       clear hb)
    | (go_at_call 21
       (with_reducible refine (minusProg HS8.out HW8.out LS.out).mono ?_)
       rw [EM1.out]
       rintro e w9 ⟨oq, cq, rfl, hb⟩
       have HB9 := hide (HB8.out.trans (hb.mono HB8.out.size))
       have HH9 := hide (needs_below HH8.out hb)
       have HS9 := hide (ints_below HS8.out hb)
       have HT9 := hide (ints_below HT8.out hb)
       have HA9 := hide (ints_below HA8.out hb)
       have HW9 := hide (ints_below HW8.out hb)
       clear hb)
    | (go_at_call 22
       (with_reducible refine (withoutSome HH9.out hN HV.out HA9.out HPX.out HDX.out HCB.out).mono ?_)
       rintro e w10 ⟨zq, uq, rfl, hb, hcq, hoq⟩
       rw [stay_unique hcq HCZ.out] at hoq
       have HZ10 := hide (own_ints hoq)
       obtain ⟨oq, cq, rfl⟩ := hoq.form
       clear hcq hoq
       have HB10 := hide (HB9.out.trans (hb.mono HB9.out.size))
       have HH10 := hide (needs_below HH9.out hb)
       have HS10 := hide (ints_below HS9.out hb)
       have HT10 := hide (ints_below HT9.out hb)
       have HA10 := hide (ints_below HA9.out hb)
       have HW10 := hide (ints_below HW9.out hb)
       clear hb)
    | (go_at_call 23
       (with_reducible refine (hasProg HA10.out).mono ?_)
       rintro e w11 hT
       obtain ⟨rfl, n11, hw⟩ := tells_yes hT HCI.out
       have hb : Below w10.heap.size w10 w11 := by rw [hw]; exact belowN _ _ _
       clear hT hw
       have HB11 := hide (HB10.out.trans (hb.mono HB10.out.size))
       have HH11 := hide (needs_below HH10.out hb)
       have HS11 := hide (ints_below HS10.out hb)
       have HT11 := hide (ints_below HT10.out hb)
       have HA11 := hide (ints_below HA10.out hb)
       have HW11 := hide (ints_below HW10.out hb)
       have HZ11 := hide (ints_below HZ10.out hb)
       clear hb)
    | (go_at_call 18
       (with_reducible refine (setProg (ints_w HZ11.out)).mono ?_)
       rintro e w12 hT
       obtain ⟨rfl, n12, hw⟩ := tells_yes hT HPZ.out
       have hb : Below w11.heap.size w11 w12 := by rw [hw]; exact belowN _ _ _
       clear hT hw
       have HB12 := hide (HB11.out.trans (hb.mono HB11.out.size))
       have HH12 := hide (needs_below HH11.out hb)
       have HS12 := hide (ints_below HS11.out hb)
       have HT12 := hide (ints_below HT11.out hb)
       have HA12 := hide (ints_below HA11.out hb)
       have HW12 := hide (ints_below HW11.out hb)
       have HZ12 := hide (ints_below HZ11.out hb)
       clear hb)
    | (go_at_call 20
       (with_reducible refine (closedRef HH12.out hN HV.out HZ12.out HLZ.out HDZ.out).mono ?_)
       rintro e w13 ⟨rfl, hb⟩
       have HB13 := hide (HB12.out.trans (hb.mono HB12.out.size))
       have HH13 := hide (needs_below HH12.out hb)
       have HS13 := hide (ints_below HS12.out hb)
       have HT13 := hide (ints_below HT12.out hb)
       have HA13 := hide (ints_below HA12.out hb)
       have HW13 := hide (ints_below HW12.out hb)
       have HZ13 := hide (ints_below HZ12.out hb)
       clear hb)
    | (go_at_call 21
       (with_reducible refine (minusProg HZ13.out HA13.out LZ.out).mono ?_)
       rw [EZX.out]
       rintro e w14 ⟨oq, cq, rfl, hb⟩
       have HB14 := hide (HB13.out.trans (hb.mono HB13.out.size))
       have HH14 := hide (needs_below HH13.out hb)
       have HS14 := hide (ints_below HS13.out hb)
       have HT14 := hide (ints_below HT13.out hb)
       have HA14 := hide (ints_below HA13.out hb)
       have HW14 := hide (ints_below HW13.out hb)
       have HZ14 := hide (ints_below HZ13.out hb)
       clear hb)
    | (go_at_call 23
       (with_reducible refine (hasProg HZ14.out).mono ?_)
       rintro e w15 hT
       obtain ⟨rfl, n15, hw⟩ := tells_no hT HCNZ.out
       have hb : Below w14.heap.size w14 w15 := by rw [hw]; exact belowN _ _ _
       clear hT hw
       have HB15 := hide (HB14.out.trans (hb.mono HB14.out.size))
       have HH15 := hide (needs_below HH14.out hb)
       have HS15 := hide (ints_below HS14.out hb)
       have HT15 := hide (ints_below HT14.out hb)
       have HA15 := hide (ints_below HA14.out hb)
       have HW15 := hide (ints_below HW14.out hb)
       have HZ15 := hide (ints_below HZ14.out hb)
       clear hb)
    | (go_at_call 21
       (with_reducible refine (minusProg HW15.out HA15.out LY.out).mono ?_)
       rw [EYX.out]
       rintro e w16 ⟨oq, cq, rfl, hb⟩
       have HB16 := hide (HB15.out.trans (hb.mono HB15.out.size))
       have HH16 := hide (needs_below HH15.out hb)
       have HS16 := hide (ints_below HS15.out hb)
       have HT16 := hide (ints_below HT15.out hb)
       have HA16 := hide (ints_below HA15.out hb)
       have HW16 := hide (ints_below HW15.out hb)
       have HZ16 := hide (ints_below HZ15.out hb)
       clear hb)
    | (go_at_call 23
       (with_reducible refine (hasProg HW16.out).mono ?_)
       rintro e w17 hT
       obtain ⟨rfl, n17, hw⟩ := tells_yes hT HCY2.out
       have hb : Below w16.heap.size w16 w17 := by rw [hw]; exact belowN _ _ _
       clear hT hw
       have HB17 := hide (HB16.out.trans (hb.mono HB16.out.size))
       have HH17 := hide (needs_below HH16.out hb)
       have HS17 := hide (ints_below HS16.out hb)
       have HT17 := hide (ints_below HT16.out hb)
       have HA17 := hide (ints_below HA16.out hb)
       have HW17 := hide (ints_below HW16.out hb)
       have HZ17 := hide (ints_below HZ16.out hb)
       clear hb)
    | (go_at_call 10
       (with_reducible refine (runsAt HA.out _).mono ?_)
       rintro e w18 ⟨rfl, hb⟩
       have HB18 := hide (HB17.out.trans (hb.mono HB17.out.size))
       clear hb)
    | fail)
  go_ret
  exact ⟨rfl, HB18.out⟩

set_option maxHeartbeats 16000000 in
theorem law_n_q2f {w : World} {v0 v1 v2 : Value} {xss : List (List Nat)} {xs ys : List Nat} {x y z c : Nat} (h : NeedsAt w v0 (xss.map ints)) (hN : xss.length ≤ 20) (hv : Valid (xss.map ints)) (hs : Ints w v1 (ints xs)) (hi : Inc (ints xs) xss.length) (ht : Ints w v2 (ints ys)) (hj : Inc (ints ys) xss.length) (hA : Runs)
    (hx : IsClose xss xs x) (hy : IsClose xss ys y) (hp : ¬ ∀ n ∈ xs, y.testBit n = true) (hc : c ∈ bitsOf x) (hz : IsStay xss (bitsOf x) c z) (hq : ∀ b, y.testBit b = true → x.testBit b = true) (hr : ¬ y.testBit c = true) : Yes w #[v0, v1, v2, .int .i64 c] := by
  have HV := hide hv
  have HA := hide hA
  have HI := hide hi
  have HJ := hide hj
  have HCX := hide hx
  have HCY := hide hy
  have HN := hide hN
  have HPX := hide (inc_bits hx.low)
  have HPY := hide (inc_bits hy.low)
  have HDX := hide (bits_closed hN hx.low hx.closed)
  have HLX := hide (inc_lt HPX.out)
  have LS := hide (lb hi hN)
  have LX := hide (lb HPX.out hN)
  have LY := hide (lb HPY.out hN)
  have ESX : Hid (minus (ints xs) (ints (bitsOf x)) = []) := hide (minus_nil fun v hv => by
    obtain ⟨n, hn, rfl⟩ := of_ints hv
    exact mem_ints.2 (in_bits hN hx.low (hx.has n hn)))
  obtain ⟨m1, em1, hm1⟩ : ∃ m, (minus (ints xs) (ints (bitsOf y))).length = m ∧ 0 < m := by
    obtain ⟨n, hn⟩ := Classical.not_forall.1 hp
    obtain ⟨hn1, hn2⟩ := Classical.not_imp.1 hn
    exact ⟨_, rfl, minus_some (mem_ints.2 hn1) fun q => hn2 (mem_bits.1 (mem_ints.1 q)).2⟩
  have EM1 := hide em1
  have a1 : ((m1 : Int) == 0) = false := by
    rw [beq_eq_false_iff_ne]
    omega
  have a2 : ¬ (m1 : Int) = 0 := by omega
  have a3 : ¬ m1 = 0 := by omega
  clear em1
  have HCI : Hid ((c : Int) ∈ ints (bitsOf x)) := hide (mem_ints.2 hc)
  have HCB := hide hc
  have HCZ := hide hz
  have HPZ := hide (inc_bits hz.low)
  have HDZ := hide (bits_closed hN hz.low hz.closed)
  have HLZ := hide (inc_lt HPZ.out)
  have LZ := hide (lb HPZ.out hN)
  have EZX : Hid (minus (ints (bitsOf z)) (ints (bitsOf x)) = []) := hide (minus_nil fun v hv => by
    obtain ⟨n, hn, rfl⟩ := of_ints hv
    exact mem_ints.2 (hz.within n (mem_bits.1 hn).2))
  have HCNZ : Hid ((c : Int) ∉ ints (bitsOf z)) := hide fun q => hz.gone (mem_bits.1 (mem_ints.1 q)).2
  have EYX : Hid (minus (ints (bitsOf y)) (ints (bitsOf x)) = []) := hide (minus_nil fun v hv => by
    obtain ⟨n, hn, rfl⟩ := of_ints hv
    exact mem_ints.2 (in_bits hN hx.low (hq n (mem_bits.1 hn).2)))
  have HCY2 : Hid ((c : Int) ∉ ints (bitsOf y)) := hide fun q => hr (mem_bits.1 (mem_ints.1 q)).2
  have EYZ : Hid (minus (ints (bitsOf y)) (ints (bitsOf z)) = []) := hide (minus_nil fun v hv => by
    obtain ⟨n, hn, rfl⟩ := of_ints hv
    exact mem_ints.2 (in_bits hN hz.low (hz.most (fun b => y.testBit b = true) (fun a b _ => hy.closed a b) (fun b hb => in_bits hN hx.low (hq b hb)) hr n (mem_bits.1 hn).2)))
  have HH0 := hide h
  have HS0 := hide hs
  have HT0 := hide ht
  have HB0 := hide (Below.refl w.heap.size w)
  obtain ⟨oa, cap, rfl, _, _⟩ := h
  obtain ⟨oa1, cap1, rfl, _, _⟩ := cells_at hs
  obtain ⟨oa2, cap2, rfl, _, _⟩ := cells_at ht
  have hlen : (xss.map ints).length = xss.length := by simp
  have HN2 : Hid ((xss.map ints).length ≤ 20) := hide (by rw [hlen]; exact hN)
  rw [hlen] at HH0 ⊢
  have h1 : (xss.length : Int) ≤ 20 := by omega
  clear hlen hA hv hs hi ht hj hx hy hp hc hz hq hr
  go_enter Try.func5, Try.ntmps5
  go_wp2_with (first
    | (go_at_call 17
       (with_reducible refine (checkRef (needs_w HH0.out) HN2.out).mono ?_)
       rintro e w1 ⟨⟨r, rfl, hr0, _⟩, n1, hw⟩
       have hr3 : r = 0 := hr0.2 HV.out
       subst hr3
       have hb : Below w.heap.size w w1 := by rw [hw]; exact belowN _ _ _
       clear hr0 hw
       have HB1 := hide (HB0.out.trans (hb.mono HB0.out.size))
       have HH1 := hide (needs_below HH0.out hb)
       have HS1 := hide (ints_below HS0.out hb)
       have HT1 := hide (ints_below HT0.out hb)
       clear hb)
    | (go_at_call 18
       (with_reducible refine (setProg (ints_w HS1.out)).mono ?_)
       rintro e w2 hT
       obtain ⟨rfl, n2, hw⟩ := tells_yes hT HI.out
       have hb : Below w1.heap.size w1 w2 := by rw [hw]; exact belowN _ _ _
       clear hT hw
       have HB2 := hide (HB1.out.trans (hb.mono HB1.out.size))
       have HH2 := hide (needs_below HH1.out hb)
       have HS2 := hide (ints_below HS1.out hb)
       have HT2 := hide (ints_below HT1.out hb)
       clear hb)
    | (go_at_call 18
       (with_reducible refine (setProg (ints_w HT2.out)).mono ?_)
       rintro e w3 hT
       obtain ⟨rfl, n3, hw⟩ := tells_yes hT HJ.out
       have hb : Below w2.heap.size w2 w3 := by rw [hw]; exact belowN _ _ _
       clear hT hw
       have HB3 := hide (HB2.out.trans (hb.mono HB2.out.size))
       have HH3 := hide (needs_below HH2.out hb)
       have HS3 := hide (ints_below HS2.out hb)
       have HT3 := hide (ints_below HT2.out hb)
       clear hb)
    | (go_at_call 19
       (with_reducible refine (closeProg HH3.out hN HV.out HS3.out HI.out).mono ?_)
       rintro e w4 ⟨xq, uq, rfl, hb, hcq, hoq⟩
       rw [close_unique hcq HCX.out] at hoq
       have HA4 := hide (own_ints hoq)
       obtain ⟨oq, cq, rfl⟩ := hoq.form
       clear hcq hoq
       have HB4 := hide (HB3.out.trans (hb.mono HB3.out.size))
       have HH4 := hide (needs_below HH3.out hb)
       have HS4 := hide (ints_below HS3.out hb)
       have HT4 := hide (ints_below HT3.out hb)
       clear hb)
    | (go_at_call 18
       (with_reducible refine (setProg (ints_w HA4.out)).mono ?_)
       rintro e w5 hT
       obtain ⟨rfl, n5, hw⟩ := tells_yes hT HPX.out
       have hb : Below w4.heap.size w4 w5 := by rw [hw]; exact belowN _ _ _
       clear hT hw
       have HB5 := hide (HB4.out.trans (hb.mono HB4.out.size))
       have HH5 := hide (needs_below HH4.out hb)
       have HS5 := hide (ints_below HS4.out hb)
       have HT5 := hide (ints_below HT4.out hb)
       have HA5 := hide (ints_below HA4.out hb)
       clear hb)
    | (go_at_call 20
       (with_reducible refine (closedRef HH5.out hN HV.out HA5.out HLX.out HDX.out).mono ?_)
       rintro e w6 ⟨rfl, hb⟩
       have HB6 := hide (HB5.out.trans (hb.mono HB5.out.size))
       have HH6 := hide (needs_below HH5.out hb)
       have HS6 := hide (ints_below HS5.out hb)
       have HT6 := hide (ints_below HT5.out hb)
       have HA6 := hide (ints_below HA5.out hb)
       clear hb)
    | (go_at_call 21
       (with_reducible refine (minusProg HS6.out HA6.out LS.out).mono ?_)
       rw [ESX.out]
       rintro e w7 ⟨oq, cq, rfl, hb⟩
       have HB7 := hide (HB6.out.trans (hb.mono HB6.out.size))
       have HH7 := hide (needs_below HH6.out hb)
       have HS7 := hide (ints_below HS6.out hb)
       have HT7 := hide (ints_below HT6.out hb)
       have HA7 := hide (ints_below HA6.out hb)
       clear hb)
    | (go_at_call 19
       (with_reducible refine (closeProg HH7.out hN HV.out HT7.out HJ.out).mono ?_)
       rintro e w8 ⟨xq, uq, rfl, hb, hcq, hoq⟩
       rw [close_unique hcq HCY.out] at hoq
       have HW8 := hide (own_ints hoq)
       obtain ⟨oq, cq, rfl⟩ := hoq.form
       clear hcq hoq
       have HB8 := hide (HB7.out.trans (hb.mono HB7.out.size))
       have HH8 := hide (needs_below HH7.out hb)
       have HS8 := hide (ints_below HS7.out hb)
       have HT8 := hide (ints_below HT7.out hb)
       have HA8 := hide (ints_below HA7.out hb)
       clear hb)
    | (go_at_call 21
       (with_reducible refine (minusProg HS8.out HW8.out LS.out).mono ?_)
       rw [EM1.out]
       rintro e w9 ⟨oq, cq, rfl, hb⟩
       have HB9 := hide (HB8.out.trans (hb.mono HB8.out.size))
       have HH9 := hide (needs_below HH8.out hb)
       have HS9 := hide (ints_below HS8.out hb)
       have HT9 := hide (ints_below HT8.out hb)
       have HA9 := hide (ints_below HA8.out hb)
       have HW9 := hide (ints_below HW8.out hb)
       clear hb)
    | (go_at_call 22
       (with_reducible refine (withoutSome HH9.out hN HV.out HA9.out HPX.out HDX.out HCB.out).mono ?_)
       rintro e w10 ⟨zq, uq, rfl, hb, hcq, hoq⟩
       rw [stay_unique hcq HCZ.out] at hoq
       have HZ10 := hide (own_ints hoq)
       obtain ⟨oq, cq, rfl⟩ := hoq.form
       clear hcq hoq
       have HB10 := hide (HB9.out.trans (hb.mono HB9.out.size))
       have HH10 := hide (needs_below HH9.out hb)
       have HS10 := hide (ints_below HS9.out hb)
       have HT10 := hide (ints_below HT9.out hb)
       have HA10 := hide (ints_below HA9.out hb)
       have HW10 := hide (ints_below HW9.out hb)
       clear hb)
    | (go_at_call 23
       (with_reducible refine (hasProg HA10.out).mono ?_)
       rintro e w11 hT
       obtain ⟨rfl, n11, hw⟩ := tells_yes hT HCI.out
       have hb : Below w10.heap.size w10 w11 := by rw [hw]; exact belowN _ _ _
       clear hT hw
       have HB11 := hide (HB10.out.trans (hb.mono HB10.out.size))
       have HH11 := hide (needs_below HH10.out hb)
       have HS11 := hide (ints_below HS10.out hb)
       have HT11 := hide (ints_below HT10.out hb)
       have HA11 := hide (ints_below HA10.out hb)
       have HW11 := hide (ints_below HW10.out hb)
       have HZ11 := hide (ints_below HZ10.out hb)
       clear hb)
    | (go_at_call 18
       (with_reducible refine (setProg (ints_w HZ11.out)).mono ?_)
       rintro e w12 hT
       obtain ⟨rfl, n12, hw⟩ := tells_yes hT HPZ.out
       have hb : Below w11.heap.size w11 w12 := by rw [hw]; exact belowN _ _ _
       clear hT hw
       have HB12 := hide (HB11.out.trans (hb.mono HB11.out.size))
       have HH12 := hide (needs_below HH11.out hb)
       have HS12 := hide (ints_below HS11.out hb)
       have HT12 := hide (ints_below HT11.out hb)
       have HA12 := hide (ints_below HA11.out hb)
       have HW12 := hide (ints_below HW11.out hb)
       have HZ12 := hide (ints_below HZ11.out hb)
       clear hb)
    | (go_at_call 20
       (with_reducible refine (closedRef HH12.out hN HV.out HZ12.out HLZ.out HDZ.out).mono ?_)
       rintro e w13 ⟨rfl, hb⟩
       have HB13 := hide (HB12.out.trans (hb.mono HB12.out.size))
       have HH13 := hide (needs_below HH12.out hb)
       have HS13 := hide (ints_below HS12.out hb)
       have HT13 := hide (ints_below HT12.out hb)
       have HA13 := hide (ints_below HA12.out hb)
       have HW13 := hide (ints_below HW12.out hb)
       have HZ13 := hide (ints_below HZ12.out hb)
       clear hb)
    | (go_at_call 21
       (with_reducible refine (minusProg HZ13.out HA13.out LZ.out).mono ?_)
       rw [EZX.out]
       rintro e w14 ⟨oq, cq, rfl, hb⟩
       have HB14 := hide (HB13.out.trans (hb.mono HB13.out.size))
       have HH14 := hide (needs_below HH13.out hb)
       have HS14 := hide (ints_below HS13.out hb)
       have HT14 := hide (ints_below HT13.out hb)
       have HA14 := hide (ints_below HA13.out hb)
       have HW14 := hide (ints_below HW13.out hb)
       have HZ14 := hide (ints_below HZ13.out hb)
       clear hb)
    | (go_at_call 23
       (with_reducible refine (hasProg HZ14.out).mono ?_)
       rintro e w15 hT
       obtain ⟨rfl, n15, hw⟩ := tells_no hT HCNZ.out
       have hb : Below w14.heap.size w14 w15 := by rw [hw]; exact belowN _ _ _
       clear hT hw
       have HB15 := hide (HB14.out.trans (hb.mono HB14.out.size))
       have HH15 := hide (needs_below HH14.out hb)
       have HS15 := hide (ints_below HS14.out hb)
       have HT15 := hide (ints_below HT14.out hb)
       have HA15 := hide (ints_below HA14.out hb)
       have HW15 := hide (ints_below HW14.out hb)
       have HZ15 := hide (ints_below HZ14.out hb)
       clear hb)
    | (go_at_call 21
       (with_reducible refine (minusProg HW15.out HA15.out LY.out).mono ?_)
       rw [EYX.out]
       rintro e w16 ⟨oq, cq, rfl, hb⟩
       have HB16 := hide (HB15.out.trans (hb.mono HB15.out.size))
       have HH16 := hide (needs_below HH15.out hb)
       have HS16 := hide (ints_below HS15.out hb)
       have HT16 := hide (ints_below HT15.out hb)
       have HA16 := hide (ints_below HA15.out hb)
       have HW16 := hide (ints_below HW15.out hb)
       have HZ16 := hide (ints_below HZ15.out hb)
       clear hb)
    | (go_at_call 23
       (with_reducible refine (hasProg HW16.out).mono ?_)
       rintro e w17 hT
       obtain ⟨rfl, n17, hw⟩ := tells_no hT HCY2.out
       have hb : Below w16.heap.size w16 w17 := by rw [hw]; exact belowN _ _ _
       clear hT hw
       have HB17 := hide (HB16.out.trans (hb.mono HB16.out.size))
       have HH17 := hide (needs_below HH16.out hb)
       have HS17 := hide (ints_below HS16.out hb)
       have HT17 := hide (ints_below HT16.out hb)
       have HA17 := hide (ints_below HA16.out hb)
       have HW17 := hide (ints_below HW16.out hb)
       have HZ17 := hide (ints_below HZ16.out hb)
       clear hb)
    | (go_at_call 21
       (with_reducible refine (minusProg HW17.out HZ17.out LY.out).mono ?_)
       rw [EYZ.out]
       rintro e w18 ⟨oq, cq, rfl, hb⟩
       have HB18 := hide (HB17.out.trans (hb.mono HB17.out.size))
       have HH18 := hide (needs_below HH17.out hb)
       have HS18 := hide (ints_below HS17.out hb)
       have HT18 := hide (ints_below HT17.out hb)
       have HA18 := hide (ints_below HA17.out hb)
       have HW18 := hide (ints_below HW17.out hb)
       have HZ18 := hide (ints_below HZ17.out hb)
       clear hb)
    | (go_at_call 10
       (with_reducible refine (runsAt HA.out _).mono ?_)
       rintro e w19 ⟨rfl, hb⟩
       have HB19 := hide (HB18.out.trans (hb.mono HB18.out.size))
       clear hb)
    | fail)
  go_ret
  exact ⟨rfl, HB19.out⟩
end Go.Proofs.Ytinllamocplgjaa.Cl
