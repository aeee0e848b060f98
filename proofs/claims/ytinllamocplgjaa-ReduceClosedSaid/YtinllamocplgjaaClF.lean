import Derived.Test.YtinllamocplgjaaClE
set_option maxRecDepth 100000
namespace Go.Proofs.Ytinllamocplgjaa.Cl
open Go Go.Ms Go.Pg Go.Rc Go.Cl Go.ChangeShapes Go.WideShapes Go.ChangeAt Go.RowKit Go.Deep Go.Proofs.Ytinllamocplgjaa.Rc

def ValidTo (ls : List (List Int)) (k : Nat) : Prop := ∀ i (h : i < ls.length), i < k → Inc ls[i] ls.length ∧ (i : Int) ∉ ls[i]
def Valid (ls : List (List Int)) : Prop := ∀ i (h : i < ls.length), Inc ls[i] ls.length ∧ (i : Int) ∉ ls[i]
theorem valid_next {ls : List (List Int)} {k : Nat} (h : ValidTo ls k) (hk : k < ls.length) (h1 : Inc ls[k] ls.length) (h2 : (k : Int) ∉ ls[k]) : ValidTo ls (k + 1) := by
  intro i hi hik
  by_cases e : i < k
  · exact h i hi e
  · obtain rfl : i = k := by omega
    exact ⟨h1, h2⟩

theorem inc_ge {l : List Int} {n : Int} (h : Inc l n) : ∀ i (hi : i < l.length), (i : Int) ≤ l[i]
  | 0, hi => by have := (h 0 hi).1; omega
  | i + 1, hi => by
    have h1 := inc_ge h i (by omega)
    have h2 := (h (i + 1) hi).2.2 i (by omega) rfl
    omega
theorem inc_length {l : List Int} {n : Nat} (h : Inc l n) : l.length ≤ n := by
  rcases Nat.eq_zero_or_pos l.length with h0 | h0
  · omega
  · have h1 := inc_ge h (l.length - 1) (by omega)
    have h2 := (h (l.length - 1) (by omega)).2.1
    omega

set_option maxHeartbeats 8000000 in
theorem checkRef {w : World} {v : Value} {ls : List (List Int)} (h : NeedsW w v ls) (hN : ls.length ≤ 20) :
    Calls Try.prog 17 #[v] w fun e w' => (∃ r : Int, e = .returned (.int .i64 r) ∧ (r = 0 ↔ Valid ls) ∧ (r = 0 ∨ r = 1)) ∧ ∃ n, w' = w.drewN n := by
  obtain ⟨oa, cap, rfl, hl, hc⟩ := h
  have HC := hide hc
  have h256 : (ls.length : Int) ≤ 256 := by omega
  clear hc
  go_enter Try.func17, Try.ntmps17
  go_wp2_with fail
  go_loopw [3] (fun i wr => ∃ k : Nat, k ≤ ls.length ∧ i = .int .i64 (k : Int) ∧ ValidTo ls k ∧ ∃ n, wr = w.drewN n) (fun i _ => ls.length - (intOf i).toNat)
  case atStart => exact ⟨0, Nat.zero_le _, rfl, fun i _ hi => absurd hi (Nat.not_lt_zero i), 0, rfl⟩
  case round =>
    obtain ⟨k, hk, rfl, hv, n, rfl⟩ := hrel
    have HV := hide hv
    clear hv
    by_cases hlt : k < ls.length
    · have hi : (k : Int) < (ls.length : Int) := by omega
      obtain ⟨b, o, ou, cu, rfl, f, hI⟩ := needW_cell HC.out hlt
      have HI := hide hI
      have hw := wrap_up hlt hl
      clear hI
      by_cases h1 : Inc ls[k] ls.length
      · have HH1 := hide h1
        have HJ := hide (w_ints HI.out (Nat.le_trans (inc_length h1) (by omega)))
        clear h1
        by_cases h2 : (k : Int) ∈ ls[k]
        · have HH2 := hide h2
          clear h2
          go_wp2_with (first
            | (go_at_call 18
               (with_reducible refine (setProg (intsW_drewN HI.out _)).mono ?_)
               rintro e _ hT
               obtain ⟨rfl, n1, rfl⟩ := tells_yes hT HH1.out
               clear hT)
            | (go_at_call 23
               (with_reducible refine (hasProg (ints_drewN HJ.out _)).mono ?_)
               rintro e _ hT
               obtain ⟨rfl, n2, rfl⟩ := tells_yes hT HH2.out
               clear hT)
            | fail)
          go_ret
          exact ⟨⟨1, rfl, ⟨fun q => absurd q (by decide), fun q => absurd HH2.out (q k hlt).2⟩, .inr rfl⟩, _, rfl⟩
        · have HH2 := hide h2
          clear h2
          go_wp2_with (first
            | (go_at_call 18
               (with_reducible refine (setProg (intsW_drewN HI.out _)).mono ?_)
               rintro e _ hT
               obtain ⟨rfl, n1, rfl⟩ := tells_yes hT HH1.out
               clear hT)
            | (go_at_call 23
               (with_reducible refine (hasProg (ints_drewN HJ.out _)).mono ?_)
               rintro e _ hT
               obtain ⟨rfl, n2, rfl⟩ := tells_no hT HH2.out
               clear hT)
            | fail)
          exact ⟨⟨k + 1, by omega, by go_num, valid_next HV.out hlt HH1.out HH2.out, _, rfl⟩, by simp [intOf]; omega⟩
      · have HH1 := hide h1
        clear h1
        go_wp2_with (first
          | (go_at_call 18
             (with_reducible refine (setProg (intsW_drewN HI.out _)).mono ?_)
             rintro e _ hT
             obtain ⟨rfl, n1, rfl⟩ := tells_no hT HH1.out
             clear hT)
          | fail)
        go_ret
        exact ⟨⟨1, rfl, ⟨fun q => absurd q (by decide), fun q => absurd (q k hlt).1 HH1.out⟩, .inr rfl⟩, _, rfl⟩
    · obtain rfl : k = ls.length := by omega
      go_wp2_with fail
      go_ret
      exact ⟨⟨0, rfl, ⟨fun _ i hi => HV.out i hi hi, fun _ => rfl⟩, .inl rfl⟩, _, rfl⟩

set_option maxHeartbeats 8000000 in
theorem checkProg {w : World} {v : Value} {ls : List (List Int)} (h : NeedsAt w v ls) (hN : ls.length ≤ 20) (hv : Valid ls) :
    Calls Try.prog 56 #[v] w fun e w' => e = .returned (.int .i64 0) ∧ ∃ n, w' = w.drewN n := by
  obtain ⟨oa, cap, rfl, hl, hc⟩ := h
  have HC := hide hc
  have HV := hide hv
  have h256 : (ls.length : Int) ≤ 256 := by omega
  clear hc hv
  go_enter Try.func56, Try.ntmps56
  go_wp2_with fail
  go_loopw [10] (fun i wr => ∃ k : Nat, k ≤ ls.length ∧ i = .int .i64 (k : Int) ∧ ∃ n, wr = w.drewN n) (fun i _ => ls.length - (intOf i).toNat)
  case atStart => exact ⟨0, Nat.zero_le _, rfl, 0, rfl⟩
  case round =>
    obtain ⟨k, hk, rfl, n, rfl⟩ := hrel
    by_cases hlt : k < ls.length
    · have hi : (k : Int) < (ls.length : Int) := by omega
      obtain ⟨b, o, ou, cu, rfl, f, hI⟩ := need_cell HC.out hlt
      have HI := hide hI
      have hw := wrap_up hlt hl
      have HH := hide (HV.out k hlt)
      clear hI
      go_wp2_with (first
        | (go_at_call 57
           (with_reducible refine (isSetProg (ints_drewN HI.out _)).mono ?_)
           rintro e _ hT
           obtain ⟨rfl, n1, rfl⟩ := tells_yes hT HH.out.1
           clear hT)
        | (go_at_call 40
           (with_reducible refine (containsProg (ints_drewN HI.out _)).mono ?_)
           rintro e _ hT
           obtain ⟨rfl, n2, rfl⟩ := tells_no hT HH.out.2
           clear hT)
        | fail)
      exact ⟨⟨k + 1, by omega, by go_num, _, rfl⟩, by simp [intOf]; omega⟩
    · obtain rfl : k = ls.length := by omega
      go_wp2_with fail
      go_ret
      exact ⟨rfl, _, rfl⟩

theorem own_base {w : World} {B C : Nat} {v : Value} {l : List Int} (h : Go.Il.Own 3 .i64 B w v l) (hC : C ≤ B) : Go.Il.Own 3 .i64 C w v l := by
  refine ⟨h.1, ?_⟩
  rcases h.2 with h2 | ⟨g, cap, cur, hv, hb, hh, r⟩
  · exact .inl h2
  · exact .inr ⟨g, cap, cur, hv, by omega, hh, r⟩
theorem inc_lt {xs : List Nat} {N : Nat} (h : Inc (ints xs) N) : ∀ n ∈ xs, n < N := by
  intro n hn
  obtain ⟨i, hi, rfl⟩ := List.getElem_of_mem hn
  have hl : i < (ints xs).length := by simpa [ints] using hi
  have := (h i hl).2.1
  simp [ints] at this
  omega
theorem valid_low {xss : List (List Nat)} (h : Valid (xss.map ints)) : ∀ xs ∈ xss, ∀ m ∈ xs, m < xss.length := by
  intro xs hx m hm
  obtain ⟨i, hi, rfl⟩ := List.getElem_of_mem hx
  have hl : i < (xss.map ints).length := by simpa using hi
  have h2 := (h i hl).1
  simp only [List.getElem_map, List.length_map] at h2
  exact inc_lt h2 m hm

set_option maxHeartbeats 8000000 in
theorem neededProg {w : World} {v u : Value} {xss : List (List Nat)} {xs : List Nat} (h : NeedsAt w v (xss.map ints)) (hN : xss.length ≤ 20) (hv : Valid (xss.map ints)) (hu : Ints w u (ints xs)) (hx : Inc (ints xs) xss.length) :
    Calls Try.prog 36 #[v, u] w fun e w' => ∃ A g, e = .returned (.tuple #[.slice (some ⟨g, 0, none⟩) A.length A.length, .int .i64 0]) ∧ Below w.heap.size w w' ∧ Sets (needOf xss) xss.length w' (.slice (some ⟨g, 0, none⟩) A.length A.length) A g := by
  have HH := hide h
  have HV := hide hv
  have HU := hide hu
  have HX := hide hx
  have HLW := hide (valid_low hv)
  obtain ⟨oa, cap, rfl, _, _⟩ := h
  obtain ⟨ou, cu, rfl, _, _⟩ := cells_at hu
  have hlen : (xss.map ints).length = xss.length := by simp
  have HN : Hid ((xss.map ints).length ≤ 20) := hide (by rw [hlen]; exact hN)
  rw [hlen] at HH ⊢
  clear hv hu hx
  go_enter Try.func36, Try.ntmps36
  go_wp2_with (first
    | (go_at_call 56
       (with_reducible refine (checkProg HH.out HN.out HV.out).mono ?_)
       rintro e _ ⟨rfl, n, rfl⟩)
    | (go_at_call 57
       (with_reducible refine (isSetProg (ints_drewN HU.out _)).mono ?_)
       rintro e _ hT
       obtain ⟨rfl, n2, rfl⟩ := tells_yes hT HX.out
       clear hT)
    | (go_at_call 58
       (with_reducible refine (closuresProg (needs_below HH.out (belowN _ _ _)) hN HLW.out).mono ?_)
       rintro e w3 ⟨A, g, rfl, hC, hT, hB, hR⟩
       have HS : Hid (Sets (needOf xss) xss.length w3 (.slice (some ⟨g, 0, none⟩) A.length A.length) A g) := hide ⟨rfl, hC, hT, hN, hR⟩
       have HB : Hid (Below w.heap.size w w3) := hide ((belowN w.heap.size w _).trans hB)
       clear hC hT hB hR)
    | fail)
  go_ret2
  exact ⟨A, g, rfl, HB.out, HS.out⟩

structure IsClose (xss : List (List Nat)) (xs : List Nat) (x : Nat) : Prop where
  low : ∀ b, x.testBit b = true → b < xss.length
  has : ∀ n ∈ xs, x.testBit n = true
  closed : ∀ a b, x.testBit a = true → needOf xss a b → x.testBit b = true
  least : ∀ C : Nat → Prop, (∀ a b, a < xss.length → C a → needOf xss a b → C b) → (∀ n ∈ xs, C n) → ∀ b, x.testBit b = true → C b
  lt : x < 2 ^ 20
theorem isClose {need : Nat → Nat → Prop} {xss : List (List Nat)} {g : Nat} {w : World} {v : Value} {A xs : List Nat} (hn : need = needOf xss) (h : Sets need xss.length w v A g) (hx : ∀ n ∈ xs, n < xss.length) : IsClose xss xs (uni A xs) := by
  subst hn
  refine ⟨fun b hb => ?_, fun n hn => (testBit_uni A n xs).2 ⟨n, hn, h.clos.own n (hx n hn)⟩, fun a b ha hab => ?_, fun C hC hc b hb => ?_, uni_lt h xs⟩
  · obtain ⟨n, _, h2⟩ := (testBit_uni A b xs).1 hb
    exact h.clos.low n b h2
  · obtain ⟨n, h1, h2⟩ := (testBit_uni A a xs).1 ha
    have haN := h.clos.low n a h2
    exact (testBit_uni A b xs).2 ⟨n, h1, h.thru n a b (hx n h1) haN h2 (h.clos.has a b haN hab)⟩
  · obtain ⟨n, h1, h2⟩ := (testBit_uni A b xs).1 hb
    exact h.clos.least C hC n (hx n h1) (hc n h1) b h2
structure IsStay (xss : List (List Nat)) (xs : List Nat) (c z : Nat) : Prop where
  low : ∀ b, z.testBit b = true → b < xss.length
  within : ∀ b, z.testBit b = true → b ∈ xs
  gone : ¬ z.testBit c = true
  closed : ∀ a b, z.testBit a = true → needOf xss a b → z.testBit b = true
  most : ∀ C : Nat → Prop, (∀ a b, a < xss.length → C a → needOf xss a b → C b) → (∀ b, C b → b ∈ xs) → ¬ C c → ∀ b, C b → z.testBit b = true
  lt : z < 2 ^ 20
theorem isStay {xss : List (List Nat)} {g : Nat} {w : World} {v : Value} {A xs : List Nat} {c : Nat} (h : Sets (needOf xss) xss.length w v A g) (hx : ∀ n ∈ xs, n < xss.length) (hc : c ∈ xs) (hcl : ∀ a b, a ∈ xs → needOf xss a b → b ∈ xs) : IsStay xss xs c (stay A c xs) := by
  refine ⟨fun b hb => hx b (testBit_stay.1 hb).1, fun b hb => (testBit_stay.1 hb).1, fun hb => (testBit_stay.1 hb).2 (h.clos.own c (hx c hc)), fun a b ha hab => ?_, fun C hC hs hn b hb => ?_, stay_lt fun n hn => Nat.lt_of_lt_of_le (hx n hn) h.small⟩
  · obtain ⟨h1, h2⟩ := testBit_stay.1 ha
    have haN := hx a h1
    exact testBit_stay.2 ⟨hcl a b h1 hab, fun q => h2 (h.thru a b c haN (hx b (hcl a b h1 hab)) (h.clos.has a b haN hab) q)⟩
  · exact testBit_stay.2 ⟨hs b hb, fun q => hn (h.clos.least C hC b (hx b (hs b hb)) hb c q)⟩

theorem oneEq (x : Int) (d : Nat) (w : World) : (Op.equalIn (d + 1) 67 (.int .u64 x) (.int .u64 x)).run Try.prog w = .ok true w := by
  simp [Op.equalIn, run_underlying Try.underlying67]
theorem setEq (x : Int) (w : World) : (Op.equalIn 10000 69 (.agg #[.int .u64 x, .int .u64 0, .int .u64 0, .int .u64 0]) (.agg #[.int .u64 x, .int .u64 0, .int .u64 0, .int .u64 0])).run Try.prog w = .ok true w := by
  obtain ⟨i0, hi, _⟩ := Option.map_eq_some_iff.1 (show (Try.prog.info? 67).map (fun i => i.size) = some 1 by kernel_rfl)
  rw [run_equalIn_array (w := w) 9999 _ _ Try.underlying69 hi]
  have hc : Try.prog.cellsOf 67 = 1 := by kernel_rfl
  rw [hc, show List.range 4 = [0, 1, 2, 3] from rfl]
  simp only [Op.eqItems]
  go_simp
theorem setNeq (x : Int) (w : World) : (binOp .neq 69 (.agg #[.int .u64 x, .int .u64 0, .int .u64 0, .int .u64 0]) (.agg #[.int .u64 x, .int .u64 0, .int .u64 0, .int .u64 0])).run Try.prog w = .ok (.bool false) w := by
  have h := setEq x w
  go_simp

set_option maxHeartbeats 8000000 in
theorem closeProg {w : World} {v u : Value} {xss : List (List Nat)} {xs : List Nat} (h : NeedsAt w v (xss.map ints)) (hN : xss.length ≤ 20) (hv : Valid (xss.map ints)) (hu : Ints w u (ints xs)) (hx : Inc (ints xs) xss.length) :
    Calls Try.prog 19 #[v, u] w fun e w' => ∃ x u', e = .returned (.tuple #[u', .int .i64 0]) ∧ Below w.heap.size w w' ∧ IsClose xss xs x ∧ Go.Il.Own 3 .i64 w.heap.size w' u' (upTo x 256) := by
  have HH := hide h
  have HV := hide hv
  have HU := hide hu
  have HX := hide hx
  have HXN := hide (inc_lt hx)
  obtain ⟨oa, cap, rfl, _, _⟩ := h
  obtain ⟨ou, cu, rfl, _, _⟩ := cells_at hu
  have hlen : (xss.map ints).length = xss.length := by simp
  rw [hlen] at HH ⊢
  clear hlen
  clear hv hu hx
  go_enter Try.func19, Try.ntmps19
  go_wp2_with (first
    | (go_at_call 36
       (with_reducible refine (neededProg HH.out hN HV.out HU.out HX.out).mono ?_)
       rintro e w1 ⟨A, g, rfl, hB, hS⟩
       have HB1 := hide hB
       have HS1 := hide hS
       clear hB hS)
    | (go_at_call 37
       (with_reducible refine (closureProg HS1.out (ints_below HU.out HB1.out) HXN.out).mono ?_)
       rintro e w2 ⟨rfl, hB⟩
       have HB2 := hide (HB1.out.trans (hB.mono HB1.out.size))
       clear hB)
    | (go_at_call 38
       (with_reducible refine (listProg (uni_lt HS1.out xs)).mono ?_)
       rintro e w3 ⟨u3, rfl, hB, hO⟩
       have HB3 := hide (HB2.out.trans (hB.mono HB2.out.size))
       have HO3 := hide (own_base hO HB2.out.size)
       clear hB hO)
    | fail)
  go_ret2
  exact ⟨_, _, rfl, HB3.out, isClose rfl HS1.out HXN.out, HO3.out⟩

theorem uni_closed {xss : List (List Nat)} {g : Nat} {w : World} {v : Value} {A xs : List Nat} (h : Sets (needOf xss) xss.length w v A g) (hx : ∀ n ∈ xs, n < xss.length) (hcl : ∀ a b, a ∈ xs → needOf xss a b → b ∈ xs) : uni A xs = maskOf xs :=
  bits_eq fun b => by
    rw [testBit_mask]
    exact ⟨fun hb => (isClose rfl h hx).least (fun n => n ∈ xs) (fun a b _ => hcl a b) (fun n hn => hn) b hb, fun hb => (isClose rfl h hx).has b hb⟩

set_option maxHeartbeats 8000000 in
theorem withoutNone {w : World} {v u : Value} {xss : List (List Nat)} {xs : List Nat} {c : Int} (h : NeedsAt w v (xss.map ints)) (hN : xss.length ≤ 20) (hv : Valid (xss.map ints)) (hu : Ints w u (ints xs)) (hx : Inc (ints xs) xss.length) (hcl : ∀ a b, a ∈ xs → needOf xss a b → b ∈ xs) (hc : c ∉ ints xs) :
    Calls Try.prog 22 #[v, u, .int .i64 c] w fun e w' => ∃ u', e = .returned (.tuple #[u', .int .i64 7]) ∧ Below w.heap.size w w' := by
  have HH := hide h
  have HV := hide hv
  have HU := hide hu
  have HX := hide hx
  have HC := hide hc
  have HXN := hide (inc_lt hx)
  have HX2 : Hid (∀ n ∈ xs, n < 20) := hide fun n hn => Nat.lt_of_lt_of_le (inc_lt hx n hn) hN
  have HCL := hide hcl
  have hneq := fun w => setNeq (maskOf xs) w
  obtain ⟨oa, cap, rfl, _, _⟩ := h
  obtain ⟨ou, cu, rfl, _, _⟩ := cells_at hu
  have hlen : (xss.map ints).length = xss.length := by simp
  rw [hlen] at HH ⊢
  clear hlen
  clear hv hu hx hc hcl
  go_enter Try.func22, Try.ntmps22
  go_wp2_with (first
    | (go_at_call 36
       (with_reducible refine (neededProg HH.out hN HV.out HU.out HX.out).mono ?_)
       rintro e w1 ⟨A, g, rfl, hB, hS⟩
       have HB1 := hide hB
       have HS1 := hide hS
       have HE := hide (uni_closed hS HXN.out HCL.out)
       clear hB hS)
    | (go_at_call 37
       (with_reducible refine (closureProg HS1.out (ints_below HU.out HB1.out) HXN.out).mono ?_)
       rintro e w2 ⟨rfl, hB⟩
       rw [HE.out]
       have HB2 := hide (HB1.out.trans (hB.mono HB1.out.size))
       clear hB)
    | (go_at_call 39
       (with_reducible refine (setOfProg (ints_below HU.out HB2.out) HX2.out).mono ?_)
       rintro e w3 ⟨rfl, hB⟩
       have HB3 := hide (HB2.out.trans (hB.mono HB2.out.size))
       clear hB)
    | (go_at_call 40
       (with_reducible refine (containsProg (ints_below HU.out HB3.out)).mono ?_)
       rintro e _ hT
       obtain ⟨rfl, n2, rfl⟩ := tells_no hT HC.out
       clear hT)
    | fail)
  go_ret2
  exact ⟨_, rfl, HB3.out.trans (belowN _ _ _)⟩

set_option maxHeartbeats 8000000 in
theorem withoutSome {w : World} {v u : Value} {xss : List (List Nat)} {xs : List Nat} {c : Nat} (h : NeedsAt w v (xss.map ints)) (hN : xss.length ≤ 20) (hv : Valid (xss.map ints)) (hu : Ints w u (ints xs)) (hx : Inc (ints xs) xss.length) (hcl : ∀ a b, a ∈ xs → needOf xss a b → b ∈ xs) (hc : c ∈ xs) :
    Calls Try.prog 22 #[v, u, .int .i64 c] w fun e w' => ∃ z u', e = .returned (.tuple #[u', .int .i64 0]) ∧ Below w.heap.size w w' ∧ IsStay xss xs c z ∧ Go.Il.Own 3 .i64 w.heap.size w' u' (upTo z 256) := by
  have HH := hide h
  have HV := hide hv
  have HU := hide hu
  have HX := hide hx
  have HC : Hid ((c : Int) ∈ ints xs) := hide (List.mem_map.2 ⟨c, hc, rfl⟩)
  have HCN := hide hc
  have HXN := hide (inc_lt hx)
  have hc256 : c < 256 := by
    have := inc_lt hx c hc
    omega
  have HX2 : Hid (∀ n ∈ xs, n < 20) := hide fun n hn => Nat.lt_of_lt_of_le (inc_lt hx n hn) hN
  have HCL := hide hcl
  have hneq := fun w => setNeq (maskOf xs) w
  obtain ⟨oa, cap, rfl, _, _⟩ := h
  obtain ⟨ou, cu, rfl, _, _⟩ := cells_at hu
  have hlen : (xss.map ints).length = xss.length := by simp
  rw [hlen] at HH ⊢
  clear hlen
  clear hv hu hx hc hcl
  go_enter Try.func22, Try.ntmps22
  go_wp2_with (first
    | (go_at_call 36
       (with_reducible refine (neededProg HH.out hN HV.out HU.out HX.out).mono ?_)
       rintro e w1 ⟨A, g, rfl, hB, hS⟩
       have HB1 := hide hB
       have HS1 := hide hS
       have HE := hide (uni_closed hS HXN.out HCL.out)
       clear hB hS)
    | (go_at_call 37
       (with_reducible refine (closureProg HS1.out (ints_below HU.out HB1.out) HXN.out).mono ?_)
       rintro e w2 ⟨rfl, hB⟩
       rw [HE.out]
       have HB2 := hide (HB1.out.trans (hB.mono HB1.out.size))
       have HC2 := hide hB
       clear hB)
    | (go_at_call 39
       (with_reducible refine (setOfProg (ints_below HU.out HB2.out) HX2.out).mono ?_)
       rintro e w3 ⟨rfl, hB⟩
       have HB3 := hide (HB2.out.trans (hB.mono HB2.out.size))
       have HC3 := hide (HC2.out.trans (hB.mono HC2.out.size))
       clear hB)
    | (go_at_call 40
       (with_reducible refine (containsProg (ints_below HU.out HB3.out)).mono ?_)
       rintro e _ hT
       obtain ⟨rfl, n2, rfl⟩ := tells_yes hT HC.out
       clear hT)
    | (go_at_call 41
       (with_reducible refine (notNeedingProg (HS1.out.below (HC3.out.trans (belowN _ _ _))) (ints_drewN (ints_below HU.out HB3.out) _) HXN.out hc256).mono ?_)
       rintro e w5 ⟨rfl, hB⟩
       have HB5 := hide (HB3.out.trans ((belowN _ _ _).trans (hB.mono HB3.out.size)))
       clear hB)
    | (go_at_call 38
       (with_reducible refine (listProg (stay_lt HX2.out)).mono ?_)
       rintro e w6 ⟨u6, rfl, hB, hO⟩
       have HB6 := hide (HB5.out.trans (hB.mono HB5.out.size))
       have HO6 := hide (own_base hO HB5.out.size)
       clear hB hO)
    | fail)
  go_ret2
  exact ⟨_, _, rfl, HB6.out, isStay HS1.out HXN.out HCN.out HCL.out, HO6.out⟩

set_option maxHeartbeats 8000000 in
theorem closedRef {w : World} {v u : Value} {xss : List (List Nat)} {xs : List Nat} (h : NeedsAt w v (xss.map ints)) (hN : xss.length ≤ 20) (hv : Valid (xss.map ints)) (hu : Ints w u (ints xs)) (hx : ∀ n ∈ xs, n < xss.length) (hcl : ∀ a b, a ∈ xs → needOf xss a b → b ∈ xs) :
    Calls Try.prog 20 #[v, u] w fun e w' => e = .returned (.bool true) ∧ Below w.heap.size w w' := by
  obtain ⟨oa, cap, rfl, hl, hc⟩ := h
  obtain ⟨ou, cu, rfl, hlu, hcu⟩ := cells_at hu
  have HC := hide hc
  have HCU := hide hcu
  have HU := hide hu
  have HX := hide hx
  have HCL := hide hcl
  have HV := hide hv
  have hlen : (ints xs).length = xs.length := by simp [ints]
  have hlen2 : (xss.map ints).length = xss.length := by simp
  rw [hlen] at hlu HU ⊢
  rw [hlen2] at hl ⊢
  clear hc hcu hu hx hcl hv hlen hlen2
  go_enter Try.func20, Try.ntmps20
  go_wp2_with fail
  go_loopw [5] (fun i wr => ∃ k : Nat, k ≤ xs.length ∧ i = .int .i64 (k : Int) ∧ Below w.heap.size w wr) (fun i _ => xs.length - (intOf i).toNat)
  case atStart => exact ⟨0, Nat.zero_le _, rfl, Below.refl _ _⟩
  case round =>
    obtain ⟨k, hk, rfl, hB⟩ := hrel
    have HB := hide hB
    clear hB
    by_cases hlt : k < xs.length
    · have hi : (k : Int) < (xs.length : Int) := by omega
      obtain ⟨b, o, rfl, f0⟩ := nat_cell HCU.out hlt
      have f := cell_below HB.out f0
      clear f0
      have hw := wrap_up hlt hlu
      have HN := hide (HX.out xs[k] (List.getElem_mem hlt))
      have HM := hide (HCL.out xs[k])
      have HMM := hide (List.getElem_mem hlt)
      generalize xs[k] = n at *
      have hn64 : (n : Int) < (xss.length : Int) := by have := HN.out; omega
      obtain ⟨b2, o2, o3, c3, rfl, f0, hI⟩ := need_nat HC.out HN.out
      have f2 := cell_below HB.out f0
      have HI := hide (ints_below hI HB.out)
      have HE : Hid (minus (ints (xss[n]'HN.out)) (ints xs) = []) := hide (minus_nil fun x hx => by
        obtain ⟨m, hm, rfl⟩ := List.mem_map.1 hx
        refine List.mem_map.2 ⟨m, HM.out m HMM.out ?_, rfl⟩
        unfold needOf
        rw [List.getD_eq_getElem?_getD, List.getElem?_eq_getElem HN.out]
        exact hm)
      have HL : Hid ((ints (xss[n]'HN.out)).length ≤ 1000) := hide (by
        have h1 := HV.out n (by rw [List.length_map]; exact HN.out)
        have h2 := h1.1
        simp only [List.getElem_map, List.length_map] at h2
        exact Nat.le_trans (inc_length h2) (by omega))
      clear f0 hI
      go_wp2_with (first
        | (go_at_call 21
           (with_reducible refine (minusProg HI.out (ints_below HU.out HB.out) HL.out).mono ?_)
           rw [HE.out]
           rintro e w1 ⟨oa1, c1, rfl, hB1⟩
           have HB1 := hide (HB.out.trans (hB1.mono HB.out.size))
           clear hB1)
        | fail)
      exact ⟨⟨k + 1, by omega, by go_num, HB1.out⟩, by simp [intOf]; omega⟩
    · obtain rfl : k = xs.length := by omega
      go_wp2_with fail
      go_ret
      exact ⟨rfl, HB.out⟩
end Go.Proofs.Ytinllamocplgjaa.Cl
