import Derived.Test.YtdpgcoicbagflaaBiL
set_option maxRecDepth 100000
set_option linter.unusedSimpArgs false
set_option linter.unusedVariables false
namespace Go.Proofs.Ytdpgcoicbagflaa.Bi
open Go Go.Ms Go.Pg Go.Bi Go.ChangeShapes Go.WideShapes Go.ChangeAt Go.RowKit Go.Deep

def IntsW (w : World) (v : Value) (l : List Int) : Prop := ∃ oa cap, v = .slice oa l.length cap ∧ l.length ≤ 9223372036854775807 ∧ ∀ i (h : i < l.length), ∃ b o, oa = some ⟨b, o, none⟩ ∧ w.cell? ⟨b, o + i, none⟩ = some (.int .i64 l[i])
theorem int_cell {w : World} {oa : Option Addr} {i : Nat} {l : List Int} (h : ∀ i (h : i < l.length), ∃ b o, oa = some ⟨b, o, none⟩ ∧ w.cell? ⟨b, o + i, none⟩ = some (.int .i64 l[i])) (hi : i < l.length) : ∃ b o, oa = some ⟨b, o, none⟩ ∧ w.cell? ⟨b, o + i, none⟩ = some (.int .i64 l[i]) := h i hi
theorem drews (w : World) (a b : Nat) : (w.drewN a).drewN b = w.drewN (a + b) := by simp [World.drewN, Nat.add_assoc]
def Tells (p : Prop) (w : World) (e : Ending) (w' : World) : Prop := ∃ r, e = .returned (.bool r) ∧ (r = true ↔ p) ∧ ∃ n, w' = w.drewN n

def counts (x : Int) : Int := if x = 1 then 1 else if x = 2 then 2 else 3
set_option maxHeartbeats 4000000 in
theorem toldProg {w : World} {x : Int} : Calls Try.prog 70 #[.int .u8 x] w fun e w' => e = .returned (.int .u8 (counts x)) ∧ w' = w := by
  by_cases h1 : x = 1
  · subst h1
    go_enter Try.func70, Try.ntmps70
    go_wp2_with fail
    go_ret
    exact ⟨rfl, rfl⟩
  · by_cases h2 : x = 2
    · subst h2
      go_enter Try.func70, Try.ntmps70
      go_wp2_with fail
      go_ret
      exact ⟨rfl, rfl⟩
    · have t1 : (x == (1 : Int)) = false := beq_false_of_ne h1
      have t2 : (x == (2 : Int)) = false := beq_false_of_ne h2
      have H1 := hide h1
      have H2 := hide h2
      clear h1 h2
      go_enter Try.func70, Try.ntmps70
      go_wp2_with fail
      go_ret
      have e : counts x = 3 := by rw [counts, if_neg H1.out, if_neg H2.out]
      rw [e]
      exact ⟨rfl, rfl⟩

set_option maxHeartbeats 4000000 in
theorem intsRef {w : World} {s t : Value} {l m : List Int} (hs : IntsW w s l) (ht : IntsW w t m) : Calls Try.prog 33 #[s, t] w (Tells (l = m) w) := by
  obtain ⟨os, cs, rfl, hls, hs⟩ := hs
  obtain ⟨ot, ct, rfl, hlt, ht⟩ := ht
  by_cases hq : l.length = m.length
  · have e5 : ((l.length : Int) != (m.length : Int)) = false := by simp [hq]
    have HL := hide hq
    clear hq
    go_enter Try.func33, Try.ntmps33
    go_wp2_with fail
    go_loopw [5] (fun i wr => ∃ k : Nat, k ≤ l.length ∧ i = .int .i64 k ∧ (∀ j, j < k → l[j]? = m[j]?) ∧ ∃ n, wr = w.drewN n) (fun i _ => l.length - (intOf i).toNat)
    case atStart => exact ⟨0, Nat.zero_le _, rfl, fun j h => by omega, 0, rfl⟩
    case round =>
      obtain ⟨k, hk, rfl, hp, nd, rfl⟩ := hrel
      have P : Hid (∀ j, j < k → l[j]? = m[j]?) := hp
      clear hp
      by_cases hlk : k < l.length
      · have hlt2 : k < m.length := by have := HL.out; omega
        obtain ⟨r1, o1, rfl, f1⟩ := int_cell hs hlk
        obtain ⟨r2, o2, rfl, f2⟩ := int_cell ht hlt2
        have hi1 : (k : Int) < (l.length : Int) := by omega
        have hi2 : (k : Int) < (m.length : Int) := by omega
        clear hs ht
        by_cases he : l[k] = m[k]
        · have hb : (l[k] != m[k]) = false := by simp [he]
          have HE2 := hide he
          clear he
          go_wp2_with fail
          go_quiet (fail)
          go_wp2_with fail
          go_roundw
          case rel =>
            refine ⟨k + 1, by omega, by go_num, fun j hj => ?_, _, rfl⟩
            by_cases q : j < k
            · exact P.out j q
            · obtain rfl : j = k := by omega
              rw [List.getElem?_eq_getElem hlk, List.getElem?_eq_getElem hlt2, HE2.out]
          case measure => simp [intOf]; omega
        · have hb : (l[k] != m[k]) = true := by simpa using he
          have HE2 := hide he
          clear he
          go_wp2_with fail
          go_quiet (fail)
          go_wp2_with fail
          go_ret
          exact ⟨false, rfl, ⟨fun h => by simp at h, fun h => by subst h; exact absurd rfl HE2.out⟩, _, drews _ _ _⟩
      · go_wp2_with fail
        go_ret
        refine ⟨true, rfl, ⟨fun _ => ?_, fun _ => rfl⟩, _, rfl⟩
        have hk2 : k = l.length := by omega
        apply List.ext_getElem?
        intro j
        by_cases q : j < k
        · exact P.out j q
        · rw [List.getElem?_eq_none (by omega), List.getElem?_eq_none (by have := HL.out; omega)]
  · have e5 : ((l.length : Int) != (m.length : Int)) = true := by
      simp
      omega
    have HN : Hid (¬ l = m) := hide fun q => hq (by rw [q])
    clear hq
    go_enter Try.func33, Try.ntmps33
    go_wp2_with fail
    go_ret
    exact ⟨false, rfl, ⟨fun h => by simp at h, fun h => absurd h HN.out⟩, 0, rfl⟩

end Go.Proofs.Ytdpgcoicbagflaa.Bi

set_option maxRecDepth 100000
set_option linter.unusedSimpArgs false
set_option linter.unusedVariables false
namespace Go.Proofs.Ytdpgcoicbagflaa.Bi
open Go Go.Ms Go.Pg Go.Bi Go.ChangeShapes Go.WideShapes Go.ChangeAt Go.RowKit Go.Deep

def Play (w : World) (g : Nat) (l : List Int) (u : Nat) (stop : Bool) (want : Value) : Prop := ∃ an, w.heap[g]? = some (.cells #[an, .int .i64 (u : Int), nilV, nilV, .bool stop, want] 74 (0, 0)) ∧ Vs w g an l

set_option maxHeartbeats 4000000 in
theorem nextSome {w : World} {g u : Nat} {l : List Int} {c : Value} {x : Value} (h : Play w g l u false x) (hu : u < l.length) :
    Calls Try.prog 57 #[.pointer (some ⟨g, 0, none⟩), c] w fun e w' => e = .returned (.int .u8 (counts l[u])) ∧ Keeps g w w' ∧ Play w' g l (u + 1) false x := by
  obtain ⟨an, hb, hv⟩ := h
  have hg := block_lt hb
  have HV := hide hv
  obtain ⟨oa, cap, rfl, hlc, hl, q⟩ := hv
  obtain ⟨b0, o0, rfl, hlt, r0⟩ := q u hu
  have hb0 : b0 < w.heap.size := by omega
  have c0 : w.cell? ⟨g, 0, none⟩ = some (.slice (some ⟨b0, o0, none⟩) l.length cap) := cell_of hb 0
  have c1 : w.cell? ⟨g, 1, none⟩ = some (.int .i64 (u : Int)) := cell_of hb 1
  have f1 := frozen_of hb 1
  have t0 : decide ((l.length : Int) ≤ (u : Int)) = false := decide_eq_false (by omega)
  have t1 : decide (l.length ≤ u) = false := decide_eq_false (by omega)
  have w1 : IntKind.i64.wrap ((u : Int) + 1) = (u : Int) + 1 := wrap_in (by omega) (by omega)
  have w2 : IntKind.i64.wrap ((u : Int) + 1 - 1) = (u : Int) := by rw [wrap_in (by omega) (by omega)]; omega
  have w3 : IntKind.i64.wrap ((u : Int)) = (u : Int) := wrap_in (by omega) (by omega)
  have hi : (u : Int) < (l.length : Int) := by omega
  have HB := hide hb
  have HU := hide hu
  clear hb q
  generalize l[u] = y at *
  go_enter Try.func57, Try.ntmps57
  go_wp2_with fail
  go_quiet (fail)
  go_wp2_with fail
  have hx : ((w.drewN nq).setCell ⟨g, 1, none⟩ (.int .i64 ((u : Int) + 1))).heap[g]? = some (.cells #[.slice (some ⟨b0, o0, none⟩) l.length cap, .int .i64 ((u : Int) + 1), nilV, nilV, .bool false, x] 74 (0, 0)) :=
    (heap_setCell_same (w.drewN nq) g 1 _ 74 (.int .i64 ((u : Int) + 1)) HB.out).trans (by simp)
  have hk : Keeps g w ((w.drewN nq).setCell ⟨g, 1, none⟩ (.int .i64 ((u : Int) + 1))) := (show Keeps g w (w.drewN nq) from ⟨belowN _ _ _, fun _ _ _ => rfl⟩).trans (Keeps.set 1 _)
  clear c0 c1 f1
  generalize (w.drewN nq).setCell ⟨g, 1, none⟩ (.int .i64 ((u : Int) + 1)) = X at *
  have d0 : X.cell? ⟨g, 0, none⟩ = some (.slice (some ⟨b0, o0, none⟩) l.length cap) := cell_of hx 0
  have d1 : X.cell? ⟨g, 1, none⟩ = some (.int .i64 ((u : Int) + 1)) := cell_of hx 1
  have d2 : X.cell? ⟨b0, o0 + u, none⟩ = some (.int .u8 y) := (hk.below.cell (p := ⟨b0, o0 + u, none⟩) hlt).trans r0
  have HX := hide hx
  have HK := hide hk
  clear hx hk r0
  go_quiet (first
    | (go_at_call 70; exact Calls.quiet_of_same toldProg))
  go_wp2_with fail
  go_ret
  exact ⟨rfl, HK.out.trans ⟨belowN _ _ _, fun _ _ _ => rfl⟩, _, HX.out, vs_kept HK.out (Nat.le_refl _) HV.out⟩

theorem own_empty (w : World) {B : Nat} (hB : B ≤ w.heap.size) (c : Array Value) (hc : c.size = 0) : Go.Il.Own 3 .i64 B (w.alloc (.cells c 3)) (.slice (some ⟨w.heap.size, 0, none⟩) 0 0) [] := by
  refine ⟨rfl, .inr ⟨w.heap.size, 0, c, rfl, hB, new_block w _, Nat.le_refl _, by simp [maxLen], by simp [hc], ?_⟩⟩
  simp

theorem EI' : Go.Il.IntElem Try.prog 24 3 .i64 8 := EI
theorem row_one {w : World} {cb v : Nat} (hv : v < 256) (hc : w.heap[cb]? = some (.cells #[.int .i64 (v : Int)] 3 (0, 0))) : RowAt 1 (NumAt .i64) w (.slice (some ⟨cb, 0, none⟩) 1 1) [(v : Int)] := by
  refine ⟨_, _, rfl, by simp, fun i hi => ?_⟩
  obtain rfl : i = 0 := by simpa using hi
  refine ⟨cb, 0, rfl, by simpa using cell_of hc 0, ?_⟩
  simp [Lit.wf, IntKind.min, IntKind.max, IntKind.signed, IntKind.bits]
  omega

set_option maxHeartbeats 4000000 in
theorem nextNone {w : World} {g v cb : Nat} {l : List Int} {x : Value} (h : Play w g l l.length false x) (hv : v < 256) (hc : w.heap[cb]? = some (.cells #[.int .i64 (v : Int)] 3 (0, 0))) :
    Calls Try.prog 57 #[.pointer (some ⟨g, 0, none⟩), .slice (some ⟨cb, 0, none⟩) 1 1] w fun e w' => e = .returned (.int .u8 0) ∧ Keeps g w w' ∧ ∃ x', Play w' g l l.length true x' ∧ Go.Il.Own 3 .i64 w.heap.size w' x' [(v : Int)] := by
  obtain ⟨an, hb, hva⟩ := h
  have hg := block_lt hb
  have HV := hide hva
  have HV9 := hide hv
  obtain ⟨oa, cap, rfl, hlc, hl, q⟩ := hva
  have hne : cb ≠ g := by
    rintro rfl
    have := hc.symm.trans hb
    injection this with this
    injection this with _ ht
    cases ht
  have c0 : w.cell? ⟨g, 0, none⟩ = some (.slice oa l.length cap) := cell_of hb 0
  have c1 : w.cell? ⟨g, 1, none⟩ = some (.int .i64 (l.length : Int)) := cell_of hb 1
  have c4 : w.cell? ⟨g, 4, none⟩ = some (.bool false) := cell_of hb 4
  have f4 := frozen_of hb 4
  have HB := hide hb
  have HC := hide hc
  have HG := hide hg
  clear hb q hc hv
  go_enter Try.func57, Try.ntmps57
  go_wp2_with fail
  go_quiet (fail)
  go_upto_region 3 with (fail)
  have hx : ((w.drewN nq).setCell ⟨g, 4, none⟩ (.bool true)).heap[g]? = some (.cells #[.slice oa l.length cap, .int .i64 (l.length : Int), nilV, nilV, .bool true, x] 74 (0, 0)) :=
    (heap_setCell_same (w.drewN nq) g 4 _ 74 (.bool true) HB.out).trans (by simp)
  have hk : Keeps g w ((w.drewN nq).setCell ⟨g, 4, none⟩ (.bool true)) := (show Keeps g w (w.drewN nq) from ⟨belowN _ _ _, fun _ _ _ => rfl⟩).trans (Keeps.set 4 _)
  have hs : ((w.drewN nq).setCell ⟨g, 4, none⟩ (.bool true)).heap.size = w.heap.size := by simp [World.setCell]
  clear c0 c1 c4 f4
  generalize (w.drewN nq).setCell ⟨g, 4, none⟩ (.bool true) = X at *
  have HX := hide hx
  have HK := hide hk
  have HS := hide hs
  have HRX := hide (row_one HV9.out (hk.kept cb (block_lt HC.out) hne |>.trans HC.out))
  clear hx hk hs hne
  have hgX : g < X.heap.size := block_lt HX.out
  have e5 : ∀ (Y : World), Go.Il.Stp 3 X.heap.size (X.alloc (.cells #[] 3)) Y → Y.heap[g]? = some (.cells #[.slice oa l.length cap, .int .i64 (l.length : Int), nilV, nilV, .bool true, x] 74 (0, 0)) := fun Y hY => Go.Il.Stp.block hY (old_block HX.out _) (by decide)
  have HE5 := hide e5
  clear e5
  go_wp2_with (first
    | (at_builtin
       (refine Go.Il.wpl_pushRow EI (by decide) rfl (.tmp 19) (.tmp 20) rfl (own_empty X (Nat.le_refl _) _ rfl) HRX.out ((Below.refl _ X).alloc (Nat.le_refl _) _) (by simp) rfl rfl (by simp) ?_
        intro v1 w1 ho1 hs1
        obtain ⟨o1, k1, hv1⟩ := Go.Il.Own.form ho1
        subst hv1
        have HO1 := hide ho1
        have HS1 := hide hs1
        have hY := HE5.out w1 hs1
        have HY := hide hY
        have y5 : w1.cell? ⟨g, 5, none⟩ = some x := cell_of hY 5
        have z5 := frozen_of hY 5
        clear ho1 hs1 hY))
    | fail)
  all_goals
    go_ret
    have hB1 : Below X.heap.size X w1 := ((Below.refl X.heap.size X).alloc (Nat.le_refl _) _).trans HS1.out.below
    have hKF : ∀ u, Keeps g w (w1.setCell ⟨g, 5, none⟩ u) := fun u => (HK.out.trans (Keeps.of_below hgX hB1)).trans (Keeps.set 5 u)
    refine ⟨rfl, hKF _, .slice o1 1 k1, ⟨_, (heap_setCell_same w1 g 5 _ 74 (.slice o1 1 k1) HY.out).trans (by simp), vs_kept (hKF _) (Nat.le_refl _) HV.out⟩, ?_⟩
    refine own_same (own_mono (Nat.le_of_eq HS.out.symm) HO1.out) fun b cs _ hh => Below.heap_setCell _ ⟨g, 5, none⟩ _ b (fun e => ?_)
    subst e
    rw [HY.out] at hh
    injection hh with hh
    injection hh with _ ht
    cases ht
end Go.Proofs.Ytdpgcoicbagflaa.Bi

set_option maxRecDepth 100000
set_option linter.unusedSimpArgs false
set_option linter.unusedVariables false
namespace Go.Proofs.Ytdpgcoicbagflaa.Bi
open Go Go.Ms Go.Pg Go.Bi Go.ChangeShapes Go.WideShapes Go.ChangeAt Go.RowKit Go.Deep

def Bools (w : World) (v : Value) (K : List Bool) : Prop := ∃ b o cap, v = .slice (some ⟨b, o, none⟩) K.length cap ∧ K.length ≤ 256 ∧ ∀ i (h : i < K.length), w.cell? ⟨b, o + i, none⟩ = some (.bool K[i])
def known (K : List Bool) (v : Nat) : Bool := K.getD v false
theorem known_cell {w : World} {b o : Nat} {K : List Bool} (h : ∀ i (h : i < K.length), w.cell? ⟨b, o + i, none⟩ = some (.bool K[i])) {v : Nat} (hv : v < K.length) : w.cell? ⟨b, o + v, none⟩ = some (.bool (known K v)) := by
  rw [h v hv]
  simp [known, List.getElem?_eq_getElem hv]
def numOf : Option Nat → Int
  | some v => v
  | none => -1

set_option maxHeartbeats 8000000 in
theorem betweenProg {w : World} {s : Value} {K : List Bool} {low high : Nat} (hs : Bools w s K) (hl : low ≤ high) (hh : high < K.length) :
    Calls Try.prog 32 #[.int .i64 (low : Int), .int .i64 (high : Int), s] w fun e w' => e = .returned (.int .i64 (numOf (near low high (known K)))) ∧ w' = w := by
  obtain ⟨b, o, cap, rfl, hK, hc⟩ := hs
  have HC := hide hc
  have HL := hide hl
  have HH := hide hh
  have w1 : IntKind.i64.wrap ((low : Int) + (high : Int)) = (low : Int) + (high : Int) := wrap_in (by omega) (by omega)
  obtain ⟨m, hm⟩ : ∃ m, m = (low + high) / 2 := ⟨_, rfl⟩
  have w2 : ((low : Int) + (high : Int)).tdiv 2 = (m : Int) := by rw [Int.tdiv_eq_ediv_of_nonneg (by omega)]; omega
  have w2' : IntKind.i64.wrap (m : Int) = (m : Int) := wrap_in (by omega) (by omega)
  obtain ⟨t, ht⟩ : ∃ t, t = high - low := ⟨_, rfl⟩
  have w3 : IntKind.i64.wrap ((high : Int) - (low : Int)) = (t : Int) := by rw [wrap_in (by omega) (by omega)]; omega
  have HM := hide hm
  have HT := hide ht
  have ht9 : t < 256 := by omega
  have hm9 : m < 256 := by omega
  have hnear : near low high (known K) = nearF low high (known K) (t + 1) 0 := by rw [near, ← ht]; exact (nearF_last hl t 0 (by omega)).symm
  rw [hnear]
  clear hc hl hh hm ht hnear
  go_enter Try.func32, Try.ntmps32
  go_wp2_with fail
  go_loopw [8] (fun s wr => ∃ k : Nat, k ≤ t + 1 ∧ s = .int .i64 (k : Int) ∧ Hid (nearF low high (known K) (t + 1 - k) k = nearF low high (known K) (t + 1) 0) ∧ wr = w) (fun s _ => t + 1 - (intOf s).toNat)
  case atStart => exact ⟨0, Nat.zero_le _, rfl, hide rfl, rfl⟩
  case round =>
    obtain ⟨k, hk, rfl, hr, rfl⟩ := hrel
    by_cases hlt : k ≤ t
    · have hi : (k : Int) ≤ (t : Int) := by omega
      have w4 : IntKind.i64.wrap ((k : Int) + 1) = (k : Int) + 1 := wrap_in (by omega) (by omega)
      obtain ⟨c1, h1⟩ : ∃ c1 : Int, c1 = (m : Int) + (k : Int) := ⟨_, rfl⟩
      obtain ⟨c2, h2⟩ : ∃ c2 : Int, c2 = (m : Int) - (k : Int) := ⟨_, rfl⟩
      have w5 : IntKind.i64.wrap ((m : Int) + (k : Int)) = c1 := by rw [wrap_in (by omega) (by omega), h1]
      have w6 : IntKind.i64.wrap ((m : Int) - (k : Int)) = c2 := by rw [wrap_in (by omega) (by omega), h2]
      have E1 := hide h1
      have E2 := hide h2
      clear h1 h2
      obtain ⟨j, hj⟩ : ∃ j, t + 1 - k = j + 1 := ⟨t - k, by omega⟩
      rw [hj] at hr
      have hj2 : t + 1 - (k + 1) = j := by omega
      have HR := hide hr.out
      have HJ := hide hj2
      clear hr hj hj2
      by_cases lo1 : (low : Int) < c1
      · by_cases hi1 : c1 < (high : Int)
        · obtain ⟨n1, hn1⟩ : ∃ n : Nat, c1 = (n : Int) := ⟨c1.toNat, by omega⟩
          have HN1 := hide hn1
          subst hn1
          have ta1 : decide (low < n1) = true := decide_eq_true (by omega)
          have tb1 : decide (n1 < high) = true := decide_eq_true (by omega)
          have HLO1 := hide lo1
          have HHI1 := hide hi1
          have ga1 : low < n1 := by omega
          have gb1 : n1 < high := by omega
          have gc1 : (n1 : Int) < (K.length : Int) := by have := HH.out; omega
          have f1 := known_cell HC.out (v := n1) (by have := HH.out; omega)
          clear lo1 hi1
          cases hp1 : known K n1 with
          | false =>
            rw [hp1] at f1
            have HP1 := hide hp1
            clear hp1
            go_wp2_with fail
            go_ret
            rw [← HR.out, nearF_some (nearAt_first (HM.out ▸ E1.out) ⟨HLO1.out, HHI1.out, by simpa using HP1.out⟩ rfl)]
            exact ⟨rfl, rfl⟩
          | true =>
            rw [hp1] at f1
            have HP1 := hide hp1
            clear hp1
            have NF1 : Hid (¬ Fits low high (known K) (n1 : Int)) := hide fun q => by have := q.2.2; rw [show Int.toNat (n1 : Int) = n1 from rfl, HP1.out] at this; cases this
            by_cases lo2 : (low : Int) < c2
            · by_cases hi2 : c2 < (high : Int)
              · obtain ⟨n2, hn2⟩ : ∃ n : Nat, c2 = (n : Int) := ⟨c2.toNat, by omega⟩
                have HN2 := hide hn2
                subst hn2
                have ta2 : decide (low < n2) = true := decide_eq_true (by omega)
                have tb2 : decide (n2 < high) = true := decide_eq_true (by omega)
                have HLO2 := hide lo2
                have HHI2 := hide hi2
                have ga2 : low < n2 := by omega
                have gb2 : n2 < high := by omega
                have gc2 : (n2 : Int) < (K.length : Int) := by have := HH.out; omega
                have f2 := known_cell HC.out (v := n2) (by have := HH.out; omega)
                clear lo2 hi2
                cases hp2 : known K n2 with
                | false =>
                  rw [hp2] at f2
                  have HP2 := hide hp2
                  clear hp2
                  go_wp2_with fail
                  go_ret
                  rw [← HR.out, nearF_some (nearAt_second (HM.out ▸ E1.out) (HM.out ▸ E2.out) NF1.out ⟨HLO2.out, HHI2.out, by simpa using HP2.out⟩ rfl)]
                  exact ⟨rfl, rfl⟩
                | true =>
                  rw [hp2] at f2
                  have HP2 := hide hp2
                  clear hp2
                  have NF2 : Hid (¬ Fits low high (known K) (n2 : Int)) := hide fun q => by have := q.2.2; rw [show Int.toNat (n2 : Int) = n2 from rfl, HP2.out] at this; cases this
                  go_wp2_with fail
                  refine ⟨⟨k + 1, by omega, by go_num, hide ?_, trivial⟩, by simp [intOf]; omega⟩
                  rw [HJ.out, ← HR.out, nearF_none (nearAt_none (HM.out ▸ E1.out) (HM.out ▸ E2.out) NF1.out NF2.out)]
              · have ga2 : (low : Int) < c2 := lo2
                have ta2 : decide ((low : Int) < c2) = true := decide_eq_true lo2
                have tb2 : decide (c2 < (high : Int)) = false := decide_eq_false hi2
                have NF2 : Hid (¬ Fits low high (known K) c2) := hide fun q => hi2 q.2.1
                clear hi2
                go_wp2_with fail
                refine ⟨⟨k + 1, by omega, by go_num, hide ?_, trivial⟩, by simp [intOf]; omega⟩
                rw [HJ.out, ← HR.out, nearF_none (nearAt_none (HM.out ▸ E1.out) (HM.out ▸ E2.out) NF1.out NF2.out)]
            · have ta2 : decide ((low : Int) < c2) = false := decide_eq_false lo2
              have NF2 : Hid (¬ Fits low high (known K) c2) := hide fun q => lo2 q.1
              clear lo2
              go_wp2_with fail
              refine ⟨⟨k + 1, by omega, by go_num, hide ?_, trivial⟩, by simp [intOf]; omega⟩
              rw [HJ.out, ← HR.out, nearF_none (nearAt_none (HM.out ▸ E1.out) (HM.out ▸ E2.out) NF1.out NF2.out)]
        · have ga1 : (low : Int) < c1 := lo1
          have ta1 : decide ((low : Int) < c1) = true := decide_eq_true lo1
          have tb1 : decide (c1 < (high : Int)) = false := decide_eq_false hi1
          have NF1 : Hid (¬ Fits low high (known K) c1) := hide fun q => hi1 q.2.1
          clear hi1
          by_cases lo2 : (low : Int) < c2
          · by_cases hi2 : c2 < (high : Int)
            · obtain ⟨n2, hn2⟩ : ∃ n : Nat, c2 = (n : Int) := ⟨c2.toNat, by omega⟩
              have HN2 := hide hn2
              subst hn2
              have ta2 : decide (low < n2) = true := decide_eq_true (by omega)
              have tb2 : decide (n2 < high) = true := decide_eq_true (by omega)
              have HLO2 := hide lo2
              have HHI2 := hide hi2
              have ga2 : low < n2 := by omega
              have gb2 : n2 < high := by omega
              have gc2 : (n2 : Int) < (K.length : Int) := by have := HH.out; omega
              have f2 := known_cell HC.out (v := n2) (by have := HH.out; omega)
              clear lo2 hi2
              cases hp2 : known K n2 with
              | false =>
                rw [hp2] at f2
                have HP2 := hide hp2
                clear hp2
                go_wp2_with fail
                go_ret
                rw [← HR.out, nearF_some (nearAt_second (HM.out ▸ E1.out) (HM.out ▸ E2.out) NF1.out ⟨HLO2.out, HHI2.out, by simpa using HP2.out⟩ rfl)]
                exact ⟨rfl, rfl⟩
              | true =>
                rw [hp2] at f2
                have HP2 := hide hp2
                clear hp2
                have NF2 : Hid (¬ Fits low high (known K) (n2 : Int)) := hide fun q => by have := q.2.2; rw [show Int.toNat (n2 : Int) = n2 from rfl, HP2.out] at this; cases this
                go_wp2_with fail
                refine ⟨⟨k + 1, by omega, by go_num, hide ?_, trivial⟩, by simp [intOf]; omega⟩
                rw [HJ.out, ← HR.out, nearF_none (nearAt_none (HM.out ▸ E1.out) (HM.out ▸ E2.out) NF1.out NF2.out)]
            · have ga2 : (low : Int) < c2 := lo2
              have ta2 : decide ((low : Int) < c2) = true := decide_eq_true lo2
              have tb2 : decide (c2 < (high : Int)) = false := decide_eq_false hi2
              have NF2 : Hid (¬ Fits low high (known K) c2) := hide fun q => hi2 q.2.1
              clear hi2
              go_wp2_with fail
              refine ⟨⟨k + 1, by omega, by go_num, hide ?_, trivial⟩, by simp [intOf]; omega⟩
              rw [HJ.out, ← HR.out, nearF_none (nearAt_none (HM.out ▸ E1.out) (HM.out ▸ E2.out) NF1.out NF2.out)]
          · have ta2 : decide ((low : Int) < c2) = false := decide_eq_false lo2
            have NF2 : Hid (¬ Fits low high (known K) c2) := hide fun q => lo2 q.1
            clear lo2
            go_wp2_with fail
            refine ⟨⟨k + 1, by omega, by go_num, hide ?_, trivial⟩, by simp [intOf]; omega⟩
            rw [HJ.out, ← HR.out, nearF_none (nearAt_none (HM.out ▸ E1.out) (HM.out ▸ E2.out) NF1.out NF2.out)]
      · have ta1 : decide ((low : Int) < c1) = false := decide_eq_false lo1
        have NF1 : Hid (¬ Fits low high (known K) c1) := hide fun q => lo1 q.1
        clear lo1
        by_cases lo2 : (low : Int) < c2
        · by_cases hi2 : c2 < (high : Int)
          · obtain ⟨n2, hn2⟩ : ∃ n : Nat, c2 = (n : Int) := ⟨c2.toNat, by omega⟩
            have HN2 := hide hn2
            subst hn2
            have ta2 : decide (low < n2) = true := decide_eq_true (by omega)
            have tb2 : decide (n2 < high) = true := decide_eq_true (by omega)
            have HLO2 := hide lo2
            have HHI2 := hide hi2
            have ga2 : low < n2 := by omega
            have gb2 : n2 < high := by omega
            have gc2 : (n2 : Int) < (K.length : Int) := by have := HH.out; omega
            have f2 := known_cell HC.out (v := n2) (by have := HH.out; omega)
            clear lo2 hi2
            cases hp2 : known K n2 with
            | false =>
              rw [hp2] at f2
              have HP2 := hide hp2
              clear hp2
              go_wp2_with fail
              go_ret
              rw [← HR.out, nearF_some (nearAt_second (HM.out ▸ E1.out) (HM.out ▸ E2.out) NF1.out ⟨HLO2.out, HHI2.out, by simpa using HP2.out⟩ rfl)]
              exact ⟨rfl, rfl⟩
            | true =>
              rw [hp2] at f2
              have HP2 := hide hp2
              clear hp2
              have NF2 : Hid (¬ Fits low high (known K) (n2 : Int)) := hide fun q => by have := q.2.2; rw [show Int.toNat (n2 : Int) = n2 from rfl, HP2.out] at this; cases this
              go_wp2_with fail
              refine ⟨⟨k + 1, by omega, by go_num, hide ?_, trivial⟩, by simp [intOf]; omega⟩
              rw [HJ.out, ← HR.out, nearF_none (nearAt_none (HM.out ▸ E1.out) (HM.out ▸ E2.out) NF1.out NF2.out)]
          · have ga2 : (low : Int) < c2 := lo2
            have ta2 : decide ((low : Int) < c2) = true := decide_eq_true lo2
            have tb2 : decide (c2 < (high : Int)) = false := decide_eq_false hi2
            have NF2 : Hid (¬ Fits low high (known K) c2) := hide fun q => hi2 q.2.1
            clear hi2
            go_wp2_with fail
            refine ⟨⟨k + 1, by omega, by go_num, hide ?_, trivial⟩, by simp [intOf]; omega⟩
            rw [HJ.out, ← HR.out, nearF_none (nearAt_none (HM.out ▸ E1.out) (HM.out ▸ E2.out) NF1.out NF2.out)]
        · have ta2 : decide ((low : Int) < c2) = false := decide_eq_false lo2
          have NF2 : Hid (¬ Fits low high (known K) c2) := hide fun q => lo2 q.1
          clear lo2
          go_wp2_with fail
          refine ⟨⟨k + 1, by omega, by go_num, hide ?_, trivial⟩, by simp [intOf]; omega⟩
          rw [HJ.out, ← HR.out, nearF_none (nearAt_none (HM.out ▸ E1.out) (HM.out ▸ E2.out) NF1.out NF2.out)]
    · obtain rfl : k = t + 1 := by omega
      rw [Nat.sub_self] at hr
      have HR := hide hr.out
      clear hr
      have hi : ¬ ((t + 1 : Nat) : Int) ≤ (t : Int) := by omega
      have hi2 : decide (((t : Int) + 1) ≤ (t : Int)) = false := decide_eq_false (by omega)
      go_wp2_with fail
      go_ret
      rw [← HR.out]
      exact ⟨rfl, rfl⟩
end Go.Proofs.Ytdpgcoicbagflaa.Bi

set_option maxRecDepth 100000
set_option linter.unusedSimpArgs false
set_option linter.unusedVariables false
namespace Go.Proofs.Ytdpgcoicbagflaa.Bi
open Go Go.Ms Go.Pg Go.Bi Go.ChangeShapes Go.WideShapes Go.ChangeAt Go.RowKit Go.Deep

theorem play_kept {w w' : World} {g u : Nat} {l : List Int} {st : Bool} {x : Value} (h : Play w g l u st x) (hB : Below w.heap.size w w') : Play w' g l u st x := by
  obtain ⟨an, hb, hv⟩ := h
  have hg := block_lt hb
  exact ⟨an, (hB.block g hg).trans hb, vs_kept (Keeps.of_below hg hB) (Nat.le_refl _) hv⟩
theorem play_lt {w : World} {g u : Nat} {l : List Int} {st : Bool} {x : Value} (h : Play w g l u st x) : g < w.heap.size := by
  obtain ⟨an, hb, _⟩ := h
  exact block_lt hb
theorem play_stop {w : World} {g u : Nat} {l : List Int} {st : Bool} {x : Value} (h : Play w g l u st x) : w.cell? ⟨g, 4, none⟩ = some (.bool st) := by
  obtain ⟨an, hb, _⟩ := h
  exact cell_of hb 4
def ToldR (g v : Nat) (w : World) (l : List Int) (x : Value) : Option (Int × List Int) → Ending → World → Prop
  | none, e, w' => e = .returned (.int .u8 0) ∧ Keeps g w w' ∧ ∃ x', Play w' g l l.length true x' ∧ Go.Il.Own 3 .i64 w.heap.size w' x' [(v : Int)]
  | some (y, r), e, w' => e = .returned (.int .u8 y) ∧ Keeps g w w' ∧ ∃ u, u ≤ l.length ∧ r = l.drop u ∧ Play w' g l u false x
theorem drop_next {l : List Int} {u : Nat} (h : u < l.length) : l.drop u = l[u] :: l.drop (u + 1) := List.drop_eq_getElem_cons h

set_option maxHeartbeats 8000000 in
theorem versionRef {w : World} {g v u : Nat} {z : Int} {l : List Int} {x : Value} (h : Play w g l u false x) (hu : u ≤ l.length) (hv : v < 256) :
    Calls Try.prog 30 #[.pointer (some ⟨g, 0, none⟩), .int .i64 (v : Int), .int .i64 z] w (ToldR g v w l x (ver (tries z) 3 (l.drop u))) := by
  have HP0 := hide h
  have HV := hide hv
  have HU0 := hide hu
  obtain ⟨M, hM⟩ : ∃ M, (if z < 1 then (1 : Int) else z) = M := ⟨_, rfl⟩
  have hT : (if 9 < M then (9 : Int) else M) = (tries z : Int) := by unfold tries; rw [← hM]; split <;> split <;> omega
  have h9 := (tries_pos z).2
  generalize tries z = T at *
  clear h hv hu
  go_enter Try.func30, Try.ntmps30
  go_wp2_with fail
  go_loopw [7, 8] (fun s i wr => ∃ (k : Nat) (y : Int) (n : Nat), k ≤ T ∧ s = .int .u8 y ∧ i = .int .i64 (k : Int) ∧ Hid (ver (T - k) y (l.drop n) = ver T 3 (l.drop u)) ∧ Hid (n ≤ l.length) ∧ Keeps g w wr ∧ Play wr g l n false x) (fun _ i _ => T - (intOf i).toNat)
  case atStart => exact ⟨0, 3, u, Nat.zero_le _, rfl, rfl, hide rfl, hide HU0.out, Keeps.refl g w, HP0.out⟩
  case round =>
    obtain ⟨k, y, n, hk, rfl, rfl, hr, HN, hK, hb⟩ := hrel
    have HK := hide hK
    have HB := hide hb
    clear hK hb
    by_cases hlt : k < T
    · have hi : (k : Int) < (T : Int) := by omega
      have hw : IntKind.i64.wrap ((k : Int) + 1) = (k : Int) + 1 := wrap_in (by omega) (by omega)
      obtain ⟨j, hj⟩ : ∃ j, T - k = j + 1 := ⟨T - k - 1, by omega⟩
      rw [hj] at hr
      have HJ : Hid (T - (k + 1) = j) := hide (by omega)
      have HR := hide hr.out
      have hsz := play_lt HB.out
      have HA := hide ((Below.refl wr.heap.size wr).alloc (Nat.le_refl _) (.cells #[.int .i64 (v : Int)] 3))
      have HPA := hide (play_kept HB.out HA.out)
      have HCB := hide (new_block wr (.cells #[.int .i64 (v : Int)] 3))
      clear hr hj
      by_cases hn : n < l.length
      · obtain ⟨a, ha⟩ : ∃ a, l[n] = a := ⟨_, rfl⟩
        rw [drop_next hn, ha] at HR
        have HNN := hide hn
        have HAA : Hid (∀ h, l[n]'h = a) := hide fun _ => ha
        clear hn ha
        go_wp2_with fail
        (with_reducible refine (nextSome (c := .slice (some ⟨wr.heap.size, 0, none⟩) 1 1) HPA.out HNN.out).mono ?_)
        rintro e w2 ⟨he, hk2, hp2⟩
        rw [HAA.out HNN.out] at he
        subst he
        have st := play_stop hp2
        have HK2 := hide (HK.out.trans ((Keeps.of_below hsz HA.out).trans hk2))
        have HP2 := hide hp2
        clear hk2 hp2
        by_cases a2 : a = 2
        · subst a2
          rw [ver_cons2] at HR
          have ec : counts 2 = 2 := rfl
          go_wp2_with fail
          go_ret
          rw [← HR.out]
          exact ⟨rfl, HK2.out, n + 1, HNN.out, rfl, HP2.out⟩
        · by_cases a1 : a = 1
          · subst a1
            rw [ver_cons1] at HR
            have ec : counts 1 = 1 := rfl
            go_wp2_with fail
            exact ⟨⟨k + 1, 1, n + 1, by omega, rfl, by go_num, hide (by rw [HJ.out, ← HR.out]), hide HNN.out, HK2.out, HP2.out⟩, by simp [intOf]; omega⟩
          · rw [ver_cons a2 a1] at HR
            have ec : counts a = 3 := by rw [counts, if_neg a1, if_neg a2]
            clear a1 a2
            go_wp2_with fail
            exact ⟨⟨k + 1, y, n + 1, by omega, rfl, by go_num, hide (by rw [HJ.out, ← HR.out]), hide HNN.out, HK2.out, HP2.out⟩, by simp [intOf]; omega⟩
      · obtain rfl : n = l.length := by have := HN.out; omega
        rw [List.drop_length] at HR
        clear hn
        go_wp2_with fail
        (with_reducible refine (nextNone HPA.out HV.out HCB.out).mono ?_)
        rintro e w2 ⟨rfl, hk2, x', hp2, ho2⟩
        have st := play_stop hp2
        have HK2 := hide (HK.out.trans ((Keeps.of_below hsz HA.out).trans hk2))
        have HP2 := hide hp2
        have HO2 := hide (own_mono (B' := w.heap.size) (by have := HK.out.below.size; simp; omega) ho2)
        clear hk2 hp2 ho2
        go_wp2_with fail
        go_ret
        rw [← HR.out]
        exact ⟨rfl, HK2.out, x', HP2.out, HO2.out⟩
    · obtain rfl : k = T := by omega
      rw [Nat.sub_self] at hr
      have HR := hide hr.out
      clear hr
      go_wp2_with fail
      go_ret
      rw [← HR.out]
      exact ⟨rfl, HK.out, n, HN.out, rfl, HB.out⟩
end Go.Proofs.Ytdpgcoicbagflaa.Bi

set_option maxRecDepth 100000
set_option linter.unusedSimpArgs false
set_option linter.unusedVariables false
namespace Go.Proofs.Ytdpgcoicbagflaa.Bi
open Go Go.Ms Go.Pg Go.Bi Go.ChangeShapes Go.WideShapes Go.ChangeAt Go.RowKit Go.Deep

set_option maxHeartbeats 4000000 in
theorem beginRef {w : World} {an : Value} {l : List Int} (h : Vs w w.heap.size an l) (hl : l.length ≤ 4096) :
    Calls Try.prog 29 #[an] w fun e w' => e = .returned (.tuple #[.pointer (some ⟨w.heap.size, 0, none⟩), .bool true]) ∧ Below w.heap.size w w' ∧ w'.heap.size = w.heap.size + 1 ∧ Play w' w.heap.size l 0 false nilV := by
  have HV := hide h
  obtain ⟨oa, cap, rfl, -, -, -⟩ := h
  have t1 : decide ((l.length : Int) ≤ 4096) = true := decide_eq_true (by omega)
  have t2 : decide (l.length ≤ 4096) = true := decide_eq_true hl
  go_enter Try.func29, Try.ntmps29
  go_wp2_with fail
  go_ret2
  exact ⟨rfl, (Below.refl _ _).alloc (Nat.le_refl _) _, by simp, _, new_block w _, vs_wide HV.out ((Below.refl _ _).alloc (Nat.le_refl _) _) (Nat.le_refl _)⟩

set_option maxHeartbeats 4000000 in
theorem endStop {w : World} {g u : Nat} {l : List Int} {e0 : Int} {ow : Option Addr} {nw cw : Nat} {kept pass : Value} (h : Play w g l u true (.slice ow nw cw)) :
    Calls Try.prog 31 #[.pointer (some ⟨g, 0, none⟩), .int .i64 e0, kept, pass] w fun e w' => e = .returned (.tuple #[questV false (.slice ow nw cw) nilV nilV, .int .i64 0]) ∧ Below w.heap.size w w' := by
  obtain ⟨an, hb, hv⟩ := h
  have hg := block_lt hb
  have c4 : w.cell? ⟨g, 4, none⟩ = some (.bool true) := cell_of hb 4
  have c5 : w.cell? ⟨g, 5, none⟩ = some (.slice ow nw cw) := cell_of hb 5
  clear hb hv
  go_enter Try.func31, Try.ntmps31
  go_wp2_with fail
  refine bodyPost_ret (v := .tuple #[questV false (.slice ow nw cw) nilV nilV, .int .i64 0]) (by simp [results, Try.results31, go_sem]) rfl ?_
  exact ⟨rfl, (Below.refl _ _).alloc (Nat.le_refl _) _⟩

set_option maxHeartbeats 4000000 in
theorem endErr {w : World} {g u : Nat} {l : List Int} {e0 : Int} {x : Value} {kept pass : Value} (h : Play w g l u false x) (he : e0 ≠ 0) :
    Calls Try.prog 31 #[.pointer (some ⟨g, 0, none⟩), .int .i64 e0, kept, pass] w fun e w' => e = .returned (.tuple #[questV false nilV nilV nilV, .int .i64 e0]) ∧ Below w.heap.size w w' := by
  obtain ⟨an, hb, hv⟩ := h
  have hg := block_lt hb
  have c4 : w.cell? ⟨g, 4, none⟩ = some (.bool false) := cell_of hb 4
  have t : (e0 == (0 : Int)) = false := beq_false_of_ne he
  clear hb hv he
  go_enter Try.func31, Try.ntmps31
  go_wp2_with fail
  refine bodyPost_ret (v := .tuple #[questV false nilV nilV nilV, .int .i64 e0]) (by simp [results, Try.results31, go_sem]) rfl ?_
  exact ⟨rfl, (Below.refl _ _).alloc (Nat.le_refl _) _⟩

set_option maxHeartbeats 4000000 in
theorem endDone {w : World} {g u : Nat} {l : List Int} {x : Value} {ok : Option Addr} {nk ck : Nat} (h : Play w g l u false x) (hu : u ≤ l.length) :
    Calls Try.prog 31 #[.pointer (some ⟨g, 0, none⟩), .int .i64 0, .slice ok nk ck, nilV] w fun e w' =>
      e = .returned (.tuple (if u < l.length then #[questV false nilV nilV nilV, .int .i64 8] else #[questV true nilV (.slice ok nk ck) nilV, .int .i64 0])) ∧ Below w.heap.size w w' := by
  obtain ⟨an, hb, hv⟩ := h
  have hg := block_lt hb
  obtain ⟨oa, cap, rfl, hlc, hl, -⟩ := hv
  have c0 : w.cell? ⟨g, 0, none⟩ = some (.slice oa l.length cap) := cell_of hb 0
  have c1 : w.cell? ⟨g, 1, none⟩ = some (.int .i64 (u : Int)) := cell_of hb 1
  have c4 : w.cell? ⟨g, 4, none⟩ = some (.bool false) := cell_of hb 4
  clear hb
  by_cases hlt : u < l.length
  · have t1 : decide ((u : Int) < (l.length : Int)) = true := decide_eq_true (by omega)
    have t2 : decide (u < l.length) = true := decide_eq_true hlt
    have HLT := hide hlt
    clear hlt
    go_enter Try.func31, Try.ntmps31
    go_wp2_with fail
    go_quiet (fail)
    go_wp2_with fail
    refine bodyPost_ret (v := .tuple #[questV false nilV nilV nilV, .int .i64 8]) (by simp [results, Try.results31, go_sem]) rfl ?_
    have hA := (Below.refl w.heap.size w).alloc (Nat.le_refl _) (boxQ false nilV nilV nilV)
    have hB := hA.trans (belowN w.heap.size _ nq)
    first
      | exact ⟨rfl, putQ_below hB (Nat.le_refl _)⟩
      | exact ⟨rfl, hB⟩
      | exact ⟨rfl, hA⟩
  · have t1 : decide ((u : Int) < (l.length : Int)) = false := decide_eq_false (by omega)
    have t2 : decide (u < l.length) = false := decide_eq_false hlt
    have HLT := hide hlt
    clear hlt
    go_enter Try.func31, Try.ntmps31
    go_wp2_with fail
    go_quiet (fail)
    go_wp2_with fail
    refine bodyPost_ret (v := .tuple #[questV true nilV (.slice ok nk ck) nilV, .int .i64 0]) (by simp [results, Try.results31, go_sem]) rfl ?_
    have hA := (Below.refl w.heap.size w).alloc (Nat.le_refl _) (boxQ false nilV nilV nilV)
    have hB := hA.trans (belowN w.heap.size _ nq)
    first
      | exact ⟨rfl, putQ_below hB (Nat.le_refl _)⟩
      | exact ⟨rfl, hB⟩
      | exact ⟨rfl, hA⟩
end Go.Proofs.Ytdpgcoicbagflaa.Bi

