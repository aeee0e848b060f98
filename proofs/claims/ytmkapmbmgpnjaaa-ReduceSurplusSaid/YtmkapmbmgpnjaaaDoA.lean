import Derived.Test.YtmkapmbmgpnjaaaDmL
import Derived.Test.YtmkapmbmgpnjaaaDmT
import Derived.Test.YtmkapmbmgpnjaaaDsM
import Derived.Test.YtmkapmbmgpnjaaaDcH
import Derived.Test.YtmkapmbmgpnjaaaDlI
set_option maxRecDepth 100000
set_option linter.unusedSimpArgs false
set_option linter.unusedVariables false
namespace Go.Proofs.Ytmkapmbmgpnjaaa.Se
open Go Go.Ms Go.Pg Go.Bi Go.Se Go.ChangeShapes Go.WideShapes Go.ChangeAt Go.RowKit Go.Deep Go.Proofs.Ytmkapmbmgpnjaaa.Bi

/-! Any of the four searches. -/
structure Search (wh z st : Int) (N : Nat) (o : Q4 → Int) (t : Tr) : Prop where
  asks : Asker wh z st t
  low : Asks (LowQ N) t
  first : ∃ q k, t = .ask q k
  ended : (∃ k p, leaf o t [] = .fin k p []) ∨ leaf o t [] = .err 7
theorem least_ended {o : Q4 → Int} {n : Nat} {t : Tr} (h : Least o n t) : (∃ k p, leaf o t [] = .fin k p []) ∨ leaf o t [] = .err 7 := by
  rcases h with ⟨-, k, h, -⟩ | ⟨-, h⟩
  · exact .inl ⟨_, _, h⟩
  · exact .inr h
theorem search_of {wh : Nat} {z st : Int} {N : Nat} {o : Q4 → Int} (h4 : wh < 4) (hz : z ≤ 256) (hN : max z 0 = (N : Int)) : ∃ t, Search (wh : Int) z st N o t := by
  obtain ⟨q, hq⟩ : ∃ q : Nat, min (max st 1) 256 = (q : Int) := ⟨(min (max st 1) 256).toNat, by omega⟩
  have hn : N ≤ 256 := by omega
  rcases (show wh = 0 ∨ wh = 1 ∨ wh = 2 ∨ wh = 3 by omega) with rfl | rfl | rfl | rfl
  · exact ⟨listN N, fun W an l hv hl hwf => askList (by omega) hN hv hl hwf, asks_listN hn, ⟨_, _, rfl⟩, least_ended (listN_leaf hn [])⟩
  · exact ⟨countN N q (lastOf q), fun W an l hv hl hwf => askCount (by omega) hN hq hv hl hwf, asks_countN N q (lastOf q), ⟨_, _, rfl⟩, least_ended (countN_leaf (start_of (by omega) (by omega)) hn [])⟩
  · exact ⟨diff N, fun W an l hv hl hwf => askDiff (by omega) hN hv hl hwf, asks_diff N, ⟨_, _, rfl⟩, by
      rcases diff_leaf (o := o) hn [] with ⟨-, -, b, h, -⟩ | ⟨-, h⟩
      · exact .inl ⟨_, _, h⟩
      · exact .inr h⟩
  · exact ⟨changesN N, fun W an l hv hl hwf => askChanges (by omega) hN hv hl hwf, asks_changesN hn, ⟨_, _, rfl⟩, least_ended (changesN_leaf hn [])⟩
theorem Search.some {wh z st : Int} {N : Nat} {o : Q4 → Int} {t : Tr} (h : Search wh z st N o t) : 0 < (trace o t []).length := by
  obtain ⟨q, k, rfl⟩ := h.first
  have e : trace o (.ask q k) [] = q :: trace o (k (o q)) [(q, o q)] := rfl
  rw [e]
  simp
theorem Search.sane {wh z st : Int} {N : Nat} {o : Q4 → Int} {t : Tr} (h : Search wh z st N o t) : leaf o t [] ≠ .err 0 := by
  rcases h.ended with ⟨k, p, e⟩ | e <;> rw [e] <;> intro q <;> cases q
theorem upTo_inj {q r : Q4} (hq : q.Ok) (hr : r.Ok) (h : upTo (memQ q) 256 = upTo (memQ r) 256) : q = r := by
  refine mem_ext hq hr fun n hn => ?_
  have e : memQ q n = true ↔ memQ r n = true := by
    have h1 : ((n : Int) ∈ upTo (memQ q) 256) ↔ ((n : Int) ∈ upTo (memQ r) 256) := by rw [h]
    rw [mem_upTo, mem_upTo] at h1
    constructor
    · intro hm
      obtain ⟨i, _, hi, e⟩ := h1.1 ⟨n, hn, hm, rfl⟩
      rw [show n = i from by omega]
      exact hi
    · intro hm
      obtain ⟨i, _, hi, e⟩ := h1.2 ⟨n, hn, hm, rfl⟩
      rw [show n = i from by omega]
      exact hi
  cases h1 : memQ q n <;> cases h2 : memQ r n <;> simp_all
theorem leaf_at {o : Q4 → Int} : ∀ (t : Tr) (l : List Int), (∃ k p, leaf o t [] = .fin k p [] ∧ leaf o t l = .fin k p l) ∨ (∃ x, leaf o t [] = .err x ∧ leaf o t l = .err x)
  | .fin k p, l => .inl ⟨k, p, rfl, rfl⟩
  | .err x, l => .inr ⟨x, rfl, rfl⟩
  | .ask q k, l => leaf_at (k (o q)) l
abbrev askedL (o : Q4 → Int) (t : Tr) : List (List Int) := (trace o t []).map fun q => upTo (memQ q) 256
theorem asked_apart {wh z st : Int} {N : Nat} {o : Q4 → Int} {t : Tr} (h : Search wh z st N o t) {i k : Nat} (hi : i < (askedL o t).length) (hk : k < (askedL o t).length) (hne : k < i) : (askedL o t)[i] ≠ (askedL o t)[k] := by
  have hi2 : i < (trace o t []).length := by simpa using hi
  have hk2 : k < (trace o t []).length := by simpa using hk
  intro e
  rw [List.getElem_map, List.getElem_map] at e
  have l := trace_asks (o := o) h.low (T := [])
  have e2 := upTo_inj (l _ (List.getElem_mem hi2)).ok (l _ (List.getElem_mem hk2)).ok e
  have := List.pairwise_iff_getElem.1 (List.nodup_iff_pairwise_ne.1 (trace_nodup (o := o) (t := t) (T := [])).1) k i hk2 hi2 hne
  exact this e2.symm
theorem upTo_len (q : Q4) : (upTo (memQ q) 256).length ≤ 256 := by
  unfold upTo
  rw [List.length_map]
  exact Nat.le_trans (List.length_filter_le _ _) (by simp)
end Go.Proofs.Ytmkapmbmgpnjaaa.Se
