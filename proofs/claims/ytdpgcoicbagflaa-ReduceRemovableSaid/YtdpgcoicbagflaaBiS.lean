import Derived.Test.YtdpgcoicbagflaaBiQ
set_option maxRecDepth 100000
set_option linter.unusedSimpArgs false
set_option linter.unusedVariables false
namespace Go.Proofs.Ytdpgcoicbagflaa.Bi
open Go Go.Ms Go.Pg Go.Bi Go.ChangeShapes Go.WideShapes Go.ChangeAt Go.RowKit Go.Deep

theorem ints_below {w w' : World} {v : Value} {l : List Int} (h : IntsW w v l) (hB : Below w.heap.size w w') : IntsW w' v l := by
  obtain ⟨oa, cap, rfl, hl, q⟩ := h
  refine ⟨oa, cap, rfl, hl, fun i hi => ?_⟩
  obtain ⟨b, o, e, hc⟩ := q i hi
  exact ⟨b, o, e, cell_old hB hc⟩
theorem ints_drewN {w : World} {v : Value} {l : List Int} (h : IntsW w v l) (n : Nat) : IntsW (w.drewN n) v l := h
theorem ints_nil (w : World) : IntsW w nilV [] := ⟨none, 0, rfl, by simp, fun i hi => by simp at hi⟩
theorem ints_own {w : World} {B : Nat} {v : Value} {l : List Int} (h : Go.Il.Own 3 .i64 B w v l) (hl : l.length ≤ 1000000) : IntsW w v l := by
  obtain ⟨oa, cap, rfl, hc⟩ := h.at
  refine ⟨oa, cap, rfl, by omega, fun i hi => ?_⟩
  obtain ⟨g, e, hcell⟩ := hc i hi
  exact ⟨g, 0, e, by simpa using hcell⟩
theorem ints_two {w : World} {b : Nat} {x y : Int} (h : w.heap[b]? = some (.cells #[.int .i64 x, .int .i64 y] 3 (0, 0))) : IntsW w (.slice (some ⟨b, 0, none⟩) 2 2) [x, y] := by
  refine ⟨_, _, rfl, by simp, fun i hi => ⟨b, 0, rfl, ?_⟩⟩
  have hi2 : i = 0 ∨ i = 1 := by simp at hi; omega
  rcases hi2 with rfl | rfl
  · exact cell_of h 0
  · exact cell_of h 1
theorem intsSame {w : World} {s t : Value} {l : List Int} (hs : IntsW w s l) (ht : IntsW w t l) : Calls Try.prog 33 #[s, t] w fun e w' => e = .returned (.bool true) ∧ ∃ n, w' = w.drewN n :=
  (intsRef hs ht).mono fun e w' q => by
    obtain ⟨r, h1, h2, h3⟩ := q
    rw [h2.2 rfl] at h1
    exact ⟨h1, h3⟩

set_option maxHeartbeats 4000000 in
theorem sameQuest {w : World} {d : Bool} {s1 s2 s3 t1 t2 t3 : Value} {l1 l2 l3 : List Int} (h1 : IntsW w s1 l1) (h2 : IntsW w s2 l2) (h3 : IntsW w s3 l3) (k1 : IntsW w t1 l1) (k2 : IntsW w t2 l2) (k3 : IntsW w t3 l3) :
    Calls Try.prog 9 #[questV d s1 s2 s3, questV d t1 t2 t3] w fun e w' => e = .returned (.bool true) ∧ Below w.heap.size w w' := by
  have hB : Below w.heap.size w ((w.alloc (boxQ d s1 s2 s3)).alloc (boxQ d t1 t2 t3)) := ((Below.refl _ _).alloc (Nat.le_refl _) _).alloc (by simp) _
  have HB := hide hB
  have H1 := hide (ints_below h1 hB)
  have H2 := hide (ints_below h2 hB)
  have H3 := hide (ints_below h3 hB)
  have K1 := hide (ints_below k1 hB)
  have K2 := hide (ints_below k2 hB)
  have K3 := hide (ints_below k3 hB)
  obtain ⟨o1, p1, rfl, -⟩ := h1
  obtain ⟨o2, p2, rfl, -⟩ := h2
  obtain ⟨o3, p3, rfl, -⟩ := h3
  obtain ⟨q1, r1, rfl, -⟩ := k1
  obtain ⟨q2, r2, rfl, -⟩ := k2
  obtain ⟨q3, r3, rfl, -⟩ := k3
  have hd : (d == d) = true := by simp
  clear hB
  go_enter Try.func9, Try.ntmps9
  go_wp2_with fail
  (with_reducible refine (intsSame H1.out K1.out).mono ?_)
  rintro e w1 ⟨rfl, n1, rfl⟩
  go_wp2_with fail
  (with_reducible refine (intsSame (ints_drewN H2.out n1) (ints_drewN K2.out n1)).mono ?_)
  rintro e w2 ⟨rfl, n2, rfl⟩
  go_wp2_with fail
  (with_reducible refine (intsSame (ints_drewN H3.out _) (ints_drewN K3.out _)).mono ?_)
  rintro e w3 ⟨rfl, n3, rfl⟩
  go_wp2_with fail
  go_ret
  first
    | exact ⟨rfl, HB.out.trans (belowN _ _ _)⟩
    | exact ⟨rfl, (HB.out.trans (belowN _ _ _)).trans (belowN _ _ _)⟩
end Go.Proofs.Ytdpgcoicbagflaa.Bi
