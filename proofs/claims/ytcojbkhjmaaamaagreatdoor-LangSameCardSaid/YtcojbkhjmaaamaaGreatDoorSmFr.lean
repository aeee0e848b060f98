import Derived.Test.YtcojbkhjmaaamaaGreatDoorSmDa0
import Derived.Test.YtcojbkhjmaaamaaGreatDoorSmDa1
import Derived.Test.YtcojbkhjmaaamaaGreatDoorSmDa2
import Derived.Test.YtcojbkhjmaaamaaGreatDoorSmDa3
import Derived.Test.YtcojbkhjmaaamaaGreatDoorSmDa4
import Derived.Test.YtcojbkhjmaaamaaGreatDoorSmDa5
import Derived.Test.YtcojbkhjmaaamaaGreatDoorSmDa6
import Derived.Test.YtcojbkhjmaaamaaGreatDoorSmDa7
set_option maxRecDepth 1000000
namespace Go.Proofs.YtcojbkhjmaaamaaGreatDoor.Sm
open Go Go.Pg Go.ChangeShapes Go.WideShapes Go.ChangeAt Go.RowKit Go.Deep

set_option maxHeartbeats 100000000 in
theorem refNodes_succ {n : Nat} (ih : ReadsAt 30 n) : ReadsAt 30 (n + 1) := by
  intro w va vb l m ha hb
  obtain ⟨oa, ca, rfl, hlm, ha⟩ := ha
  obtain ⟨ob, cb, rfl, _, hb⟩ := hb
  have A : Hid (ReadsAt 30 n) := ih
  clear ih
  unfold maxLen at hlm
  go_enter Tryz.func30, Tryz.ntmps30
  go_wp2_with fail
  · have hq : ((l.length : Int) != (m.length : Int)) = true := by assumption
    go_ret
    exact ⟨by rw [eqB_false (ne_of_length hq)]; rfl, 0, rfl⟩
  · have hq : ((l.length : Int) != (m.length : Int)) = false := by assumption
    have hlen : Hid (l.length = m.length) := length_of hq
    generalize ((l.length : Int) != (m.length : Int)) = bq at *
    subst hq
    go_loopw [5] (fun i wr => ∃ k : Nat, k ≤ l.length ∧ i = .int .i64 k ∧ (∀ j, j < k → l[j]? = m[j]?) ∧ ∃ q, wr = w.drewN q) (fun i _ => l.length - (intOf i).toNat)
    case atStart => exact ⟨0, Nat.zero_le _, rfl, fun j h => by omega, 0, rfl⟩
    case round =>
      obtain ⟨k, hk, rfl, hp, q0, rfl⟩ := hrel
      have P : Hid (∀ j, j < k → l[j]? = m[j]?) := hp
      clear hp
      by_cases hlt : k < l.length
      · obtain ⟨b1, o1, s1, p1, y1, e1, rfl, N1⟩ := ha k hlt
        have hlt2 : k < m.length := by have := hlen.out; omega
        obtain ⟨b2, o2, s2, p2, y2, e2, rfl, N2⟩ := hb k hlt2
        have M1 := N1
        have M2 := N2
        have hi1 : (k : Int) < (l.length : Int) := by omega
        have hi2 : (k : Int) < (m.length : Int) := by omega
        clear ha hb N1 N2
        obtain ⟨x1, c1, rfl⟩ := M1.ksubs.slice
        obtain ⟨x2, c2, rfl⟩ := M1.kparams.slice
        obtain ⟨x3, c3, rfl⟩ := M1.kbody.slice
        obtain ⟨x4, c4, rfl⟩ := M1.kels.slice
        obtain ⟨z1, d1, rfl⟩ := M2.ksubs.slice
        obtain ⟨z2, d2, rfl⟩ := M2.kparams.slice
        obtain ⟨z3, d3, rfl⟩ := M2.kbody.slice
        obtain ⟨z4, d4, rfl⟩ := M2.kels.slice
        have f1 := M1.kind
        have f2 := M1.text
        have f3 := M1.num
        have f4 := M1.subs
        have f5 := M1.params
        have f6 := M1.body
        have f7 := M1.els
        have g1 := M2.kind
        have g2 := M2.text
        have g3 := M2.num
        have g4 := M2.subs
        have g5 := M2.params
        have g6 := M2.body
        have g7 := M2.els
        have MM : Hid (NodeAt w (NodesAt w n) b1 (o1 + k * 7) l[k] _ _ _ _ ∧ NodeAt w (NodesAt w n) b2 (o2 + k * 7) m[k] _ _ _ _) := ⟨M1, M2⟩
        clear M1 M2
        go_wp2_with fail
        by_cases c0 : l[k].kind = m[k].kind
        · by_cases c1 : l[k].text = m[k].text
          · by_cases c2 : l[k].num = m[k].num
            · by_cases c3 : l[k].params = m[k].params
              · by_cases c4 : l[k].subs = m[k].subs
                · by_cases c5 : l[k].body = m[k].body
                  · by_cases c6 : l[k].els = m[k].els
                    · refine arm7 A.out hlt hlt2 MM.out.1 MM.out.2 c0 c1 c2 c3 c4 c5 c6 ?_
                      have HA : Hid (l[k] = m[k]) := Nd.eq_iff.2 ⟨c0, c1, c2, c3, c4, c5, c6⟩
                      clear c0 c1 c2 c3 c4 c5 c6 f1 f2 f3 f4 f5 f6 f7 g1 g2 g3 g4 g5 g6 g7 MM A
                      intro v17 v18 v19 v20 v21 v22 v23 v24 v25 v26 v27 v28 v29 v30 v31 v32 v33 v34 v35 v36 v37 v38 v39 v40 v41 v42 v43 v44 v45 v46 v47 v48 v49 v50 v51 v52 v53 v54 v55 v56 v57 v58 v59 v60 v61 v62 v63 v64 v65 v66 v67 v68 v69 v70 v71 v72 v73 v74 v75 v76 v77 v78 v79 v80 v81 v82 v83 v84 v85 v86 v87 v88 v89 v90 v91 v92 v93 v94 v95 v96 v97 v98 v99 v100 v101 v102 v103 v104 v105 v106 v107 v108 q
                      go_wp2_with fail
                      go_roundw
                      case rel => exact ⟨k + 1, by omega, by go_num, get_succ P.out hlt hlt2 HA.out, q, rfl⟩
                      case measure => simp [intOf]; omega
                    · refine arm6 A.out hlt hlt2 MM.out.1 MM.out.2 c0 c1 c2 c3 c4 c5 c6 ?_
                      have HN : Hid (¬ l[k] = m[k]) := fun h => c6 (congrArg Nd.els h)
                      clear c0 c1 c2 c3 c4 c5 c6 f1 f2 f3 f4 f5 f6 f7 g1 g2 g3 g4 g5 g6 g7 MM A
                      intro v17 v18 v19 v20 v21 v22 v23 v24 v25 v26 v27 v28 v29 v30 v31 v32 v33 v34 v35 v36 v37 v38 v39 v40 v41 v42 v43 v44 v45 v46 v47 v48 v49 v50 v51 v52 v53 v54 v55 v56 v57 v58 v59 v60 v61 v62 v63 v64 v65 v66 v67 v68 v69 v70 v71 v72 v73 v74 v75 v76 v77 v78 v79 v80 v81 v82 v83 v84 v85 v86 v87 v88 v89 v90 v91 v92 v93 v94 v95 v96 v97 v98 v99 v100 v101 v102 v103 v104 v105 v106 v107 v108 q
                      go_wp2_with fail
                      go_ret
                      exact ⟨by rw [eqB_false (ne_of_get hlt hlt2 HN.out)]; rfl, q, rfl⟩
                  · refine arm5 A.out hlt hlt2 MM.out.1 MM.out.2 c0 c1 c2 c3 c4 c5 ?_
                    have HN : Hid (¬ l[k] = m[k]) := fun h => c5 (congrArg Nd.body h)
                    clear c0 c1 c2 c3 c4 c5 f1 f2 f3 f4 f5 f6 f7 g1 g2 g3 g4 g5 g6 g7 MM A
                    intro v17 v18 v19 v20 v21 v22 v23 v24 v25 v26 v27 v28 v29 v30 v31 v32 v33 v34 v35 v36 v37 v38 v39 v40 v41 v42 v43 v44 v45 v46 v47 v48 v49 v50 v51 v52 v53 v54 v55 v56 v57 v58 v59 v60 v61 v62 v63 v64 v65 v66 v67 v68 v69 v70 v71 v72 v73 v74 v75 v76 v77 v78 v79 v80 v81 v82 v83 v84 v85 v86 v87 v88 v89 v90 v91 v92 v93 v94 v95 v96 v97 v98 v99 v100 v101 v102 v103 v104 v105 v106 v107 v108 q
                    go_wp2_with fail
                    go_ret
                    exact ⟨by rw [eqB_false (ne_of_get hlt hlt2 HN.out)]; rfl, q, rfl⟩
                · refine arm4 A.out hlt hlt2 MM.out.1 MM.out.2 c0 c1 c2 c3 c4 ?_
                  have HN : Hid (¬ l[k] = m[k]) := fun h => c4 (congrArg Nd.subs h)
                  clear c0 c1 c2 c3 c4 f1 f2 f3 f4 f5 f6 f7 g1 g2 g3 g4 g5 g6 g7 MM A
                  intro v17 v18 v19 v20 v21 v22 v23 v24 v25 v26 v27 v28 v29 v30 v31 v32 v33 v34 v35 v36 v37 v38 v39 v40 v41 v42 v43 v44 v45 v46 v47 v48 v49 v50 v51 v52 v53 v54 v55 v56 v57 v58 v59 v60 v61 v62 v63 v64 v65 v66 v67 v68 v69 v70 v71 v72 v73 v74 v75 v76 v77 v78 v79 v80 v81 v82 v83 v84 v85 v86 v87 v88 v89 v90 v91 v92 v93 v94 v95 v96 v97 v98 v99 v100 v101 v102 v103 v104 v105 v106 v107 v108 q
                  go_wp2_with fail
                  go_ret
                  exact ⟨by rw [eqB_false (ne_of_get hlt hlt2 HN.out)]; rfl, q, rfl⟩
              · refine arm3 A.out hlt hlt2 MM.out.1 MM.out.2 c0 c1 c2 c3 ?_
                have HN : Hid (¬ l[k] = m[k]) := fun h => c3 (congrArg Nd.params h)
                clear c0 c1 c2 c3 f1 f2 f3 f4 f5 f6 f7 g1 g2 g3 g4 g5 g6 g7 MM A
                intro v17 v18 v19 v20 v21 v22 v23 v24 v25 v26 v27 v28 v29 v30 v31 v32 v33 v34 v35 v36 v37 v38 v39 v40 v41 v42 v43 v44 v45 v46 v47 v48 v49 v50 v51 v52 v53 v54 v55 v56 v57 v58 v59 v60 v61 v62 v63 v64 v65 v66 v67 v68 v69 v70 v71 v72 v73 v74 v75 v76 v77 v78 v79 v80 v81 v82 v83 v84 v85 v86 v87 v88 v89 v90 v91 v92 v93 v94 v95 v96 v97 v98 v99 v100 v101 v102 v103 v104 v105 v106 v107 v108 q
                go_wp2_with fail
                go_ret
                exact ⟨by rw [eqB_false (ne_of_get hlt hlt2 HN.out)]; rfl, q, rfl⟩
            · refine arm2 A.out hlt hlt2 MM.out.1 MM.out.2 c0 c1 c2 ?_
              have HN : Hid (¬ l[k] = m[k]) := fun h => c2 (congrArg Nd.num h)
              clear c0 c1 c2 f1 f2 f3 f4 f5 f6 f7 g1 g2 g3 g4 g5 g6 g7 MM A
              intro v17 v18 v19 v20 v21 v22 v23 v24 v25 v26 v27 v28 v29 v30 v31 v32 v33 v34 v35 v36 v37 v38 v39 v40 v41 v42 v43 v44 v45 v46 v47 v48 v49 v50 v51 v52 v53 v54 v55 v56 v57 v58 v59 v60 v61 v62 v63 v64 v65 v66 v67 v68 v69 v70 v71 v72 v73 v74 v75 v76 v77 v78 v79 v80 v81 v82 v83 v84 v85 v86 v87 v88 v89 v90 v91 v92 v93 v94 v95 v96 v97 v98 v99 v100 v101 v102 v103 v104 v105 v106 v107 v108 q
              go_wp2_with fail
              go_ret
              exact ⟨by rw [eqB_false (ne_of_get hlt hlt2 HN.out)]; rfl, q, rfl⟩
          · refine arm1 A.out hlt hlt2 MM.out.1 MM.out.2 c0 c1 ?_
            have HN : Hid (¬ l[k] = m[k]) := fun h => c1 (congrArg Nd.text h)
            clear c0 c1 f1 f2 f3 f4 f5 f6 f7 g1 g2 g3 g4 g5 g6 g7 MM A
            intro v17 v18 v19 v20 v21 v22 v23 v24 v25 v26 v27 v28 v29 v30 v31 v32 v33 v34 v35 v36 v37 v38 v39 v40 v41 v42 v43 v44 v45 v46 v47 v48 v49 v50 v51 v52 v53 v54 v55 v56 v57 v58 v59 v60 v61 v62 v63 v64 v65 v66 v67 v68 v69 v70 v71 v72 v73 v74 v75 v76 v77 v78 v79 v80 v81 v82 v83 v84 v85 v86 v87 v88 v89 v90 v91 v92 v93 v94 v95 v96 v97 v98 v99 v100 v101 v102 v103 v104 v105 v106 v107 v108 q
            go_wp2_with fail
            go_ret
            exact ⟨by rw [eqB_false (ne_of_get hlt hlt2 HN.out)]; rfl, q, rfl⟩
        · refine arm0 A.out hlt hlt2 MM.out.1 MM.out.2 c0 ?_
          have HN : Hid (¬ l[k] = m[k]) := fun h => c0 (congrArg Nd.kind h)
          clear c0 f1 f2 f3 f4 f5 f6 f7 g1 g2 g3 g4 g5 g6 g7 MM A
          intro v17 v18 v19 v20 v21 v22 v23 v24 v25 v26 v27 v28 v29 v30 v31 v32 v33 v34 v35 v36 v37 v38 v39 v40 v41 v42 v43 v44 v45 v46 v47 v48 v49 v50 v51 v52 v53 v54 v55 v56 v57 v58 v59 v60 v61 v62 v63 v64 v65 v66 v67 v68 v69 v70 v71 v72 v73 v74 v75 v76 v77 v78 v79 v80 v81 v82 v83 v84 v85 v86 v87 v88 v89 v90 v91 v92 v93 v94 v95 v96 v97 v98 v99 v100 v101 v102 v103 v104 v105 v106 v107 v108 q
          go_wp2_with fail
          go_ret
          exact ⟨by rw [eqB_false (ne_of_get hlt hlt2 HN.out)]; rfl, q, rfl⟩
      · go_wp2_with fail
        go_ret
        have : k = l.length := by omega
        subst this
        exact ⟨by rw [eqB_true (eq_of_get hlen.out P.out)]; rfl, q0, rfl⟩
end Go.Proofs.YtcojbkhjmaaamaaGreatDoor.Sm

set_option maxRecDepth 100000
namespace Go.Proofs.YtcojbkhjmaaamaaGreatDoor.Sm
open Go Go.Pg Go.ChangeShapes Go.WideShapes Go.ChangeAt Go.RowKit Go.Deep

theorem refNodes : ∀ n, ReadsAt 30 n
  | 0 => fun _ _ _ _ _ h => h.elim
  | n + 1 => refNodes_succ (refNodes n)
end Go.Proofs.YtcojbkhjmaaamaaGreatDoor.Sm

set_option maxRecDepth 1000000
namespace Go.Proofs.YtcojbkhjmaaamaaGreatDoor.Sm
open Go Go.Pg Go.ChangeShapes Go.WideShapes Go.ChangeAt Go.RowKit Go.Deep
noncomputable def Q6 : Code := (Tryz.f8.body.bind (regionAt 6)).getD .skip
end Go.Proofs.YtcojbkhjmaaamaaGreatDoor.Sm

