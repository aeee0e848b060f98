import Derived.Test.YtcojbkhjmaaamaaGreatDoorSmDr
set_option maxRecDepth 1000000
namespace Go.Proofs.YtcojbkhjmaaamaaGreatDoor.Sm
open Go Go.Pg Go.ChangeShapes Go.WideShapes Go.ChangeAt Go.RowKit Go.Deep
set_option maxHeartbeats 100000000 in
theorem arm7 {n : Nat} (ih : ReadsAt 30 n) {w : World} {l m : List Nd} {k q0 b1 o1 b2 o2 ca cb : Nat} {x1 x2 x3 x4 z1 z2 z3 z4 : Option Addr} {c1' c2' c3' c4' d1 d2 d3 d4 : Nat} (hlt : k < l.length) (hlt2 : k < m.length)
    (N1 : NodeAt w (NodesAt w n) b1 (o1 + k * 7) l[k] (.slice x1 l[k].subs.length c1') (.slice x2 l[k].params.length c2') (.slice x3 l[k].body.length c3') (.slice x4 l[k].els.length c4'))
    (N2 : NodeAt w (NodesAt w n) b2 (o2 + k * 7) m[k] (.slice z1 m[k].subs.length d1) (.slice z2 m[k].params.length d2) (.slice z3 m[k].body.length d3) (.slice z4 m[k].els.length d4))
    (c0 : l[k].kind = m[k].kind) (c1 : l[k].text = m[k].text) (c2 : l[k].num = m[k].num) (c3 : l[k].params = m[k].params) (c4 : l[k].subs = m[k].subs) (c5 : l[k].body = m[k].body) (c6 : l[k].els = m[k].els) {Q : Exit → Act → World → Prop} {u4 u15 u16 u17 u18 u19 u20 u21 u22 u23 u24 u25 u26 u27 u28 u29 u30 u31 u32 u33 u34 u35 u36 u37 u38 u39 u40 u41 u42 u43 u44 u45 u46 u47 u48 u49 u50 u51 u52 u53 u54 u55 u56 u57 u58 u59 u60 u61 u62 u63 u64 u65 u66 u67 u68 u69 u70 u71 u72 u73 u74 u75 u76 u77 u78 u79 u80 u81 u82 u83 u84 u85 u86 u87 u88 u89 u90 u91 u92 u93 u94 u95 u96 u97 u98 u99 u100 u101 u102 u103 u104 u105 u106 u107 u108 u109 : Value}
    (hQ : ∀ (v17 v18 v19 v20 v21 v22 v23 v24 v25 v26 v27 v28 v29 v30 v31 v32 v33 v34 v35 v36 v37 v38 v39 v40 v41 v42 v43 v44 v45 v46 v47 v48 v49 v50 v51 v52 v53 v54 v55 v56 v57 v58 v59 v60 v61 v62 v63 v64 v65 v66 v67 v68 v69 v70 v71 v72 v73 v74 v75 v76 v77 v78 v79 v80 v81 v82 v83 v84 v85 v86 v87 v88 v89 v90 v91 v92 v93 v94 v95 v96 v97 v98 v99 v100 v101 v102 v103 v104 v105 v106 v107 v108 : Value) (q : Nat), Q .normal ⟨#[.slice (some ⟨b1, o1, none⟩) l.length ca, .slice (some ⟨b2, o2, none⟩) m.length cb, undef, undef, u4, .int .i64 k, .slice (some ⟨b1, o1, none⟩) l.length ca, .int .i64 l.length, .slice (some ⟨b2, o2, none⟩) m.length cb, .int .i64 m.length, .bool false, .int .i64 k, .slice (some ⟨b1, o1, none⟩) l.length ca, .int .i64 l.length, .bool true, u15, u16, v17, v18, v19, v20, v21, v22, v23, v24, v25, v26, v27, v28, v29, v30, v31, v32, v33, v34, v35, v36, v37, v38, v39, v40, v41, v42, v43, v44, v45, v46, v47, v48, v49, v50, v51, v52, v53, v54, v55, v56, v57, v58, v59, v60, v61, v62, v63, v64, v65, v66, v67, v68, v69, v70, v71, v72, v73, v74, v75, v76, v77, v78, v79, v80, v81, v82, v83, v84, v85, v86, v87, v88, v89, v90, v91, v92, v93, v94, v95, v96, v97, v98, v99, v100, v101, v102, v103, v104, v105, v106, v107, v108, .bool false], []⟩ (w.drewN q)) :
    Code.wp Tryz.prog R6 Q ⟨#[.slice (some ⟨b1, o1, none⟩) l.length ca, .slice (some ⟨b2, o2, none⟩) m.length cb, undef, undef, u4, .int .i64 k, .slice (some ⟨b1, o1, none⟩) l.length ca, .int .i64 l.length, .slice (some ⟨b2, o2, none⟩) m.length cb, .int .i64 m.length, .bool false, .int .i64 k, .slice (some ⟨b1, o1, none⟩) l.length ca, .int .i64 l.length, .bool true, u15, u16, u17, u18, u19, u20, u21, u22, u23, u24, u25, u26, u27, u28, u29, u30, u31, u32, u33, u34, u35, u36, u37, u38, u39, u40, u41, u42, u43, u44, u45, u46, u47, u48, u49, u50, u51, u52, u53, u54, u55, u56, u57, u58, u59, u60, u61, u62, u63, u64, u65, u66, u67, u68, u69, u70, u71, u72, u73, u74, u75, u76, u77, u78, u79, u80, u81, u82, u83, u84, u85, u86, u87, u88, u89, u90, u91, u92, u93, u94, u95, u96, u97, u98, u99, u100, u101, u102, u103, u104, u105, u106, u107, u108, u109], []⟩ (w.drewN q0) := by
  try dsimp only
  conv => arg 2; whnf
  simp only [List.append_eq, List.cons_append, List.nil_append]
  have t0 : (l[k].kind != m[k].kind) = false := by simpa using c0
  have t1 : (!l[k].text.toList == m[k].text.toList) = false := by rw [c1]; simp
  have t2 : (l[k].num != m[k].num) = false := by simpa using c2
  have t3 : eqB l[k].params m[k].params = true := eqB_true c3
  have t4 : eqB l[k].subs m[k].subs = true := eqB_true c4
  have t5 : eqB l[k].body m[k].body = true := eqB_true c5
  have t6 : eqB l[k].els m[k].els = true := eqB_true c6
  have hi1 : (k : Int) < (l.length : Int) := by omega
  have hi2 : (k : Int) < (m.length : Int) := by omega
  have f1 := N1.kind
  have f2 := N1.text
  have f3 := N1.num
  have f4 := N1.subs
  have f5 := N1.params
  have f6 := N1.body
  have f7 := N1.els
  have g1 := N2.kind
  have g2 := N2.text
  have g3 := N2.num
  have g4 := N2.subs
  have g5 := N2.params
  have g6 := N2.body
  have g7 := N2.els
  have A : Hid (ReadsAt 30 n) := ih
  have MM : Hid (NodeAt w (NodesAt w n) b1 (o1 + k * 7) l[k] _ _ _ _ ∧ NodeAt w (NodesAt w n) b2 (o2 + k * 7) m[k] _ _ _ _) := ⟨N1, N2⟩
  have HQ := hide hQ
  clear ih N1 N2 hQ c0 c1 c2 c3 c4 c5 c6
  go_big_quiet (first
    | (go_at_call 29; exact useStrs MM.out.1.kparams MM.out.2.kparams)
    | (go_at_call 30; with_reducible exact useReads A.out MM.out.1.ksubs MM.out.2.ksubs)
    | (go_at_call 30; with_reducible exact useReads A.out MM.out.1.kbody MM.out.2.kbody)
    | (go_at_call 30; with_reducible exact useReads A.out MM.out.1.kels MM.out.2.kels))
  simp only [World.drewN_drewN]
  exact HQ.out _ _ _ _ _ _ _ _ _ _ _ _ _ _ _ _ _ _ _ _ _ _ _ _ _ _ _ _ _ _ _ _ _ _ _ _ _ _ _ _ _ _ _ _ _ _ _ _ _ _ _ _ _ _ _ _ _ _ _ _ _ _ _ _ _ _ _ _ _ _ _ _ _ _ _ _ _ _ _ _ _ _ _ _ _ _ _ _ _ _ _ _ _
end Go.Proofs.YtcojbkhjmaaamaaGreatDoor.Sm
