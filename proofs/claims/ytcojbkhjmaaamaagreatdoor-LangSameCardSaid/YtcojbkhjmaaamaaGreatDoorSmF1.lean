import Derived.Test.YtcojbkhjmaaamaaGreatDoorSmFr
import Derived.Test.YtcojbkhjmaaamaaGreatDoorSmG
set_option maxRecDepth 1000000
namespace Go.Proofs.YtcojbkhjmaaamaaGreatDoor.Sm
open Go Go.Pg Go.ChangeShapes Go.WideShapes Go.ChangeAt Go.RowKit Go.Deep
set_option maxHeartbeats 100000000 in
theorem same0 {n : Nat} {w : World} {l m : List Pg.Fd} {k q0 b1 o1 b2 o2 ca cb g1 g2 : Nat} {x1 x2 z1 z2 : Option Addr} {c1' c2' d1 d2 : Nat} (hlt : k < l.length) (hlt2 : k < m.length)
    (G1 : w.cell? ⟨g1, 0, none⟩ = some (.slice (some ⟨b1, o1, none⟩) l.length ca)) (G2 : w.cell? ⟨g2, 0, none⟩ = some (.slice (some ⟨b2, o2, none⟩) m.length cb))
    (N1 : FuncAt w n b1 (o1 + k * 3) l[k] (.slice x1 l[k].params.length c1') (.slice x2 l[k].body.length c2'))
    (N2 : FuncAt w n b2 (o2 + k * 3) m[k] (.slice z1 m[k].params.length d1) (.slice z2 m[k].body.length d2))
     (c0 : ¬ l[k].name = m[k].name) {Q : Exit → Act → World → Prop} {u4 u18 u19 u20 u21 u22 u23 u24 u25 u26 u27 u28 u29 u30 u31 u32 u33 u34 u35 u36 u37 u38 u39 u40 u41 u42 u43 u44 u45 u46 u47 u48 u49 u50 u51 u52 u53 u54 u55 u56 u57 u58 u59 u60 u61 u62 u63 u64 : Value}
    (hQ : ∀ (v20 v21 v22 v23 v24 v25 v26 v27 v28 v29 v30 v31 v32 v33 v34 v35 v36 v37 v38 v39 v40 v41 v42 v43 v44 v45 v46 v47 v48 v49 v50 v51 v52 v53 v54 v55 v56 v57 v58 v59 v60 v61 v62 v63 : Value) (q : Nat), Q .normal ⟨#[.agg #[.slice (some ⟨b1, o1, none⟩) l.length ca], .agg #[.slice (some ⟨b2, o2, none⟩) m.length cb], .pointer (some ⟨g1, 0, none⟩), .pointer (some ⟨g2, 0, none⟩), u4, .int .i64 k, .pointer (some ⟨g1, 0, none⟩), .slice (some ⟨b1, o1, none⟩) l.length ca, .int .i64 l.length, .pointer (some ⟨g2, 0, none⟩), .slice (some ⟨b2, o2, none⟩) m.length cb, .int .i64 m.length, .bool false, .int .i64 k, .pointer (some ⟨g1, 0, none⟩), .slice (some ⟨b1, o1, none⟩) l.length ca, .int .i64 l.length, .bool true, u18, u19, v20, v21, v22, v23, v24, v25, v26, v27, v28, v29, v30, v31, v32, v33, v34, v35, v36, v37, v38, v39, v40, v41, v42, v43, v44, v45, v46, v47, v48, v49, v50, v51, v52, v53, v54, v55, v56, v57, v58, v59, v60, v61, v62, v63, .bool true], []⟩ (w.drewN q)) :
    Code.wp Tryz.prog Q6 Q ⟨#[.agg #[.slice (some ⟨b1, o1, none⟩) l.length ca], .agg #[.slice (some ⟨b2, o2, none⟩) m.length cb], .pointer (some ⟨g1, 0, none⟩), .pointer (some ⟨g2, 0, none⟩), u4, .int .i64 k, .pointer (some ⟨g1, 0, none⟩), .slice (some ⟨b1, o1, none⟩) l.length ca, .int .i64 l.length, .pointer (some ⟨g2, 0, none⟩), .slice (some ⟨b2, o2, none⟩) m.length cb, .int .i64 m.length, .bool false, .int .i64 k, .pointer (some ⟨g1, 0, none⟩), .slice (some ⟨b1, o1, none⟩) l.length ca, .int .i64 l.length, .bool true, u18, u19, u20, u21, u22, u23, u24, u25, u26, u27, u28, u29, u30, u31, u32, u33, u34, u35, u36, u37, u38, u39, u40, u41, u42, u43, u44, u45, u46, u47, u48, u49, u50, u51, u52, u53, u54, u55, u56, u57, u58, u59, u60, u61, u62, u63, u64], []⟩ (w.drewN q0) := by
  try dsimp only
  conv => arg 2; whnf
  try simp only [List.append_eq, List.cons_append, List.nil_append]
  have t0 : (!l[k].name.toList == m[k].name.toList) = true := ntext c0
  have hi1 : (k : Int) < (l.length : Int) := by omega
  have hi2 : (k : Int) < (m.length : Int) := by omega
  have f1 := N1.name
  have f2 := N1.params
  have f3 := N1.body
  have h1 := N2.name
  have h2 := N2.params
  have h3 := N2.body
  have MM : Hid (FuncAt w n b1 (o1 + k * 3) l[k] _ _ ∧ FuncAt w n b2 (o2 + k * 3) m[k] _ _) := ⟨N1, N2⟩
  have HQ := hide hQ
  clear N1 N2 hQ c0
  go_big_quiet (first
    | (go_at_call 29; exact useStrs MM.out.1.kparams MM.out.2.kparams)
    | (go_at_call 30; with_reducible exact useReads (refNodes n) MM.out.1.kbody MM.out.2.kbody))
  simp only [World.drewN_drewN]
  exact HQ.out _ _ _ _ _ _ _ _ _ _ _ _ _ _ _ _ _ _ _ _ _ _ _ _ _ _ _ _ _ _ _ _ _ _ _ _ _ _ _ _ _ _ _ _ _
end Go.Proofs.YtcojbkhjmaaamaaGreatDoor.Sm

set_option maxRecDepth 1000000
namespace Go.Proofs.YtcojbkhjmaaamaaGreatDoor.Sm
open Go Go.Pg Go.ChangeShapes Go.WideShapes Go.ChangeAt Go.RowKit Go.Deep
set_option maxHeartbeats 100000000 in
theorem same1 {n : Nat} {w : World} {l m : List Pg.Fd} {k q0 b1 o1 b2 o2 ca cb g1 g2 : Nat} {x1 x2 z1 z2 : Option Addr} {c1' c2' d1 d2 : Nat} (hlt : k < l.length) (hlt2 : k < m.length)
    (G1 : w.cell? ⟨g1, 0, none⟩ = some (.slice (some ⟨b1, o1, none⟩) l.length ca)) (G2 : w.cell? ⟨g2, 0, none⟩ = some (.slice (some ⟨b2, o2, none⟩) m.length cb))
    (N1 : FuncAt w n b1 (o1 + k * 3) l[k] (.slice x1 l[k].params.length c1') (.slice x2 l[k].body.length c2'))
    (N2 : FuncAt w n b2 (o2 + k * 3) m[k] (.slice z1 m[k].params.length d1) (.slice z2 m[k].body.length d2))
    (c0 : l[k].name = m[k].name) (c1 : ¬ l[k].params = m[k].params) {Q : Exit → Act → World → Prop} {u4 u18 u19 u20 u21 u22 u23 u24 u25 u26 u27 u28 u29 u30 u31 u32 u33 u34 u35 u36 u37 u38 u39 u40 u41 u42 u43 u44 u45 u46 u47 u48 u49 u50 u51 u52 u53 u54 u55 u56 u57 u58 u59 u60 u61 u62 u63 u64 : Value}
    (hQ : ∀ (v20 v21 v22 v23 v24 v25 v26 v27 v28 v29 v30 v31 v32 v33 v34 v35 v36 v37 v38 v39 v40 v41 v42 v43 v44 v45 v46 v47 v48 v49 v50 v51 v52 v53 v54 v55 v56 v57 v58 v59 v60 v61 v62 v63 : Value) (q : Nat), Q .normal ⟨#[.agg #[.slice (some ⟨b1, o1, none⟩) l.length ca], .agg #[.slice (some ⟨b2, o2, none⟩) m.length cb], .pointer (some ⟨g1, 0, none⟩), .pointer (some ⟨g2, 0, none⟩), u4, .int .i64 k, .pointer (some ⟨g1, 0, none⟩), .slice (some ⟨b1, o1, none⟩) l.length ca, .int .i64 l.length, .pointer (some ⟨g2, 0, none⟩), .slice (some ⟨b2, o2, none⟩) m.length cb, .int .i64 m.length, .bool false, .int .i64 k, .pointer (some ⟨g1, 0, none⟩), .slice (some ⟨b1, o1, none⟩) l.length ca, .int .i64 l.length, .bool true, u18, u19, v20, v21, v22, v23, v24, v25, v26, v27, v28, v29, v30, v31, v32, v33, v34, v35, v36, v37, v38, v39, v40, v41, v42, v43, v44, v45, v46, v47, v48, v49, v50, v51, v52, v53, v54, v55, v56, v57, v58, v59, v60, v61, v62, v63, .bool true], []⟩ (w.drewN q)) :
    Code.wp Tryz.prog Q6 Q ⟨#[.agg #[.slice (some ⟨b1, o1, none⟩) l.length ca], .agg #[.slice (some ⟨b2, o2, none⟩) m.length cb], .pointer (some ⟨g1, 0, none⟩), .pointer (some ⟨g2, 0, none⟩), u4, .int .i64 k, .pointer (some ⟨g1, 0, none⟩), .slice (some ⟨b1, o1, none⟩) l.length ca, .int .i64 l.length, .pointer (some ⟨g2, 0, none⟩), .slice (some ⟨b2, o2, none⟩) m.length cb, .int .i64 m.length, .bool false, .int .i64 k, .pointer (some ⟨g1, 0, none⟩), .slice (some ⟨b1, o1, none⟩) l.length ca, .int .i64 l.length, .bool true, u18, u19, u20, u21, u22, u23, u24, u25, u26, u27, u28, u29, u30, u31, u32, u33, u34, u35, u36, u37, u38, u39, u40, u41, u42, u43, u44, u45, u46, u47, u48, u49, u50, u51, u52, u53, u54, u55, u56, u57, u58, u59, u60, u61, u62, u63, u64], []⟩ (w.drewN q0) := by
  try dsimp only
  conv => arg 2; whnf
  try simp only [List.append_eq, List.cons_append, List.nil_append]
  have t0 : (!l[k].name.toList == m[k].name.toList) = false := by rw [c0]; simp
  have t1 : eqB l[k].params m[k].params = false := eqB_false c1
  have hi1 : (k : Int) < (l.length : Int) := by omega
  have hi2 : (k : Int) < (m.length : Int) := by omega
  have f1 := N1.name
  have f2 := N1.params
  have f3 := N1.body
  have h1 := N2.name
  have h2 := N2.params
  have h3 := N2.body
  have MM : Hid (FuncAt w n b1 (o1 + k * 3) l[k] _ _ ∧ FuncAt w n b2 (o2 + k * 3) m[k] _ _) := ⟨N1, N2⟩
  have HQ := hide hQ
  clear N1 N2 hQ c0 c1
  go_big_quiet (first
    | (go_at_call 29; exact useStrs MM.out.1.kparams MM.out.2.kparams)
    | (go_at_call 30; with_reducible exact useReads (refNodes n) MM.out.1.kbody MM.out.2.kbody))
  simp only [World.drewN_drewN]
  exact HQ.out _ _ _ _ _ _ _ _ _ _ _ _ _ _ _ _ _ _ _ _ _ _ _ _ _ _ _ _ _ _ _ _ _ _ _ _ _ _ _ _ _ _ _ _ _
end Go.Proofs.YtcojbkhjmaaamaaGreatDoor.Sm

set_option maxRecDepth 1000000
namespace Go.Proofs.YtcojbkhjmaaamaaGreatDoor.Sm
open Go Go.Pg Go.ChangeShapes Go.WideShapes Go.ChangeAt Go.RowKit Go.Deep
set_option maxHeartbeats 100000000 in
theorem same2 {n : Nat} {w : World} {l m : List Pg.Fd} {k q0 b1 o1 b2 o2 ca cb g1 g2 : Nat} {x1 x2 z1 z2 : Option Addr} {c1' c2' d1 d2 : Nat} (hlt : k < l.length) (hlt2 : k < m.length)
    (G1 : w.cell? ⟨g1, 0, none⟩ = some (.slice (some ⟨b1, o1, none⟩) l.length ca)) (G2 : w.cell? ⟨g2, 0, none⟩ = some (.slice (some ⟨b2, o2, none⟩) m.length cb))
    (N1 : FuncAt w n b1 (o1 + k * 3) l[k] (.slice x1 l[k].params.length c1') (.slice x2 l[k].body.length c2'))
    (N2 : FuncAt w n b2 (o2 + k * 3) m[k] (.slice z1 m[k].params.length d1) (.slice z2 m[k].body.length d2))
    (c0 : l[k].name = m[k].name) (c1 : l[k].params = m[k].params) (c2 : ¬ l[k].body = m[k].body) {Q : Exit → Act → World → Prop} {u4 u18 u19 u20 u21 u22 u23 u24 u25 u26 u27 u28 u29 u30 u31 u32 u33 u34 u35 u36 u37 u38 u39 u40 u41 u42 u43 u44 u45 u46 u47 u48 u49 u50 u51 u52 u53 u54 u55 u56 u57 u58 u59 u60 u61 u62 u63 u64 : Value}
    (hQ : ∀ (v20 v21 v22 v23 v24 v25 v26 v27 v28 v29 v30 v31 v32 v33 v34 v35 v36 v37 v38 v39 v40 v41 v42 v43 v44 v45 v46 v47 v48 v49 v50 v51 v52 v53 v54 v55 v56 v57 v58 v59 v60 v61 v62 v63 : Value) (q : Nat), Q .normal ⟨#[.agg #[.slice (some ⟨b1, o1, none⟩) l.length ca], .agg #[.slice (some ⟨b2, o2, none⟩) m.length cb], .pointer (some ⟨g1, 0, none⟩), .pointer (some ⟨g2, 0, none⟩), u4, .int .i64 k, .pointer (some ⟨g1, 0, none⟩), .slice (some ⟨b1, o1, none⟩) l.length ca, .int .i64 l.length, .pointer (some ⟨g2, 0, none⟩), .slice (some ⟨b2, o2, none⟩) m.length cb, .int .i64 m.length, .bool false, .int .i64 k, .pointer (some ⟨g1, 0, none⟩), .slice (some ⟨b1, o1, none⟩) l.length ca, .int .i64 l.length, .bool true, u18, u19, v20, v21, v22, v23, v24, v25, v26, v27, v28, v29, v30, v31, v32, v33, v34, v35, v36, v37, v38, v39, v40, v41, v42, v43, v44, v45, v46, v47, v48, v49, v50, v51, v52, v53, v54, v55, v56, v57, v58, v59, v60, v61, v62, v63, .bool true], []⟩ (w.drewN q)) :
    Code.wp Tryz.prog Q6 Q ⟨#[.agg #[.slice (some ⟨b1, o1, none⟩) l.length ca], .agg #[.slice (some ⟨b2, o2, none⟩) m.length cb], .pointer (some ⟨g1, 0, none⟩), .pointer (some ⟨g2, 0, none⟩), u4, .int .i64 k, .pointer (some ⟨g1, 0, none⟩), .slice (some ⟨b1, o1, none⟩) l.length ca, .int .i64 l.length, .pointer (some ⟨g2, 0, none⟩), .slice (some ⟨b2, o2, none⟩) m.length cb, .int .i64 m.length, .bool false, .int .i64 k, .pointer (some ⟨g1, 0, none⟩), .slice (some ⟨b1, o1, none⟩) l.length ca, .int .i64 l.length, .bool true, u18, u19, u20, u21, u22, u23, u24, u25, u26, u27, u28, u29, u30, u31, u32, u33, u34, u35, u36, u37, u38, u39, u40, u41, u42, u43, u44, u45, u46, u47, u48, u49, u50, u51, u52, u53, u54, u55, u56, u57, u58, u59, u60, u61, u62, u63, u64], []⟩ (w.drewN q0) := by
  try dsimp only
  conv => arg 2; whnf
  try simp only [List.append_eq, List.cons_append, List.nil_append]
  have t0 : (!l[k].name.toList == m[k].name.toList) = false := by rw [c0]; simp
  have t1 : eqB l[k].params m[k].params = true := eqB_true c1
  have t2 : eqB l[k].body m[k].body = false := eqB_false c2
  have hi1 : (k : Int) < (l.length : Int) := by omega
  have hi2 : (k : Int) < (m.length : Int) := by omega
  have f1 := N1.name
  have f2 := N1.params
  have f3 := N1.body
  have h1 := N2.name
  have h2 := N2.params
  have h3 := N2.body
  have MM : Hid (FuncAt w n b1 (o1 + k * 3) l[k] _ _ ∧ FuncAt w n b2 (o2 + k * 3) m[k] _ _) := ⟨N1, N2⟩
  have HQ := hide hQ
  clear N1 N2 hQ c0 c1 c2
  go_big_quiet (first
    | (go_at_call 29; exact useStrs MM.out.1.kparams MM.out.2.kparams)
    | (go_at_call 30; with_reducible exact useReads (refNodes n) MM.out.1.kbody MM.out.2.kbody))
  simp only [World.drewN_drewN]
  exact HQ.out _ _ _ _ _ _ _ _ _ _ _ _ _ _ _ _ _ _ _ _ _ _ _ _ _ _ _ _ _ _ _ _ _ _ _ _ _ _ _ _ _ _ _ _ _
end Go.Proofs.YtcojbkhjmaaamaaGreatDoor.Sm

set_option maxRecDepth 1000000
namespace Go.Proofs.YtcojbkhjmaaamaaGreatDoor.Sm
open Go Go.Pg Go.ChangeShapes Go.WideShapes Go.ChangeAt Go.RowKit Go.Deep
set_option maxHeartbeats 100000000 in
theorem same3 {n : Nat} {w : World} {l m : List Pg.Fd} {k q0 b1 o1 b2 o2 ca cb g1 g2 : Nat} {x1 x2 z1 z2 : Option Addr} {c1' c2' d1 d2 : Nat} (hlt : k < l.length) (hlt2 : k < m.length)
    (G1 : w.cell? ⟨g1, 0, none⟩ = some (.slice (some ⟨b1, o1, none⟩) l.length ca)) (G2 : w.cell? ⟨g2, 0, none⟩ = some (.slice (some ⟨b2, o2, none⟩) m.length cb))
    (N1 : FuncAt w n b1 (o1 + k * 3) l[k] (.slice x1 l[k].params.length c1') (.slice x2 l[k].body.length c2'))
    (N2 : FuncAt w n b2 (o2 + k * 3) m[k] (.slice z1 m[k].params.length d1) (.slice z2 m[k].body.length d2))
    (c0 : l[k].name = m[k].name) (c1 : l[k].params = m[k].params) (c2 : l[k].body = m[k].body) {Q : Exit → Act → World → Prop} {u4 u18 u19 u20 u21 u22 u23 u24 u25 u26 u27 u28 u29 u30 u31 u32 u33 u34 u35 u36 u37 u38 u39 u40 u41 u42 u43 u44 u45 u46 u47 u48 u49 u50 u51 u52 u53 u54 u55 u56 u57 u58 u59 u60 u61 u62 u63 u64 : Value}
    (hQ : ∀ (v20 v21 v22 v23 v24 v25 v26 v27 v28 v29 v30 v31 v32 v33 v34 v35 v36 v37 v38 v39 v40 v41 v42 v43 v44 v45 v46 v47 v48 v49 v50 v51 v52 v53 v54 v55 v56 v57 v58 v59 v60 v61 v62 v63 : Value) (q : Nat), Q .normal ⟨#[.agg #[.slice (some ⟨b1, o1, none⟩) l.length ca], .agg #[.slice (some ⟨b2, o2, none⟩) m.length cb], .pointer (some ⟨g1, 0, none⟩), .pointer (some ⟨g2, 0, none⟩), u4, .int .i64 k, .pointer (some ⟨g1, 0, none⟩), .slice (some ⟨b1, o1, none⟩) l.length ca, .int .i64 l.length, .pointer (some ⟨g2, 0, none⟩), .slice (some ⟨b2, o2, none⟩) m.length cb, .int .i64 m.length, .bool false, .int .i64 k, .pointer (some ⟨g1, 0, none⟩), .slice (some ⟨b1, o1, none⟩) l.length ca, .int .i64 l.length, .bool true, u18, u19, v20, v21, v22, v23, v24, v25, v26, v27, v28, v29, v30, v31, v32, v33, v34, v35, v36, v37, v38, v39, v40, v41, v42, v43, v44, v45, v46, v47, v48, v49, v50, v51, v52, v53, v54, v55, v56, v57, v58, v59, v60, v61, v62, v63, .bool false], []⟩ (w.drewN q)) :
    Code.wp Tryz.prog Q6 Q ⟨#[.agg #[.slice (some ⟨b1, o1, none⟩) l.length ca], .agg #[.slice (some ⟨b2, o2, none⟩) m.length cb], .pointer (some ⟨g1, 0, none⟩), .pointer (some ⟨g2, 0, none⟩), u4, .int .i64 k, .pointer (some ⟨g1, 0, none⟩), .slice (some ⟨b1, o1, none⟩) l.length ca, .int .i64 l.length, .pointer (some ⟨g2, 0, none⟩), .slice (some ⟨b2, o2, none⟩) m.length cb, .int .i64 m.length, .bool false, .int .i64 k, .pointer (some ⟨g1, 0, none⟩), .slice (some ⟨b1, o1, none⟩) l.length ca, .int .i64 l.length, .bool true, u18, u19, u20, u21, u22, u23, u24, u25, u26, u27, u28, u29, u30, u31, u32, u33, u34, u35, u36, u37, u38, u39, u40, u41, u42, u43, u44, u45, u46, u47, u48, u49, u50, u51, u52, u53, u54, u55, u56, u57, u58, u59, u60, u61, u62, u63, u64], []⟩ (w.drewN q0) := by
  try dsimp only
  conv => arg 2; whnf
  try simp only [List.append_eq, List.cons_append, List.nil_append]
  have t0 : (!l[k].name.toList == m[k].name.toList) = false := by rw [c0]; simp
  have t1 : eqB l[k].params m[k].params = true := eqB_true c1
  have t2 : eqB l[k].body m[k].body = true := eqB_true c2
  have hi1 : (k : Int) < (l.length : Int) := by omega
  have hi2 : (k : Int) < (m.length : Int) := by omega
  have f1 := N1.name
  have f2 := N1.params
  have f3 := N1.body
  have h1 := N2.name
  have h2 := N2.params
  have h3 := N2.body
  have MM : Hid (FuncAt w n b1 (o1 + k * 3) l[k] _ _ ∧ FuncAt w n b2 (o2 + k * 3) m[k] _ _) := ⟨N1, N2⟩
  have HQ := hide hQ
  clear N1 N2 hQ c0 c1 c2
  go_big_quiet (first
    | (go_at_call 29; exact useStrs MM.out.1.kparams MM.out.2.kparams)
    | (go_at_call 30; with_reducible exact useReads (refNodes n) MM.out.1.kbody MM.out.2.kbody))
  simp only [World.drewN_drewN]
  exact HQ.out _ _ _ _ _ _ _ _ _ _ _ _ _ _ _ _ _ _ _ _ _ _ _ _ _ _ _ _ _ _ _ _ _ _ _ _ _ _ _ _ _ _ _ _ _
end Go.Proofs.YtcojbkhjmaaamaaGreatDoor.Sm

set_option maxRecDepth 1000000
namespace Go.Proofs.YtcojbkhjmaaamaaGreatDoor.Sm
open Go Go.Pg Go.ChangeShapes Go.WideShapes Go.ChangeAt Go.RowKit Go.Deep

set_option maxHeartbeats 100000000 in
theorem refSame {n : Nat} (w : World) (va vb : Value) (l m : List Pg.Fd) (ha : FuncsAt w n va l) (hb : FuncsAt w n vb m) : Calls Tryz.prog 8 #[.agg #[va], .agg #[vb]] w fun e w' => e = .returned (.bool (eqB l m)) ∧ Below w.heap.size w w' := by
  obtain ⟨oa, ca, rfl, hlm, ha⟩ := ha
  obtain ⟨ob, cb, rfl, _, hb⟩ := hb
  have ha2 : Hid (∀ x y i (h : i < l.length), ∃ b o vp vb, oa = some ⟨b, o, none⟩ ∧ FuncAt ((w.alloc x).alloc y) n b (o + i * 3) l[i] vp vb) := fun x y i hi => by
    obtain ⟨b, o, vp, vb, e, k⟩ := ha i hi
    exact ⟨b, o, vp, vb, e, k.below (two _ _ _)⟩
  have hb2 : Hid (∀ x y i (h : i < m.length), ∃ b o vp vb, ob = some ⟨b, o, none⟩ ∧ FuncAt ((w.alloc x).alloc y) n b (o + i * 3) m[i] vp vb) := fun x y i hi => by
    obtain ⟨b, o, vp, vb, e, k⟩ := hb i hi
    exact ⟨b, o, vp, vb, e, k.below (two _ _ _)⟩
  clear ha hb
  unfold maxLen at hlm
  go_enter Tryz.func8, Tryz.ntmps8
  go_wp2_with fail
  · have hq : ((l.length : Int) != (m.length : Int)) = true := by assumption
    go_ret
    exact ⟨by rw [eqB_false (ne_of_length hq)]; rfl, two _ _ _⟩
  · have hq : ((l.length : Int) != (m.length : Int)) = false := by assumption
    have hlen : Hid (l.length = m.length) := length_of hq
    generalize ((l.length : Int) != (m.length : Int)) = bq at *
    subst hq
    have hG := boxes (w := w) (c := #[.slice oa l.length ca]) (d := #[.slice ob m.length cb]) (t := 24) (u := 24) (Below.refl _ _) 0
    have B : Hid (Below w.heap.size w ((w.alloc (.cells #[.slice oa l.length ca] 24 (0, 0))).alloc (.cells #[.slice ob m.length cb] 24 (0, 0)))) := two _ _ _
    have ha3 := hide (ha2.out (.cells #[.slice oa l.length ca] 24 (0, 0)) (.cells #[.slice ob m.length cb] 24 (0, 0)))
    have hb3 := hide (hb2.out (.cells #[.slice oa l.length ca] 24 (0, 0)) (.cells #[.slice ob m.length cb] 24 (0, 0)))
    clear ha2 hb2
    generalize ((w.alloc (.cells #[.slice oa l.length ca] 24 (0, 0))).alloc (.cells #[.slice ob m.length cb] 24 (0, 0))) = w1 at *
    obtain ⟨G1, G2⟩ := hG
    simp only [List.getElem?_toArray, List.getElem?_cons_zero] at G1 G2
    go_loopw [5] (fun i wr => ∃ k : Nat, k ≤ l.length ∧ i = .int .i64 k ∧ (∀ j, j < k → l[j]? = m[j]?) ∧ ∃ q, wr = w1.drewN q) (fun i _ => l.length - (intOf i).toNat)
    case atStart => exact ⟨0, Nat.zero_le _, rfl, fun j h => by omega, 0, rfl⟩
    case round =>
      obtain ⟨k, hk, rfl, hp, q0, rfl⟩ := hrel
      have P : Hid (∀ j, j < k → l[j]? = m[j]?) := hp
      clear hp
      by_cases hlt : k < l.length
      · obtain ⟨b1, o1, p1, y1, rfl, M1⟩ := ha3.out k hlt
        have hlt2 : k < m.length := by have := hlen.out; omega
        obtain ⟨b2, o2, p2, y2, rfl, M2⟩ := hb3.out k hlt2
        have hi1 : (k : Int) < (l.length : Int) := by omega
        clear ha3 hb3
        obtain ⟨x1, c1', rfl⟩ := M1.kparams.slice
        obtain ⟨x2, c2', rfl⟩ := M1.kbody.slice
        obtain ⟨z1, d1, rfl⟩ := M2.kparams.slice
        obtain ⟨z2, d2, rfl⟩ := M2.kbody.slice
        have MM : Hid (FuncAt w1 n b1 (o1 + k * 3) l[k] _ _ ∧ FuncAt w1 n b2 (o2 + k * 3) m[k] _ _) := ⟨M1, M2⟩
        clear M1 M2
        go_wp2_with fail
        by_cases c0 : l[k].name = m[k].name
        · by_cases c1 : l[k].params = m[k].params
          · by_cases c2 : l[k].body = m[k].body
            · refine same3 hlt hlt2 G1 G2 MM.out.1 MM.out.2 c0 c1 c2 ?_
              have HA : Hid (l[k] = m[k]) := fd_eq c0 c1 c2
              clear c0 c1 c2 MM
              intro v20 v21 v22 v23 v24 v25 v26 v27 v28 v29 v30 v31 v32 v33 v34 v35 v36 v37 v38 v39 v40 v41 v42 v43 v44 v45 v46 v47 v48 v49 v50 v51 v52 v53 v54 v55 v56 v57 v58 v59 v60 v61 v62 v63 q
              go_wp2_with fail
              go_roundw
              case rel => exact ⟨k + 1, by omega, by go_num, get_succ P.out hlt hlt2 HA.out, q, rfl⟩
              case measure => simp [intOf]; omega
            · refine same2 hlt hlt2 G1 G2 MM.out.1 MM.out.2 c0 c1 c2 ?_
              have HN : Hid (¬ l[k] = m[k]) := fun h => c2 (congrArg Pg.Fd.body h)
              clear c0 c1 c2 MM
              intro v20 v21 v22 v23 v24 v25 v26 v27 v28 v29 v30 v31 v32 v33 v34 v35 v36 v37 v38 v39 v40 v41 v42 v43 v44 v45 v46 v47 v48 v49 v50 v51 v52 v53 v54 v55 v56 v57 v58 v59 v60 v61 v62 v63 q
              go_wp2_with fail
              go_ret
              exact ⟨by rw [eqB_false (ne_of_get hlt hlt2 HN.out)]; rfl, B.out.trans ((drewN_below _ _).mono B.out.size)⟩
          · refine same1 hlt hlt2 G1 G2 MM.out.1 MM.out.2 c0 c1 ?_
            have HN : Hid (¬ l[k] = m[k]) := fun h => c1 (congrArg Pg.Fd.params h)
            clear c0 c1 MM
            intro v20 v21 v22 v23 v24 v25 v26 v27 v28 v29 v30 v31 v32 v33 v34 v35 v36 v37 v38 v39 v40 v41 v42 v43 v44 v45 v46 v47 v48 v49 v50 v51 v52 v53 v54 v55 v56 v57 v58 v59 v60 v61 v62 v63 q
            go_wp2_with fail
            go_ret
            exact ⟨by rw [eqB_false (ne_of_get hlt hlt2 HN.out)]; rfl, B.out.trans ((drewN_below _ _).mono B.out.size)⟩
        · refine same0 hlt hlt2 G1 G2 MM.out.1 MM.out.2 c0 ?_
          have HN : Hid (¬ l[k] = m[k]) := fun h => c0 (congrArg Pg.Fd.name h)
          clear c0 MM
          intro v20 v21 v22 v23 v24 v25 v26 v27 v28 v29 v30 v31 v32 v33 v34 v35 v36 v37 v38 v39 v40 v41 v42 v43 v44 v45 v46 v47 v48 v49 v50 v51 v52 v53 v54 v55 v56 v57 v58 v59 v60 v61 v62 v63 q
          go_wp2_with fail
          go_ret
          exact ⟨by rw [eqB_false (ne_of_get hlt hlt2 HN.out)]; rfl, B.out.trans ((drewN_below _ _).mono B.out.size)⟩
      · go_wp2_with fail
        go_ret
        have : k = l.length := by omega
        subst this
        exact ⟨by rw [eqB_true (eq_of_get hlen.out P.out)]; rfl, B.out.trans ((drewN_below _ _).mono B.out.size)⟩
end Go.Proofs.YtcojbkhjmaaamaaGreatDoor.Sm

