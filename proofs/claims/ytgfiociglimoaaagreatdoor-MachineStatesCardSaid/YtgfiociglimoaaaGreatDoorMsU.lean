import Derived.Test.YtgfiociglimoaaaGreatDoorMsT
import Derived.Laws.BytesArg
import Derived.Deep.RegionHeld3
set_option maxRecDepth 1000000
namespace Go.Proofs.YtgfiociglimoaaaGreatDoor.Ms
open Go Go.Ms Go.Il Go.Pg Go.ChangeShapes Go.WideShapes Go.ChangeAt Go.RowKit Go.Deep

theorem conv_reads {w : World} {v : Value} {l : List Int} (h : ReadsB w v l) : (convert 37 9 v).run Tryz.prog w = .ok (.string (strOfNums l)) w := by
  obtain ⟨oa, cap, rfl, _, _, h3⟩ := h
  rcases Nat.eq_zero_or_pos l.length with h0 | h0
  · have e : l = [] := List.eq_nil_of_length_eq_zero h0
    subst e
    rcases oa with _ | ⟨g, o, sp⟩
    · exact run_convert_bytes_nil w 37 5 Tryz.underlying37 Tryz.underlying5 _ _ 9 Tryz.underlying9
    · rw [run_convert_bytes_string w 37 9 5 _ _ _ Tryz.underlying37 Tryz.underlying5 Tryz.underlying9]
      rw [run_bytesToString w _ _ _ [] (by simpa using run_loadCells_list (P := Tryz.prog) w ⟨g, o, sp⟩ [] (fun j v hj => by simp at hj))]
      rfl
  · obtain ⟨g, rfl, _⟩ := h3 0 h0
    have := run_convert_bytes_arg (P := Tryz.prog) w 37 5 Tryz.underlying37 Tryz.underlying5 g 0 l.length cap l rfl (fun i hi => by
      obtain ⟨g', e, c⟩ := h3 i hi
      injection e with e
      injection e with e _ _
      subst e
      rw [Nat.zero_add, c]
      simp [List.getD, hi]) 9 Tryz.underlying9
    exact this

theorem str_inj {l m : List Int} (hl : ∀ x ∈ l, 0 ≤ x ∧ x < 256) (hm : ∀ x ∈ m, 0 ≤ x ∧ x < 256) (h : strOfNums l = strOfNums m) : l = m := by
  have e := congrArg (fun s : ByteArray => s.data.toList) h
  simp only [strOfNums_data] at e
  have back : ∀ l : List Int, (∀ x ∈ l, 0 ≤ x ∧ x < 256) → (l.map fun n => UInt8.ofNat n.toNat).map (fun b => (b.toNat : Int)) = l := by
    intro l hl
    rw [List.map_map]
    conv => rhs; rw [← List.map_id l]
    apply List.map_congr_left
    intro x hx
    have := hl x hx
    simp
    omega
  rw [← back l hl, e, back m hm]

theorem i64_i {x : Int} (h : WfI .i64 x) : I64 x := wf_i64 h
theorem i64_u {x : Int} (h : WfI .u8 x) : I64 x := by have := wf_u8 h; unfold I64; omega
theorem i64_len {n : Nat} (h : n ≤ 140737488351232) : I64 (n : Int) := by unfold I64; omega
theorem row_mem {α : Type} {size : Nat} {A : World → Nat → Nat → α → Prop} {w : World} {v : Value} {l : List α} (h : RowAt size A w v l) {x : α} (hx : x ∈ l) : ∃ b p, A w b p x := by
  obtain ⟨oa, cap, _, _, h3⟩ := h
  obtain ⟨i, hi, rfl⟩ := List.getElem_of_mem hx
  obtain ⟨b, o, _, k⟩ := h3 i hi
  exact ⟨b, _, k⟩
theorem ps_i64 {k m : IntKind} (hk : ∀ x, WfI k x → I64 x) (hm : ∀ x, WfI m x → I64 x) {w : World} {v : Value} {l : List (Int × Int)} (h : RowAt 2 (PairAt k m) w v l) : ∀ x ∈ serPs l, I64 x := by
  intro x hx
  obtain ⟨y, hy, hx⟩ := List.mem_flatMap.1 hx
  obtain ⟨b, p, h1, h2⟩ := row_mem h hy
  simp only [serP, List.mem_cons, List.not_mem_nil, or_false] at hx
  rcases hx with rfl | rfl
  · exact hk _ h1.2
  · exact hm _ h2.2
theorem fr_i64 {w : World} {b p : Nat} {f : Fr} (h : FrAt w b p f) : ∀ x ∈ serFr f, I64 x := by
  obtain ⟨vr, vt, h1, h2, h3, _, _, h6, h7⟩ := h
  intro x hx
  simp only [serFr, List.mem_append, List.mem_cons, List.not_mem_nil, or_false] at hx
  rcases hx with (rfl | rfl | rfl | rfl) | hx | rfl | hx
  · exact i64_i h1.2
  · exact i64_i h2.2
  · exact i64_i h3.2
  · exact i64_len h6.len
  · exact ps_i64 (fun _ => i64_u) (fun _ => i64_i) h6 x hx
  · exact i64_len h7.len
  · exact ps_i64 (fun _ => i64_i) (fun _ => i64_i) h7 x hx
theorem th_i64 {w : World} {b p : Nat} {t : Th} (h : ThAt w b p t) : ∀ x ∈ serTh t, I64 x := by
  obtain ⟨vf, _, h2, h3, h4⟩ := h
  intro x hx
  simp only [serTh, List.mem_append, List.mem_cons, List.not_mem_nil, or_false] at hx
  rcases hx with rfl | hx | rfl | rfl
  · exact i64_len h4.len
  · obtain ⟨y, hy, hx⟩ := List.mem_flatMap.1 hx
    obtain ⟨_, _, hf⟩ := row_mem h4 hy
    exact fr_i64 hf x hx
  · exact i64_u h2.2
  · exact i64_i h3.2
theorem ob_i64 {w : World} {b p : Nat} {t : Ob} (h : ObAt w b p t) : ∀ x ∈ serOb t, I64 x := by
  obtain ⟨vf, h1, _, h3, h4⟩ := h
  intro x hx
  simp only [serOb, List.mem_append, List.mem_cons, List.not_mem_nil, or_false] at hx
  rcases hx with (rfl | rfl) | hx | rfl
  · exact i64_i h1.2
  · exact i64_len h4.len
  · exact ps_i64 (fun _ => i64_u) (fun _ => i64_i) h4 x hx
  · exact i64_i h3.2
theorem oc_i64 {w : World} {cells : List Value} {o : Oc} (h : OcAt w cells o) : ∀ x ∈ serOc o, I64 x := by
  obtain ⟨vo, _, h1, h2, h3, h4, h5, h6, h7⟩ := h
  intro x hx
  simp only [serOc, List.mem_append, List.mem_cons, List.not_mem_nil, or_false] at hx
  rcases hx with (rfl | rfl | rfl | rfl | rfl | rfl) | hx | rfl
  · exact i64_u h2
  · exact i64_u h3
  · exact i64_i h4
  · exact i64_u h5
  · exact i64_i h6
  · exact i64_len h1.len
  · obtain ⟨_, _, k⟩ := row_mem h1 hx
    exact i64_i k.2
  · exact i64_i h7
theorem st_i64 {w : World} {cells : List Value} {s : St} (h : StAt w cells s) : ∀ x ∈ ser s, I64 x := by
  obtain ⟨vt, vo, l', _, h1, h2, h3, h4, h5, h6⟩ := h
  intro x hx
  simp only [ser, List.mem_append, List.mem_cons, List.not_mem_nil, or_false] at hx
  rcases hx with rfl | hx | rfl | hx | (rfl | rfl | rfl) | hx
  · exact i64_len h1.len
  · obtain ⟨y, hy, hx⟩ := List.mem_flatMap.1 hx
    obtain ⟨_, _, k⟩ := row_mem h1 hy
    exact th_i64 k x hx
  · exact i64_len h2.len
  · obtain ⟨y, hy, hx⟩ := List.mem_flatMap.1 hx
    obtain ⟨_, _, k⟩ := row_mem h2 hy
    exact ob_i64 k x hx
  · exact i64_i h3
  · exact i64_i h4
  · exact i64_i h5
  · exact oc_i64 h6 x hx

theorem bytes_iff {a b : St} (ha : ∀ x ∈ ser a, I64 x) (hb : ∀ x ∈ ser b, I64 x) : strOfNums (stBytes a) = strOfNums (stBytes b) ↔ a = b :=
  ⟨fun h => ser_inj (encs_inj ha hb (str_inj (stBytes_byte a) (stBytes_byte b) h)), fun h => by rw [h]⟩
end Go.Proofs.YtgfiociglimoaaaGreatDoor.Ms
