import Derived.Test.YtcgbbglhbbhpdaaGreatDoorFaG
namespace Go.Ev
open Go.RowKit

/-- What a step does to the callers. -/
def CsStep (a b : List AFrame) : Prop := b = a ∨ (∃ f, b = f :: a) ∨ ∃ c rest, a = c :: rest ∧ (b = rest ∨ (c.mode ≠ .run ∧ ∃ f, b = f :: rest))

theorem CsStep.same {a : List AFrame} : CsStep a a := .inl rfl
theorem CsStep.push {a : List AFrame} {f : AFrame} : CsStep a (f :: a) := .inr (.inl ⟨f, rfl⟩)

theorem map_cs {α : Type} {o : Option α} {g : α → ASt} {st' : ASt} {P : List AFrame → Prop} (h : o.map g = some st') (k : ∀ a, P (g a).cs) : P st'.cs := by
  cases o with
  | none => cases h
  | some a => cases h; exact k a

theorem returnA_cs {st st' : ASt} {v : Value} {H : AHeap} (h : returnA st v H = some st') : CsStep st.cs st'.cs := by
  unfold returnA at h
  split at h
  · rename_i c rest hc
    rw [hc]
    split at h
    · exact map_cs (P := CsStep (c :: rest)) h fun _ => .inr (.inr ⟨c, rest, rfl, .inl rfl⟩)
    · cases h; exact .inr (.inr ⟨c, rest, rfl, .inl rfl⟩)
    · cases h
  · cases h

theorem opDone_cs {E : Env} {st st' : ASt} {x : AOut} {H : AHeap} (h : opDone E st x H = some st') : CsStep st.cs st'.cs := by
  unfold opDone at h
  split at h
  · split at h
    · cases h; exact .same
    · cases h
  · split at h
    · exact map_cs (P := CsStep st.cs) h fun _ => .same
    · exact map_cs (P := CsStep st.cs) h fun _ => .same
    · exact map_cs (P := CsStep st.cs) h fun _ => .push
    · cases h; exact .push
    · split at h
      · cases h
      · exact map_cs (P := CsStep st.cs) h fun _ => .same
    · split at h
      · cases h
      · split at h
        · rename_i c rest hc
          split at h
          · rename_i hm
            rw [hc]
            refine map_cs (P := CsStep (c :: rest)) h fun _ => .inr (.inr ⟨c, rest, rfl, .inr ⟨?_, _, rfl⟩⟩)
            intro q
            rw [q] at hm
            cases hm
          · exact map_cs (P := CsStep st.cs) h fun _ => .same
        · cases h
    · cases h

theorem leaveA_cs {E : Env} {st st' : ASt} {j : Option Code} (h : leaveA E st j = some st') : CsStep st.cs st'.cs := by
  unfold leaveA at h
  split at h
  · split at h
    · cases h; exact .same
    · cases h; exact .same
    · cases h
  · split at h
    · exact returnA_cs h
    · cases h

theorem drawStep_cs {E : Env} {st st' : ASt} {d : Draw} (h : drawStep E st d = some st') : CsStep st.cs st'.cs := by
  unfold drawStep at h
  split at h
  · cases h
  split at h
  · split at h
    · cases h; exact .same
    · cases h
  · simp only at h
    split at h
    · split at h
      · split at h
        · exact map_cs (P := CsStep st.cs) h fun _ => .same
        · split at h
          · have := opDone_cs h; exact this
          · cases h
        · cases h
      · cases h
    · cases h
  · split at h
    · cases h; exact .same
    · split at h
      · cases h; exact .same
      · cases h

theorem execA_cs {E : Env} {st st' : ASt} (h : execA E st = some st') : CsStep st.cs st'.cs := by
  unfold execA at h
  simp only at h
  split at h
  · exact leaveA_cs h
  · exact leaveA_cs h
  · cases h; exact .same
  · cases h; exact .same
  · cases h; exact .same
  · cases h; exact .same
  · cases h; exact .same
  · split at h
    · split at h
      · cases h; exact .same
      · cases h
    · cases h
  · cases h; exact .same
  · cases h; exact .same
  · cases h; exact .same
  · cases h; exact .same
  · split at h
    · cases h; exact .same
    · exact leaveA_cs h
  · split at h
    · cases h; exact .same
    · exact leaveA_cs h
  · split at h
    · split at h
      · split at h
        · split at h
          · exact map_cs (P := CsStep st.cs) h fun _ => .push
          · cases h
        · cases h
      · cases h
    · cases h
  · split at h
    · split at h
      · cases h; exact .same
      · cases h
    · cases h
  · split at h
    · cases h; exact .same
    · cases h
  · split at h
    · cases h; exact .same
    · cases h; exact .same
  · cases h; exact .same
  · split at h
    · split at h
      · exact map_cs (P := CsStep st.cs) h fun _ => .same
      · split at h
        · exact opDone_cs h
        · cases h
      · cases h
    · cases h
  · cases h

theorem unwindA_cs {E : Env} {st st' : ASt} (h : unwindA E st = some st') : CsStep st.cs st'.cs := by
  unfold unwindA at h
  split at h
  · split at h
    · cases h; exact .same
    · cases h
  · split at h
    · exact map_cs (P := CsStep st.cs) h fun _ => .push
    · cases h
  · cases h
  · split at h
    · cases h
    · split at h
      · rename_i c rest hc
        split at h
        · cases h; rw [hc]; exact .inr (.inr ⟨c, rest, rfl, .inl rfl⟩)
        · cases h
      · cases h
    · split at h
      · exact returnA_cs h
      · cases h

theorem astep_cs {E : Env} {st st' : ASt} (h : astep E st = some st') : CsStep st.cs st'.cs := by
  unfold astep at h
  split at h
  · split at h
    · exact drawStep_cs h
    · exact execA_cs h
  · exact unwindA_cs h

theorem regen_spec {cs cs' : List KFr} {cs2 : List AFrame} (hs : CsStep (toAs cs) cs2) (hc : ∀ c ∈ cs, c.ok) (h : regen cs cs2 = some cs') : toAs cs' = cs2 ∧ ∀ c ∈ cs', c.ok := by
  have hlen : (toAs cs).length = cs.length := by unfold toAs; simp
  unfold regen at h
  rw [lenL_eq, lenL_eq] at h
  rcases beq_cases cs.length cs2.length with ⟨q1, q2⟩ | ⟨q1, q2⟩
  · rw [q1] at h
    simp only at h
    rcases hs with rfl | ⟨f, rfl⟩ | ⟨c, rest, h1, rfl | ⟨hm, f, rfl⟩⟩
    · split at h
      · rename_i fr rest
        have e : toAs (KFr.a fr :: rest) = fr :: toAs rest := rfl
        rw [e] at h
        simp only at h
        cases h
        exact ⟨rfl, hc⟩
      · cases h
        exact ⟨rfl, hc⟩
    · exfalso
      simp only [List.length_cons, hlen] at q2
      omega
    · exfalso
      have := congrArg List.length h1
      rw [hlen, List.length_cons] at this
      omega
    · cases cs with
      | nil => cases h1
      | cons k cs =>
        have h1 : k.toA :: toAs cs = c :: rest := h1
        cases h1
        cases k with
        | a fr =>
          simp only at h
          cases h
          refine ⟨rfl, fun c hc2 => ?_⟩
          rcases List.mem_cons.1 hc2 with rfl | hc2
          · trivial
          · exact hc c (by simp [hc2])
        | k => exact absurd rfl hm
        | d => exact absurd rfl hm
  · rw [q1] at h
    simp only at h
    rcases beq_cases cs2.length (Nat.succ cs.length) with ⟨q3, q4⟩ | ⟨q3, q4⟩
    · rw [q3] at h
      simp only at h
      split at h
      case h_2 => cases h
      rename_i f cs3
      cases h
      have key : cs3 = toAs cs := by
        rcases hs with h1 | ⟨g, h1⟩ | ⟨c, rest, h1, rfl | ⟨hm, g, h2⟩⟩
        · exfalso
          have := congrArg List.length h1
          rw [hlen, q4] at this
          omega
        · cases h1; rfl
        · exfalso
          have := congrArg List.length h1
          simp only [hlen, List.length_cons] at this q4
          omega
        · exfalso
          have h3 := congrArg List.length h1
          have h4 := congrArg List.length h2
          simp only [hlen, List.length_cons] at h3 h4 q4
          omega
      subst key
      refine ⟨rfl, fun c hc2 => ?_⟩
      rcases List.mem_cons.1 hc2 with rfl | hc2
      · trivial
      · exact hc c hc2
    · rw [q3] at h
      simp only at h
      rcases beq_cases cs.length (Nat.succ cs2.length) with ⟨q5, q6⟩ | ⟨q5, q6⟩
      · rw [q5] at h
        simp only at h
        split at h
        case h_2 => cases h
        rename_i k rest
        cases h
        rcases hs with rfl | ⟨g, rfl⟩ | ⟨c, r2, h1, rfl | ⟨hm, g, rfl⟩⟩
        · exfalso
          simp only [hlen, List.length_cons] at q6
          omega
        · exfalso
          simp only [List.length_cons, hlen] at q6
          omega
        · have h1 : k.toA :: toAs cs' = c :: cs2 := h1
          cases h1
          exact ⟨rfl, fun c hc2 => hc c (by simp [hc2])⟩
        · exfalso
          have := congrArg List.length h1
          simp only [hlen, List.length_cons] at this q6
          omega
      · rw [q5] at h
        cases h

end Go.Ev
