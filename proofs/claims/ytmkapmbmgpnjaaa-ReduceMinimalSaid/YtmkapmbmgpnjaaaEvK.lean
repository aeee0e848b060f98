import Derived.Test.YtmkapmbmgpnjaaaEvJ
import Derived.Laws.Append
namespace Go.Ev
open Go.RowKit

section
variable {P : Program} {N : Nat} {w0 : Base} {ρ : Ren} {H : AHeap} {w : World}

def srcLen : Value → Option Nat
  | .slice _ n _ => some n
  | .string s => some s.size
  | _ => none

def srcCells (H : AHeap) (size n : Nat) : Value → Option (Array Value)
  | .slice (some a) _ _ => aloadFrom H a 0 (n * size) #[]
  | .slice none _ _ => some #[]
  | .string s => some ((s.extract 0 n).data.map fun b => .int .u8 b.toNat)
  | _ => none

theorem lenOf_spec {v v' : Value} (h : VR ρ v v') {n : Nat} (hn : srcLen v = some n) : (Builtin.lenOf v' : Sem Nat) = Pure.pure n := by
  cases h <;> cases hn <;> rfl

theorem AsR.ints (x : Array UInt8) : AsR ρ (x.map fun b => Value.int .u8 b.toNat) (x.map fun b => Value.int .u8 b.toNat) := by
  refine ⟨rfl, fun i a b ha hb => ?_⟩
  rw [ha] at hb
  cases hb
  simp only [Array.getElem?_map, Option.map_eq_some_iff] at ha
  obtain ⟨k, _, rfl⟩ := ha
  exact .int _ _

theorem srcCells_spec (h : HR N w0 ρ H w) {v v' : Value} (hv : VR ρ v v') {size n : Nat} {c : Array Value} (hc : srcCells H size n v = some c) :
    ∃ c', (Builtin.firstCells size n v').run P w = .ok c' w ∧ AsR ρ c c' := by
  cases hv <;> first
    | (cases hc; done)
    | skip
  · rename_i s
    cases hc
    exact ⟨_, rfl, AsR.ints _⟩
  · cases hc; exact ⟨#[], rfl, AsR.nil ρ⟩
  · rename_i a a' m c0 c0' hs
    obtain ⟨c', h1, h2, _⟩ := aloadFrom_spec (P := P) h hs.1 _ _ _ _ (AsR.nil ρ) hc
    exact ⟨c', h1, h2⟩

def AHeap.growNew (H : AHeap) (c : Array Value) (e : TypeId) (sz : Nat) : AHeap :=
  (H.new (.cells c e (0, 0))).setBlk H.next { obj := .cells c e (0, 0), root := H.next, org := 0, ro := false, sz }

def plainSource (P : Program) (ts : Array TypeId) : Bool :=
  match ts[1]? with
  | none => true
  | some t => match P.underlying t with
    | some (.int _) => false
    | some _ => true
    | none => false

def elemIs (e : TypeId) : Obj → Bool
  | .cells _ ce _ => ce == e
  | _ => false

def agrow (H : AHeap) (e : TypeId) (size len n : Nat) (base : Option Addr) (old new : Array Value) : Option (Value × AHeap) :=
  match base with
  | none => some (.slice (some ⟨H.next, 0, none⟩) (len + n) (len + n), H.growNew (old ++ new) e size)
  | some a => match H.blk a.block with
    | some b =>
      if isCells b.obj = false then none
      else if b.sz = 0 then some (.slice (some ⟨H.next, 0, none⟩) (len + n) (len + n), H.growNew (old ++ new) e size)
      else if b.sz ≠ size ∨ elemIs e b.obj = false ∨ b.ro = true ∨ a.spot.isSome = true ∨ new.toList.any wide = true then none
      else match H.grp b.root with
        | some g =>
          if g.flo < g.fhi ∧ a.off + b.org + len * size < g.fhi ∧ g.flo < a.off + b.org + len * size + n * size then none
          else some (.slice (some ⟨H.next, 0, none⟩) (len + n) (len + n), (poisonN (a.off + b.org + len * size) g.mem (n * size) H).join b.root g (b.org + a.off) (.cells (old ++ new) e (0, 0)) size)
        | none => none
    | none => none

def aappend (P : Program) (H : AHeap) (ts : Array TypeId) (s x : Value) : Option (Value × AHeap) :=
  if plainSource P ts then
    match ts[0]? with
    | some st => match P.underlying st with
      | some (.slice e) => match P.info? e with
        | some i => match s with
          | .slice base len cap => match srcLen x with
            | some n =>
              if len + n ≤ cap ∨ i.size = 0 ∨ 140737488355328 < (len + n) * i.bytes ∨ 4611686018427387904 < len + n ∨ i.zero.isNone = true then none else
              match srcCells H i.size len s with
              | some old => match srcCells H i.size n x with
                | some new => if old.size ≠ len * i.size ∨ new.size ≠ n * i.size ∨ (i.zero.map (·.cells.size)) ≠ some i.size then none else agrow H e i.size len n base old new
                | none => none
              | none => none
            | none => none
          | _ => none
        | none => none
      | _ => none
    | none => none
  else none

set_option maxHeartbeats 2000000 in
theorem run_app_grow {ts : Array TypeId} (ty : TypeId) {st e : TypeId} {i : TypeInfo} {z : Value} (hp : plainSource P ts = true) (h0 : ts[0]? = some st) (hu : P.underlying st = some (.slice e)) (hi : P.info? e = some i) (hz : i.zero = some z)
    {base : Option Addr} {len cap n : Nat} {x : Value} {old new : Array Value} (hn : (Builtin.lenOf x : Sem Nat) = Pure.pure n)
    (hold : (Builtin.firstCells i.size len (.slice base len cap)).run P w.drew = .ok old w.drew) (hnew : (Builtin.firstCells i.size n x).run P w.drew = .ok new w.drew)
    (hg : cap < len + n) (h63 : ((len + n : Nat) : Int) ≤ 9223372036854775807) (hfit : Builtin.nextslicecap (len + n) cap * i.bytes ≤ 281474976710656) :
    (Builtin.append_ ts ty #[.slice base len cap, x]).run P w = .ok (.slice (some ⟨w.heap.size, 0, none⟩) (len + n) (grownCap w (len + n) cap e))
      (w.drew.alloc (.cells (old ++ new ++ Builtin.zeroCells z.cells (grownCap w (len + n) cap e - (len + n))) e)) := by
  have h1 : ¬ (len + n ≤ cap) := by omega
  have h63' : ¬ (9223372036854775807 < ((len : Int) + (n : Int))) := by omega
  have h48' : ¬ (281474976710656 < Builtin.nextslicecap (len + n) cap * i.bytes) := by omega
  unfold plainSource at hp
  cases ht : ts[1]? with
  | none => simp [Builtin.append_, h0, ht, run_underlying hu, Go.sizeOf, Go.typeInfo, Go.zeroValue, hi, hz, hn, h1, h63', h48', Question.forced, hold, hnew, Go.newRow, grownCap]
  | some xt =>
    rw [ht] at hp
    simp only at hp
    cases hd : P.underlying xt with
    | none => rw [hd] at hp; cases hp
    | some d =>
      rw [hd] at hp
      cases d <;> first
        | (cases hp; done)
        | simp [Builtin.append_, h0, ht, run_underlying hu, run_underlying hd, Go.sizeOf, Go.typeInfo, Go.zeroValue, hi, hz, hn, h1, h63', h48', Question.forced, hold, hnew, Go.newRow, grownCap]

set_option maxHeartbeats 2000000 in
theorem run_app_room {ts : Array TypeId} (ty : TypeId) {st e : TypeId} {i : TypeInfo} (hp : plainSource P ts = true) (h0 : ts[0]? = some st) (hu : P.underlying st = some (.slice e)) (hi : P.info? e = some i)
    {a : Addr} {len cap n : Nat} {x : Value} {new : Array Value} {w' : World} (hn : (Builtin.lenOf x : Sem Nat) = Pure.pure n)
    (hnew : (Builtin.firstCells i.size n x).run P w = .ok new w) (hst : (Go.storeCells (a.add (len * i.size)) new.toList).run P w = .ok () w')
    (hg : len + n ≤ cap) :
    (Builtin.append_ ts ty #[.slice (some a) len cap, x]).run P w = .ok (.slice (some a) (len + n) cap) w' := by
  unfold plainSource at hp
  cases ht : ts[1]? with
  | none => simp [Builtin.append_, h0, ht, run_underlying hu, Go.sizeOf, Go.typeInfo, hi, hn, hg, hnew, hst]
  | some xt =>
    rw [ht] at hp
    simp only at hp
    cases hd : P.underlying xt with
    | none => rw [hd] at hp; cases hp
    | some d =>
      rw [hd] at hp
      cases d <;> first
        | (cases hp; done)
        | simp [Builtin.append_, h0, ht, run_underlying hu, run_underlying hd, Go.sizeOf, Go.typeInfo, hi, hn, hg, hnew, hst]

theorem CellsR.of_AsR {c c' : Array Value} (h : AsR ρ c c') (r : Array Value) : CellsR ρ 0 c (c' ++ r) := by
  intro j v hj
  obtain ⟨v', hv', hr⟩ := h.get hj
  refine ⟨v', ?_, hr⟩
  rw [Nat.add_zero, Array.getElem?_append, if_pos (Array.getElem?_eq_some_iff.1 hv').1]
  exact hv'

theorem grown_spec (h : HR N w0 ρ H w) {e : TypeId} {size need newCap : Nat} {c c' : Array Value} {zs : Array Value} (hc : AsR ρ c c') (hpos : 0 < size) (hcap : need ≤ newCap) (hsz : (c' ++ zs).size = newCap * size) (d : Nat) :
    ∃ σ, ρ.le σ ∧ HR N w0 σ (H.growNew c e size) ({ w with drawn := d, heap := w.heap.push (.cells (c' ++ zs) e (0, 0)) } : World) ∧
      VR σ (.slice (some ⟨H.next, 0, none⟩) need need) (.slice (some ⟨w.heap.size, 0, none⟩) need newCap) := by
  have h1 := (h.drawn d).grow (c := c) (c' := c' ++ zs) (e := e) (CellsR.of_AsR hc zs) hpos
  refine ⟨_, Ren.le_ext _ _, h1, ?_⟩
  have hn := h.n
  have hself := Ren.ext_self ρ ⟨w.heap.size, 0, size, (c' ++ zs).size⟩
  refine .ssome ⟨⟨?_, ?_, ?_, rfl⟩, hcap, .inr ?_⟩
  · exact .inr (show H.next = ρ.n by omega)
  · simp only [hn]; rw [hself]
  · simp only [hn]; rw [hself]; rfl
  · simp only [hn]; rw [hself]; exact ⟨hpos, by simp only; omega⟩

end
end Go.Ev
