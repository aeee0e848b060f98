import Derived.Test.YtkkhpackddlmpaaGreatDoorLvB
set_option maxRecDepth 100000
namespace Go.Proofs.YtkkhpackddlmpaaGreatDoor.Lv
open Go.Ev Go.RowKit Go.ChangeShapes Go.WideShapes Go.ChangeAt

def textRange : ByteArray := ⟨#[118, 97, 108, 117, 101, 32, 111, 117, 116, 32, 111, 102, 32, 114, 97, 110, 103, 101]⟩
def textSyntax : ByteArray := ⟨#[105, 110, 118, 97, 108, 105, 100, 32, 115, 121, 110, 116, 97, 120]⟩
def tab32 : Array Value := #[0, 1, 28, 2, 29, 14, 24, 3, 30, 22, 20, 15, 25, 17, 4, 8, 31, 27, 13, 23, 21, 19, 16, 7, 26, 12, 18, 6, 11, 5, 10, 9].map (Value.int .u8)
def tab64 : Array Value := #[0, 1, 56, 2, 57, 49, 28, 3, 61, 58, 42, 50, 38, 29, 17, 4, 62, 47, 59, 36, 45, 43, 51, 22, 53, 39, 33, 30, 24, 18, 12, 5, 63, 55, 48, 27, 60, 41, 37, 16, 46, 35, 44, 21, 52, 32, 23, 11, 54, 26, 40, 15, 34, 20, 31, 10, 25, 14, 19, 9, 13, 8, 7, 6].map (Value.int .u8)
def tabPow : Array Value := #[1, 10, 100, 1000, 10000, 100000, 1000000, 10000000, 100000000, 1000000000, 10000000000, 100000000000, 1000000000000, 10000000000000, 100000000000000, 1000000000000000, 10000000000000000, 100000000000000000, 1000000000000000000, 10000000000000000000].map (Value.int .u64)

def put (x : Array Value) : Obj → Obj
  | .cells _ t frozen => .cells x t frozen
  | o => o

/-- A world for the witness: each listed variable holds what its initialiser lays. -/
noncomputable def laidWorld (os : Os) (low : Nat) : World :=
  let w0 := World.holding Tryz.prog os ⟨#[.cells #[.string textRange] 460, .cells #[.string textSyntax] 460], #[], []⟩
  { w0 with heap := (((((w0.heap.modify 0 (put strVals)).modify 2 (put #[.iface 458 (.pointer (some ⟨low + 1, 0, none⟩))])).modify 3 (put #[.iface 458 (.pointer (some ⟨low, 0, none⟩))])).modify 4 (put tabPow)).modify 5 (put tab32)).modify 6 (put tab64) }

end Go.Proofs.YtkkhpackddlmpaaGreatDoor.Lv
