import Derived.Test.YtdfjjmibhnniiaaGreatDoorLvA
set_option maxRecDepth 100000
namespace Go.Proofs.YtdfjjmibhnniiaaGreatDoor.Lv
open Go.Ev Go.Ev.Tx
noncomputable def i0 : Value := I 0
noncomputable def i1 : Value := I 1
noncomputable def i2 : Value := I 2
noncomputable def i3 : Value := I 3
noncomputable def i4 : Value := I 4
noncomputable def i5 : Value := I 5
noncomputable def i6 : Value := I 6
noncomputable def i7 : Value := I 7
noncomputable def i8 : Value := I 8
noncomputable def i9 : Value := I 9
noncomputable def i10 : Value := I 10
noncomputable def i11 : Value := I 11
noncomputable def i12 : Value := I 12
noncomputable def i13 : Value := I 13
noncomputable def i14 : Value := I 14
noncomputable def i15 : Value := I 15
noncomputable def i16 : Value := I 16
noncomputable def i17 : Value := I 17
noncomputable def i18 : Value := I 18
noncomputable def i19 : Value := I 19
noncomputable def i20 : Value := I 20
noncomputable def i21 : Value := I 21
noncomputable def i22 : Value := I 22
noncomputable def i23 : Value := I 23
noncomputable def i24 : Value := I 24
noncomputable def i25 : Value := I 25
noncomputable def i26 : Value := I 26
noncomputable def i27 : Value := I 27
noncomputable def i28 : Value := I 28
noncomputable def i29 : Value := I 29
noncomputable def i30 : Value := I 30
noncomputable def i31 : Value := I 31
noncomputable def b0 : Value := B 0
noncomputable def b1 : Value := B 1
noncomputable def b2 : Value := B 2
noncomputable def b3 : Value := B 3
noncomputable def b4 : Value := B 4
noncomputable def b5 : Value := B 5
noncomputable def b6 : Value := B 6
noncomputable def b7 : Value := B 7
noncomputable def b8 : Value := B 8
noncomputable def b9 : Value := B 9
noncomputable def b10 : Value := B 10
noncomputable def b11 : Value := B 11
noncomputable def b12 : Value := B 12
noncomputable def b13 : Value := B 13
noncomputable def b14 : Value := B 14
noncomputable def b15 : Value := B 15
noncomputable def b16 : Value := B 16
noncomputable def b17 : Value := B 17
noncomputable def b18 : Value := B 18
noncomputable def b19 : Value := B 19
noncomputable def l (a k : Nat) : Value := L a 0 k k
noncomputable def m1 : Value := .int .i64 (.negSucc 0)
def c (x : List Value) (t a b : Nat) : ABlk := ⟨(.cells ⟨x⟩ t (0, 0)), a, 0, false, b⟩
abbrev TA := Trie ABlk
abbrev TG := Trie Grp
noncomputable def lz0 : ABlk := ⟨(.map ⟨[⟨(.agg ⟨[i0, i1]⟩), (P 9 0), 0⟩]⟩ 1), 7, 0, false, 0⟩
noncomputable def lz1 : ABlk := (c [(l 10 2), (l 11 2), (l 12 2)] 29 13 0)
noncomputable def lz2 : Value := S [120, 32, 37, 32, 52, 32, 61, 61, 32, 49]
noncomputable def lz3 : TA := .node (J (J (V (c [b3, i0, i0, i1, i0, L0, b4, i0, i0, i3, i0, L0, b2, i0, i0, i0, i0, (l 61 3), b3, i1, i0, i2, i0, L0, b4, i1, i0, i6, i0, L0, b2, i1, i0, i0, i0, (l 62 3), b9, i0, i1, i0, i0, L0, b11, i0, i1, i2, i0, L0] 31 63 0)))) (some lz0) O
noncomputable def lz4 : ABlk := (c [T, F, F, i1, i2, i3, i6, i2, i4, i3, T, i2, i0, F, i0, i0] 107 9 0)
noncomputable def lz5 : TA := .node O (some lz1) (R (V (c [i1, i2, i3] 2 61 0)))
noncomputable def lz6 : TA := N (N (.node (J (J (V (c [(S [120])] 9 64 0)))) (some (c [i3, (l 6 2), (.map (some 7)), (P 8 0)] 87 8 0)) O) (V (c [i2, i4] 2 12 0))) (.node (V (c [i1, i2] 2 10 0)) (some (c [i1, i2, i3, i0, i3, i1, i3, i1, F, i2, i4, i6, i0, i3, i2, i6, i2, F] 95 6 0)) (R (R (V (c [i2, i4, i6] 2 62 0)))))
noncomputable def lz7 : TG := .node (J (J (V ⟨[(63, 0)], 0, 0⟩))) (some ⟨[(7, 0)], 0, 0⟩) O
noncomputable def lz8 : TG := N (N (.node (J (J (V ⟨[(64, 0)], 0, 0⟩))) (some ⟨[(8, 0)], 0, 0⟩) O) (V ⟨[(12, 0)], 0, 0⟩)) (.node (V ⟨[(10, 0)], 0, 0⟩) (some ⟨[(6, 0)], 0, 0⟩) (R (R (V ⟨[(62, 0)], 0, 0⟩))))
noncomputable def lz9 : Value := .agg ⟨[b11, i0, i1, (.int .i64 (.negSucc 1)), i7, L0]⟩
noncomputable def lpst1 (e : TypeId) : KS := .k nx 9 85 (Y (Y (Y (X (Y (W (l 13 3)) F Z) (W (l 13 3))) (l 13 3) (Y (Y (W i0) F Z) (.tuple ⟨[(P 8 0), i0]⟩) (W T))) (P 8 0) (X (X (Y (W (P 13 1)) (P 8 0) Z) (W (l 13 3))) (Y (W (l 11 2)) i0 (W i2)))) F (Y (Y (X (Y (W i1) F Z) (W i1)) i2 (Y (Y (W F) (l 10 2) Z) (P 8 0) (W i1))) i0 (X (Y (Y (W (l 11 2)) F Z) (.tuple ⟨[(P 8 0), i0]⟩) (W i3)) (Y (W (l 12 2)) i0 (W (P 8 0)))))) (iA 9 [1, 1, 1, 1, 0, 1, 0, 0, 1, 1] []) [] ⟨45, (N (N (N (V lz0) (V (c [i3, i6] 2 11 0))) (.node (V (c [T, F, F, i1, i2, i3, i6, i0, i0, i2, T, i2, i0, F, i0, i0] 107 9 0)) (some (blk0 e)) (V lz1))) (N (N (V (c [i2, (l 6 2), (.map (some 7)), (P 8 0)] 87 8 0)) (V (c [i2, i4] 2 12 0))) (.node (V (c [i1, i2] 2 10 0)) (some (c [i1, i3, i0, i0, i2, i1, i3, i2, F, i2, i6, i0, i0, i2, i2, i6, i4, F] 95 6 0)) O))), (N (N (N (V ⟨[(7, 0)], 0, 0⟩) (V ⟨[(11, 0)], 0, 0⟩)) (N (V ⟨[(9, 0)], 0, 0⟩) (V ⟨[(13, 0)], 0, 0⟩))) (N (N (V ⟨[(8, 0)], 0, 0⟩) (V ⟨[(12, 0)], 0, 0⟩)) (.node (V ⟨[(10, 0)], 0, 0⟩) (some ⟨[(6, 0)], 0, 0⟩) O)))⟩

noncomputable def lpst2 (e : TypeId) : KS := .k nx 9 85 (Y (Y (Y (X (Y (W (l 13 3)) F (W (l 63 8))) (Y (W (l 61 3)) (l 13 3) Z)) (l 13 3) (Y (Y (W i0) F (W (.tuple ⟨[lz2, i0]⟩))) (.tuple ⟨[(P 8 0), i0]⟩) (Y (W (l 62 3)) F Z))) (P 8 0) (Y (X (Y (W (P 13 2)) (P 8 0) (W (.agg ⟨[b6, i0, i0, i1, i4, L0]⟩))) (Y (W (.agg ⟨[b3, i1, i0, i2, i0, L0]⟩)) (l 13 3) Z)) (l 63 8) (Y (Y (W (.agg ⟨[b3, i0, i0, i1, i0, L0]⟩)) (l 11 2) Z) i0 (Y (W (.agg ⟨[b9, i0, i1, i0, i0, L0]⟩)) i3 Z)))) F (Y (Y (X (Y (W i2) F Z) (Y (W (.agg ⟨[b2, i0, i0, i0, i0, (l 61 3)]⟩)) i3 Z)) i3 (Y (Y (W F) (l 10 2) Z) (P 8 0) (Y (W (.agg ⟨[b2, i1, i0, i0, i0, (l 62 3)]⟩)) i2 Z))) i0 (X (Y (Y (W (l 12 2)) F (W (l 64 1))) (.tuple ⟨[(P 8 0), i0]⟩) (Y (W (.agg ⟨[b4, i1, i0, i6, i0, L0]⟩)) i3 Z)) (Y (Y (W (.agg ⟨[b4, i0, i0, i3, i0, L0]⟩)) (l 12 2) Z) i0 (Y (W (.agg ⟨[b11, i0, i1, i2, i0, L0]⟩)) (P 8 0) Z))))) (iA 9 [1, 1, 1, 1, 1, 1, 0] [3, 4, 5, 6, 7]) [] ⟨81, (N (N (N lz3 (V (c [i3, i6] 2 11 0))) (.node (V lz4) (some (blk0 e)) lz5)) lz6), (N (N (N lz7 (V ⟨[(11, 0)], 0, 0⟩)) (N (V ⟨[(9, 0)], 0, 0⟩) (.node O (some ⟨[(13, 0)], 0, 0⟩) (R (V ⟨[(61, 0)], 0, 0⟩))))) lz8)⟩

noncomputable def lpst3 (e : TypeId) : KS := .k nx 9 85 (Y (Y (Y (Y (Y (Y ZU (l 13 3) Z) F (Y ZU (l 63 8) Z)) i0 (Y (Y ZU (l 61 3) Z) (l 13 3) (W (l 81 2)))) (l 13 3) (Y (Y (Y ZU i0 Z) F (Y ZU (.tuple ⟨[lz2, i0]⟩) Z)) (.tuple ⟨[(P 8 0), i0]⟩) (Y (Y ZU (l 62 3) Z) F (W (P 8 0))))) (P 8 0) (Y (Y (Y (Y ZU (P 13 2) Z) (P 8 0) (Y ZU (.agg ⟨[b6, i0, i0, i1, i4, L0]⟩) Z)) i0 (Y (Y ZU (.agg ⟨[b3, i1, i0, i2, i0, L0]⟩) Z) (l 13 3) (W lz9))) (l 63 8) (Y (Y (Y ZU (.agg ⟨[b3, i0, i0, i1, i0, L0]⟩) Z) (l 11 2) (W i0)) i0 (Y (Y ZU (.agg ⟨[b9, i0, i1, i0, i0, L0]⟩) Z) i3 ZU)))) F (Y (Y (Y (Y (Y ZU i2 Z) F (Y ZU (.tuple ⟨[lz2, i0]⟩) Z)) (P 107 0) (Y (Y ZU (.agg ⟨[b2, i0, i0, i0, i0, (l 61 3)]⟩) Z) i3 (W (.tuple ⟨[lz9, i0]⟩)))) i3 (Y (Y (Y ZU F Z) (l 10 2) (Y ZU lz2 Z)) (P 8 0) (Y (Y ZU (.agg ⟨[b2, i1, i0, i0, i0, (l 62 3)]⟩) Z) i2 ZU))) i0 (Y (Y (Y (Y ZU (l 12 2) Z) F (Y ZU (l 64 1) Z)) (.tuple ⟨[(P 8 0), i0]⟩) (Y (Y ZU (.agg ⟨[b4, i1, i0, i6, i0, L0]⟩) Z) i3 (W i0))) lz2 (Y (Y (Y ZU (.agg ⟨[b4, i0, i0, i3, i0, L0]⟩) Z) (l 12 2) (W (.tuple ⟨[lz9, i0]⟩))) i0 (Y (Y ZU (.agg ⟨[b11, i0, i1, i2, i0, L0]⟩) Z) (P 8 0) ZU))))) (iA 9 [1, 1, 1, 1, 1, 1, 1, 1, 0] [1, 2, 3, 4, 5, 6, 7, 8, 9, 10, 11, 12, 13, 14, 15, 16, 17, 18, 19, 20, 21, 22, 23, 24, 25, 26]) [] ⟨108, (N (N (N lz3 (.node O (some (c [i3, i6] 2 11 0)) (J (R (V (c [b11, i0, i1, (.int .i64 (.negSucc 1)), i7, L0] 31 107 0)))))) (.node (.node (R (J (V (c [(S [120]), (S [121])] 9 81 0)))) (some lz4) O) (some (blk0 e)) lz5)) lz6), (N (N (N lz7 (.node O (some ⟨[(11, 0)], 0, 0⟩) (J (R (V ⟨[(107, 0)], 0, 0⟩))))) (N (.node (R (J (V ⟨[(81, 0)], 0, 0⟩))) (some ⟨[(9, 0)], 0, 0⟩) O) (.node O (some ⟨[(13, 0)], 0, 0⟩) (R (V ⟨[(61, 0)], 0, 0⟩))))) lz8)⟩



end Go.Proofs.YtdfjjmibhnniiaaGreatDoor.Lv
