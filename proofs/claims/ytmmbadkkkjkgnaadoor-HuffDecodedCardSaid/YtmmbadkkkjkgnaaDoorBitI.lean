/- What the statements of layer 2 begin with holds: three numbers in a byte. -/
import Derived.Test.YtmmbadkkkjkgnaaDoorBitH
namespace Go.Proofs.YtmmbadkkkjkgnaaDoor.Bit
open Go.RowKit Go.Shelf Go.Proofs.YtmmbadkkkjkgnaaDoor.Mem

theorem knows_byte : pk (([] ++ bitsOf 1 1 ++ bitsOf 2 2) ++ bitsOf 5 3) = [45] := by decide +kernel
theorem knows_take : takeN [45] 0 3 = 5 := by decide +kernel
theorem knows_rev : rev 1 (clampN 3) = 4 := by decide +kernel

theorem put11 (W : World) (B b g : Nat) (h : WB W B b g []) (hm : Masks W B) : Calls Tryd.prog 33 #[.pointer (some ⟨b, 0, none⟩), .int .i64 1, .int .i64 1] W fun e w' => e = .returned (.int .i64 0) ∧ WStep W w' B b g ([] ++ bitsOf 1 1) :=
  put_ok W B b g 1 1 [] h hm (by decide) (by decide) (by decide) (by decide)
theorem put22 (W : World) (B b g : Nat) (l : List Bool) (h : WB W B b g l) (hm : Masks W B) (hl : l.length = 1) : Calls Tryd.prog 33 #[.pointer (some ⟨b, 0, none⟩), .int .i64 2, .int .i64 2] W fun e w' => e = .returned (.int .i64 0) ∧ WStep W w' B b g (l ++ bitsOf 2 2) :=
  put_ok W B b g 2 2 l h hm (by decide) (by decide) (by decide) (by omega)
theorem put53 (W : World) (B b g : Nat) (l : List Bool) (h : WB W B b g l) (hm : Masks W B) (hl : l.length = 3) : Calls Tryd.prog 33 #[.pointer (some ⟨b, 0, none⟩), .int .i64 5, .int .i64 3] W fun e w' => e = .returned (.int .i64 0) ∧ WStep W w' B b g (l ++ bitsOf 5 3) :=
  put_ok W B b g 3 5 l h hm (by decide) (by decide) (by decide) (by omega)
theorem take3 (W : World) (B b : Nat) (v : Value) (h : RB W B b v [45] 0) (hm : Masks W B) : Calls Tryd.prog 29 #[.pointer (some ⟨b, 0, none⟩), .int .i64 3] W fun e w' => e = .returned (.tuple #[.int .i64 5, .int .i64 0]) ∧ RB w' B b v [45] (0 + 3) ∧ Only (fun k => k = b) W w' :=
  take_ok W B b v [45] 0 3 h hm (by decide) (by decide)
theorem bytes45 (W : World) (B b g : Nat) (l : List Bool) (h : WB W B b g l) (hp : pk l = [45]) (hl : l.length = 6) : Calls Tryd.prog 21 #[.pointer (some ⟨b, 0, none⟩)] W fun e w' => ∃ ao c, e = .returned (.slice ao 1 c) ∧ Src w' (.slice ao 1 c) [45] ∧ Below W.heap.size W w' := by
  have hb := bytes_any W B b g l h (by omega)
  rw [hp] at hb
  refine hb.mono ?_
  rintro e w' ⟨v, rfl, t1, t2⟩
  obtain ⟨ao, c, rfl, -, -, -⟩ := own_shape t1
  exact ⟨ao, c, rfl, Src.of_own t1 rfl, t2⟩
theorem new45 (W : World) (B : Nat) (hB : B ≤ W.heap.size) : Calls Tryd.prog 12 #[.slice (some ⟨W.heap.size, 0, none⟩) 1 1] (W.alloc (.cells #[.int .u8 45] 5)) fun e w' => ∃ b v, e = .returned (.pointer (some ⟨b, 0, none⟩)) ∧ RB w' B b v [45] 0 ∧ W.heap.size ≤ b ∧ Below W.heap.size W w' := by
  have hA := (Below.refl W.heap.size W).alloc (Nat.le_refl _) (.cells #[.int .u8 45] 5)
  have hsrc : Src (W.alloc (.cells #[.int .u8 45] 5)) (.slice (some ⟨W.heap.size, 0, none⟩) 1 1) [45] := .inr ⟨⟨W.heap.size, 0, none⟩, 1, rfl, fun j v hj => by
    rw [Lib.addr_add, cell_of_row _ _ _ _ _ (0, 0) (heap_alloc_new _ _)]
    rcases j with _ | j
    · simpa [bVs, bV] using hj
    · simp [bVs] at hj⟩
  refine (newReader_any _ B 1 1 _ [45] hsrc rfl (by decide) (Nat.le_trans hB hA.size)).mono ?_
  rintro e w' ⟨b, v, rfl, q1, q2, q3, q4⟩
  exact ⟨b, v, rfl, q1, Nat.le_trans hA.size q2, hA.trans (q4.mono hA.size)⟩
theorem rev13 (w : World) : Calls Tryd.prog 34 #[.int .i64 1, .int .i64 3] w fun e w' => e = .returned (.int .i64 4) ∧ w = w' := by
  have h := rev_any 1 3 w
  rw [knows_rev] at h
  exact h

end Go.Proofs.YtmmbadkkkjkgnaaDoor.Bit
