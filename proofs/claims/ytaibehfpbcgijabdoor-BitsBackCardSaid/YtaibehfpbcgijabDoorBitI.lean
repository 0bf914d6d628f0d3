/- What the statements of layer 2 begin with holds: three numbers in a byte. -/
import Derived.Test.YtaibehfpbcgijabDoorBitH
namespace Go.Proofs.YtaibehfpbcgijabDoor.Bit
open Go.RowKit Go.Shelf Go.Proofs.YtaibehfpbcgijabDoor.Mem

theorem knows_byte : pk (([] ++ bitsOf 1 1 ++ bitsOf 2 2) ++ bitsOf 5 3) = [45] := by decide +kernel
theorem knows_take : takeN [45] 0 3 = 5 := by decide +kernel
theorem knows_rev : rev 1 (clampN 3) = 4 := by decide +kernel

theorem put11 (W : World) (B b g : Nat) (h : WB W B b g []) (hm : Masks W B) : Calls Tryd.prog 29 #[.pointer (some ⟨b, 0, none⟩), .int .i64 1, .int .i64 1] W fun e w' => e = .returned (.int .i64 0) ∧ WStep W w' B b g ([] ++ bitsOf 1 1) :=
  put_ok W B b g 1 1 [] h hm (by decide) (by decide) (by decide) (by decide)
theorem put22 (W : World) (B b g : Nat) (l : List Bool) (h : WB W B b g l) (hm : Masks W B) (hl : l.length = 1) : Calls Tryd.prog 29 #[.pointer (some ⟨b, 0, none⟩), .int .i64 2, .int .i64 2] W fun e w' => e = .returned (.int .i64 0) ∧ WStep W w' B b g (l ++ bitsOf 2 2) :=
  put_ok W B b g 2 2 l h hm (by decide) (by decide) (by decide) (by omega)
theorem put53 (W : World) (B b g : Nat) (l : List Bool) (h : WB W B b g l) (hm : Masks W B) (hl : l.length = 3) : Calls Tryd.prog 29 #[.pointer (some ⟨b, 0, none⟩), .int .i64 5, .int .i64 3] W fun e w' => e = .returned (.int .i64 0) ∧ WStep W w' B b g (l ++ bitsOf 5 3) :=
  put_ok W B b g 3 5 l h hm (by decide) (by decide) (by decide) (by omega)
theorem take3 (W : World) (B b : Nat) (v : Value) (h : RB W B b v [45] 0) (hm : Masks W B) : Calls Tryd.prog 17 #[.pointer (some ⟨b, 0, none⟩), .int .i64 3] W fun e w' => e = .returned (.tuple #[.int .i64 5, .int .i64 0]) ∧ RB w' B b v [45] (0 + 3) ∧ Only (fun k => k = b) W w' :=
  take_ok W B b v [45] 0 3 h hm (by decide) (by decide)
theorem bytes45 (W : World) (B b g : Nat) (l : List Bool) (h : WB W B b g l) (hp : pk l = [45]) (hl : l.length = 6) : Calls Tryd.prog 11 #[.pointer (some ⟨b, 0, none⟩)] W fun e w' => ∃ ao c, e = .returned (.slice ao 1 c) ∧ Src w' (.slice ao 1 c) [45] ∧ Below W.heap.size W w' := by
  have hb := bytes_any W B b g l h (by omega)
  rw [hp] at hb
  refine hb.mono ?_
  rintro e w' ⟨v, rfl, t1, t2⟩
  obtain ⟨ao, c, rfl, -, -, -⟩ := own_shape t1
  exact ⟨ao, c, rfl, Src.of_own t1 rfl, t2⟩
theorem new45 (W : World) (B : Nat) (hB : B ≤ W.heap.size) : Calls Tryd.prog 14 #[.slice (some ⟨W.heap.size, 0, none⟩) 1 1] (W.alloc (.cells #[.int .u8 45] 5)) fun e w' => ∃ b v, e = .returned (.pointer (some ⟨b, 0, none⟩)) ∧ RB w' B b v [45] 0 ∧ W.heap.size ≤ b ∧ Below W.heap.size W w' := by
  have hA := (Below.refl W.heap.size W).alloc (Nat.le_refl _) (.cells #[.int .u8 45] 5)
  have hsrc : Src (W.alloc (.cells #[.int .u8 45] 5)) (.slice (some ⟨W.heap.size, 0, none⟩) 1 1) [45] := .inr ⟨⟨W.heap.size, 0, none⟩, 1, rfl, fun j v hj => by
    rw [Lib.addr_add, cell_of_row _ _ _ _ _ (0, 0) (heap_alloc_new _ _)]
    rcases j with _ | j
    · simpa [bVs, bV] using hj
    · simp [bVs] at hj⟩
  refine (newReader_any _ B 1 1 _ [45] hsrc rfl (by decide) (Nat.le_trans hB hA.size)).mono ?_
  rintro e w' ⟨b, v, rfl, q1, q2, q3, q4⟩
  exact ⟨b, v, rfl, q1, Nat.le_trans hA.size q2, hA.trans (q4.mono hA.size)⟩
theorem rev13 (w : World) : Calls Tryd.prog 26 #[.int .i64 1, .int .i64 3] w fun e w' => e = .returned (.int .i64 4) ∧ w = w' := by
  have h := rev_any 1 3 w
  rw [knows_rev] at h
  exact h

set_option maxRecDepth 100000 in
set_option maxHeartbeats 4000000 in
theorem knows_any (W : World) (b : Nat) (hb : W.heap.size = b) (hm : Masks W b) :
    Calls Tryd.prog 9 #[] W fun e w' => e = .returned (.bool true) ∧ Below b W w' := by
  have HN := Lib.hid (newWriter_any W b (by omega))
  rw [hb] at HN
  have hnn : ∀ w, (binOp .eql 23 (.pointer (some ⟨b, 0, none⟩)) (.pointer none)).run Tryd.prog w = .ok (.bool false) w := fun _ => by kernel_rfl
  have HK := Lib.hid hm
  have HB := Lib.hid hb
  have HNum := fun n w => Lib.hid (num_any n w)
  clear hm hb
  have step : ∀ (w1 w2 : World) (g l' : _), Below b W w1 → WStep w1 w2 b b g l' → b ≤ g → b ≤ w1.heap.size → ∃ g', WB w2 b b g' l' ∧ b ≤ g' ∧ Below b W w2 := fun w1 w2 g l' h1 ⟨g', q1, q2, q3⟩ hg hs => ⟨g', q1, by omega, h1.trans (q3.below hs (by rintro k (rfl | rfl) <;> omega))⟩
  have HS := Lib.hid step
  clear step
  go_enter Tryd.func9, Tryd.ntmps9
  go_wp2_with (first
    | (go_at_call 8; refine HN.out.mono ?_; rintro e w1 ⟨rfl, q1, q2⟩; have hp := put11 w1 b b b q1 (HK.out.below q2); have HP1 := Lib.hid (And.intro hp (And.intro q2 q1.lt)); clear q1 q2 hp)
    | (go_at_call 29; with_reducible refine HP1.out.1.mono ?_; rintro e w2 ⟨rfl, q1⟩; obtain ⟨g2, r1, r2, r3⟩ := HS.out w1 w2 _ _ HP1.out.2.1 q1 (Nat.le_refl _) (Nat.le_of_lt HP1.out.2.2); have hp := put22 w2 b b g2 _ r1 (HK.out.below r3) (by decide); have HP2 := Lib.hid (And.intro hp (And.intro r3 (And.intro r2 r1.lt))); clear q1 r1 r2 r3 hp HP1)
    | (go_at_call 29; with_reducible refine HP2.out.1.mono ?_; rintro e w3 ⟨rfl, q1⟩; obtain ⟨g3, r1, r2, r3⟩ := HS.out w2 w3 _ _ HP2.out.2.1 q1 HP2.out.2.2.1 (Nat.le_of_lt HP2.out.2.2.2); have hp := put53 w3 b b g3 _ r1 (HK.out.below r3) (by decide); have HP3 := Lib.hid (And.intro hp (And.intro r3 (And.intro r2 r1.lt))); clear q1 r1 r2 r3 hp HP2)
    | (go_at_call 29; with_reducible refine HP3.out.1.mono ?_; rintro e w4 ⟨rfl, q1⟩; obtain ⟨g4, r1, r2, r3⟩ := HS.out w3 w4 _ _ HP3.out.2.1 q1 HP3.out.2.2.1 (Nat.le_of_lt HP3.out.2.2.2); have hp := bytes45 w4 b b g4 _ r1 knows_byte (by decide); have HP4 := Lib.hid (And.intro hp (And.intro r3 (Nat.le_of_lt r1.lt))); clear q1 r1 r2 r3 hp HP3)
    | (go_at_call 19; refine (HNum _ _).out.mono ?_; rintro e w ⟨rfl, rfl⟩)
    | (go_at_call 11; refine HP4.out.1.mono ?_; rintro e w5 ⟨ao5, c5, rfl, t1, t2⟩; have s5 := conv_src w5 _ [45] t1; have HB5 := Lib.hid (HP4.out.2.1.trans (t2.mono HP4.out.2.2)); have HS5 := Lib.hid (Nat.le_trans HP4.out.2.2 t2.size); clear t1 t2 HP4)
    | (go_at_call 14; refine (new45 w5 b HS5.out).mono ?_; rintro e w6 ⟨b6, v6, rfl, q1, q2, q3⟩; have h6 := HB5.out.trans (q3.mono HS5.out); have hp := take3 w6 b b6 v6 q1 (HK.out.below h6); have HP6 := Lib.hid (And.intro hp (And.intro h6 (And.intro (Nat.le_trans HS5.out q3.size) (Nat.le_trans HS5.out q2)))); clear q1 q2 q3 h6 hp)
    | (go_at_call 17; refine HP6.out.1.mono ?_; rintro e w7 ⟨rfl, q1, q2⟩; have HB7 := Lib.hid (HP6.out.2.1.trans (q2.below HP6.out.2.2.1 (fun k hk => by rw [hk]; exact HP6.out.2.2.2))); clear q1 q2 HP6)
    | (go_at_call 26; refine (rev13 _).mono ?_; rintro e w ⟨rfl, rfl⟩))
  go_ret
  exact ⟨rfl, HB7.out⟩

end Go.Proofs.YtaibehfpbcgijabDoor.Bit
