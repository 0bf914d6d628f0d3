/- The statement HuffNil: no decoder, one that nobody made, no reader and no writer. -/
import Derived.Test.YtmmbadkkkjkgnaaDoorHNilA
namespace Go.Proofs.YtmmbadkkkjkgnaaDoor.Huf
open Go.RowKit Go.Shelf Go.Lib Go.Proofs.YtmmbadkkkjkgnaaDoor.Mem Go.Proofs.YtmmbadkkkjkgnaaDoor.Bit
open Go.ChangeShapes Go.WideShapes Go.ChangeAt

theorem fine_two : Fine [1, 1] := (fine_iff _).1 (by decide +kernel)

set_option maxHeartbeats 8000000 in
set_option maxRecDepth 100000 in
theorem lawHNil (W : World) (n c : Nat) (ao : Option Addr) (v1 : Value) (bs : List UInt8) (l : List Int) (h0 : Src W (.slice ao n c) bs) (hn : bs.length = n) (hl : n ≤ 140737488355328) (h1 : SrcI W v1 l) :
    Calls Tryd.prog 5 #[.slice ao n c, v1] W fun e w' => e = .returned (.bool true) ∧ Below W.heap.size W w' := by
  have HK := fun w => Lib.hid (knows_any w)
  have HN := fun n w => Lib.hid (num_any n w)
  have HR : Aside (∀ w, Below W.heap.size W w → Calls Tryd.prog 12 #[.slice ao n c] w fun e w' => ∃ b, e = .returned (.pointer (some ⟨b, 0, none⟩)) ∧ Below w.heap.size w w') := fun w hb => by
    refine (newReader_any w w.heap.size n c ao bs (h0.below hb) hn hl (Nat.le_refl _)).mono ?_
    rintro e w' ⟨b, v, q1, q2, q3, q4, q5⟩
    exact ⟨b, q1, q5⟩
  have HX : Aside (∀ w q r, UnmadeD w q → Calls Tryd.prog 14 #[q, r] w fun e w' => e = .returned (.tuple #[.int .i64 0, .int .i64 1]) ∧ w = w') := fun w q r h => next_no q r w h
  have HD : Aside (∀ w : World, Calls Tryd.prog 7 #[.slice (some ⟨w.heap.size, 0, none⟩) 2 2] (w.alloc (.cells #[.int .i64 1, .int .i64 1] 3)) fun e w' => ∃ b, e = .returned (.tuple #[.pointer (some ⟨b, 0, none⟩), .int .i64 0]) ∧ (∃ m, DecAt w' 0 b m [1, 1]) ∧ Below w.heap.size w w') := fun w => by
    refine (newDec_ok _ _ [1, 1] (src_lit w [1, 1] 2 rfl) fine_two).mono ?_
    rintro e w' ⟨b, q1, ⟨m, q2⟩, q3⟩
    exact ⟨b, q1, ⟨m, q2.1, q2.2.1, Nat.zero_le _, Nat.zero_le _⟩, (below_lit w _).trans (q3.mono (below_lit w _).size)⟩
  have HP : Aside (∀ w, Below W.heap.size W w → Calls Tryd.prog 19 #[.pointer none, v1, v1, .int .i64 0] w fun e w' => e = .returned (.int .i64 1) ∧ Drew w w') := fun w hb => hput_nil w v1 l (h1.below hb)
  have hne : ∀ (b : Nat) w, (binOp .eql 24 (.pointer (some ⟨b, 0, none⟩)) (.pointer none)).run Tryd.prog w = .ok (.bool false) w := fun _ _ => by kernel_rfl
  have H0 : Aside (UnmadeD W (.pointer none) ∧ Below W.heap.size W W) := ⟨.inl rfl, Below.refl _ _⟩
  clear h0 hn hl h1
  go_enter Tryd.func5, Tryd.ntmps5
  go_wp2_with fail
  go_loopg [5, 6] 2 (fun kx s5 s6 wr => ∃ (i : Nat), s6 = .int .i64 i ∧ i ≤ 2 ∧ 2 - i ≤ kx ∧ Aside (UnmadeD wr s5 ∧ Below W.heap.size W wr))
  case atStart => exact ⟨0, rfl, by omega, Nat.le_refl _, H0.out⟩
  case round =>
    clear H0
    obtain ⟨i, rfl, hi, hkx, HS⟩ := hrel
    by_cases hlt : i < 2
    · have hltz : (i : Int) < 2 := by omega
      have wi : IntKind.i64.wrap ((i : Int) + 1) = (i : Int) + 1 := by rw [IntKind.wrap_i64]; omega
      go_wp2_with (first
        | (go_at_call 12; refine (HR.out wr HS.out.2).mono ?_; rintro e w2 ⟨b, rfl, hb2⟩; have HB2 := HS.out.2.trans (hb2.mono HS.out.2.size); have HU2 := HS.out.1.below hb2)
        | (go_at_call 14; refine (HX.out _ _ _ HU2).mono ?_; rintro e w3 ⟨rfl, rfl⟩)
        | (go_at_call 9; refine (HN _ _).out.mono ?_; rintro e w4 ⟨rfl, rfl⟩))
      have HE : Aside (UnmadeD (w2.alloc (.cells #[.pointer none, .map none] 55)) (.pointer (some ⟨w2.heap.size, 0, none⟩)) ∧ Below W.heap.size W (w2.alloc (.cells #[.pointer none, .map none] 55))) :=
        ⟨.inr ⟨_, rfl, by rw [Lib.cell_of_heap (heap_alloc_new _ _)]; rfl⟩, HB2.alloc HB2.size _⟩
      go_roundg (2 - (i + 1))
      case measure => omega
      case rel => exact ⟨i + 1, by go_num, by omega, Nat.le_refl _, HE.out⟩
    · obtain rfl : i = 2 := by omega
      have HBW : Aside (Below W.heap.size W wr) := HS.out.2
      clear HS
      go_wp2_with (first
        | (go_at_call 7; refine (HD.out wr).mono ?_; rintro e w2 ⟨b, rfl, hdec, hb2⟩; have HB2 := HBW.out.trans (hb2.mono HBW.out.size); obtain ⟨m, hdm⟩ := hdec; have HN2 := Lib.hid (next_nil w2 0 b m [1, 1] hdm))
        | (go_at_call 14; refine HN2.out.mono ?_; rintro e w3 ⟨rfl, rfl⟩)
        | (go_at_call 19; refine (HP.out w2 HB2).mono ?_; rintro e w5 ⟨rfl, hd5⟩; have HB5 := HB2.trans (hd5.below _))
        | (go_at_call 9; refine (HN _ _).out.mono ?_; rintro e w4 ⟨rfl, rfl⟩)
        | (go_at_call 11; refine (HK _).out.mono ?_; rintro e w6 ⟨rfl, hb6⟩))
      go_ret
      exact ⟨rfl, HB5.trans (hb6.mono HB5.size)⟩
end Go.Proofs.YtmmbadkkkjkgnaaDoor.Huf
