/- A reader of package bits that NewReader made: numbers are taken. -/
import Derived.Test.YtmmbadkkkjkgnaaDoorBitF
namespace Go.Proofs.YtmmbadkkkjkgnaaDoor.Bit
open Go.RowKit Go.Shelf Go.Proofs.YtmmbadkkkjkgnaaDoor.Mem

set_option maxHeartbeats 1000000 in
theorem take_bad (W : World) (B b : Nat) (v : Value) (bs : List UInt8) (at_ : Nat) (x : Int) (h : RB W B b v bs at_) (hx : x < 0 ∨ 32 < x) :
    Calls Tryd.prog 29 #[.pointer (some ⟨b, 0, none⟩), .int .i64 x] W fun e w' => e = .returned (.tuple #[.int .i64 0, .int .i64 1]) ∧ W = w' := by
  have HM := Lib.hid (rmade_yes W B b v bs at_ h)
  clear h
  rcases hx with hx | hx
  · go_enter Tryd.func29, Tryd.ntmps29
    go_wp2_with (go_at_call 31; refine HM.out.mono ?_; rintro e w1 ⟨rfl, rfl⟩)
    go_ret2
    exact ⟨rfl, rfl⟩
  · have h' : ¬ x < 0 := by omega
    go_enter Tryd.func29, Tryd.ntmps29
    go_wp2_with (go_at_call 31; refine HM.out.mono ?_; rintro e w1 ⟨rfl, rfl⟩)
    go_ret2
    exact ⟨rfl, rfl⟩

set_option maxHeartbeats 1000000 in
theorem take_end (W : World) (B b : Nat) (v : Value) (bs : List UInt8) (at_ m : Nat) (h : RB W B b v bs at_) (hm : m ≤ 32) (hs : 8 * bs.length < at_ + m) :
    Calls Tryd.prog 29 #[.pointer (some ⟨b, 0, none⟩), .int .i64 m] W fun e w' => e = .returned (.tuple #[.int .i64 0, .int .i64 20]) ∧ Drew W w' := by
  have HM := Lib.hid (rmade_yes W B b v bs at_ h)
  have HL := Lib.hid (left_any W B b v bs at_ h)
  have hgt : 8 * (bs.length : Int) - at_ < (m : Int) := by omega
  clear h
  go_enter Tryd.func29, Tryd.ntmps29
  go_wp2_with (first
    | (go_at_call 31; refine HM.out.mono ?_; rintro e w1 ⟨rfl, rfl⟩)
    | (go_at_call 16; refine HL.out.mono ?_; rintro e w1 ⟨rfl, n1, rfl⟩))
  go_ret2
  exact ⟨rfl, Drew.drewN _ _⟩

theorem takeN_bd (bs : List UInt8) (at_ k : Nat) (hk : k < 32) : takeN bs at_ k < 4294967296 := by
  have h := takeN_lt bs at_ k
  have : 2 ^ k ≤ 2 ^ 32 := Nat.pow_le_pow_right (by decide) (by omega)
  omega
theorem take_or (bs : List UInt8) (at_ k : Nat) (hk : k < 32) : IntKind.i64.wrap ((bitN bs (at_ + k) : Int) * 2 ^ k) = (bitN bs (at_ + k) : Int) * 2 ^ k ∧ bits BinOp.or IntKind.i64 (takeN bs at_ k : Int) ((bitN bs (at_ + k) : Int) * 2 ^ k) = (takeN bs at_ (k + 1) : Int) := by
  have hb := bitN_lt bs (at_ + k)
  have hp : 2 ^ k ≤ 2 ^ 31 := Nat.pow_le_pow_right (by decide) (by omega)
  have ht := takeN_lt bs at_ k
  have hm : bitN bs (at_ + k) * 2 ^ k ≤ 2147483648 := by
    rcases (by omega : bitN bs (at_ + k) = 0 ∨ bitN bs (at_ + k) = 1) with e | e <;> rw [e] <;> omega
  have e : ((bitN bs (at_ + k) : Int) * 2 ^ k) = ((bitN bs (at_ + k) * 2 ^ k : Nat) : Int) := by rw [Int.natCast_mul, Int.natCast_pow]; rfl
  refine ⟨?_, ?_⟩
  · rw [e, IntKind.wrap_i64]; omega
  · exact i64_or_up _ _ k ht (by rw [Nat.mul_comm]; omega)

set_option maxRecDepth 100000 in
set_option maxHeartbeats 4000000 in
theorem take_ok (W : World) (B b : Nat) (v : Value) (bs : List UInt8) (at_ m : Nat) (h : RB W B b v bs at_) (hmk : Masks W B) (hm : m ≤ 32) (hs : at_ + m ≤ 8 * bs.length) :
    Calls Tryd.prog 29 #[.pointer (some ⟨b, 0, none⟩), .int .i64 m] W fun e w' => e = .returned (.tuple #[.int .i64 (takeN bs at_ m), .int .i64 0]) ∧ RB w' B b v bs (at_ + m) ∧ Only (fun k => k = b) W w' := by
  have HM := Lib.hid (rmade_yes W B b v bs at_ h)
  have HL := Lib.hid (left_any W B b v bs at_ h)
  have hgt : ¬ 8 * (bs.length : Int) - at_ < (m : Int) := by omega
  have hlen : (bs.length : Int) ≤ 140737488355328 := by have := h.2.2.2.2.2; omega
  have hat : (at_ : Int) ≤ 1125899906842624 := by have := h.2.2.2.2.1; omega
  have H := Lib.hid h
  have HK := Lib.hid hmk
  have HS := Lib.hid hs
  have mixed : Tryd.prog.follows .mixedOrders = true := by kernel_rfl
  clear h hmk hs
  go_enter Tryd.func29, Tryd.ntmps29
  go_wp2_with (first
    | (go_at_call 31; refine HM.out.mono ?_; rintro e w1 ⟨rfl, rfl⟩)
    | (go_at_call 16; refine HL.out.mono ?_; rintro e w1 ⟨rfl, n1, rfl⟩))
  go_loopw [6, 24] (fun t i wr => ∃ k : Nat, k ≤ m ∧ i = .int .i64 k ∧ t = .int .i64 (takeN bs at_ k) ∧ Drew W wr) (fun _ i _ => m - (intOf i).toNat)
  case atStart => exact ⟨0, Nat.zero_le _, rfl, rfl, Drew.drewN _ _⟩
  case round =>
    obtain ⟨k, hk, rfl, rfl, hd⟩ := hrel
    have h' := H.out.drew hd
    have c2 := h'.c2
    by_cases hlt : k < m
    · have HB : Hid (∀ j, Calls Tryd.prog 43 #[.pointer (some ⟨b, 0, none⟩), .int .i64 ((at_ + k : Nat) : Int)] (wr.drewN j) fun e w' => e = .returned (.int .i64 (bitN bs (at_ + k))) ∧ ∃ m, w' = (wr.drewN j).drewN m) := Lib.hid fun j =>
        bit_any _ B b v bs at_ (at_ + k) (h'.drew (Drew.drewN _ _)) ((HK.out.drew hd).drew (Drew.drewN _ _)) (by have := HS.out; omega)
      obtain ⟨hw, hor⟩ := take_or bs at_ k (by omega)
      have hsum : IntKind.i64.wrap ((at_ : Int) + (k : Int)) = ((at_ + k : Nat) : Int) := by rw [IntKind.wrap_i64]; omega
      have hk64 : (k : Int) ≤ 64 := by omega
      have HD := Lib.hid hd
      clear h' hd
      go_wp2
      go_quiet ((go_at_call 43; exact Calls.quiet_of (HB.out _)))
      clear hsum
      go_wp2
      go_roundw
      case rel => exact ⟨k + 1, by omega, by go_num, rfl, HD.out.trans (Drew.drewN _ _)⟩
      case measure => simp [intOf]; omega
    · obtain rfl : k = m := by omega
      have HE := Lib.hid (H.out.set hd (at_ + k) (by have := HS.out; omega))
      have f2 := Lib.frozen_of_heap h'.1 2
      clear h' hd
      go_wp2
      go_ret2
      have hE := HE.out
      rw [Int.natCast_add] at hE
      exact ⟨rfl, hE.1, hE.2⟩

end Go.Proofs.YtmmbadkkkjkgnaaDoor.Bit
