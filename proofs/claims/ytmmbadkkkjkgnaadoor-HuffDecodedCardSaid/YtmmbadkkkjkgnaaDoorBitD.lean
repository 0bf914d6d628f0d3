/- A writer of package bits that NewWriter made: numbers, whole bytes, what is there. -/
import Derived.Test.YtmmbadkkkjkgnaaDoorBitC
namespace Go.Proofs.YtmmbadkkkjkgnaaDoor.Bit
open Go.RowKit Go.Shelf Go.Proofs.YtmmbadkkkjkgnaaDoor.Mem

/-- P202: what may be put. -/
def okPut (n x : Int) : Prop := 0 ≤ x ∧ x ≤ 32 ∧ 0 ≤ n ∧ n < 2 ^ x.toNat
theorem okPut_div (n : Int) (m : Nat) : n / 2 ^ m = 0 ↔ 0 ≤ n ∧ n < 2 ^ m := by
  have hp := two_pos m
  constructor
  · intro h
    have h1 := Int.mul_ediv_add_emod n (2 ^ m)
    rw [h, Int.mul_zero, Int.zero_add] at h1
    have h2 := Int.emod_nonneg n (Int.ne_of_gt hp)
    have h3 := Int.emod_lt_of_pos n hp
    omega
  · intro ⟨h0, h1⟩
    exact Int.ediv_eq_zero_of_lt h0 h1
theorem bit_val (n : Int) (k : Nat) : ∃ x : Bool, n / 2 ^ k % 2 = (x.toNat : Int) ∧ decide (n / 2 ^ k % 2 = 1) = x := by
  rcases (by omega : n / 2 ^ k % 2 = 0 ∨ n / 2 ^ k % 2 = 1) with e | e <;> rw [e]
  · exact ⟨false, rfl, rfl⟩
  · exact ⟨true, rfl, rfl⟩

set_option maxHeartbeats 1000000 in
theorem put_bad (W : World) (B b g : Nat) (n x : Int) (l : List Bool) (h : WB W B b g l) (hb : ¬ okPut n x) :
    Calls Tryd.prog 33 #[.pointer (some ⟨b, 0, none⟩), .int .i64 n, .int .i64 x] W fun e w' => e = .returned (.int .i64 1) ∧ W = w' := by
  have HM := Lib.hid (made_yes W B b g l h)
  clear h
  rcases (by omega : x < 0 ∨ 32 < x ∨ (0 ≤ x ∧ x ≤ 32)) with h | h | ⟨h0, h1⟩
  · clear hb
    go_enter Tryd.func33, Tryd.ntmps33
    go_wp2_with (go_at_call 37; refine HM.out.mono ?_; rintro e w1 ⟨rfl, rfl⟩)
    go_ret
    exact ⟨rfl, rfl⟩
  · have h' : ¬ x < 0 := by omega
    clear hb
    go_enter Tryd.func33, Tryd.ntmps33
    go_wp2_with (go_at_call 37; refine HM.out.mono ?_; rintro e w1 ⟨rfl, rfl⟩)
    go_ret
    exact ⟨rfl, rfl⟩
  · obtain ⟨m, rfl⟩ := Int.eq_ofNat_of_zero_le h0
    have hz : ¬ n / 2 ^ m = 0 := fun e => hb ⟨h0, h1, by simpa using (okPut_div n m).1 e⟩
    have hz1 : (n / 2 ^ m == 0) = false := by simpa using hz
    have hz2 : (n / 2 ^ m != 0) = true := by simpa using hz
    have hm : m ≤ 32 := by omega
    clear hb hz
    go_enter Tryd.func33, Tryd.ntmps33
    go_wp2_with (go_at_call 37; refine HM.out.mono ?_; rintro e w1 ⟨rfl, rfl⟩)
    go_ret
    exact ⟨rfl, rfl⟩

set_option maxHeartbeats 1000000 in
theorem put_size (W : World) (B b g m : Nat) (n : Int) (l : List Bool) (h : WB W B b g l) (hl : l.length ≤ 8388608) (hm : m ≤ 32) (h0 : 0 ≤ n) (h1 : n < 2 ^ m) (hs : 8388608 < l.length + m) :
    Calls Tryd.prog 33 #[.pointer (some ⟨b, 0, none⟩), .int .i64 n, .int .i64 m] W fun e w' => e = .returned (.int .i64 6) ∧ W = w' := by
  have HM := Lib.hid (made_yes W B b g l h)
  have hz : n / 2 ^ m = 0 := (okPut_div n m).2 ⟨h0, h1⟩
  obtain ⟨v, hc, -⟩ := h
  have c2 : W.cell? ⟨b, 2, none⟩ = some (.int .i64 l.length) := by rw [Lib.cell_of_heap hc]; rfl
  have hgt : 8388608 - (l.length : Int) < (m : Int) := by omega
  clear hc h0 h1
  go_enter Tryd.func33, Tryd.ntmps33
  go_wp2_with (go_at_call 37; refine HM.out.mono ?_; rintro e w1 ⟨rfl, rfl⟩)
  go_ret
  exact ⟨rfl, rfl⟩

set_option maxHeartbeats 2000000 in
theorem put_ok (W : World) (B b g m : Nat) (n : Int) (l : List Bool) (h : WB W B b g l) (hmk : Masks W B) (hm : m ≤ 32) (h0 : 0 ≤ n) (h1 : n < 2 ^ m) (hs : l.length + m ≤ 8388608) :
    Calls Tryd.prog 33 #[.pointer (some ⟨b, 0, none⟩), .int .i64 n, .int .i64 m] W fun e w' => e = .returned (.int .i64 0) ∧ WStep W w' B b g (l ++ bitsOf n m) := by
  have HM := Lib.hid (made_yes W B b g l h)
  have hz : n / 2 ^ m = 0 := (okPut_div n m).2 ⟨h0, h1⟩
  have hB := h.leb
  have hgB := h.leg
  have H := Lib.hid h
  obtain ⟨v, hc, -⟩ := h
  have c2 : W.cell? ⟨b, 2, none⟩ = some (.int .i64 l.length) := by rw [Lib.cell_of_heap hc]; rfl
  have hgt : ¬ 8388608 - (l.length : Int) < (m : Int) := by omega
  have HK := Lib.hid hmk
  have ha := fun y : Int => i64_and1 y
  clear hc h0 h1 hmk
  go_enter Tryd.func33, Tryd.ntmps33
  go_wp2_with (go_at_call 37; refine HM.out.mono ?_; rintro e w1 ⟨rfl, rfl⟩)
  clear c2 hz
  go_loopw [33] (fun i wr => ∃ k : Nat, k ≤ m ∧ i = .int .i64 k ∧ WStep W wr B b g (l ++ bitsOf n k)) (fun i _ => m - (intOf i).toNat)
  case atStart => exact ⟨0, Nat.zero_le _, rfl, g, by simpa [bitsOf] using H.out, .inl rfl, Only.refl _ _⟩
  case round =>
    obtain ⟨k, hk, rfl, hW⟩ := hrel
    have HW := Lib.hid hW
    clear hW
    by_cases hlt : k < m
    · obtain ⟨g', q1, q2, q3⟩ := HW.out
      obtain ⟨x, hx, hx2⟩ := bit_val n k
      have HX := Lib.hid hx2
      have HP := Lib.hid (putBit_any wr B b g' _ x q1 (HK.out.only q3 (by rintro i (rfl | rfl) <;> assumption)) (by rw [List.length_append, bitsOf_len]; omega))
      have HT := Lib.hid (fun w' => WStep.trans (m := (l ++ bitsOf n k) ++ [x]) (W := w') q1 q2 q3)
      clear q1 q2 q3 hx2
      have hk32 : (k : Int) ≤ 64 := by omega
      go_wp2_with (go_at_call 44; refine HP.out.mono ?_; rintro e w1 ⟨rfl, hw1⟩; have HW1 := Lib.hid hw1; clear hw1)
      go_roundw
      case rel => exact ⟨k + 1, by omega, by go_num, by rw [bitsOf_succ, HX.out, ← List.append_assoc]; exact HT.out _ HW1.out⟩
      case measure => simp [intOf]; omega
    · obtain rfl : k = m := by omega
      go_wp2
      go_ret
      exact ⟨rfl, HW.out⟩

end Go.Proofs.YtmmbadkkkjkgnaaDoor.Bit
