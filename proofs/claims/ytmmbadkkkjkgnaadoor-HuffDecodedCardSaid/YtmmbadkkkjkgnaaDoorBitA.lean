/- Contracts of Reverse of package bits and of the document's answer for it. -/
import Derived.Test.YtmmbadkkkjkgnaaDoorProg
import Derived.Test.YtmmbadkkkjkgnaaDoorBitM
import Derived.WalkKit
import Derived.WalkLawsBesides
import Derived.WalkSpells
import Derived.Lib.Hide
namespace Go.Proofs.YtmmbadkkkjkgnaaDoor.Bit
open Go.RowKit

theorem ret_int {k : IntKind} {a b : Int} (h : a = b) : Ending.returned (.int k a) = .returned (.int k b) := by rw [h]
/-- How many bits count, of as many as are asked for. -/
def clampN (k : Int) : Nat := (max 0 (min k 32)).toNat
theorem clampN_le (k : Int) : clampN k ≤ 32 := by unfold clampN; omega
theorem clampN_val (k : Int) : max 0 (min k 32) = (clampN k : Int) := by unfold clampN; omega

theorem clamp_cases (x : Int) : (x ≤ 0 ∧ clampN x = 0) ∨ (∃ m : Nat, 0 < m ∧ m ≤ 32 ∧ x = m ∧ clampN x = m) ∨ (32 < x ∧ clampN x = 32) := by
  unfold clampN
  rcases (by omega : x ≤ 0 ∨ (0 < x ∧ x ≤ 32) ∨ 32 < x) with h | h | h
  · exact .inl ⟨h, by omega⟩
  · exact .inr (.inl ⟨x.toNat, by omega, by omega, by omega, by omega⟩)
  · exact .inr (.inr ⟨h, by omega⟩)
theorem rev_lt (n : Int) (k : Nat) (h : k < 32) : 0 ≤ rev n k ∧ rev n k < 4294967296 := by
  have hb := rev_bd n k
  have hp : (2 : Int) ^ k ≤ 2 ^ 32 := by
    have := Int.ofNat_le.2 (Nat.pow_le_pow_right (n := 2) (by decide) (Nat.le_of_lt h))
    rw [Int.natCast_pow, Int.natCast_pow] at this
    exact this
  have e : (2 : Int) ^ 32 = 4294967296 := by decide
  omega
/-- One bit more. -/
theorem rev_or (n : Int) (k : Nat) (h : k < 32) : bits BinOp.or IntKind.i64 (rev n k * 2) (n / 2 ^ k % 2) = rev n (k + 1) := by
  have hb := rev_lt n k h
  rw [Int.mul_comm]
  exact i64_or_low _ _ hb.1 (by omega) (by omega)
theorem rev_add (n : Int) (k : Nat) : 2 * rev n k + n / 2 ^ k % 2 = rev n (k + 1) := rfl

set_option maxHeartbeats 1000000 in
theorem rev_any (n x : Int) (w : World) : Calls Tryd.prog 34 #[.int .i64 n, .int .i64 x] w fun e w' => e = .returned (.int .i64 (rev n (clampN x))) ∧ w = w' := by
  have ha := fun y : Int => i64_and1 y
  rcases clamp_cases x with ⟨h, hc⟩ | ⟨m, h0, h1, rfl, hc⟩ | ⟨h, hc⟩
  · rw [hc]
    clear hc
    go_enter Tryd.func34, Tryd.ntmps34
    go_wp2
    go_loop [0, 5, 9] (fun v t i => ∃ k : Nat, k ≤ 0 ∧ i = .int .i64 k ∧ v = .int .i64 (n / 2 ^ k) ∧ t = .int .i64 (rev n k)) (fun _ _ i => 0 - (intOf i).toNat)
    case atStart => exact ⟨0, Nat.zero_le _, rfl, by simp, rfl⟩
    case round =>
      obtain ⟨k, hk, rfl, rfl, rfl⟩ := hrel
      by_cases hlt : k < 0
      · exact absurd hlt (by omega)
      · obtain rfl : k = 0 := by omega
        go_wp2
        go_ret
        exact ⟨rfl, rfl⟩
  · rw [hc]
    clear hc
    go_enter Tryd.func34, Tryd.ntmps34
    go_wp2
    go_loop [0, 5, 9] (fun v t i => ∃ k : Nat, k ≤ m ∧ i = .int .i64 k ∧ v = .int .i64 (n / 2 ^ k) ∧ t = .int .i64 (rev n k)) (fun _ _ i => m - (intOf i).toNat)
    case atStart => exact ⟨0, Nat.zero_le _, rfl, by simp, rfl⟩
    case round =>
      obtain ⟨k, hk, rfl, rfl, rfl⟩ := hrel
      by_cases hlt : k < m
      · have hor := rev_or n k (by omega)
        obtain ⟨hb0, hb1⟩ := rev_lt n k (by omega)
        have hdv := (div_pow_two n k).symm
        go_wp2
        go_round
        case rel => exact ⟨k + 1, by omega, by go_num, rfl, rfl⟩
        case measure => simp [intOf]; omega
      · obtain rfl : k = m := by omega
        go_wp2
        go_ret
        exact ⟨rfl, rfl⟩
  · rw [hc]
    clear hc
    go_enter Tryd.func34, Tryd.ntmps34
    go_wp2
    go_loop [0, 5, 9] (fun v t i => ∃ k : Nat, k ≤ 32 ∧ i = .int .i64 k ∧ v = .int .i64 (n / 2 ^ k) ∧ t = .int .i64 (rev n k)) (fun _ _ i => 32 - (intOf i).toNat)
    case atStart => exact ⟨0, Nat.zero_le _, rfl, by simp, rfl⟩
    case round =>
      obtain ⟨k, hk, rfl, rfl, rfl⟩ := hrel
      by_cases hlt : k < 32
      · have hor := rev_or n k (by omega)
        obtain ⟨hb0, hb1⟩ := rev_lt n k (by omega)
        have hdv := (div_pow_two n k).symm
        go_wp2
        go_round
        case rel => exact ⟨k + 1, by omega, by go_num, rfl, rfl⟩
        case measure => simp [intOf]; omega
      · obtain rfl : k = 32 := by omega
        go_wp2
        go_ret
        exact ⟨rfl, rfl⟩

set_option maxHeartbeats 1000000 in
theorem refRev_any (n x : Int) (w : World) : Calls Tryd.prog 36 #[.int .i64 n, .int .i64 x] w fun e w' => e = .returned (.int .i64 (rev n (clampN x))) ∧ w = w' := by
  have ha := fun y : Int => i64_and1 y
  rcases clamp_cases x with ⟨h, hc⟩ | ⟨m, h0, h1, rfl, hc⟩ | ⟨h, hc⟩
  · rw [hc]
    clear hc
    go_enter Tryd.func36, Tryd.ntmps36
    go_wp2
    go_loop [5, 6] (fun t i => ∃ k : Nat, k ≤ 0 ∧ i = .int .i64 k ∧ t = .int .i64 (rev n k)) (fun _ i => 0 - (intOf i).toNat)
    case atStart => exact ⟨0, Nat.zero_le _, rfl, rfl⟩
    case round =>
      obtain ⟨k, hk, rfl, rfl⟩ := hrel
      by_cases hlt : k < 0
      · exact absurd hlt (by omega)
      · obtain rfl : k = 0 := by omega
        go_wp2
        go_ret
        exact ⟨rfl, rfl⟩
  · rw [hc]
    clear hc
    go_enter Tryd.func36, Tryd.ntmps36
    go_wp2
    go_loop [5, 6] (fun t i => ∃ k : Nat, k ≤ m ∧ i = .int .i64 k ∧ t = .int .i64 (rev n k)) (fun _ i => m - (intOf i).toNat)
    case atStart => exact ⟨0, Nat.zero_le _, rfl, rfl⟩
    case round =>
      obtain ⟨k, hk, rfl, rfl⟩ := hrel
      by_cases hlt : k < m
      · have had := rev_add n k
        obtain ⟨hb0, hb1⟩ := rev_lt n k (by omega)
        go_wp2
        go_round
        case rel => exact ⟨k + 1, by omega, by go_num, rfl⟩
        case measure => simp [intOf]; omega
      · obtain rfl : k = m := by omega
        go_wp2
        go_ret
        exact ⟨rfl, rfl⟩
  · rw [hc]
    clear hc
    go_enter Tryd.func36, Tryd.ntmps36
    go_wp2
    go_loop [5, 6] (fun t i => ∃ k : Nat, k ≤ 32 ∧ i = .int .i64 k ∧ t = .int .i64 (rev n k)) (fun _ i => 32 - (intOf i).toNat)
    case atStart => exact ⟨0, Nat.zero_le _, rfl, rfl⟩
    case round =>
      obtain ⟨k, hk, rfl, rfl⟩ := hrel
      by_cases hlt : k < 32
      · have had := rev_add n k
        obtain ⟨hb0, hb1⟩ := rev_lt n k (by omega)
        go_wp2
        go_round
        case rel => exact ⟨k + 1, by omega, by go_num, rfl⟩
        case measure => simp [intOf]; omega
      · obtain rfl : k = 32 := by omega
        go_wp2
        go_ret
        exact ⟨rfl, rfl⟩

end Go.Proofs.YtmmbadkkkjkgnaaDoor.Bit
