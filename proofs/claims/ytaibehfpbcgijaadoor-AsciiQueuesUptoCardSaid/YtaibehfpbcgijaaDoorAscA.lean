/- Contracts of the small functions of package ascii and of the document's answers for it, for every byte. -/
import Derived.Test.YtaibehfpbcgijaaDoorChecked
import Derived.WalkKit
import Derived.WalkLawsBesides
import Derived.WalkSpells
import Derived.Lib.Hide
namespace Go.Proofs.YtaibehfpbcgijaaDoor.Asc
open Go.RowKit

/-- A letter made small. -/
def smallB (c : UInt8) : UInt8 := if 65 ≤ c.toNat ∧ c.toNat ≤ 90 then c + 32 else c
/-- A digit's value; 16 where it is none. -/
def digB (c : UInt8) : Nat := if 48 ≤ c.toNat ∧ c.toNat ≤ 57 then c.toNat - 48 else if 97 ≤ c.toNat ∧ c.toNat ≤ 102 then c.toNat - 87 else if 65 ≤ c.toNat ∧ c.toNat ≤ 70 then c.toNat - 55 else 16
def letB (c : UInt8) : Bool := decide (97 ≤ c.toNat ∧ c.toNat ≤ 122) || decide (65 ≤ c.toNat ∧ c.toNat ≤ 90) || decide (48 ≤ c.toNat ∧ c.toNat ≤ 57)
def blankB (c : UInt8) : Bool := decide (c.toNat = 9) || decide (c.toNat = 32)
/-- What the document's answer holds a digit worth, to a base. -/
def worthI (c : UInt8) (base : Nat) : Int := if digB c < base then (digB c : Int) else -1

theorem ret_int {k : IntKind} {a b : Int} (h : a = b) : Ending.returned (.int k a) = .returned (.int k b) := by rw [h]
theorem ret_bool {a b : Bool} (h : a = b) : Ending.returned (.bool a) = .returned (.bool b) := by rw [h]
theorem small_lo (c : UInt8) (h1 : 65 ≤ c.toNat) (h2 : c.toNat ≤ 90) : (smallB c).toNat = c.toNat + 32 := by
  unfold smallB
  rw [if_pos ⟨h1, h2⟩, UInt8.toNat_add]
  simp; omega
theorem small_hi (c : UInt8) (h : ¬ (65 ≤ c.toNat ∧ c.toNat ≤ 90)) : smallB c = c := if_neg h
theorem digB_le (c : UInt8) : digB c ≤ 16 := by
  have := c.toNat_lt
  unfold digB
  repeat' split
  all_goals omega

set_option maxHeartbeats 400000 in
theorem small_any (c : UInt8) (w : World) : Calls Tryd.prog 45 #[.int .u8 (c.toNat : Int)] w fun e w' => e = .returned (.int .u8 ((smallB c).toNat : Int)) ∧ w = w' := by
  have hb := c.toNat_lt
  have H : Hid (∀ x : Int, (65 ≤ c.toNat ∧ c.toNat ≤ 90 ∧ x = c.toNat + 32) ∨ (¬ (65 ≤ c.toNat ∧ c.toNat ≤ 90) ∧ x = c.toNat) → x = (smallB c).toNat) := by
    rintro x (⟨h1, h2, rfl⟩ | ⟨h, rfl⟩)
    · rw [small_lo c h1 h2]; omega
    · rw [small_hi c h]
  go_enter Tryd.func45, Tryd.ntmps45
  go_wp2
  all_goals go_ret
  all_goals refine ⟨ret_int (H.out _ ?_), rfl⟩
  all_goals (simp; omega)

set_option maxHeartbeats 400000 in
theorem digit_any (c : UInt8) (w : World) : Calls Tryd.prog 78 #[.int .u8 (c.toNat : Int)] w fun e w' => e = .returned (.int .i64 (digB c : Int)) ∧ w = w' := by
  have hb := c.toNat_lt
  have H : Hid (∀ x : Int, (48 ≤ c.toNat ∧ c.toNat ≤ 57 ∧ x = c.toNat - 48) ∨ (97 ≤ c.toNat ∧ c.toNat ≤ 102 ∧ x = c.toNat - 87) ∨ (65 ≤ c.toNat ∧ c.toNat ≤ 70 ∧ x = c.toNat - 55)
      ∨ (¬ (48 ≤ c.toNat ∧ c.toNat ≤ 57) ∧ ¬ (97 ≤ c.toNat ∧ c.toNat ≤ 102) ∧ ¬ (65 ≤ c.toNat ∧ c.toNat ≤ 70) ∧ x = 16) → x = digB c) := by
    intro x h
    unfold digB
    split
    · omega
    · split
      · omega
      · split <;> omega
  go_enter Tryd.func78, Tryd.ntmps78
  go_wp2
  all_goals go_ret
  all_goals refine ⟨ret_int (H.out _ ?_), rfl⟩
  all_goals (simp; omega)

set_option maxHeartbeats 400000 in
theorem letter_any (c : UInt8) (w : World) : Calls Tryd.prog 42 #[.int .u8 (c.toNat : Int)] w fun e w' => e = .returned (.bool (letB c)) ∧ w = w' := by
  have hb := c.toNat_lt
  have H : Hid (∀ x : Bool, (x = true ↔ (97 ≤ c.toNat ∧ c.toNat ≤ 122) ∨ (65 ≤ c.toNat ∧ c.toNat ≤ 90) ∨ (48 ≤ c.toNat ∧ c.toNat ≤ 57)) → x = letB c) := by
    intro x h
    rw [Bool.eq_iff_iff, h]
    simp [letB, or_assoc]
  go_enter Tryd.func42, Tryd.ntmps42
  go_wp2
  all_goals go_ret
  all_goals refine ⟨ret_bool (H.out _ ?_), rfl⟩
  all_goals (simp; omega)

set_option maxHeartbeats 400000 in
theorem blank_any (c : UInt8) (w : World) : Calls Tryd.prog 44 #[.int .u8 (c.toNat : Int)] w fun e w' => e = .returned (.bool (blankB c)) ∧ w = w' := by
  have hb := c.toNat_lt
  have H : Hid (∀ x : Bool, (x = true ↔ c.toNat = 9 ∨ c.toNat = 32) → x = blankB c) := by
    intro x h
    rw [Bool.eq_iff_iff, h]
    simp [blankB]
  go_enter Tryd.func44, Tryd.ntmps44
  go_wp2
  all_goals go_ret
  all_goals refine ⟨ret_bool (H.out _ ?_), rfl⟩
  all_goals (simp; omega)

set_option maxHeartbeats 400000 in
theorem num_any (n : Int) (w : World) : Calls Tryd.prog 28 #[.int .i64 n] w fun e w' => e = .returned (.int .i64 n) ∧ w = w' := by
  go_enter Tryd.func28, Tryd.ntmps28
  go_wp2
  go_ret
  exact ⟨rfl, rfl⟩

set_option maxHeartbeats 400000 in
theorem worth_any (c : UInt8) (base : Nat) (h0 : base ≤ 16) (w : World) : Calls Tryd.prog 79 #[.int .u8 (c.toNat : Int), .int .i64 (base : Int)] w fun e w' => e = .returned (.int .i64 (worthI c base)) ∧ w = w' := by
  have hb := c.toNat_lt
  have H : Hid (∀ y : Int, ((48 ≤ c.toNat ∧ c.toNat ≤ 57 ∧ (((c.toNat : Int) - 48 < base ∧ y = c.toNat - 48) ∨ (base ≤ (c.toNat : Int) - 48 ∧ y = -1)))
      ∨ (97 ≤ c.toNat ∧ c.toNat ≤ 102 ∧ (((c.toNat : Int) - 87 < base ∧ y = c.toNat - 87) ∨ (base ≤ (c.toNat : Int) - 87 ∧ y = -1)))
      ∨ (65 ≤ c.toNat ∧ c.toNat ≤ 70 ∧ (((c.toNat : Int) - 55 < base ∧ y = c.toNat - 55) ∨ (base ≤ (c.toNat : Int) - 55 ∧ y = -1)))
      ∨ (¬ (48 ≤ c.toNat ∧ c.toNat ≤ 57) ∧ ¬ (97 ≤ c.toNat ∧ c.toNat ≤ 102) ∧ ¬ (65 ≤ c.toNat ∧ c.toNat ≤ 70) ∧ y = -1)) → y = worthI c base) := by
    intro y h
    unfold worthI digB
    repeat' split
    all_goals omega
  go_enter Tryd.func79, Tryd.ntmps79
  go_wp2
  all_goals go_ret
  all_goals refine ⟨ret_int (H.out _ ?_), rfl⟩
  all_goals (simp; omega)

end Go.Proofs.YtaibehfpbcgijaaDoor.Asc
