/- What the statements of layer 1 begin with holds: the examples of a list, of a number, of tokens. -/
import Derived.Test.YtaibehfpbcgijaaDoorAscG
import Derived.Test.YtaibehfpbcgijaaDoorAscE
namespace Go.Proofs.YtaibehfpbcgijaaDoor.Asc
open Go.RowKit Go.Shelf

theorem knows_parts : partsB 44 [97, 44, 32, 98, 44, 44, 99, 32] = [[97], [98], [99]] := by decide +kernel
theorem knows_num : numL 10 1000000000000000000 [48, 48, 55] = (7, 0) := by decide +kernel
theorem knows_get : tokenS [71, 69, 84] = true := by decide +kernel
theorem knows_ab : tokenS [97, 32, 98] = false := by decide +kernel

theorem knows_split (w : World) : Calls Tryd.prog 22 #[.string ⟨#[97, 44, 32, 98, 44, 44, 99, 32]⟩, .int .u8 44] w fun e w' => ∃ g cap, e = .returned (.slice (some ⟨g, 0, none⟩) 3 cap) ∧
    w'.cell? ⟨g, 1, none⟩ = some (.string ⟨#[98]⟩) ∧ Below w.heap.size w w' := by
  have h := split_any ⟨#[97, 44, 32, 98, 44, 44, 99, 32]⟩ 44 w (by decide)
  rw [show partsB 44 (⟨#[97, 44, 32, 98, 44, 44, 99, 32]⟩ : ByteArray).data.toList = [[97], [98], [99]] from knows_parts] at h
  refine h.mono ?_
  rintro e w' ⟨v, rfl, hrow, hb⟩
  obtain ⟨g, cap, rfl⟩ := ownsRow_succ (k := 2) hrow
  exact ⟨g, cap, rfl, (hrow.cellAt 1 (by decide)).trans rfl, hb⟩
theorem knows_decimal (w : World) : Calls Tryd.prog 24 #[.string ⟨#[48, 48, 55]⟩] w fun e w' => e = .returned (.tuple #[.int .i64 7, .int .i64 0]) ∧ Below w.heap.size w w' := by
  have h := decimal_any ⟨#[48, 48, 55]⟩ w (by decide)
  rw [show numL 10 1000000000000000000 (⟨#[48, 48, 55]⟩ : ByteArray).data.toList = (7, 0) from knows_num] at h
  exact h
theorem knows_tok1 (w : World) : Calls Tryd.prog 10 #[.string ⟨#[71, 69, 84]⟩] w fun e w' => e = .returned (.bool true) ∧ Below w.heap.size w w' := by
  have h := token_any ⟨#[71, 69, 84]⟩ w (by decide)
  rw [show tokenS (⟨#[71, 69, 84]⟩ : ByteArray).data.toList = true from knows_get] at h
  exact h
theorem knows_tok2 (w : World) : Calls Tryd.prog 10 #[.string ⟨#[97, 32, 98]⟩] w fun e w' => e = .returned (.bool false) ∧ Below w.heap.size w w' := by
  have h := token_any ⟨#[97, 32, 98]⟩ w (by decide)
  rw [show tokenS (⟨#[97, 32, 98]⟩ : ByteArray).data.toList = false from knows_ab] at h
  exact h

set_option maxRecDepth 100000 in
set_option maxHeartbeats 2000000 in
theorem knows_any (w : World) : Calls Tryd.prog 14 #[] w fun e w' => e = .returned (.bool true) ∧ Below w.heap.size w w' := by
  go_enter Tryd.func14, Tryd.ntmps14
  go_wp2_with fail
  refine (knows_split _).mono ?_
  rintro e w1 ⟨g, cap, rfl, hc1, hb1⟩
  go_wp2_with fail
  refine (knows_decimal _).mono ?_
  rintro e w2 ⟨rfl, hb2⟩
  have hgl := block_lt_of_cell hc1
  have hc2 : w2.cell? ⟨g, 1, none⟩ = some (.string ⟨#[98]⟩) := (hb2.cell (p := ⟨g, 1, none⟩) hgl).trans hc1
  have hs1 := hb1.size
  have hs2 := hb2.size
  go_wp2_with fail
  refine (num_any _ _).mono ?_
  rintro e w3 ⟨rfl, rfl⟩
  go_wp2_with fail
  refine (knows_tok1 _).mono ?_
  rintro e w4 ⟨rfl, hb4⟩
  go_wp2_with fail
  refine (knows_tok2 _).mono ?_
  rintro e w5 ⟨rfl, hb5⟩
  go_wp2_with fail
  go_ret
  exact ⟨rfl, ((hb1.trans (hb2.mono hs1)).trans (hb4.mono (by omega))).trans (hb5.mono (by have := hb4.size; omega))⟩

end Go.Proofs.YtaibehfpbcgijaaDoor.Asc
