/- What must come: knows of the statements on lz. -/
import Derived.Test.YtenkbmkecgnfmaaLzI
import Derived.Test.YtenkbmkecgnfmaaLzT
import Derived.Lib.SlBytesConst
namespace Go.Proofs.Ytenkbmkecgnfmaa.Lz
open Go.RowKit Go.Shelf Go.Lib Go.Proofs.Ytenkbmkecgnfmaa.Mem Go.Proofs.Ytenkbmkecgnfmaa.Huf

theorem lenS_257 : lenS 257 = (284, 5, 30) := by decide +kernel

theorem num_any (n : Int) (w : World) : Calls Try.prog 20 #[.int .i64 n] w fun e w' => e = .returned (.int .i64 n) ∧ w = w' := by
  go_enter Try.func20, Try.ntmps20
  go_wp2
  go_ret
  exact ⟨rfl, rfl⟩

def kText : List UInt8 := [97, 98, 99, 97, 98, 99, 97, 98, 99, 100]
theorem pieces_knows : piecesR kText 32768 16 = ([⟨0, 0, 97⟩, ⟨0, 0, 98⟩, ⟨0, 0, 99⟩, ⟨6, 3, 0⟩, ⟨0, 0, 100⟩], 0) := by
  have e : piecesR kText 32768 16 = (pcs kText 32768 16 0, 0) := by
    unfold piecesR
    rw [if_neg (by decide), if_neg (by decide)]
    rfl
  rw [e]
  exact congrArg (fun x => (x, (0 : Int))) pcs_knows

theorem kp (W : World) : Calls Try.prog 17 #[.slice (some ⟨W.heap.size, 0, none⟩) 10 10, .int .i64 32768, .int .i64 16] (W.alloc (Obj.cells #[Value.int IntKind.u8 97, Value.int IntKind.u8 98, Value.int IntKind.u8 99, Value.int IntKind.u8 97, Value.int IntKind.u8 98, Value.int IntKind.u8 99, Value.int IntKind.u8 97, Value.int IntKind.u8 98, Value.int IntKind.u8 99, Value.int IntKind.u8 100] 5 (10, 11))) fun e w' =>
    ∃ g c, e = .returned (.tuple #[.slice (some ⟨g, 0, none⟩) 5 c, .int .i64 0]) ∧ 5 ≤ c ∧ w'.cell? ⟨g, 9, none⟩ = some (.int .i64 6) ∧ w'.cell? ⟨g, 10, none⟩ = some (.int .i64 3) ∧ w'.cell? ⟨g, 14, none⟩ = some (.int .u8 100) ∧ Below W.heap.size W w' := by
  have hA := (Below.refl W.heap.size W).alloc (Nat.le_refl _) (Obj.cells #[Value.int IntKind.u8 97, Value.int IntKind.u8 98, Value.int IntKind.u8 99, Value.int IntKind.u8 97, Value.int IntKind.u8 98, Value.int IntKind.u8 99, Value.int IntKind.u8 97, Value.int IntKind.u8 98, Value.int IntKind.u8 99, Value.int IntKind.u8 100] 5 (10, 11))
  have hs : Src (W.alloc (Obj.cells #[Value.int IntKind.u8 97, Value.int IntKind.u8 98, Value.int IntKind.u8 99, Value.int IntKind.u8 97, Value.int IntKind.u8 98, Value.int IntKind.u8 99, Value.int IntKind.u8 97, Value.int IntKind.u8 98, Value.int IntKind.u8 99, Value.int IntKind.u8 100] 5 (10, 11))) (.slice (some ⟨W.heap.size, 0, none⟩) kText.length 10) kText := by
    refine .inr ⟨_, 10, rfl, fun j v hj => ?_⟩
    rw [Lib.addr_add, cell_of_row _ _ _ _ _ (10, 11) (heap_alloc_new _ _), Nat.zero_add, ← Array.getElem?_toList]
    exact hj
  have h := pieces_any _ _ 10 kText 32768 16 hs (by decide)
  rw [pieces_knows] at h
  refine h.mono ?_
  rintro e w' ⟨v, rfl, ho, hb⟩
  obtain ⟨uo, c, rfl, h1, -, h3⟩ := own_shape ho
  cases uo with
  | none => have := (h3 rfl).1; simp at this
  | some p =>
    obtain ⟨g, rfl, -, -⟩ := own_block ho
    have hc := ho.cells (g := g) rfl
    refine ⟨g, c, rfl, h1, ?_, ?_, ?_, hA.trans (hb.mono hA.size)⟩
    · have := hc 9 (.int .i64 6) rfl; rwa [Lib.addr_add] at this
    · have := hc 10 (.int .i64 3) rfl; rwa [Lib.addr_add] at this
    · have := hc 14 (.int .u8 100) rfl; rwa [Lib.addr_add] at this

set_option maxHeartbeats 4000000 in
set_option maxRecDepth 100000 in
theorem knows_any (W : World) : Calls Try.prog 22 #[] W fun e w' => e = .returned (.bool true) ∧ Below W.heap.size W w' := by
  have HN := fun n w => Lib.hid (num_any n w)
  have HL := fun w => Lib.hid (length_any w 257)
  rw [lenS_257] at HL
  have HP := Lib.hid (kp W)
  have hcv := Lib.run_convert_bytes_const (P := Try.prog) W 32 5 #[Value.int IntKind.u8 97, Value.int IntKind.u8 98, Value.int IntKind.u8 99, Value.int IntKind.u8 97, Value.int IntKind.u8 98, Value.int IntKind.u8 99, Value.int IntKind.u8 97, Value.int IntKind.u8 98, Value.int IntKind.u8 99, Value.int IntKind.u8 100] 10 10 Try.underlying32 Try.underlying5
  go_enter Try.func22, Try.ntmps22
  go_upto_region 2 with (go_at_call 17; refine HP.out.mono ?_; rintro e w1 ⟨g, c, rfl, hc5, k1, k2, k3, hb1⟩)
  go_upto_region 3 with (go_at_call 25; refine (HL _).out.mono ?_; rintro e w2 ⟨rfl, hd2⟩)
  have m1 := (hd2.cell).trans k1
  have m2 := (hd2.cell).trans k2
  have m3 := (hd2.cell).trans k3
  have HB : Aside (Below W.heap.size W w2) := hb1.trans (hd2.below _)
  clear hb1 hd2 k1 k2 k3
  go_wp2_with (go_at_call 20; refine (HN _ _).out.mono ?_; rintro e w3 ⟨rfl, rfl⟩)
  go_ret
  exact ⟨rfl, HB.out⟩
end Go.Proofs.Ytenkbmkecgnfmaa.Lz
