/- The law DeflateNil, walked. -/
import Derived.Test.YthmbbpfgbpacnaaDoorPkDefNil
import Derived.Test.YthmbbpfgbpacnaaDoorPkDefKn
import Derived.Test.YthmbbpfgbpacnaaDoorPkInfV
namespace Go.Proofs.YthmbbpfgbpacnaaDoor.Def
open Go.RowKit Go.Shelf Go.Lib Go.Proofs.YthmbbpfgbpacnaaDoor.Mem Go.Proofs.YthmbbpfgbpacnaaDoor.Bit Go.Proofs.YthmbbpfgbpacnaaDoor.Huf Go.Proofs.YthmbbpfgbpacnaaDoor.Lz Go.Proofs.YthmbbpfgbpacnaaDoor.Inf

theorem laid_of2 (W : World) (h : laidMet Tryd.prog [("gatehouse/bits.masks", Rows.laid_gatehouse_bits_masks), ("gatehouse/deflate.order", Rows.laid_gatehouse_deflate_order)] W) : Masks W W.heap.size ∧ DOrd W W.heap.size := by
  have h1 : Lib.VarReads Tryd.prog W "gatehouse/bits.masks" (Lib.tabData .u8 [1, 2, 4, 8, 16, 32, 64, 128]) := Lib.laidMet.reads h (.head _)
  have h2 : Lib.VarReads Tryd.prog W "gatehouse/deflate.order" (Lib.tabData .i64 [16, 17, 18, 0, 8, 7, 9, 6, 10, 5, 11, 4, 12, 3, 13, 2, 14, 1, 15]) := Lib.laidMet.reads h (.tail _ (.head _))
  have hg : Tryd.prog.globalNamed "gatehouse/bits.masks" = some 0 := by kernel_rfl
  have hg2 : Tryd.prog.globalNamed "gatehouse/deflate.order" = some 1 := by kernel_rfl
  have t1 := tab_reads (name := "gatehouse/bits.masks") (g := 0) hg (by kernel_rfl) Tryd.underlying72 Tryd.underlying5 (by kernel_rfl) (by kernel_rfl) h1
  have t2 := tab_reads (name := "gatehouse/deflate.order") (g := 1) hg2 (by kernel_rfl) Tryd.underlying83 Tryd.underlying3 (by kernel_rfl) (by kernel_rfl) h2
  have hc : ∀ i : Nat, i < 8 → W.cell? ⟨0, i, none⟩ = some (.int .u8 (2 ^ i)) := fun i hi => by
    rw [World.var?_cell hg t1 i]
    rcases (by omega : i = 0 ∨ i = 1 ∨ i = 2 ∨ i = 3 ∨ i = 4 ∨ i = 5 ∨ i = 6 ∨ i = 7) with rfl | rfl | rfl | rfl | rfl | rfl | rfl | rfl <;> rfl
  have hall : ∀ j : _root_.Fin 19, ([16, 17, 18, 0, 8, 7, 9, 6, 10, 5, 11, 4, 12, 3, 13, 2, 14, 1, 15] : List Int)[j.val]? = some ((ordL.getD j.val 0 : Nat) : Int) := by decide
  have hc2 : ∀ i : Nat, i < 19 → W.cell? ⟨1, i, none⟩ = some (.int .i64 ((ordL.getD i 0 : Nat) : Int)) := fun i hi => by
    rw [World.var?_cell hg2 t2 i]
    have := hall ⟨i, hi⟩
    simp only at this
    rw [List.getElem?_toArray, List.getElem?_map, this]
    rfl
  exact ⟨⟨block_lt_of_cell (hc 0 (by decide)), hc⟩, ⟨block_lt_of_cell (hc2 0 (by decide)), hc2⟩⟩

set_option maxRecDepth 100000 in
set_option maxHeartbeats 4000000 in
theorem lawDNil (W : World) (v : Value) (B0 : Nat) (hk : Masks W B0) (ho : DOrd W B0) (hB0 : B0 ≤ W.heap.size) :
    Calls Tryd.prog 3 #[v] W fun e w' => e = .returned (.bool true) ∧ Below W.heap.size W w' := by
  have HKN : Aside (∀ w, Below W.heap.size W w → Calls Tryd.prog 8 #[] w fun e w' => e = .returned (.bool true) ∧ Below W.heap.size W w') := fun w hb =>
    (knows_any w B0 (hk.below (hb.mono hB0)) (ho.below (hb.mono hB0)) (Nat.le_trans hB0 hb.size)).mono (fun e w' h => ⟨h.1, hb.trans (h.2.mono hb.size)⟩)
  clear hk ho hB0
  go_enter Tryd.func3, Tryd.ntmps3
  go_upto_region 3 with fail
  go_loopg [3, 4, 5, 6, 7, 8] 3 (fun kx s3 s4 s5 s6 s7 s8 wr => ∃ (k : Nat) (p : Value), p = s3 ∧ s4 = .int .i64 (k : Int) ∧ k ≤ 2 ∧ 2 - k ≤ kx ∧ UnmadeS wr p ∧ Aside (Below W.heap.size W wr))
  case atStart => exact ⟨0, _, rfl, rfl, by decide, by decide, .inl rfl, Below.refl _ _⟩
  case round =>
    obtain ⟨k, p, rfl, rfl, hk2, hkx, hp, HB⟩ := hrel
    by_cases hlt : k < 2
    · have hltz : (k : Int) < 2 := by omega
      have wi : IntKind.i64.wrap ((k : Int) + 1) = (k : Int) + 1 := by rw [IntKind.wrap_i64]; omega
      have h1 := Lib.hid (sflush_no p wr hp)
      have h2 := Lib.hid (sclose_no p wr hp)
      have h3 := Lib.hid (swrite_no p v wr hp)
      have h0 := fun w => Lib.hid (num_any 1 w)
      have hsz := HB.out.size
      have HNX : Aside (UnmadeS (wr.alloc (.cells #[.pointer none, .int .i64 0, .slice none 0 0, .int .i64 0, .bool false] 30)) (.pointer (some ⟨wr.heap.size, 0, none⟩)) ∧ Below W.heap.size W (wr.alloc (.cells #[.pointer none, .int .i64 0, .slice none 0 0, .int .i64 0, .bool false] 30))) :=
        ⟨.inr ⟨_, rfl, cell_of_row _ _ 0 _ _ (0, 0) (heap_alloc_new _ _)⟩, HB.out.alloc hsz _⟩
      clear hp hsz
      go_wp2_with (first
        | (go_at_call 4; refine h1.out.mono ?_; rintro e w1 ⟨rfl, rfl⟩)
        | (go_at_call 5; refine h2.out.mono ?_; rintro e w1 ⟨rfl, rfl⟩)
        | (go_at_call 7; refine h3.out.mono ?_; rintro e w1 ⟨rfl, rfl⟩)
        | (go_at_call 6; refine (h0 _).out.mono ?_; rintro e w1 ⟨rfl, rfl⟩))
      go_roundg (2 - (k + 1))
      case measure => omega
      case rel => exact ⟨k + 1, _, rfl, by go_num, by omega, Nat.le_refl _, HNX.out.1, HNX.out.2⟩
    · obtain rfl : k = 2 := by omega
      have HKK := Lib.hid (HKN.out wr HB.out)
      clear HKN
      go_wp2_with (go_at_call 8; refine HKK.out.mono ?_; rintro e w1 ⟨rfl, y⟩; have HY := Lib.hid y; clear y)
      go_ret
      exact ⟨rfl, HY.out⟩
end Go.Proofs.YthmbbpfgbpacnaaDoor.Def
