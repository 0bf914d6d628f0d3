/- The law DeflateBack, walked. -/
import Derived.Test.YthmbbpfgbpacnaaGreatDoorPmDefZj
import Derived.Test.YthmbbpfgbpacnaaGreatDoorPmInfV
namespace Go.Proofs.YthmbbpfgbpacnaaGreatDoor.Def
open Go.RowKit Go.Shelf Go.Lib Mem Bit Huf Lz Inf
theorem src_len {W : World} {v : Value} {l : List UInt8} (h : Mem.Src W v l) : ∃ ao c, v = .slice ao l.length c := by
 rcases h with ⟨rfl, rfl⟩ | ⟨a, c, rfl, _⟩
 ·exact ⟨none, 0, rfl⟩
 ·exact ⟨some a, c, rfl⟩
theorem laid_of3 (W : World) (h : laidMet Tryz.prog [("gatehouse/bits.masks", Rows.laid_gatehouse_bits_masks), ("gatehouse/inflate.order", Rows.laid_gatehouse_inflate_order), ("gatehouse/deflate.order", Rows.laid_gatehouse_deflate_order)] W) : Masks W W.heap.size /\ Ords W W.heap.size /\ DOrd W W.heap.size := by
 have h1 : Lib.VarReads Tryz.prog W "gatehouse/bits.masks" (Lib.tabData .u8 [1, 2, 4, 8, 16, 32, 64, 128]) := Lib.laidMet.reads h (.head _)
 have h2 : Lib.VarReads Tryz.prog W "gatehouse/deflate.order" (Lib.tabData .i64 [16, 17, 18, 0, 8, 7, 9, 6, 10, 5, 11, 4, 12, 3, 13, 2, 14, 1, 15]) := Lib.laidMet.reads h (.tail _ (.tail _ (.head _)))
 have h3 : Lib.VarReads Tryz.prog W "gatehouse/inflate.order" (Lib.tabData .i64 [16, 17, 18, 0, 8, 7, 9, 6, 10, 5, 11, 4, 12, 3, 13, 2, 14, 1, 15]) := Lib.laidMet.reads h (.tail _ (.head _))
 have hg : Tryz.prog.globalNamed "gatehouse/bits.masks" = some 0 := by kernel_rfl
 have hg2 : Tryz.prog.globalNamed "gatehouse/deflate.order" = some 1 := by kernel_rfl
 have hg3 : Tryz.prog.globalNamed "gatehouse/inflate.order" = some 2 := by kernel_rfl
 have t1 := tab_reads (name := "gatehouse/bits.masks") (g := 0) hg (by kernel_rfl) Tryz.underlying148 Tryz.underlying5 (by kernel_rfl) (by kernel_rfl) h1
 have t2 := tab_reads (name := "gatehouse/deflate.order") (g := 1) hg2 (by kernel_rfl) Tryz.underlying173 Tryz.underlying3 (by kernel_rfl) (by kernel_rfl) h2
 have t3 := tab_reads (name := "gatehouse/inflate.order") (g := 2) hg3 (by kernel_rfl) Tryz.underlying173 Tryz.underlying3 (by kernel_rfl) (by kernel_rfl) h3
 have hc : ∀ i : Nat, i < 8 -> W.cell? ⟨0, i, none⟩ = some (.int .u8 (2 ^ i)) := fun i hi => by
  rw [World.var?_cell hg t1 i]
  rcases (by omega : i = 0 \/ i = 1 \/ i = 2 \/ i = 3 \/ i = 4 \/ i = 5 \/ i = 6 \/ i = 7) with rfl | rfl | rfl | rfl | rfl | rfl | rfl | rfl <;> rfl
 have hall : ∀ j : _root_.Fin 19, ([16, 17, 18, 0, 8, 7, 9, 6, 10, 5, 11, 4, 12, 3, 13, 2, 14, 1, 15] : List Int)[j.val]? = some ((ordL.getD j.val 0 : Nat) : Int) := by decide
 have hc2 : ∀ i : Nat, i < 19 -> W.cell? ⟨1, i, none⟩ = some (.int .i64 ((ordL.getD i 0 : Nat) : Int)) := fun i hi => by
  rw [World.var?_cell hg2 t2 i]
  have := hall ⟨i, hi⟩
  simp only at this
  rw [List.getElem?_toArray, List.getElem?_map, this]
  rfl
 have hc3 : ∀ i : Nat, i < 19 -> W.cell? ⟨2, i, none⟩ = some (.int .i64 ((ordL.getD i 0 : Nat) : Int)) := fun i hi => by
  rw [World.var?_cell hg3 t3 i]
  have := hall ⟨i, hi⟩
  simp only at this
  rw [List.getElem?_toArray, List.getElem?_map, this]
  rfl
 exact ⟨⟨block_lt_of_cell (hc 0 (by decide)), hc⟩, ⟨block_lt_of_cell (hc3 0 (by decide)), hc3⟩, ⟨block_lt_of_cell (hc2 0 (by decide)), hc2⟩⟩
theorem copy_defl (W : World) (ax : Option Addr) (n c B0 : Nat) (bs : List UInt8) (hx : Mem.Src W (.slice ax n c) bs) (hn : bs.length = n) (hl : n <= 140737488355328) (hk : Masks W B0) (ho : DOrd W B0) (hB0 : B0 <= W.heap.size) :
  ∃ a1 c1 W1, (Builtin.append_ #[22, 22] 22 #[.slice (some ⟨W.heap.size, 0, none⟩) 0 0, .slice ax n c]).run Tryz.prog (W.alloc (.cells #[] 5)) = .ok (.slice a1 n c1) W1 /\
   (∀ z : Int, ∃ r : List UInt8 × Nat, (r.2 ≠ 0 -> r.1 = []) /\ (r.2 = 0 -> ∃ lv : Nat, z = lv /\ lv <= 9 /\ bs.length <= 524288 /\ r.1 = deflB bs lv) /\
    Calls Tryz.prog 9 #[.slice a1 n c1, .int .i64 z] W1 fun e w' => ∃ a2 c2, e = .returned (.tuple #[.slice a2 r.1.length c2, .int .i64 (r.2 : Int)]) /\ Mem.Src w' (.slice a2 r.1.length c2) r.1 /\ Below W.heap.size W w') := by
 obtain ⟨v, W1, h1, h2, h3⟩ := fresh_any W (.slice ax n c) 22 bs hx (by omega)
 obtain ⟨a1, c1, rfl, hc1, -, -⟩ := own_shape h2
 rw [hn] at h1
 refine ⟨a1, c1, W1, h1, fun z => ?_⟩
 by_cases hz : 0 <= z /\ z <= 9
 ·obtain ⟨lv, rfl⟩ : ∃ lv : Nat, z = lv := ⟨z.toNat, by omega⟩
  by_cases hbig : bs.length <= 524288
  ·refine ⟨(deflB bs lv, 0), fun h => absurd rfl h, fun _ => ⟨lv, rfl, by omega, hbig, rfl⟩, ?_⟩
   have hd := deflate_ok W1 B0 a1 c1 bs lv (Src.of_own h2 rfl) hc1 hbig (by omega) (fun a e => by
    subst e
    obtain ⟨g, rfl, -, g2⟩ := own_block h2
    exact g2) (hk.below (h3.mono hB0)) (ho.below (h3.mono hB0)) (Nat.le_trans hB0 h3.size)
   rw [hn] at hd
   refine hd.mono ?_
   rintro e w' ⟨v, rfl, z1, z2⟩
   obtain ⟨a2, c2, rfl, -, -, -⟩ := own_shape z1
   exact ⟨a2, c2, rfl, Src.of_own z1 rfl, h3.trans (z2.mono h3.size)⟩
  ·refine ⟨([], 6), fun _ => rfl, fun h => by simp at h, ?_⟩
   refine (deflate_size W1 a1 n c1 lv hz (by omega)).mono ?_
   rintro e w' ⟨rfl, rfl⟩
   exact ⟨none, 0, rfl, .inl ⟨rfl, rfl⟩, h3⟩
 ·refine ⟨([], 1), fun _ => rfl, fun h => by simp at h, ?_⟩
  refine (deflate_arg W1 _ z hz).mono ?_
  rintro e w' ⟨rfl, rfl⟩
  exact ⟨none, 0, rfl, .inl ⟨rfl, rfl⟩, h3⟩
end Go.Proofs.YthmbbpfgbpacnaaGreatDoor.Def
