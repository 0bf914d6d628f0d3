/- The masks as the statements of layer 2 find them. -/
import Derived.Test.YtmmbadkkkjkgnaaDoorBitI
import Derived.Test.YtmmbadkkkjkgnaaDoorRows
import Derived.Lib.LaidTab
import Derived.Lib.LaidU8
import Derived.LaidOnce
namespace Go.Proofs.YtmmbadkkkjkgnaaDoor.Bit
open Go.RowKit Go.Shelf Go.Proofs.YtmmbadkkkjkgnaaDoor.Mem

theorem tab_of_reads {name : String} {k : IntKind} {zs : List Int} {W : World} {g : Nat} {t e : TypeId} {n : Nat}
    (hg : Tryd.prog.globalNamed name = some g) (hty : (Tryd.prog.globals[g]?).map (·.type) = some t) (ht : Tryd.prog.underlying t = some (.array n e)) (he : Tryd.prog.underlying e = some (.int k)) (hce : Tryd.prog.cellsOf e = 1) (hct : Tryd.prog.cellsOf t = n)
    (h : Lib.VarReads Tryd.prog W name (Lib.tabData k zs)) : Lib.TabIs Tryd.prog W name k zs := by
  obtain ⟨g', t', cs, fuel, p, hg', ht', hvar, hd⟩ := h
  obtain rfl := Option.some.inj (hg.symm.trans hg')
  obtain rfl := Option.some.inj (hty.symm.trans ht')
  unfold Lib.TabIs
  rw [hvar, ← Lib.cells_of_tab ht he hce hct hd]

theorem masks_of (W : World) (h : laidMet Tryd.prog [("gatehouse/bits.masks", Rows.laid_gatehouse_bits_masks)] W) : Masks W W.heap.size := by
  have h1 : Lib.VarReads Tryd.prog W "gatehouse/bits.masks" (Lib.tabData .u8 [1, 2, 4, 8, 16, 32, 64, 128]) := Lib.laidMet.reads h (.head _)
  have hg : Tryd.prog.globalNamed "gatehouse/bits.masks" = some 0 := by kernel_rfl
  have t1 := tab_of_reads (name := "gatehouse/bits.masks") (g := 0) hg (by kernel_rfl) Tryd.underlying95 Tryd.underlying5 (by kernel_rfl) (by kernel_rfl) h1
  have hc : ∀ i : Nat, i < 8 → W.cell? ⟨0, i, none⟩ = some (.int .u8 (2 ^ i)) := fun i hi => by
    rw [World.var?_cell hg t1 i]
    rcases (by omega : i = 0 ∨ i = 1 ∨ i = 2 ∨ i = 3 ∨ i = 4 ∨ i = 5 ∨ i = 6 ∨ i = 7) with rfl | rfl | rfl | rfl | rfl | rfl | rfl | rfl <;> rfl
  exact ⟨block_lt_of_cell (hc 0 (by decide)), hc⟩

end Go.Proofs.YtmmbadkkkjkgnaaDoor.Bit
