/- The listed variables as the statements find them. -/
import Derived.Test.YtdgfhbeofidbnaaDoorPkInfO
import Derived.Test.YtdgfhbeofidbnaaDoorRows
import Derived.Test.YtdgfhbeofidbnaaDoorPkBitL
import Derived.Lib.LaidTab
import Derived.Lib.LaidU8
import Derived.LaidOnce
namespace Go.Proofs.YtdgfhbeofidbnaaDoor.Inf
open Go.RowKit Go.Shelf Go.Lib Go.Proofs.YtdgfhbeofidbnaaDoor.Mem Go.Proofs.YtdgfhbeofidbnaaDoor.Bit Go.Proofs.YtdgfhbeofidbnaaDoor.Huf Go.Proofs.YtdgfhbeofidbnaaDoor.Lz

theorem tab_reads {name : String} {k : IntKind} {zs : List Int} {W : World} {g : Nat} {t e : TypeId} {n : Nat}
    (hg : Tryd.prog.globalNamed name = some g) (hty : (Tryd.prog.globals[g]?).map (·.type) = some t) (ht : Tryd.prog.underlying t = some (.array n e)) (he : Tryd.prog.underlying e = some (.int k)) (hce : Tryd.prog.cellsOf e = 1) (hct : Tryd.prog.cellsOf t = n)
    (h : Lib.VarReads Tryd.prog W name (Lib.tabData k zs)) : Lib.TabIs Tryd.prog W name k zs := by
  obtain ⟨g', t', cs, fuel, p, hg', ht', hvar, hd⟩ := h
  obtain rfl := Option.some.inj (hg.symm.trans hg')
  obtain rfl := Option.some.inj (hty.symm.trans ht')
  unfold Lib.TabIs
  rw [hvar, ← Lib.cells_of_tab ht he hce hct hd]

theorem laid_of (W : World) (h : laidMet Tryd.prog [("gatehouse/bits.masks", Rows.laid_gatehouse_bits_masks), ("gatehouse/inflate.order", Rows.laid_gatehouse_inflate_order)] W) : Masks W W.heap.size ∧ Ords W W.heap.size := by
  have h1 : Lib.VarReads Tryd.prog W "gatehouse/bits.masks" (Lib.tabData .u8 [1, 2, 4, 8, 16, 32, 64, 128]) := Lib.laidMet.reads h (.head _)
  have h2 : Lib.VarReads Tryd.prog W "gatehouse/inflate.order" (Lib.tabData .i64 [16, 17, 18, 0, 8, 7, 9, 6, 10, 5, 11, 4, 12, 3, 13, 2, 14, 1, 15]) := Lib.laidMet.reads h (.tail _ (.head _))
  have hg : Tryd.prog.globalNamed "gatehouse/bits.masks" = some 0 := by kernel_rfl
  have hg2 : Tryd.prog.globalNamed "gatehouse/inflate.order" = some 2 := by kernel_rfl
  have t1 := tab_reads (name := "gatehouse/bits.masks") (g := 0) hg (by kernel_rfl) Tryd.underlying111 Tryd.underlying5 (by kernel_rfl) (by kernel_rfl) h1
  have t2 := tab_reads (name := "gatehouse/inflate.order") (g := 2) hg2 (by kernel_rfl) Tryd.underlying184 Tryd.underlying3 (by kernel_rfl) (by kernel_rfl) h2
  have hc : ∀ i : Nat, i < 8 → W.cell? ⟨0, i, none⟩ = some (.int .u8 (2 ^ i)) := fun i hi => by
    rw [World.var?_cell hg t1 i]
    rcases (by omega : i = 0 ∨ i = 1 ∨ i = 2 ∨ i = 3 ∨ i = 4 ∨ i = 5 ∨ i = 6 ∨ i = 7) with rfl | rfl | rfl | rfl | rfl | rfl | rfl | rfl <;> rfl
  have hc2 : ∀ i : Nat, i < 19 → W.cell? ⟨2, i, none⟩ = some (.int .i64 ((ordL.getD i 0 : Nat) : Int)) := fun i hi => by
    rw [World.var?_cell hg2 t2 i]
    have hall : ∀ j : _root_.Fin 19, ([16, 17, 18, 0, 8, 7, 9, 6, 10, 5, 11, 4, 12, 3, 13, 2, 14, 1, 15] : List Int)[j.val]? = some ((ordL.getD j.val 0 : Nat) : Int) := by decide
    have := hall ⟨i, hi⟩
    simp only at this
    rw [List.getElem?_toArray, List.getElem?_map, this]
    rfl
  exact ⟨⟨block_lt_of_cell (hc 0 (by decide)), hc⟩, ⟨block_lt_of_cell (hc2 0 (by decide)), hc2⟩⟩
end Go.Proofs.YtdgfhbeofidbnaaDoor.Inf
