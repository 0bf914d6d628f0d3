/- Bytes that are lent with marked room behind them, and whether they stay; bytes of the call's own, each made greater by 1. -/
import Derived.Test.YtmmbadkkkjkgnaaDoorBitE
namespace Go.Proofs.YtmmbadkkkjkgnaaDoor.Bit
open Go.RowKit Go.Shelf Go.Proofs.YtmmbadkkkjkgnaaDoor.Mem

/-- The lent bytes, without the room behind them. -/
theorem lent_src {W : World} {B k cap : Nat} {l : List UInt8} (ho : W.ownsRow B 5 1 (.slice (some ⟨k, 0, none⟩) (l.length + 2) cap) (l.length + 2) (bVs (l ++ [201, 202]))) : Src W (.slice (some ⟨k, 0, none⟩) l.length cap) l := by
  have h1 : Src W (.slice (some ⟨k, 0, none⟩) (l.length + 2) cap) (l ++ [201, 202]) := Src.of_own ho (by rw [List.length_append]; rfl)
  have := src_take (m := l.length) h1 (by rw [List.length_append]; omega)
  rw [List.take_append_of_le_length (Nat.le_refl _), List.take_length] at this
  exact this

/-- Block q holds n bytes of the call's own, whatever they are. -/
def Own8 (W : World) (q n : Nat) : Prop := ∃ l cap, l.length = n ∧ W.ownsRow 0 5 1 (.slice (some ⟨q, 0, none⟩) n cap) n (bVs l)
theorem Own8.of {W : World} {B q n cap : Nat} {l : List UInt8} (h : W.ownsRow B 5 1 (.slice (some ⟨q, 0, none⟩) n cap) n (bVs l)) (hl : l.length = n) : Own8 W q n := ⟨l, cap, hl, own_zero h⟩
theorem Own8.lt {W : World} {q n : Nat} (h : Own8 W q n) : q < W.heap.size := by obtain ⟨l, cap, hl, ho⟩ := h; exact (ho.lt q rfl).2
theorem Own8.same {W W' : World} {q n : Nat} (h : Own8 W q n) (e : W'.heap[q]? = W.heap[q]?) : Own8 W' q n := by
  obtain ⟨l, cap, hl, ho⟩ := h
  exact ⟨l, cap, hl, own_same ho (fun k hk => by
    obtain rfl : q = k := by simpa [Value.ownBlock] using hk
    exact e)⟩
/-- One of them is read, and written one greater. -/
theorem Own8.step {W : World} {q n j : Nat} (h : Own8 W q n) (hj : j < n) : ∃ c : UInt8, W.cell? ⟨q, j, none⟩ = some (.int .u8 (c.toNat : Int)) ∧ W.frozen? ⟨q, j, none⟩ = false ∧ IntKind.u8.wrap ((c.toNat : Int) + 1) = ((c + 1).toNat : Int) ∧ Own8 (W.setCell ⟨q, j, none⟩ (.int .u8 ((c + 1).toNat : Int))) q n := by
  obtain ⟨l, cap, hl, ho⟩ := h
  have hsr := src_cell (Src.of_own ho hl.symm) j (by omega)
  rw [Lib.addr_add, Nat.zero_add] at hsr
  exact ⟨_, hsr, ho.frozenAt j, inc_u8 _, _, cap, by rw [List.length_set]; exact hl, own_set ho j _⟩

end Go.Proofs.YtmmbadkkkjkgnaaDoor.Bit
