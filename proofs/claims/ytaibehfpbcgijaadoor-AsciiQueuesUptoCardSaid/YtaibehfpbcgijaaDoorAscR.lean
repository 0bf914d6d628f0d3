/- A buffer that has no room grows: nothing of what it holds is lost, and it begins at 0. -/
import Derived.Test.YtaibehfpbcgijaaDoorAscQ
import Derived.Shelf.RegionOpenPlain
import Derived.Deep.RegionWith
import Derived.Laws.MakeOwn
import Derived.Lib.Hide
namespace Go.Proofs.YtaibehfpbcgijaaDoor.Asc
open Go.RowKit Go.Shelf

/-- What grow leaves: a row of its own, room for n behind the bytes bs. -/
def Grown (W w' : World) (b g : Nat) (lim se : Int) (n : Nat) (bs : List Value) : Prop :=
  ∃ g' cap' cur' lr', Qc w' b lim (.slice (some ⟨g', 0, none⟩) (bs.length + n) cap') 0 lr' se ∧ w'.heap[g']? = some (.cells cur' 5 (0, 0)) ∧ cur'.size = cap' ∧ bs.length + n ≤ cap' ∧ cap' ≤ 9223372036854775807 ∧
    cur'.toList.take bs.length = bs ∧ (g' = g ∨ W.heap.size ≤ g') ∧ g' ≠ b ∧ Upd b g W w'

theorem row_src {W : World} {g off l : Nat} {cur : Array Value} {bs : List Value} (hg : W.heap[g]? = some (.cells cur 5 (0, 0))) (hbs : (cur.toList.take l).drop off = bs) :
    ∀ j v, bs[j]? = some v → W.cell? ((⟨g, off, none⟩ : Addr).add j) = some v := by
  intro j v hj
  rw [Lib.addr_add, Lib.cell_of_heap hg]
  rw [← hbs, List.getElem?_drop, List.getElem?_take] at hj
  split at hj
  · simpa using hj
  · cases hj
theorem row_len {off l cap : Nat} {cur : Array Value} {bs : List Value} (hcs : cur.size = cap) (hlc : l ≤ cap) (hbs : (cur.toList.take l).drop off = bs) : bs.length = l - off := by
  rw [← hbs, List.length_drop, List.length_take, Array.length_toList]; omega

theorem grown_end {W w' w2 : World} {b g m n k cap2 off : Nat} {lim lr se : Int} {v v1 : Value} {cells : Array Value} {bs : List Value} (HD : Drew W w') (hbel : Below w'.heap.size w'.drew w2) (HH : Qc w2 b lim v off lr se) (hbW : b < W.heap.size)
    (hN : w2.heap[w'.heap.size]? = some (.cells cells 5 (0, 0))) (hcsz : cells.size = cap2) (htk : cells.toList.take m = bs) (hk : m + n ≤ k) (hcap2 : k ≤ cap2) (hcm0 : cap2 ≤ maxLen) (hl : bs.length = m) :
    Grown W (((w2.setCell ⟨b, 2, none⟩ v1).setCell ⟨b, 3, none⟩ (.int .i64 0)).setCell ⟨b, 2, none⟩ (.slice (some ⟨w'.heap.size, 0, none⟩) (m + n) cap2)) b g lim se n bs := by
  have hcm : cap2 ≤ 9223372036854775807 := by unfold maxLen at hcm0; exact hcm0
  have hs : w'.heap.size = W.heap.size := by rw [HD.heap]
  have hne : w'.heap.size ≠ b := by omega
  have U1 : Upd b g w' w2 := ⟨hbel.os, hbel.tape, hbel.output, hbel.size, fun k hk _ _ => hbel.block k hk⟩
  refine ⟨w'.heap.size, cap2, cells, lr, ?_, ?_, hcsz, by omega, hcm, by rw [hl]; exact htk, .inr (by omega), hne, ?_⟩
  · rw [hl]; exact ((HH.set2 _).set3 0).set2 _
  · rw [Below.heap_setCell _ _ _ _ hne, Below.heap_setCell _ _ _ _ hne, Below.heap_setCell _ _ _ _ hne]; exact hN
  · exact ((((HD.upd b g).trans U1 (.inl rfl)).trans (Upd.cellB b g 2 _ _) (.inl rfl)).trans (Upd.cellB b g 3 _ _) (.inl rfl)).trans (Upd.cellB b g 2 _ _) (.inl rfl)

end Go.Proofs.YtaibehfpbcgijaaDoor.Asc
