/- The document's own Lengths, whatever it is given. -/
import Derived.Test.YtenkbmkecgnfmaaHRefQ
namespace Go.Proofs.Ytenkbmkecgnfmaa.Huf
open Go.RowKit Go.Shelf Go.Lib Go.Proofs.Ytenkbmkecgnfmaa.Mem

set_option maxRecDepth 100000 in
set_option maxHeartbeats 4000000 in
theorem refLengths_arg (W : World) (ao : Option Addr) (n c : Nat) (limit : Int) (h : (n : Int) > 320 ∨ limit < 1 ∨ limit > 15) :
    Calls Try.prog 12 #[.slice ao n c, .int .i64 limit] W fun e w' => e = .returned (.tuple #[.slice none 0 0, .int .i64 1]) ∧ W = w' := by
  by_cases h1 : (n : Int) > 320
  · go_enter Try.func12, Try.ntmps12
    go_wp2_with fail
    go_ret2
    exact ⟨rfl, rfl⟩
  · by_cases h2 : limit < 1
    · go_enter Try.func12, Try.ntmps12
      go_wp2_with fail
      go_ret2
      exact ⟨rfl, rfl⟩
    · have h3 : limit > 15 := by omega
      clear h
      go_enter Try.func12, Try.ntmps12
      go_wp2_with fail
      go_ret2
      exact ⟨rfl, rfl⟩

theorem refLengths_any (W : World) (v : Value) (l : List Int) (limit : Int) (hs : SrcI W v l) :
    Calls Try.prog 12 #[v, .int .i64 limit] W fun e w' => ∃ u, e = .returned (.tuple #[u, .int .i64 (lengthsR l limit).2]) ∧ w'.ownsRow W.heap.size 3 1 u (lengthsR l limit).1.length (iVs (lengthsR l limit).1) ∧ Below W.heap.size W w' := by
  by_cases h : (l.length : Int) > 320 ∨ limit < 1 ∨ limit > 15
  · have hr : lengthsR l limit = ([], 1) := by
      unfold lengthsR
      rw [if_neg]
      rintro ⟨-, h1, h2, h3, -⟩
      omega
    rw [hr]
    obtain ⟨ao, c, rfl, -⟩ := hs.shape
    refine (refLengths_arg W ao _ c limit h).mono ?_
    rintro e w' ⟨rfl, rfl⟩
    exact ⟨_, rfl, ⟨rfl, .inl ⟨rfl, rfl⟩⟩, Below.refl _ _⟩
  · obtain ⟨L, rfl⟩ : ∃ L : Nat, limit = L := ⟨limit.toNat, by omega⟩
    exact refLengths_ok W v l L hs (by omega) (by omega) (by omega)
end Go.Proofs.Ytenkbmkecgnfmaa.Huf
