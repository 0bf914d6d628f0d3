/- Package huff's Full. -/
import Derived.Test.YtdgfhbeofidbnaaDoorPkHufN
namespace Go.Proofs.YtdgfhbeofidbnaaDoor.Huf
open Go.RowKit Go.Shelf Go.Lib Go.Proofs.YtdgfhbeofidbnaaDoor.Mem

set_option maxHeartbeats 1000000 in
theorem full_any (W : World) (v : Value) (l : List Int) (hs : SrcI W v l) (hl : l.length ≤ 17592186044416) :
    Calls Tryd.prog 131 #[v] W fun e w' => e = .returned (.bool ((weightR l).2 && decide ((weightR l).1 = 32768))) ∧ w' = W := by
  have HC := Lib.hid (weight_any W v l hs hl)
  clear hs
  generalize weightR l = r at HC ⊢
  obtain ⟨s, b⟩ := r
  go_enter Tryd.func131, Tryd.ntmps131
  cases b with
  | false =>
    go_wp2_with (first | (go_at_call 38; refine HC.out.mono ?_; rintro e w2 ⟨rfl, rfl⟩))
    go_ret
    exact ⟨rfl, rfl⟩
  | true =>
    by_cases h : s = 32768
    · go_wp2_with (first | (go_at_call 38; refine HC.out.mono ?_; rintro e w2 ⟨rfl, rfl⟩))
      go_ret
      exact ⟨by simp [h], rfl⟩
    · go_wp2_with (first | (go_at_call 38; refine HC.out.mono ?_; rintro e w2 ⟨rfl, rfl⟩))
      go_ret
      exact ⟨by simp [h], rfl⟩
end Go.Proofs.YtdgfhbeofidbnaaDoor.Huf
