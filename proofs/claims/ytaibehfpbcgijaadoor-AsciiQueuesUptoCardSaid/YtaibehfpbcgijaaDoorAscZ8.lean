/- Any call on both queues; a limit that may not be. -/
import Derived.Test.YtaibehfpbcgijaaDoorAscZ7
namespace Go.Proofs.YtaibehfpbcgijaaDoor.Asc
open Go.RowKit Go.Shelf

theorem step_any (W : World) (b g c k s : Nat) (lim K N : Int) (ax : Option Addr) (cx : Nat) (l cs : List UInt8) (h : Pr W b g c k s lim l) (hx : Src W (.slice ax cs.length cx) cs) (hoff : Off ax cs b g c) (hcs : cs.length ≤ 1048576) :
    Calls Tryd.prog 35 #[.pointer (some ⟨b, 0, none⟩), .pointer (some ⟨c, 0, none⟩), .agg #[.int .i64 K, .int .i64 N, .slice ax cs.length cx]] W fun e w' => e = .returned (.bool true) ∧ Stp W w' b g c k lim := by
  by_cases h0 : K = 0
  · subst h0; exact step_put W b g c k s lim N ax cx l cs h hx hoff hcs
  · by_cases h1 : K = 1
    · subst h1; exact step_take W b g c k s lim N ax cs.length cx l h
    · by_cases h2 : K = 2
      · subst h2; exact step_peek W b g c k s lim N ax cs.length cx l h
      · exact step_line W b g c k s lim K N ax cs.length cx l h h0 h1 h2

set_option maxHeartbeats 1000000 in
theorem newQueue_no (W : World) (lim : Int) (h : lim < 1 ∨ 1048576 < lim) :
    Calls Tryd.prog 33 #[.int .i64 lim] W fun e w' => e = .returned (.tuple #[.pointer none, .int .i64 1]) ∧ W = w' := by
  rcases h with h | h
  all_goals
    go_enter Tryd.func33, Tryd.ntmps33
    go_wp2
    go_ret2
    exact ⟨rfl, rfl⟩

/-- Two queues, made one behind the other. -/
theorem pr_new {w1 w2 : World} {lim : Int} (h1 : 1 ≤ lim) (h2 : lim ≤ 1048576) {b c : Nat} (hq : Bf w1 b b lim 0 (bVs [])) (hb : Below w1.heap.size w1 w2) (hr : Rq w2 c c lim []) (hc : w1.heap.size ≤ c) : Pr w2 b b c c 0 lim [] := by
  have := hq.lt
  exact ⟨hq.below hb, hr, Nat.zero_le _, fun j hj => by omega, by simp; omega, h2, by omega, by omega, by omega, by omega⟩

end Go.Proofs.YtaibehfpbcgijaaDoor.Asc
