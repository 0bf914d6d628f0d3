/- What must come, comes. -/
import Derived.Test.YtenkbmkecgnfmaaHufX
namespace Go.Proofs.Ytenkbmkecgnfmaa.Huf
open Go.RowKit Go.Shelf Go.Lib Go.Proofs.Ytenkbmkecgnfmaa.Mem

set_option maxHeartbeats 400000 in
set_option maxRecDepth 100000 in
theorem knows_any (W : World) : Calls Try.prog 15 #[] W fun e w' => e = .returned (.bool true) ∧ Below W.heap.size W w' := by
  have s1 : SrcI (W.alloc (.cells #[.int .i64 3, .int .i64 3, .int .i64 3, .int .i64 3, .int .i64 3, .int .i64 2, .int .i64 4, .int .i64 4] 3)) (.slice (some ⟨W.heap.size, 0, none⟩) 8 8) [3, 3, 3, 3, 3, 2, 4, 4] := src_lit W [3, 3, 3, 3, 3, 2, 4, 4] 8 rfl
  have c1 := codes_any _ _ _ s1 (by decide)
  rw [knows_codes] at c1
  have C1 := Lib.hid c1
  have s2 : ∀ w : World, SrcI (w.alloc (.cells #[.int .i64 1, .int .i64 1, .int .i64 2, .int .i64 4] 3)) (.slice (some ⟨w.heap.size, 0, none⟩) 4 4) [1, 1, 2, 4] := fun w => src_lit w [1, 1, 2, 4] 4 rfl
  have c2 := fun w : World => lengths_any _ _ _ 15 (s2 w) (by decide)
  have C2 : Aside (∀ w : World, Calls Try.prog 11 #[.slice (some ⟨w.heap.size, 0, none⟩) 4 4, .int .i64 15] (w.alloc (.cells #[.int .i64 1, .int .i64 1, .int .i64 2, .int .i64 4] 3)) fun e w' => ∃ u, e = .returned (.tuple #[u, .int .i64 0]) ∧ SrcI w' u [3, 3, 2, 1] ∧ Below w.heap.size w w') := fun w => by
    have h := c2 w
    rw [knows_lengths] at h
    refine h.mono ?_
    rintro e w' ⟨u, h1, h2, h3⟩
    exact ⟨u, h1, SrcI.of_own h2, (below_lit w _).trans (h3.mono (below_lit w _).size)⟩
  have C1' : Aside (Calls Try.prog 39 #[.slice (some ⟨W.heap.size, 0, none⟩) 8 8] (W.alloc (.cells #[.int .i64 3, .int .i64 3, .int .i64 3, .int .i64 3, .int .i64 3, .int .i64 2, .int .i64 4, .int .i64 4] 3)) fun e w' => ∃ u, e = .returned (.tuple #[u, .int .i64 0]) ∧ SrcI w' u [2, 3, 4, 5, 6, 0, 14, 15] ∧ Below W.heap.size W w') := by
    refine C1.out.mono ?_
    rintro e w' ⟨u, h1, h2, h3⟩
    exact ⟨u, h1, SrcI.of_own h2, (below_lit W _).trans (h3.mono (below_lit W _).size)⟩
  have SM : Aside (∀ (w w0 : World) (v : Value), SrcI w0 v [2, 3, 4, 5, 6, 0, 14, 15] → Below w0.heap.size w0 w → Calls Try.prog 13 #[v, .slice (some ⟨w.heap.size, 0, none⟩) 8 8] (w.alloc (.cells #[.int .i64 2, .int .i64 3, .int .i64 4, .int .i64 5, .int .i64 6, .int .i64 0, .int .i64 14, .int .i64 15] 3)) fun e w' => e = .returned (.bool true) ∧ Below w.heap.size w w') := fun w w0 v h hb => by
    refine (same_any _ _ _ _ ((h.below hb).below (below_lit w _)) (src_lit w [2, 3, 4, 5, 6, 0, 14, 15] 8 rfl) (by decide)).mono ?_
    rintro e w' ⟨h1, h2⟩
    exact ⟨h1, (below_lit w _).trans (h2.below _)⟩
  have SN : Aside (∀ (w w0 : World) (v : Value), SrcI w0 v [3, 3, 2, 1] → Below w0.heap.size w0 w → Calls Try.prog 13 #[v, .slice (some ⟨w.heap.size, 0, none⟩) 4 4] (w.alloc (.cells #[.int .i64 3, .int .i64 3, .int .i64 2, .int .i64 1] 3)) fun e w' => e = .returned (.bool true) ∧ Below w.heap.size w w') := fun w w0 v h hb => by
    refine (same_any _ _ _ _ ((h.below hb).below (below_lit w _)) (src_lit w [3, 3, 2, 1] 4 rfl) (by decide)).mono ?_
    rintro e w' ⟨h1, h2⟩
    exact ⟨h1, (below_lit w _).trans (h2.below _)⟩
  have N0 := fun w => Lib.hid (num_any 0 w)
  clear s1 c1 C1 s2 c2
  go_enter Try.func15, Try.ntmps15
  go_wp2_with (first
    | (go_at_call 39; refine C1'.out.mono ?_; rintro e w1 ⟨u1, rfl, k1, b1⟩)
    | (go_at_call 11; refine (C2.out w1).mono ?_; rintro e w2 ⟨u2, rfl, k2, b2⟩)
    | (go_at_call 14; refine (N0 _).out.mono ?_; rintro e w3 ⟨rfl, rfl⟩)
    | (go_at_call 13; with_reducible refine (SM.out w2 w1 u1 k1 b2).mono ?_; rintro e w4 ⟨rfl, b4⟩)
    | (go_at_call 13; with_reducible refine (SN.out w4 w2 u2 k2 b4).mono ?_; rintro e w5 ⟨rfl, b5⟩))
  go_ret
  refine ⟨rfl, ?_⟩
  have t2 := b1.trans (b2.mono b1.size)
  have t4 := t2.trans (b4.mono t2.size)
  exact t4.trans (b5.mono t4.size)
end Go.Proofs.Ytenkbmkecgnfmaa.Huf
