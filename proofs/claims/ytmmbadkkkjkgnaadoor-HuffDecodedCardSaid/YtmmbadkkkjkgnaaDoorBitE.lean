/- A writer of package bits that NewWriter made: Align, Raw, Bits, Bytes; a copy of bytes. -/
import Derived.Test.YtmmbadkkkjkgnaaDoorBitD
namespace Go.Proofs.YtmmbadkkkjkgnaaDoor.Bit
open Go.RowKit Go.Shelf Go.Proofs.YtmmbadkkkjkgnaaDoor.Mem

set_option maxRecDepth 100000 in
set_option maxHeartbeats 2000000 in
/-- bytes.Clone OF ANY BYTES. -/
theorem clone_any (W : World) (ax : Option Addr) (n c : Nat) (l : List UInt8) (hx : Src W (.slice ax n c) l) (hn : l.length = n) (hl : n ≤ 140737488355328) :
    Calls Tryd.prog 27 #[.slice ax n c] W fun e w' => ∃ v, e = .returned v ∧ w'.ownsRow W.heap.size 5 1 v n (bVs l) ∧ Below W.heap.size W w' := by
  subst hn
  cases ax with
  | none =>
    have hl0 : l.length = 0 := by
      rcases hx with ⟨hv, rfl⟩ | ⟨a, c', hv, _⟩
      · rfl
      · cases hv
    have hln := List.eq_nil_of_length_eq_zero hl0
    subst hln
    have q : ∀ w, (binOp .eql 23 (.slice none 0 c) (.slice none 0 0)).run Tryd.prog w = .ok (.bool true) w := fun w => Lib.run_eql_slice_nil w _ _ none 0 c 0 0 Tryd.underlying23
    clear hx
    rw [List.length_nil]
    go_enter Tryd.func27, Tryd.ntmps27
    go_wp2
    go_ret
    exact ⟨_, rfl, World.ownsRow_nil _ _ _ _, Below.refl _ _⟩
  | some a =>
    obtain ⟨v1, W1, hr1, ho1, hb1⟩ := fresh_any W (.slice (some a) l.length c) 23 l hx hl
    have q : ∀ w, (binOp .eql 23 (.slice (some a) l.length c) (.slice none 0 0)).run Tryd.prog w = .ok (.bool false) w := fun w => Lib.run_eql_slice_nil w _ _ (some a) l.length c 0 0 Tryd.underlying23
    have HO := Lib.hid ho1
    have HB := Lib.hid hb1
    clear hx ho1 hb1
    go_enter Tryd.func27, Tryd.ntmps27
    go_wp2_with (at_builtin; refine wpList_append_at _ rfl _ _ _ _ rfl _ _ rfl rfl _ _ hr1 ?_)
    go_ret
    exact ⟨v1, rfl, HO.out, HB.out⟩

set_option maxHeartbeats 400000 in
theorem made_at (W : World) (b : Nat) (c0 : W.cell? ⟨b, 0, none⟩ = some (.pointer (some ⟨b, 0, none⟩))) : Calls Tryd.prog 37 #[.pointer (some ⟨b, 0, none⟩)] W fun e w' => e = .returned (.bool true) ∧ W = w' := by
  have hn : ∀ w, (binOp .neq 44 (.pointer (some ⟨b, 0, none⟩)) (.pointer none)).run Tryd.prog w = .ok (.bool true) w := fun _ => by kernel_rfl
  obtain ⟨j, hte⟩ : ∃ j, Tryd.prog.info? 79 = some j := Option.isSome_iff_exists.1 (by kernel_rfl)
  have he : ∀ w, (binOp .eql 44 (.pointer (some ⟨b, 0, none⟩)) (.pointer (some ⟨b, 0, none⟩))).run Tryd.prog w = .ok (.bool true) w := fun w => run_eql_ptr_same (w := w) _ Tryd.underlying44 hte
  go_enter Tryd.func37, Tryd.ntmps37
  go_wp2
  go_ret
  exact ⟨rfl, rfl⟩

/-- The writer's count is set to its whole bytes. -/
theorem WB.aligned {W V : World} {B b g g0 n cap : Nat} {ao : Option Addr} {l : List Bool} {c : Value} (hc : V.heap[b]? = some (.cells #[.pointer (some ⟨b, 0, none⟩), .slice ao n cap, c] 79 (0, 0)))
    (ho : V.ownsRow B 5 1 (.slice ao n cap) n (bVs (pk l))) (hv : (Value.slice ao n cap).ownBlock = none ∧ g = b ∨ (Value.slice ao n cap).ownBlock = some g ∧ g ≠ b) (hB : B ≤ b) (hl : l.length = 8 * n) (hn : (pk l).length = n)
    (hg : g = g0 ∨ W.heap.size ≤ g) (hW : Only (fun k => k = b ∨ k = g0) W V) : WStep W (V.setCell ⟨b, 2, none⟩ (.int .i64 (8 * (n : Int)))) B b g0 l := by
  subst hn
  refine ⟨g, ⟨.slice ao (pk l).length cap, ?_, ?_, hv, hB⟩, hg, hW.trans (S' := fun k => k = b) (Only.setCell (S := fun k => k = b) rfl _ _) (fun i q => .inl (.inl q))⟩
  · rw [show (l.length : Int) = 8 * ((pk l).length : Int) by omega]
    exact (Lib.heap_setCell_same (i := 2) hc _).trans rfl
  · refine own_same ho (fun k hk => Below.heap_setCell _ _ _ _ (fun e => ?_))
    rcases hv with ⟨h, _⟩ | ⟨h, hne⟩
    · rw [h] at hk; cases hk
    · rw [h] at hk
      obtain rfl : g = k := by simpa using hk
      exact hne e

set_option maxHeartbeats 1000000 in
theorem bytes_any (W : World) (B b g : Nat) (l : List Bool) (h : WB W B b g l) (hl : l.length ≤ 8388608) :
    Calls Tryd.prog 21 #[.pointer (some ⟨b, 0, none⟩)] W fun e w' => ∃ v, e = .returned v ∧ w'.ownsRow W.heap.size 5 1 v (pk l).length (bVs (pk l)) ∧ Below W.heap.size W w' := by
  have HM := Lib.hid (made_yes W B b g l h)
  have hpl := pk_len l
  obtain ⟨v, hc, ho, -⟩ := h
  obtain ⟨ao, cap, rfl, hcap, hcm, hnone⟩ := own_shape ho
  have c1 : W.cell? ⟨b, 1, none⟩ = some (.slice ao (pk l).length cap) := by rw [Lib.cell_of_heap hc]; rfl
  have HC := Lib.hid (clone_any W ao _ cap (pk l) (Src.of_own ho rfl) rfl (by omega))
  clear hc ho hpl hnone
  go_enter Tryd.func21, Tryd.ntmps21
  go_wp2_with (first
    | (go_at_call 37; refine HM.out.mono ?_; rintro e w1 ⟨rfl, rfl⟩)
    | (go_at_call 27; refine HC.out.mono ?_; rintro e w1 ⟨v, rfl, ho1, hb1⟩; have HO1 := Lib.hid ho1; have HB1 := Lib.hid hb1; clear ho1 hb1))
  go_ret
  exact ⟨v, rfl, HO1.out, HB1.out⟩

end Go.Proofs.YtmmbadkkkjkgnaaDoor.Bit
