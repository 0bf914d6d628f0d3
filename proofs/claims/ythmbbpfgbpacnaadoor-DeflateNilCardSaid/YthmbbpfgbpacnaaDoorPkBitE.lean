/- A writer of package bits that NewWriter made: Align, Raw, Bits, Bytes; a copy of bytes. A reader of package bits that NewReader made: what is left, bits that are taken. A reader of package bits that NewReader made: numbers are taken. A reader of package bits: whole bytes are taken; NewReader. -/
import Derived.Test.YthmbbpfgbpacnaaDoorPkBitM
namespace Go.Proofs.YthmbbpfgbpacnaaDoor.Bit
open Go.RowKit Go.Shelf Go.Proofs.YthmbbpfgbpacnaaDoor.Mem

set_option maxRecDepth 100000 in
set_option maxHeartbeats 2000000 in
/-- bytes.Clone OF ANY BYTES. -/
theorem clone_any (W : World) (ax : Option Addr) (n c : Nat) (l : List UInt8) (hx : Src W (.slice ax n c) l) (hn : l.length = n) (hl : n ≤ 140737488355328) :
    Calls Tryd.prog 23 #[.slice ax n c] W fun e w' => ∃ v, e = .returned v ∧ w'.ownsRow W.heap.size 5 1 v n (bVs l) ∧ Below W.heap.size W w' := by
  subst hn
  cases ax with
  | none =>
    have hl0 : l.length = 0 := by
      rcases hx with ⟨hv, rfl⟩ | ⟨a, c', hv, _⟩
      · rfl
      · cases hv
    have hln := List.eq_nil_of_length_eq_zero hl0
    subst hln
    have q : ∀ w, (binOp .eql 22 (.slice none 0 c) (.slice none 0 0)).run Tryd.prog w = .ok (.bool true) w := fun w => Lib.run_eql_slice_nil w _ _ none 0 c 0 0 Tryd.underlying22
    clear hx
    rw [List.length_nil]
    go_enter Tryd.func23, Tryd.ntmps23
    go_wp2
    go_ret
    exact ⟨_, rfl, World.ownsRow_nil _ _ _ _, Below.refl _ _⟩
  | some a =>
    obtain ⟨v1, W1, hr1, ho1, hb1⟩ := fresh_any W (.slice (some a) l.length c) 22 l hx hl
    have q : ∀ w, (binOp .eql 22 (.slice (some a) l.length c) (.slice none 0 0)).run Tryd.prog w = .ok (.bool false) w := fun w => Lib.run_eql_slice_nil w _ _ (some a) l.length c 0 0 Tryd.underlying22
    have HO := Lib.hid ho1
    have HB := Lib.hid hb1
    clear hx ho1 hb1
    go_enter Tryd.func23, Tryd.ntmps23
    go_wp2_with (at_builtin; refine wpList_append_at _ rfl _ _ _ _ rfl _ _ rfl rfl _ _ hr1 ?_)
    go_ret
    exact ⟨v1, rfl, HO.out, HB.out⟩

set_option maxHeartbeats 1000000 in
theorem bits_any (W : World) (B b g : Nat) (l : List Bool) (h : WB W B b g l) :
    Calls Tryd.prog 17 #[.pointer (some ⟨b, 0, none⟩)] W fun e w' => e = .returned (.int .i64 l.length) ∧ W = w' := by
  have HM := Lib.hid (made_yes W B b g l h)
  obtain ⟨v, hc, -⟩ := h
  have c2 : W.cell? ⟨b, 2, none⟩ = some (.int .i64 l.length) := by rw [Lib.cell_of_heap hc]; rfl
  clear hc
  go_enter Tryd.func17, Tryd.ntmps17
  go_wp2_with (go_at_call 22; refine HM.out.mono ?_; rintro e w1 ⟨rfl, rfl⟩)
  go_ret
  exact ⟨rfl, rfl⟩

set_option maxHeartbeats 1000000 in
theorem bytes_any (W : World) (B b g : Nat) (l : List Bool) (h : WB W B b g l) (hl : l.length ≤ 8388608) :
    Calls Tryd.prog 14 #[.pointer (some ⟨b, 0, none⟩)] W fun e w' => ∃ v, e = .returned v ∧ w'.ownsRow W.heap.size 5 1 v (pk l).length (bVs (pk l)) ∧ Below W.heap.size W w' := by
  have HM := Lib.hid (made_yes W B b g l h)
  have hpl := pk_len l
  obtain ⟨v, hc, ho, -⟩ := h
  obtain ⟨ao, cap, rfl, hcap, hcm, hnone⟩ := own_shape ho
  have c1 : W.cell? ⟨b, 1, none⟩ = some (.slice ao (pk l).length cap) := by rw [Lib.cell_of_heap hc]; rfl
  have HC := Lib.hid (clone_any W ao _ cap (pk l) (Src.of_own ho rfl) rfl (by omega))
  clear hc ho hpl hnone
  go_enter Tryd.func14, Tryd.ntmps14
  go_wp2_with (first
    | (go_at_call 22; refine HM.out.mono ?_; rintro e w1 ⟨rfl, rfl⟩)
    | (go_at_call 23; refine HC.out.mono ?_; rintro e w1 ⟨v, rfl, ho1, hb1⟩; have HO1 := Lib.hid ho1; have HB1 := Lib.hid hb1; clear ho1 hb1))
  go_ret
  exact ⟨v, rfl, HO1.out, HB1.out⟩

end Go.Proofs.YthmbbpfgbpacnaaDoor.Bit
namespace Go.Proofs.YthmbbpfgbpacnaaDoor.Bit
open Go.RowKit Go.Shelf Go.Proofs.YthmbbpfgbpacnaaDoor.Mem

section
variable {W W' : World} {B b : Nat} {v : Value} {bs : List UInt8} {at_ : Nat}
end

end Go.Proofs.YthmbbpfgbpacnaaDoor.Bit
namespace Go.Proofs.YthmbbpfgbpacnaaDoor.Bit
open Go.RowKit Go.Shelf Go.Proofs.YthmbbpfgbpacnaaDoor.Mem

end Go.Proofs.YthmbbpfgbpacnaaDoor.Bit
namespace Go.Proofs.YthmbbpfgbpacnaaDoor.Bit
open Go.RowKit Go.Shelf Go.Proofs.YthmbbpfgbpacnaaDoor.Mem

end Go.Proofs.YthmbbpfgbpacnaaDoor.Bit
