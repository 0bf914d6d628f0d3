/- A reader of package bits: whole bytes are taken; NewReader. -/
import Derived.Test.YtmmbadkkkjkgnaaDoorBitG
namespace Go.Proofs.YtmmbadkkkjkgnaaDoor.Bit
open Go.RowKit Go.Shelf Go.Proofs.YtmmbadkkkjkgnaaDoor.Mem

/-- The rest of a reader's row, from the next whole byte on. -/
theorem rest_of (W : World) (B b : Nat) (v : Value) (bs : List UInt8) (at_ : Nat) (h : RB W B b v bs at_) :
    (v = .slice none 0 0 ∧ bs = [] ∧ at_ = 0) ∨ ∃ g cap, v = .slice (some ⟨g, 0, none⟩) bs.length cap ∧ bs.length ≤ cap ∧ cap ≤ 9223372036854775807 ∧ (at_ + 7) / 8 ≤ bs.length ∧
      ∀ q c2, ((at_ + 7) / 8 < bs.length → q = (⟨g, (at_ + 7) / 8, none⟩ : Addr)) → Src W (.slice (some q) (bs.length - (at_ + 7) / 8) c2) (bs.drop ((at_ + 7) / 8)) := by
  have hat := h.2.2.2.2.1
  have ho := h.2.1
  obtain ⟨ao, cap, rfl, hcap, hcm, hnone⟩ := own_shape ho
  cases ao with
  | none =>
    obtain ⟨h0, rfl⟩ := hnone rfl
    exact .inl ⟨by rw [h0], List.eq_nil_of_length_eq_zero h0, by omega⟩
  | some a =>
    obtain ⟨g, rfl, -, -⟩ := own_block ho
    refine .inr ⟨g, cap, rfl, hcap, hcm, by omega, fun q c2 hq => ?_⟩
    exact src_drop (Src.of_own ho rfl) (by omega) q c2 (fun hlt => by rw [hq hlt, Lib.addr_add, Nat.zero_add]) ⟨g, rfl⟩

set_option maxRecDepth 100000 in
set_option maxHeartbeats 2000000 in
theorem newReader_any (W : World) (B n c : Nat) (ax : Option Addr) (bs : List UInt8) (hx : Src W (.slice ax n c) bs) (hn : bs.length = n) (hl : n ≤ 140737488355328) (hB : B ≤ W.heap.size) :
    Calls Tryd.prog 12 #[.slice ax n c] W fun e w' => ∃ b v, e = .returned (.pointer (some ⟨b, 0, none⟩)) ∧ RB w' B b v bs 0 ∧ W.heap.size ≤ b ∧ (∀ g, v.ownBlock = some g → W.heap.size ≤ g) ∧ Below W.heap.size W w' := by
  subst hn
  have HC := Lib.hid (clone_any W ax _ c bs hx rfl hl)
  clear hx
  go_enter Tryd.func12, Tryd.ntmps12
  go_wp2_with (go_at_call 27; refine HC.out.mono ?_; rintro e w1 ⟨v, rfl, ho1, hb1⟩; obtain ⟨ao1, c1, rfl, -, -, -⟩ := own_shape ho1; have HO1 := Lib.hid ho1; have HB1 := Lib.hid hb1; clear ho1 hb1)
  go_ret
  have hA := (Below.refl w1.heap.size w1).alloc (Nat.le_refl _) (.cells #[.slice ao1 bs.length c1, .pointer (some ⟨w1.heap.size, 0, none⟩), .int .i64 0] 72)
  have hs1 := HB1.out.size
  refine ⟨w1.heap.size, _, rfl, ⟨heap_alloc_new _ _, ownsRow_mono (own_below HO1.out hA) hB, fun e => ?_, by omega, Nat.zero_le _, hl⟩, hs1, fun g hg => (HO1.out.lt g hg).1, HB1.out.trans (hA.mono hs1)⟩
  have := (HO1.out.lt _ e).2
  omega

end Go.Proofs.YtmmbadkkkjkgnaaDoor.Bit
