/- A reader of package bits that NewReader made: what is left, bits that are taken. -/
import Derived.Test.YtmmbadkkkjkgnaaDoorBitE
namespace Go.Proofs.YtmmbadkkkjkgnaaDoor.Bit
open Go.RowKit Go.Shelf Go.Proofs.YtmmbadkkkjkgnaaDoor.Mem

/-- Block b is a reader of the bytes bs, in the row v; so many bits have been taken. -/
def RB (W : World) (B b : Nat) (v : Value) (bs : List UInt8) (at_ : Nat) : Prop :=
  W.heap[b]? = some (.cells #[v, .pointer (some ⟨b, 0, none⟩), .int .i64 at_] 72 (0, 0)) ∧ W.ownsRow B 5 1 v bs.length (bVs bs) ∧ v.ownBlock ≠ some b ∧ B ≤ b ∧ at_ ≤ 8 * bs.length ∧ bs.length ≤ 140737488355328
section
variable {W W' : World} {B b : Nat} {v : Value} {bs : List UInt8} {at_ : Nat}
theorem RB.lt (h : RB W B b v bs at_) : b < W.heap.size := (Array.getElem?_eq_some_iff.1 h.1).1
theorem RB.same (h : RB W B b v bs at_) (hc : W'.heap[b]? = W.heap[b]?) (hk : ∀ g, v.ownBlock = some g → W'.heap[g]? = W.heap[g]?) : RB W' B b v bs at_ :=
  ⟨hc.trans h.1, own_same h.2.1 hk, h.2.2⟩
theorem RB.below (h : RB W B b v bs at_) (hb : Below W.heap.size W W') : RB W' B b v bs at_ := h.same (hb.block b h.lt) (fun g hg => hb.block g (h.2.1.lt g hg).2)
theorem RB.drew (h : RB W B b v bs at_) (d : Drew W W') : RB W' B b v bs at_ := h.same (by rw [d.heap]) (fun g hg => by rw [d.heap])
theorem RB.only {S : Nat → Prop} (h : RB W B b v bs at_) (o : Only S W W') (hb : ¬ S b) (hg : ∀ g, v.ownBlock = some g → ¬ S g) : RB W' B b v bs at_ := h.same (o.block b h.lt hb) (fun g q => o.block g (h.2.1.lt g q).2 (hg g q))
theorem RB.c0 (h : RB W B b v bs at_) : W.cell? ⟨b, 0, none⟩ = some v := by rw [Lib.cell_of_heap h.1]; rfl
theorem RB.c1 (h : RB W B b v bs at_) : W.cell? ⟨b, 1, none⟩ = some (.pointer (some ⟨b, 0, none⟩)) := by rw [Lib.cell_of_heap h.1]; rfl
theorem RB.c2 (h : RB W B b v bs at_) : W.cell? ⟨b, 2, none⟩ = some (.int .i64 at_) := by rw [Lib.cell_of_heap h.1]; rfl
/-- Another number of bits has been taken. -/
theorem RB.set (h : RB W B b v bs at_) (d : Drew W W') (x : Nat) (hx : x ≤ 8 * bs.length) : RB (W'.setCell ⟨b, 2, none⟩ (.int .i64 x)) B b v bs x ∧ Only (fun k => k = b) W (W'.setCell ⟨b, 2, none⟩ (.int .i64 x)) := by
  have h' := h.drew d
  refine ⟨⟨(Lib.heap_setCell_same (i := 2) h'.1 _).trans rfl, own_same h'.2.1 (fun k hk => Below.heap_setCell _ _ _ _ (fun e => ?_)), h.2.2.1, h.2.2.2.1, hx, h.2.2.2.2.2⟩, d.only.trans (S' := fun k => k = b) (Only.setCell (S := fun k => k = b) rfl _ _) (fun i q => .inl q)⟩
  exact h.2.2.1 (by rw [hk, e])
end

set_option maxHeartbeats 400000 in
theorem rmade_yes (W : World) (B b : Nat) (v : Value) (bs : List UInt8) (at_ : Nat) (h : RB W B b v bs at_) : Calls Tryd.prog 31 #[.pointer (some ⟨b, 0, none⟩)] W fun e w' => e = .returned (.bool true) ∧ W = w' := by
  have c1 := h.c1
  have hn : ∀ w, (binOp .neq 34 (.pointer (some ⟨b, 0, none⟩)) (.pointer none)).run Tryd.prog w = .ok (.bool true) w := fun _ => by kernel_rfl
  obtain ⟨j, hte⟩ : ∃ j, Tryd.prog.info? 72 = some j := Option.isSome_iff_exists.1 (by kernel_rfl)
  have he : ∀ w, (binOp .eql 34 (.pointer (some ⟨b, 0, none⟩)) (.pointer (some ⟨b, 0, none⟩))).run Tryd.prog w = .ok (.bool true) w := fun w => run_eql_ptr_same (w := w) _ Tryd.underlying34 hte
  clear h
  go_enter Tryd.func31, Tryd.ntmps31
  go_wp2
  go_ret
  exact ⟨rfl, rfl⟩

theorem and_bit : ∀ n : Fin 256, ∀ i : Fin 8, ((n.val &&& 2 ^ i.val) == 0) = decide (n.val / 2 ^ i.val % 2 = 0) := by decide +kernel
theorem and_byte (x : UInt8) (i : Nat) (h : i < 8) : (bits BinOp.and IntKind.u8 (x.toNat : Int) (2 ^ i) == 0) = decide (x.toNat / 2 ^ i % 2 = 0) := by
  have hp : 2 ^ i < 256 := Nat.lt_of_lt_of_le (Nat.pow_lt_pow_right (by decide) h) (by decide)
  have e : ((2 : Int) ^ i) = ((2 ^ i : Nat) : Int) := by rw [Int.natCast_pow]; rfl
  rw [e, u8_and_nat _ _ (UInt8.toNat_lt x) hp, ← and_bit ⟨x.toNat, UInt8.toNat_lt x⟩ ⟨i, h⟩]
  generalize x.toNat &&& 2 ^ i = y
  rw [Bool.eq_iff_iff, beq_iff_eq, beq_iff_eq]
  omega

set_option maxRecDepth 100000 in
set_option maxHeartbeats 2000000 in
theorem bit_any (W : World) (B b : Nat) (v : Value) (bs : List UInt8) (at_ k : Nat) (h : RB W B b v bs at_) (hm : Masks W B) (hk : k < 8 * bs.length) :
    Calls Tryd.prog 43 #[.pointer (some ⟨b, 0, none⟩), .int .i64 k] W fun e w' => e = .returned (.int .i64 (bitN bs k)) ∧ ∃ m, w' = W.drewN m := by
  have c0 := h.c0
  have hlen := h.2.2.2.2.2
  obtain ⟨ao, cap, rfl, hcap, hcm, hnone⟩ := own_shape h.2.1
  cases ao with
  | none => have := (hnone rfl).1; omega
  | some a =>
    obtain ⟨g, rfl, -, -⟩ := own_block h.2.1
    have hrc := src_cell (Src.of_own h.2.1 rfl) (k / 8) (by omega)
    rw [Lib.addr_add, Nat.zero_add] at hrc
    have hmk := hm.2 (k % 8) (Nat.mod_lt _ (by decide))
    have hgd : bitN bs k = (bs[k / 8]'(by omega)).toNat / 2 ^ (k % 8) % 2 := by unfold bitN; rw [List.getD_eq_getElem?_getD, List.getElem?_eq_getElem (by omega)]; rfl
    have hand := and_byte (bs[k / 8]'(by omega)) (k % 8) (Nat.mod_lt _ (by decide))
    have hlt := bitN_lt bs k
    rw [← hgd] at hand
    generalize bs[k / 8]'(by omega) = old at *
    generalize bitN bs k = x at *
    have hi8 : (k : Int) / 8 < (bs.length : Int) := by omega
    have mixed : Tryd.prog.follows .mixedOrders = true := by kernel_rfl
    clear hgd h hm hnone
    generalize bs.length = n at *
    rcases (by omega : x = 0 ∨ x = 1) with rfl | rfl
    · have hb : (bits BinOp.and IntKind.u8 (old.toNat : Int) (2 ^ (k % 8)) == 0) = true := by simpa using hand
      clear hand hlt
      go_enter Tryd.func43, Tryd.ntmps43
      go_wp2
      go_quiet (fail)
      go_wp2
      go_ret
      exact ⟨rfl, _, rfl⟩
    · have hb : (bits BinOp.and IntKind.u8 (old.toNat : Int) (2 ^ (k % 8)) == 0) = false := by simpa using hand
      clear hand hlt
      go_enter Tryd.func43, Tryd.ntmps43
      go_wp2
      go_quiet (fail)
      go_wp2
      go_ret
      exact ⟨rfl, _, rfl⟩

set_option maxHeartbeats 400000 in
theorem size_any (W : World) (B b : Nat) (v : Value) (bs : List UInt8) (at_ : Nat) (h : RB W B b v bs at_) :
    Calls Tryd.prog 32 #[.pointer (some ⟨b, 0, none⟩)] W fun e w' => e = .returned (.int .i64 (8 * (bs.length : Int))) ∧ w' = W := by
  have c0 := h.c0
  have hlen := h.2.2.2.2.2
  obtain ⟨ao, cap, rfl, hcap, hcm, hnone⟩ := own_shape h.2.1
  clear h hnone
  go_enter Tryd.func32, Tryd.ntmps32
  go_wp2
  go_ret
  exact ⟨rfl, rfl⟩

set_option maxHeartbeats 1000000 in
theorem left_any (W : World) (B b : Nat) (v : Value) (bs : List UInt8) (at_ : Nat) (h : RB W B b v bs at_) :
    Calls Tryd.prog 16 #[.pointer (some ⟨b, 0, none⟩)] W fun e w' => e = .returned (.int .i64 (8 * (bs.length : Int) - at_)) ∧ ∃ m, w' = W.drewN m := by
  have c2 := h.c2
  have hlen := h.2.2.2.2.2
  have hat := h.2.2.2.2.1
  have HM := Lib.hid (rmade_yes W B b v bs at_ h)
  have HS : Hid (∀ k, Calls Tryd.prog 32 #[.pointer (some ⟨b, 0, none⟩)] (W.drewN k) fun e w' => e = .returned (.int .i64 (8 * (bs.length : Int))) ∧ ∃ m, w' = (W.drewN k).drewN m) := Lib.hid fun k =>
    (size_any _ B b v bs at_ (h.drew (Drew.drewN W k))).mono fun e w' ⟨q, r⟩ => ⟨q, 0, r⟩
  have mixed : Tryd.prog.follows .mixedOrders = true := by kernel_rfl
  clear h
  go_enter Tryd.func16, Tryd.ntmps16
  go_wp2_with (go_at_call 31; refine HM.out.mono ?_; rintro e w1 ⟨rfl, rfl⟩)
  go_quiet ((go_at_call 32; exact Calls.quiet_of (HS.out _)))
  go_wp2
  go_ret
  exact ⟨rfl, _, rfl⟩

end Go.Proofs.YtmmbadkkkjkgnaaDoor.Bit
