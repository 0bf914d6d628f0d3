/- A writer of package bits that NewWriter made: Align, Raw, Bits, Bytes; a copy of bytes. A reader of package bits that NewReader made: what is left, bits that are taken. A reader of package bits that NewReader made: numbers are taken. A reader of package bits: whole bytes are taken; NewReader. -/
import Derived.Test.YthmbbpfgbpacnaaGreatDoorPmBitM
namespace Go.Proofs.YthmbbpfgbpacnaaGreatDoor.Bit
open Go.RowKit Go.Shelf Mem
set_option maxRecDepth 100000 in
set_option maxHeartbeats 2000000 in
theorem clone_any (W : World) (ax : Option Addr) (n c : Nat) (l : List UInt8) (hx : Src W (.slice ax n c) l) (hn : l.length = n) (hl : n <= 140737488355328) :
  Calls Tryz.prog 42 #[.slice ax n c] W fun e w' => ∃ v, e = .returned v /\ w'.ownsRow W.heap.size 5 1 v n (bVs l) /\ Below W.heap.size W w' := by
 subst hn
 cases ax with
 | none =>
  have hl0 : l.length = 0 := by
   rcases hx with ⟨hv, rfl⟩ | ⟨a, c', hv, _⟩
   ·rfl
   ·cases hv
  have hln := List.eq_nil_of_length_eq_zero hl0
  subst hln
  have q : ∀ w, (binOp .eql 22 (.slice none 0 c) (.slice none 0 0)).run Tryz.prog w = .ok (.bool true) w := fun w => Lib.run_eql_slice_nil w _ _ none 0 c 0 0 Tryz.underlying22
  clear hx
  rw [List.length_nil]
  go_enter Tryz.func42, Tryz.ntmps42
  go_wp2
  go_ret
  exact ⟨_, rfl, World.ownsRow_nil _ _ _ _, Below.refl _ _⟩
 | some a =>
  obtain ⟨v1, W1, hr1, ho1, hb1⟩ := fresh_any W (.slice (some a) l.length c) 22 l hx hl
  have q : ∀ w, (binOp .eql 22 (.slice (some a) l.length c) (.slice none 0 0)).run Tryz.prog w = .ok (.bool false) w := fun w => Lib.run_eql_slice_nil w _ _ (some a) l.length c 0 0 Tryz.underlying22
  have HO := Lib.hid ho1
  have HB := Lib.hid hb1
  clear hx ho1 hb1
  go_enter Tryz.func42, Tryz.ntmps42
  go_wp2_with (at_builtin; refine wpList_append_at _ rfl _ _ _ _ rfl _ _ rfl rfl _ _ hr1 ?_)
  go_ret
  exact ⟨v1, rfl, HO.out, HB.out⟩
set_option maxHeartbeats 1000000 in
theorem bits_any (W : World) (B b g : Nat) (l : List Bool) (h : WB W B b g l) :
  Calls Tryz.prog 45 #[.pointer (some ⟨b, 0, none⟩)] W fun e w' => e = .returned (.int .i64 l.length) /\ W = w' := by
 have HM := Lib.hid (made_yes W B b g l h)
 obtain ⟨v, hc, -⟩ := h
 have c2 : W.cell? ⟨b, 2, none⟩ = some (.int .i64 l.length) := by rw [Lib.cell_of_heap hc]; rfl
 clear hc
 go_enter Tryz.func45, Tryz.ntmps45
 go_wp2_with (go_at_call 41; refine HM.out.mono ?_; rintro e w1 ⟨rfl, rfl⟩)
 go_ret
 exact ⟨rfl, rfl⟩
set_option maxHeartbeats 1000000 in
theorem bytes_any (W : World) (B b g : Nat) (l : List Bool) (h : WB W B b g l) (hl : l.length <= 8388608) :
  Calls Tryz.prog 28 #[.pointer (some ⟨b, 0, none⟩)] W fun e w' => ∃ v, e = .returned v /\ w'.ownsRow W.heap.size 5 1 v (pk l).length (bVs (pk l)) /\ Below W.heap.size W w' := by
 have HM := Lib.hid (made_yes W B b g l h)
 have hpl := pk_len l
 obtain ⟨v, hc, ho, -⟩ := h
 obtain ⟨ao, cap, rfl, hcap, hcm, hnone⟩ := own_shape ho
 have c1 : W.cell? ⟨b, 1, none⟩ = some (.slice ao (pk l).length cap) := by rw [Lib.cell_of_heap hc]; rfl
 have HC := Lib.hid (clone_any W ao _ cap (pk l) (Src.of_own ho rfl) rfl (by omega))
 clear hc ho hpl hnone
 go_enter Tryz.func28, Tryz.ntmps28
 go_wp2_with (first
  | (go_at_call 41; refine HM.out.mono ?_; rintro e w1 ⟨rfl, rfl⟩)
  | (go_at_call 42; refine HC.out.mono ?_; rintro e w1 ⟨v, rfl, ho1, hb1⟩; have HO1 := Lib.hid ho1; have HB1 := Lib.hid hb1; clear ho1 hb1))
 go_ret
 exact ⟨v, rfl, HO1.out, HB1.out⟩
end Go.Proofs.YthmbbpfgbpacnaaGreatDoor.Bit
namespace Go.Proofs.YthmbbpfgbpacnaaGreatDoor.Bit
open Go.RowKit Go.Shelf Mem
def RB (W : World) (B b : Nat) (v : Value) (bs : List UInt8) (at_ : Nat) : Prop :=
 W.heap[b]? = some (.cells #[v, .pointer (some ⟨b, 0, none⟩), .int .i64 at_] 129 (0, 0)) /\ W.ownsRow B 5 1 v bs.length (bVs bs) /\ v.ownBlock ≠ some b /\ B <= b /\ at_ <= 8 * bs.length /\ bs.length <= 140737488355328
section
variable {W W' : World} {B b : Nat} {v : Value} {bs : List UInt8} {at_ : Nat}
theorem RB.lt (h : RB W B b v bs at_) : b < W.heap.size := (Array.getElem?_eq_some_iff.1 h.1).1
theorem RB.same (h : RB W B b v bs at_) (hc : W'.heap[b]? = W.heap[b]?) (hk : ∀ g, v.ownBlock = some g -> W'.heap[g]? = W.heap[g]?) : RB W' B b v bs at_ :=
 ⟨hc.trans h.1, own_same h.2.1 hk, h.2.2⟩
theorem RB.below (h : RB W B b v bs at_) (hb : Below W.heap.size W W') : RB W' B b v bs at_ := h.same (hb.block b h.lt) (fun g hg => hb.block g (h.2.1.lt g hg).2)
theorem RB.drew (h : RB W B b v bs at_) (d : Drew W W') : RB W' B b v bs at_ := h.same (by rw [d.heap]) (fun g hg => by rw [d.heap])
theorem RB.only {S : Nat -> Prop} (h : RB W B b v bs at_) (o : Only S W W') (hb : ¬ S b) (hg : ∀ g, v.ownBlock = some g -> ¬ S g) : RB W' B b v bs at_ := h.same (o.block b h.lt hb) (fun g q => o.block g (h.2.1.lt g q).2 (hg g q))
theorem RB.c0 (h : RB W B b v bs at_) : W.cell? ⟨b, 0, none⟩ = some v := by rw [Lib.cell_of_heap h.1]; rfl
theorem RB.c1 (h : RB W B b v bs at_) : W.cell? ⟨b, 1, none⟩ = some (.pointer (some ⟨b, 0, none⟩)) := by rw [Lib.cell_of_heap h.1]; rfl
theorem RB.c2 (h : RB W B b v bs at_) : W.cell? ⟨b, 2, none⟩ = some (.int .i64 at_) := by rw [Lib.cell_of_heap h.1]; rfl
theorem RB.set (h : RB W B b v bs at_) (d : Drew W W') (x : Nat) (hx : x <= 8 * bs.length) : RB (W'.setCell ⟨b, 2, none⟩ (.int .i64 x)) B b v bs x /\ Only (fun k => k = b) W (W'.setCell ⟨b, 2, none⟩ (.int .i64 x)) := by
 have h' := h.drew d
 refine ⟨⟨(Lib.heap_setCell_same (i := 2) h'.1 _).trans rfl, own_same h'.2.1 (fun k hk => Below.heap_setCell _ _ _ _ (fun e => ?_)), h.2.2.1, h.2.2.2.1, hx, h.2.2.2.2.2⟩, d.only.trans (S' := fun k => k = b) (Only.setCell (S := fun k => k = b) rfl _ _) (fun i q => .inl q)⟩
 exact h.2.2.1 (by rw [hk, e])
end
set_option maxHeartbeats 400000 in
theorem rmade_yes (W : World) (B b : Nat) (v : Value) (bs : List UInt8) (at_ : Nat) (h : RB W B b v bs at_) : Calls Tryz.prog 73 #[.pointer (some ⟨b, 0, none⟩)] W fun e w' => e = .returned (.bool true) /\ W = w' := by
 have c1 := h.c1
 have hn : ∀ w, (binOp .neq 86 (.pointer (some ⟨b, 0, none⟩)) (.pointer none)).run Tryz.prog w = .ok (.bool true) w := fun _ => by kernel_rfl
 obtain ⟨j, hte⟩ : ∃ j, Tryz.prog.info? 129 = some j := Option.isSome_iff_exists.1 (by kernel_rfl)
 have he : ∀ w, (binOp .eql 86 (.pointer (some ⟨b, 0, none⟩)) (.pointer (some ⟨b, 0, none⟩))).run Tryz.prog w = .ok (.bool true) w := fun w => run_eql_ptr_same (w := w) _ Tryz.underlying86 hte
 clear h
 go_enter Tryz.func73, Tryz.ntmps73
 go_wp2
 go_ret
 exact ⟨rfl, rfl⟩
theorem and_bit : ∀ n : Fin 256, ∀ i : Fin 8, ((n.val &&& 2 ^ i.val) == 0) = decide (n.val / 2 ^ i.val % 2 = 0) := by decide +kernel
theorem and_byte (x : UInt8) (i : Nat) (h : i < 8) : (bits BinOp.and IntKind.u8 (x.toNat : Int) (2 ^ i) == 0) = decide (x.toNat / 2 ^ i % 2 = 0) := by
 have hp : 2 ^ i < 256 := Nat.lt_of_lt_of_le (Nat.pow_lt_pow_right (by decide) h) (by decide)
 have e : ((2 : Int) ^ i) = ((2 ^ i : Nat) : Int) := by rw [Int.natCast_pow]; rfl
 rw [e, u8_and_nat _ _ (UInt8.toNat_lt x) hp, <- and_bit ⟨x.toNat, UInt8.toNat_lt x⟩ ⟨i, h⟩]
 generalize x.toNat &&& 2 ^ i = y
 rw [Bool.eq_iff_iff, beq_iff_eq, beq_iff_eq]
 omega
set_option maxRecDepth 100000 in
set_option maxHeartbeats 2000000 in
theorem bit_any (W : World) (B b : Nat) (v : Value) (bs : List UInt8) (at_ k : Nat) (h : RB W B b v bs at_) (hm : Masks W B) (hk : k < 8 * bs.length) :
  Calls Tryz.prog 129 #[.pointer (some ⟨b, 0, none⟩), .int .i64 k] W fun e w' => e = .returned (.int .i64 (bitN bs k)) /\ ∃ m, w' = W.drewN m := by
 have c0 := h.c0
 have hlen := h.2.2.2.2.2
 obtain ⟨ao, cap, rfl, hcap, hcm, hnone⟩ := own_shape h.2.1
 cases ao with
 | none => have := (hnone rfl).1; omega
 | some a =>
  obtain ⟨g, rfl, -, -⟩ := own_block h.2.1
  have hrc := src_cell (Src.of_own h.2.1 rfl) (k / 8) (by omega)
  rw [Lib.addr_add, Nat.zero_add] at hrc
  have hmk := hm.2 (k % 8) (Nat.mod_lt _ (by decide))
  have hgd : bitN bs k = (bs[k / 8]'(by omega)).toNat / 2 ^ (k % 8) % 2 := by unfold bitN; rw [List.getD_eq_getElem?_getD, List.getElem?_eq_getElem (by omega)]; rfl
  have hand := and_byte (bs[k / 8]'(by omega)) (k % 8) (Nat.mod_lt _ (by decide))
  have hlt := bitN_lt bs k
  rw [<- hgd] at hand
  generalize bs[k / 8]'(by omega) = old at *
  generalize bitN bs k = x at *
  have hi8 : (k : Int) / 8 < (bs.length : Int) := by omega
  have mixed : Tryz.prog.follows .mixedOrders = true := by kernel_rfl
  clear hgd h hm hnone
  generalize bs.length = n at *
  rcases (by omega : x = 0 \/ x = 1) with rfl | rfl
  ·have hb : (bits BinOp.and IntKind.u8 (old.toNat : Int) (2 ^ (k % 8)) == 0) = true := by simpa using hand
   clear hand hlt
   go_enter Tryz.func129, Tryz.ntmps129
   go_wp2
   go_quiet (fail)
   go_wp2
   go_ret
   exact ⟨rfl, _, rfl⟩
  ·have hb : (bits BinOp.and IntKind.u8 (old.toNat : Int) (2 ^ (k % 8)) == 0) = false := by simpa using hand
   clear hand hlt
   go_enter Tryz.func129, Tryz.ntmps129
   go_wp2
   go_quiet (fail)
   go_wp2
   go_ret
   exact ⟨rfl, _, rfl⟩
set_option maxHeartbeats 400000 in
theorem size_any (W : World) (B b : Nat) (v : Value) (bs : List UInt8) (at_ : Nat) (h : RB W B b v bs at_) :
  Calls Tryz.prog 74 #[.pointer (some ⟨b, 0, none⟩)] W fun e w' => e = .returned (.int .i64 (8 * (bs.length : Int))) /\ w' = W := by
 have c0 := h.c0
 have hlen := h.2.2.2.2.2
 obtain ⟨ao, cap, rfl, hcap, hcm, hnone⟩ := own_shape h.2.1
 clear h hnone
 go_enter Tryz.func74, Tryz.ntmps74
 go_wp2
 go_ret
 exact ⟨rfl, rfl⟩
set_option maxHeartbeats 1000000 in
theorem left_any (W : World) (B b : Nat) (v : Value) (bs : List UInt8) (at_ : Nat) (h : RB W B b v bs at_) :
  Calls Tryz.prog 55 #[.pointer (some ⟨b, 0, none⟩)] W fun e w' => e = .returned (.int .i64 (8 * (bs.length : Int) - at_)) /\ ∃ m, w' = W.drewN m := by
 have c2 := h.c2
 have hlen := h.2.2.2.2.2
 have hat := h.2.2.2.2.1
 have HM := Lib.hid (rmade_yes W B b v bs at_ h)
 have HS : Hid (∀ k, Calls Tryz.prog 74 #[.pointer (some ⟨b, 0, none⟩)] (W.drewN k) fun e w' => e = .returned (.int .i64 (8 * (bs.length : Int))) /\ ∃ m, w' = (W.drewN k).drewN m) := Lib.hid fun k =>
  (size_any _ B b v bs at_ (h.drew (Drew.drewN W k))).mono fun e w' ⟨q, r⟩ => ⟨q, 0, r⟩
 have mixed : Tryz.prog.follows .mixedOrders = true := by kernel_rfl
 clear h
 go_enter Tryz.func55, Tryz.ntmps55
 go_wp2_with (go_at_call 73; refine HM.out.mono ?_; rintro e w1 ⟨rfl, rfl⟩)
 go_quiet ((go_at_call 74; exact Calls.quiet_of (HS.out _)))
 go_wp2
 go_ret
 exact ⟨rfl, _, rfl⟩
set_option maxHeartbeats 400000 in
theorem begun_any (W : World) (B b : Nat) (v : Value) (bs : List UInt8) (at_ : Nat) (h : RB W B b v bs at_) :
  Calls Tryz.prog 118 #[.pointer (some ⟨b, 0, none⟩)] W fun e w' => e = .returned (.int .i64 (((at_ + 7) / 8 : Nat) : Int)) /\ w' = W := by
 have c2 := h.c2
 have hlen := h.2.2.2.2.2
 have hat := h.2.2.2.2.1
 clear h
 go_enter Tryz.func118, Tryz.ntmps118
 go_wp2
 go_ret
 exact ⟨ret_int (by omega), rfl⟩
set_option maxHeartbeats 1000000 in
theorem ralign_any (W : World) (B b : Nat) (v : Value) (bs : List UInt8) (at_ : Nat) (h : RB W B b v bs at_) :
  Calls Tryz.prog 92 #[.pointer (some ⟨b, 0, none⟩)] W fun e w' => e = .returned (.tuple #[]) /\ RB w' B b v bs (8 * ((at_ + 7) / 8)) /\ Only (fun k => k = b) W w' := by
 have c2 := h.c2
 have f2 := Lib.frozen_of_heap h.1 2
 have hlen := h.2.2.2.2.2
 have hat := h.2.2.2.2.1
 have HM := Lib.hid (rmade_yes W B b v bs at_ h)
 have HS := Lib.hid (begun_any W B b v bs at_ h)
 have HE := Lib.hid (h.set (Drew.refl W) (8 * ((at_ + 7) / 8)) (by omega))
 obtain ⟨x, hx⟩ : ∃ x, x = (at_ + 7) / 8 := ⟨_, rfl⟩
 rw [<- hx] at HS HE ⊢
 have hx2 : (x : Int) <= 140737488355328 := by omega
 clear h hx
 go_enter Tryz.func92, Tryz.ntmps92
 go_wp2_with (first
  | (go_at_call 73; refine HM.out.mono ?_; rintro e w1 ⟨rfl, rfl⟩)
  | (go_at_call 118; refine HS.out.mono ?_; rintro e w1 ⟨rfl, rfl⟩))
 go_end0
 have hE := HE.out
 rw [Int.natCast_mul] at hE
 exact ⟨rfl, hE.1, hE.2⟩
end Go.Proofs.YthmbbpfgbpacnaaGreatDoor.Bit
namespace Go.Proofs.YthmbbpfgbpacnaaGreatDoor.Bit
open Go.RowKit Go.Shelf Mem
set_option maxHeartbeats 1000000 in
theorem take_end (W : World) (B b : Nat) (v : Value) (bs : List UInt8) (at_ m : Nat) (h : RB W B b v bs at_) (hm : m <= 32) (hs : 8 * bs.length < at_ + m) :
  Calls Tryz.prog 99 #[.pointer (some ⟨b, 0, none⟩), .int .i64 m] W fun e w' => e = .returned (.tuple #[.int .i64 0, .int .i64 20]) /\ Drew W w' := by
 have HM := Lib.hid (rmade_yes W B b v bs at_ h)
 have HL := Lib.hid (left_any W B b v bs at_ h)
 have hgt : 8 * (bs.length : Int) - at_ < (m : Int) := by omega
 clear h
 go_enter Tryz.func99, Tryz.ntmps99
 go_wp2_with (first
  | (go_at_call 73; refine HM.out.mono ?_; rintro e w1 ⟨rfl, rfl⟩)
  | (go_at_call 55; refine HL.out.mono ?_; rintro e w1 ⟨rfl, n1, rfl⟩))
 go_ret2
 exact ⟨rfl, Drew.drewN _ _⟩
theorem takeN_bd (bs : List UInt8) (at_ k : Nat) (hk : k < 32) : takeN bs at_ k < 4294967296 := by
 have h := takeN_lt bs at_ k
 have : 2 ^ k <= 2 ^ 32 := Nat.pow_le_pow_right (by decide) (by omega)
 omega
theorem take_or (bs : List UInt8) (at_ k : Nat) (hk : k < 32) : IntKind.i64.wrap ((bitN bs (at_ + k) : Int) * 2 ^ k) = (bitN bs (at_ + k) : Int) * 2 ^ k /\ bits BinOp.or IntKind.i64 (takeN bs at_ k : Int) ((bitN bs (at_ + k) : Int) * 2 ^ k) = (takeN bs at_ (k + 1) : Int) := by
 have hb := bitN_lt bs (at_ + k)
 have hp : 2 ^ k <= 2 ^ 31 := Nat.pow_le_pow_right (by decide) (by omega)
 have ht := takeN_lt bs at_ k
 have hm : bitN bs (at_ + k) * 2 ^ k <= 2147483648 := by
  rcases (by omega : bitN bs (at_ + k) = 0 \/ bitN bs (at_ + k) = 1) with e | e <;> rw [e] <;> omega
 have e : ((bitN bs (at_ + k) : Int) * 2 ^ k) = ((bitN bs (at_ + k) * 2 ^ k : Nat) : Int) := by rw [Int.natCast_mul, Int.natCast_pow]; rfl
 refine ⟨?_, ?_⟩
 ·rw [e, IntKind.wrap_i64]; omega
 ·exact i64_or_up _ _ k ht (by rw [Nat.mul_comm]; omega)
set_option maxRecDepth 100000 in
set_option maxHeartbeats 4000000 in
theorem take_ok (W : World) (B b : Nat) (v : Value) (bs : List UInt8) (at_ m : Nat) (h : RB W B b v bs at_) (hmk : Masks W B) (hm : m <= 32) (hs : at_ + m <= 8 * bs.length) :
  Calls Tryz.prog 99 #[.pointer (some ⟨b, 0, none⟩), .int .i64 m] W fun e w' => e = .returned (.tuple #[.int .i64 (takeN bs at_ m), .int .i64 0]) /\ RB w' B b v bs (at_ + m) /\ Only (fun k => k = b) W w' := by
 have HM := Lib.hid (rmade_yes W B b v bs at_ h)
 have HL := Lib.hid (left_any W B b v bs at_ h)
 have hgt : ¬ 8 * (bs.length : Int) - at_ < (m : Int) := by omega
 have hlen : (bs.length : Int) <= 140737488355328 := by have := h.2.2.2.2.2; omega
 have hat : (at_ : Int) <= 1125899906842624 := by have := h.2.2.2.2.1; omega
 have H := Lib.hid h
 have HK := Lib.hid hmk
 have HS := Lib.hid hs
 have mixed : Tryz.prog.follows .mixedOrders = true := by kernel_rfl
 clear h hmk hs
 go_enter Tryz.func99, Tryz.ntmps99
 go_wp2_with (first
  | (go_at_call 73; refine HM.out.mono ?_; rintro e w1 ⟨rfl, rfl⟩)
  | (go_at_call 55; refine HL.out.mono ?_; rintro e w1 ⟨rfl, n1, rfl⟩))
 go_loopw [6, 24] (fun t i wr => ∃ k : Nat, k <= m /\ i = .int .i64 k /\ t = .int .i64 (takeN bs at_ k) /\ Drew W wr) (fun _ i _ => m - (intOf i).toNat)
 case atStart => exact ⟨0, Nat.zero_le _, rfl, rfl, Drew.drewN _ _⟩
 case round =>
  obtain ⟨k, hk, rfl, rfl, hd⟩ := hrel
  have h' := H.out.drew hd
  have c2 := h'.c2
  by_cases hlt : k < m
  ·have HB : Hid (∀ j, Calls Tryz.prog 129 #[.pointer (some ⟨b, 0, none⟩), .int .i64 ((at_ + k : Nat) : Int)] (wr.drewN j) fun e w' => e = .returned (.int .i64 (bitN bs (at_ + k))) /\ ∃ m, w' = (wr.drewN j).drewN m) := Lib.hid fun j =>
    bit_any _ B b v bs at_ (at_ + k) (h'.drew (Drew.drewN _ _)) ((HK.out.drew hd).drew (Drew.drewN _ _)) (by have := HS.out; omega)
   obtain ⟨hw, hor⟩ := take_or bs at_ k (by omega)
   have hsum : IntKind.i64.wrap ((at_ : Int) + (k : Int)) = ((at_ + k : Nat) : Int) := by rw [IntKind.wrap_i64]; omega
   have hk64 : (k : Int) <= 64 := by omega
   have HD := Lib.hid hd
   clear h' hd
   go_wp2
   go_quiet ((go_at_call 129; exact Calls.quiet_of (HB.out _)))
   clear hsum
   go_wp2
   go_roundw
   case rel => exact ⟨k + 1, by omega, by go_num, rfl, HD.out.trans (Drew.drewN _ _)⟩
   case measure => simp [intOf]; omega
  ·obtain rfl : k = m := by omega
   have HE := Lib.hid (H.out.set hd (at_ + k) (by have := HS.out; omega))
   have f2 := Lib.frozen_of_heap h'.1 2
   clear h' hd
   go_wp2
   go_ret2
   have hE := HE.out
   rw [Int.natCast_add] at hE
   exact ⟨rfl, hE.1, hE.2⟩
end Go.Proofs.YthmbbpfgbpacnaaGreatDoor.Bit
namespace Go.Proofs.YthmbbpfgbpacnaaGreatDoor.Bit
open Go.RowKit Go.Shelf Mem
theorem rest_of (W : World) (B b : Nat) (v : Value) (bs : List UInt8) (at_ : Nat) (h : RB W B b v bs at_) :
  (v = .slice none 0 0 /\ bs = [] /\ at_ = 0) \/ ∃ g cap, v = .slice (some ⟨g, 0, none⟩) bs.length cap /\ bs.length <= cap /\ cap <= 9223372036854775807 /\ (at_ + 7) / 8 <= bs.length /\
   ∀ q c2, ((at_ + 7) / 8 < bs.length -> q = (⟨g, (at_ + 7) / 8, none⟩ : Addr)) -> Src W (.slice (some q) (bs.length - (at_ + 7) / 8) c2) (bs.drop ((at_ + 7) / 8)) := by
 have hat := h.2.2.2.2.1
 have ho := h.2.1
 obtain ⟨ao, cap, rfl, hcap, hcm, hnone⟩ := own_shape ho
 cases ao with
 | none =>
  obtain ⟨h0, rfl⟩ := hnone rfl
  exact .inl ⟨by rw [h0], List.eq_nil_of_length_eq_zero h0, by omega⟩
 | some a =>
  obtain ⟨g, rfl, -, -⟩ := own_block ho
  refine .inr ⟨g, cap, rfl, hcap, hcm, by omega, fun q c2 hq => ?_⟩
  exact src_drop (Src.of_own ho rfl) (by omega) q c2 (fun hlt => by rw [hq hlt, Lib.addr_add, Nat.zero_add]) ⟨g, rfl⟩
set_option maxRecDepth 100000 in
set_option maxHeartbeats 4000000 in
theorem rraw_end (W : World) (B b : Nat) (v : Value) (bs : List UInt8) (at_ m : Nat) (h : RB W B b v bs at_) (hs : bs.length < (at_ + 7) / 8 + m) :
  Calls Tryz.prog 94 #[.pointer (some ⟨b, 0, none⟩), .int .i64 m] W fun e w' => e = .returned (.tuple #[.slice none 0 0, .int .i64 20]) /\ Drew W w' := by
 have HM := Lib.hid (rmade_yes W B b v bs at_ h)
 have HS : Hid (∀ k, Calls Tryz.prog 118 #[.pointer (some ⟨b, 0, none⟩)] (W.drewN k) fun e w' => e = .returned (.int .i64 (((at_ + 7) / 8 : Nat) : Int)) /\ ∃ m, w' = (W.drewN k).drewN m) := Lib.hid fun k =>
  (begun_any _ B b v bs at_ (h.drew (Drew.drewN W k))).mono fun e w' ⟨q, r⟩ => ⟨q, 0, r⟩
 have hlen := h.2.2.2.2.2
 have c0 := h.c0
 have mixed : Tryz.prog.follows .mixedOrders = true := by kernel_rfl
 rcases rest_of W B b v bs at_ h with ⟨rfl, rfl, rfl⟩ | ⟨g, cap, rfl, hcap, hcm, hle, -⟩
 ·have hm : 0 < m := by simpa using hs
  clear h hs
  rw [show (0 + 7) / 8 = 0 from rfl] at HS
  go_enter Tryz.func94, Tryz.ntmps94
  go_wp2_with (go_at_call 73; refine HM.out.mono ?_; rintro e w1 ⟨rfl, rfl⟩)
  go_quiet ((go_at_call 118; exact Calls.quiet_of (HS.out _)))
  go_wp2
  go_ret2
  exact ⟨rfl, Drew.drewN _ _⟩
 ·generalize (at_ + 7) / 8 = x at *
  have hgt : ((bs.length - x : Nat) : Int) < (m : Int) := by omega
  clear h hs
  generalize bs.length = n at *
  by_cases hcx : cap = x
  ·subst hcx
   go_enter Tryz.func94, Tryz.ntmps94
   go_wp2_with (go_at_call 73; refine HM.out.mono ?_; rintro e w1 ⟨rfl, rfl⟩)
   go_quiet ((go_at_call 118; exact Calls.quiet_of (HS.out _)))
   go_wp2
   go_ret2
   exact ⟨rfl, Drew.drewN _ _⟩
  ·go_enter Tryz.func94, Tryz.ntmps94
   go_wp2_with (go_at_call 73; refine HM.out.mono ?_; rintro e w1 ⟨rfl, rfl⟩)
   go_quiet ((go_at_call 118; exact Calls.quiet_of (HS.out _)))
   go_wp2
   go_ret2
   exact ⟨rfl, Drew.drewN _ _⟩
set_option maxRecDepth 100000 in
set_option maxHeartbeats 4000000 in
theorem rraw_ok (W : World) (B b : Nat) (v : Value) (bs : List UInt8) (at_ m : Nat) (h : RB W B b v bs at_) (hs : (at_ + 7) / 8 + m <= bs.length) :
  Calls Tryz.prog 94 #[.pointer (some ⟨b, 0, none⟩), .int .i64 m] W fun e w' => ∃ v', e = .returned (.tuple #[v', .int .i64 0]) /\ w'.ownsRow W.heap.size 5 1 v' m (bVs ((bs.drop ((at_ + 7) / 8)).take m)) /\ RB w' B b v bs (8 * ((at_ + 7) / 8 + m)) /\ Only (fun k => k = b) W w' := by
 have HM := Lib.hid (rmade_yes W B b v bs at_ h)
 have HS : Hid (∀ k, Calls Tryz.prog 118 #[.pointer (some ⟨b, 0, none⟩)] (W.drewN k) fun e w' => e = .returned (.int .i64 (((at_ + 7) / 8 : Nat) : Int)) /\ ∃ m, w' = (W.drewN k).drewN m) := Lib.hid fun k =>
  (begun_any _ B b v bs at_ (h.drew (Drew.drewN W k))).mono fun e w' ⟨q, r⟩ => ⟨q, 0, r⟩
 have HA : Hid (∀ k, Calls Tryz.prog 92 #[.pointer (some ⟨b, 0, none⟩)] (W.drewN k) fun e w' => e = .returned (.tuple #[]) /\ RB w' B b v bs (8 * ((at_ + 7) / 8)) /\ Only (fun i => i = b) W w') := Lib.hid fun k =>
  (ralign_any _ B b v bs at_ (h.drew (Drew.drewN W k))).mono fun e w' ⟨q, r1, r2⟩ => ⟨q, r1, (Drew.drewN W k).only.trans r2 (fun i q => .inl q)⟩
 have hlen := h.2.2.2.2.2
 have c0 := h.c0
 have hbk := h.2.2.1
 have mixed : Tryz.prog.follows .mixedOrders = true := by kernel_rfl
 -- what the store and the copy behind Align leave
 have fin : ∀ w1 : World, RB w1 B b v bs (8 * ((at_ + 7) / 8)) -> Only (fun i => i = b) W w1 -> ∀ (ao : Option Addr) (cap : Nat), Src W (.slice ao m cap) ((bs.drop ((at_ + 7) / 8)).take m) -> (∀ a, ao = some a -> a.block ≠ b) ->
   Calls Tryz.prog 42 #[.slice ao m cap] (w1.setCell ⟨b, 2, none⟩ (.int .i64 (8 * (((at_ + 7) / 8 : Nat) : Int) + 8 * (m : Int)))) fun e w' => ∃ v', e = .returned v' /\ w'.ownsRow W.heap.size 5 1 v' m (bVs ((bs.drop ((at_ + 7) / 8)).take m)) /\ RB w' B b v bs (8 * ((at_ + 7) / 8 + m)) /\ Only (fun k => k = b) W w' := by
  intro w1 r1 r2 ao cap hsr ha
  obtain ⟨q1, q2⟩ := r1.set (Drew.refl w1) (8 * ((at_ + 7) / 8 + m)) (by omega)
  have e : ((8 * ((at_ + 7) / 8 + m) : Nat) : Int) = 8 * (((at_ + 7) / 8 : Nat) : Int) + 8 * (m : Int) := by omega
  rw [e] at q1 q2
  have q3 := r2.trans q2 (fun i q => .inl q)
  refine (clone_any _ ao m cap _ (hsr.only q3 (fun a n c hv => ?_)) (by rw [List.length_take, List.length_drop]; omega) (by omega)).mono ?_
  ·cases hv; exact ha a rfl
  ·rintro e w' ⟨v', rfl, t1, t2⟩
   exact ⟨v', rfl, ownsRow_mono t1 q3.size, q1.below t2, q3.trans (S' := fun _ => False) (Only.of_below t2) (fun i q => q.elim)⟩
 have HF := Lib.hid fin
 rcases rest_of W B b v bs at_ h with ⟨rfl, rfl, rfl⟩ | ⟨g, cap, rfl, hcap, hcm, hle, hsr⟩
 ·obtain rfl : m = 0 := by simpa using hs
  clear h hs fin
  rw [show (0 + 7) / 8 = 0 from rfl] at HS HA HF
  go_enter Tryz.func94, Tryz.ntmps94
  go_wp2_with (go_at_call 73; refine HM.out.mono ?_; rintro e w1 ⟨rfl, rfl⟩)
  go_quiet ((go_at_call 118; exact Calls.quiet_of (HS.out _)))
  go_wp2_with (first
   | (go_at_call 92; refine (HA.out _).mono ?_; rintro e w1 ⟨rfl, r1, r2⟩; have d2 := r1.c2; have df := Lib.frozen_of_heap r1.1 2; have HC := Lib.hid (HF.out w1 r1 r2 none 0 (.inl ⟨rfl, rfl⟩) (fun a e => by cases e)); clear r1 r2)
   | (go_at_call 42; refine HC.out.mono ?_; rintro e w2 ⟨v', rfl, t1, t2, t3⟩; have HT := Lib.hid (And.intro t1 (And.intro t2 t3)); clear t1 t2 t3))
  go_ret2
  exact ⟨v', rfl, HT.out⟩
 ·have hgb : g ≠ b := fun e => hbk (by rw [e]; rfl)
  have hx0 : (((at_ + 7) / 8 : Nat) : Int) <= 140737488355328 := by omega
  have HSr : Hid (∀ (q : Addr) (c2 : Nat), ((at_ + 7) / 8 < bs.length -> q = (⟨g, (at_ + 7) / 8, none⟩ : Addr)) -> Src W (.slice (some q) m c2) ((bs.drop ((at_ + 7) / 8)).take m)) := Lib.hid fun q c2 hq => by
   have := src_take (m := m) (hsr q c2 hq) (by rw [List.length_drop]; omega)
   exact this
  generalize hxx : (at_ + 7) / 8 = x at *
  have hgt : ¬ ((bs.length - x : Nat) : Int) < (m : Int) := by omega
  have hmn : m <= bs.length - x := by omega
  clear h hs fin hsr hxx
  by_cases hcx : cap = x
  ·obtain rfl : m = 0 := by omega
   have hx2 : bs.length = x := by omega
   have HX := Lib.hid hx2
   generalize bs.length = n at *
   subst hcx
   clear hx2
   go_enter Tryz.func94, Tryz.ntmps94
   go_wp2_with (go_at_call 73; refine HM.out.mono ?_; rintro e w1 ⟨rfl, rfl⟩)
   go_quiet ((go_at_call 118; exact Calls.quiet_of (HS.out _)))
   go_wp2_with (first
    | (go_at_call 92; refine (HA.out _).mono ?_; rintro e w1 ⟨rfl, r1, r2⟩; have d2 := r1.c2; have df := Lib.frozen_of_heap r1.1 2; have HC := Lib.hid (fun c => HF.out w1 r1 r2 (some ⟨g, 0, none⟩) c (HSr.out _ _ (fun q => by have := HX.out; omega)) (fun a e => by cases e; exact hgb)); clear r1 r2)
    | (go_at_call 42; refine (HC.out _).mono ?_; rintro e w2 ⟨v', rfl, t1, t2, t3⟩; have HT := Lib.hid (And.intro t1 (And.intro t2 t3)); clear t1 t2 t3))
   go_ret2
   exact ⟨v', rfl, HT.out⟩
  ·generalize bs.length = n at *
   go_enter Tryz.func94, Tryz.ntmps94
   go_wp2_with (go_at_call 73; refine HM.out.mono ?_; rintro e w1 ⟨rfl, rfl⟩)
   go_quiet ((go_at_call 118; exact Calls.quiet_of (HS.out _)))
   go_wp2_with (first
    | (go_at_call 92; refine (HA.out _).mono ?_; rintro e w1 ⟨rfl, r1, r2⟩; have d2 := r1.c2; have df := Lib.frozen_of_heap r1.1 2; have HC := Lib.hid (fun c => HF.out w1 r1 r2 (some ⟨g, x, none⟩) c (HSr.out _ _ (fun _ => rfl)) (fun a e => by cases e; exact hgb)); clear r1 r2)
    | (go_at_call 42; refine (HC.out _).mono ?_; rintro e w2 ⟨v', rfl, t1, t2, t3⟩; have HT := Lib.hid (And.intro t1 (And.intro t2 t3)); clear t1 t2 t3))
   go_ret2
   exact ⟨v', rfl, HT.out⟩
set_option maxRecDepth 100000 in
set_option maxHeartbeats 2000000 in
theorem newReader_any (W : World) (B n c : Nat) (ax : Option Addr) (bs : List UInt8) (hx : Src W (.slice ax n c) bs) (hn : bs.length = n) (hl : n <= 140737488355328) (hB : B <= W.heap.size) :
  Calls Tryz.prog 68 #[.slice ax n c] W fun e w' => ∃ b v, e = .returned (.pointer (some ⟨b, 0, none⟩)) /\ RB w' B b v bs 0 /\ W.heap.size <= b /\ (∀ g, v.ownBlock = some g -> W.heap.size <= g) /\ Below W.heap.size W w' := by
 subst hn
 have HC := Lib.hid (clone_any W ax _ c bs hx rfl hl)
 clear hx
 go_enter Tryz.func68, Tryz.ntmps68
 go_wp2_with (go_at_call 42; refine HC.out.mono ?_; rintro e w1 ⟨v, rfl, ho1, hb1⟩; obtain ⟨ao1, c1, rfl, -, -, -⟩ := own_shape ho1; have HO1 := Lib.hid ho1; have HB1 := Lib.hid hb1; clear ho1 hb1)
 go_ret
 have hA := (Below.refl w1.heap.size w1).alloc (Nat.le_refl _) (.cells #[.slice ao1 bs.length c1, .pointer (some ⟨w1.heap.size, 0, none⟩), .int .i64 0] 129)
 have hs1 := HB1.out.size
 refine ⟨w1.heap.size, _, rfl, ⟨heap_alloc_new _ _, ownsRow_mono (own_below HO1.out hA) hB, fun e => ?_, by omega, Nat.zero_le _, hl⟩, hs1, fun g hg => (HO1.out.lt g hg).1, HB1.out.trans (hA.mono hs1)⟩
 have := (HO1.out.lt _ e).2
 omega
end Go.Proofs.YthmbbpfgbpacnaaGreatDoor.Bit
