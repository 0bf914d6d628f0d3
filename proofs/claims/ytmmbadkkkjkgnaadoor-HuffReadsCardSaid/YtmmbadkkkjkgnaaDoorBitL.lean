/- The document's reader of bits: what is left, bits that are taken. -/
import Derived.Test.YtmmbadkkkjkgnaaDoorBitG
namespace Go.Proofs.YtmmbadkkkjkgnaaDoor.Bit
open Go.RowKit Go.Shelf Go.Proofs.YtmmbadkkkjkgnaaDoor.Mem

/-- Block c is the document's reader of the bytes bs, in the row v; so many bits have been taken. -/
def RR (W : World) (B c : Nat) (v : Value) (bs : List UInt8) (at_ : Nat) : Prop :=
  W.heap[c]? = some (.cells #[v, .int .i64 at_] 74 (0, 0)) ∧ W.ownsRow B 5 1 v bs.length (bVs bs) ∧ v.ownBlock ≠ some c ∧ B ≤ c ∧ at_ ≤ 8 * bs.length ∧ bs.length ≤ 140737488355328
section
variable {W W' : World} {B c : Nat} {v : Value} {bs : List UInt8} {at_ : Nat}
theorem RR.lt (h : RR W B c v bs at_) : c < W.heap.size := (Array.getElem?_eq_some_iff.1 h.1).1
theorem RR.same (h : RR W B c v bs at_) (hc : W'.heap[c]? = W.heap[c]?) (hk : ∀ g, v.ownBlock = some g → W'.heap[g]? = W.heap[g]?) : RR W' B c v bs at_ :=
  ⟨hc.trans h.1, own_same h.2.1 hk, h.2.2⟩
theorem RR.below (h : RR W B c v bs at_) (hb : Below W.heap.size W W') : RR W' B c v bs at_ := h.same (hb.block c h.lt) (fun g hg => hb.block g (h.2.1.lt g hg).2)
theorem RR.drew (h : RR W B c v bs at_) (d : Drew W W') : RR W' B c v bs at_ := h.same (by rw [d.heap]) (fun g hg => by rw [d.heap])
theorem RR.only {S : Nat → Prop} (h : RR W B c v bs at_) (o : Only S W W') (hb : ¬ S c) (hg : ∀ g, v.ownBlock = some g → ¬ S g) : RR W' B c v bs at_ := h.same (o.block c h.lt hb) (fun g q => o.block g (h.2.1.lt g q).2 (hg g q))
theorem RR.c0 (h : RR W B c v bs at_) : W.cell? ⟨c, 0, none⟩ = some v := by rw [Lib.cell_of_heap h.1]; rfl
theorem RR.c1 (h : RR W B c v bs at_) : W.cell? ⟨c, 1, none⟩ = some (.int .i64 at_) := by rw [Lib.cell_of_heap h.1]; rfl
theorem RR.set (h : RR W B c v bs at_) (d : Drew W W') (x : Nat) (hx : x ≤ 8 * bs.length) : RR (W'.setCell ⟨c, 1, none⟩ (.int .i64 x)) B c v bs x ∧ Only (fun k => k = c) W (W'.setCell ⟨c, 1, none⟩ (.int .i64 x)) := by
  have h' := h.drew d
  refine ⟨⟨(Lib.heap_setCell_same (i := 1) h'.1 _).trans rfl, own_same h'.2.1 (fun k hk => Below.heap_setCell _ _ _ _ (fun e => ?_)), h.2.2.1, h.2.2.2.1, hx, h.2.2.2.2.2⟩, d.only.trans (S' := fun k => k = c) (Only.setCell (S := fun k => k = c) rfl _ _) (fun i q => .inl q)⟩
  exact h.2.2.1 (by rw [hk, e])
end

set_option maxRecDepth 100000 in
set_option maxHeartbeats 2000000 in
theorem refNewReader_any (W : World) (B n c : Nat) (ax : Option Addr) (bs : List UInt8) (hx : Src W (.slice ax n c) bs) (hn : bs.length = n) (hl : n ≤ 140737488355328) (hB : B ≤ W.heap.size) :
    Calls Tryd.prog 13 #[.slice ax n c] W fun e w' => ∃ b v, e = .returned (.pointer (some ⟨b, 0, none⟩)) ∧ RR w' B b v bs 0 ∧ W.heap.size ≤ b ∧ (∀ g, v.ownBlock = some g → W.heap.size ≤ g) ∧ Below W.heap.size W w' := by
  subst hn
  obtain ⟨v1, W1, hr1, ho1, hb1⟩ := fresh_any W (.slice ax bs.length c) 23 bs hx hl
  obtain ⟨ao1, c1, rfl, -, -, -⟩ := own_shape ho1
  have HO1 := Lib.hid ho1
  have HB1 := Lib.hid hb1
  clear hx ho1 hb1
  go_enter Tryd.func13, Tryd.ntmps13
  go_wp2_with (at_builtin; refine wpList_append_at _ rfl _ _ _ _ rfl _ _ rfl rfl _ _ hr1 ?_)
  go_ret
  have hA := (Below.refl W1.heap.size W1).alloc (Nat.le_refl _) (.cells #[.slice ao1 bs.length c1, .int .i64 0] 74)
  have hs1 := HB1.out.size
  refine ⟨W1.heap.size, _, rfl, ⟨heap_alloc_new _ _, ownsRow_mono (own_below HO1.out hA) hB, fun e => ?_, by omega, Nat.zero_le _, hl⟩, hs1, fun g hg => (HO1.out.lt g hg).1, HB1.out.trans (hA.mono hs1)⟩
  have := (HO1.out.lt _ e).2
  omega

set_option maxHeartbeats 1000000 in
theorem refLeft_any (W : World) (B c : Nat) (v : Value) (bs : List UInt8) (at_ : Nat) (h : RR W B c v bs at_) :
    Calls Tryd.prog 17 #[.pointer (some ⟨c, 0, none⟩)] W fun e w' => e = .returned (.int .i64 (8 * (bs.length : Int) - at_)) ∧ ∃ m, w' = W.drewN m := by
  have c0 := h.c0
  have c1 := h.c1
  have hlen := h.2.2.2.2.2
  have hat := h.2.2.2.2.1
  obtain ⟨ao, cap, rfl, hcap, hcm, hnone⟩ := own_shape h.2.1
  have mixed : Tryd.prog.follows .mixedOrders = true := by kernel_rfl
  clear h hnone
  go_enter Tryd.func17, Tryd.ntmps17
  go_wp2
  go_quiet (fail)
  go_wp2
  go_ret
  exact ⟨rfl, _, rfl⟩

set_option maxHeartbeats 1000000 in
theorem refTake_bad (W : World) (c : Nat) (x : Int) (hx : x < 0 ∨ 32 < x) :
    Calls Tryd.prog 30 #[.pointer (some ⟨c, 0, none⟩), .int .i64 x] W fun e w' => e = .returned (.tuple #[.int .i64 0, .int .i64 1]) ∧ W = w' := by
  rcases hx with hx | hx
  · go_enter Tryd.func30, Tryd.ntmps30
    go_wp2
    go_ret2
    exact ⟨rfl, rfl⟩
  · have h' : ¬ x < 0 := by omega
    go_enter Tryd.func30, Tryd.ntmps30
    go_wp2
    go_ret2
    exact ⟨rfl, rfl⟩

set_option maxHeartbeats 1000000 in
theorem refTake_end (W : World) (B b : Nat) (v : Value) (bs : List UInt8) (at_ m : Nat) (h : RR W B b v bs at_) (hm : m ≤ 32) (hs : 8 * bs.length < at_ + m) :
    Calls Tryd.prog 30 #[.pointer (some ⟨b, 0, none⟩), .int .i64 m] W fun e w' => e = .returned (.tuple #[.int .i64 0, .int .i64 20]) ∧ Drew W w' := by
  have HL := Lib.hid (refLeft_any W B b v bs at_ h)
  have hgt : 8 * (bs.length : Int) - at_ < (m : Int) := by omega
  clear h
  go_enter Tryd.func30, Tryd.ntmps30
  go_wp2_with (go_at_call 17; refine HL.out.mono ?_; rintro e w1 ⟨rfl, n1, rfl⟩)
  go_ret2
  exact ⟨rfl, Drew.drewN _ _⟩

theorem and_one_u8 (x : UInt8) (i : Nat) : bits BinOp.and IntKind.u8 ((x.toNat : Int) / 2 ^ i) 1 = ((x.toNat / 2 ^ i % 2 : Nat) : Int) := by
  have e : ((x.toNat : Int) / 2 ^ i) = ((x.toNat / 2 ^ i : Nat) : Int) := by rw [Int.natCast_ediv, Int.natCast_pow]; rfl
  have hx := UInt8.toNat_lt x
  have hle : x.toNat / 2 ^ i ≤ x.toNat := Nat.div_le_self _ _
  have := u8_and_nat (x.toNat / 2 ^ i) 1 (by omega) (by decide)
  rw [e]
  exact this.trans (by rw [Nat.and_one_is_mod])

set_option maxRecDepth 100000 in
set_option maxHeartbeats 4000000 in
theorem refTake_ok (W : World) (B b : Nat) (v : Value) (bs : List UInt8) (at_ m : Nat) (h : RR W B b v bs at_) (hm : m ≤ 32) (hs : at_ + m ≤ 8 * bs.length) :
    Calls Tryd.prog 30 #[.pointer (some ⟨b, 0, none⟩), .int .i64 m] W fun e w' => e = .returned (.tuple #[.int .i64 (takeN bs at_ m), .int .i64 0]) ∧ RR w' B b v bs (at_ + m) ∧ Only (fun k => k = b) W w' := by
  have HL := Lib.hid (refLeft_any W B b v bs at_ h)
  have hgt : ¬ 8 * (bs.length : Int) - at_ < (m : Int) := by omega
  have hlen : (bs.length : Int) ≤ 140737488355328 := by have := h.2.2.2.2.2; omega
  have hat : (at_ : Int) ≤ 1125899906842624 := by have := h.2.2.2.2.1; omega
  have H := Lib.hid h
  have HS := Lib.hid hs
  have mixed : Tryd.prog.follows .mixedOrders = true := by kernel_rfl
  clear h hs
  go_enter Tryd.func30, Tryd.ntmps30
  go_wp2_with (go_at_call 17; refine HL.out.mono ?_; rintro e w1 ⟨rfl, n1, rfl⟩)
  go_loopw [6, 7] (fun t i wr => ∃ k : Nat, k ≤ m ∧ i = .int .i64 k ∧ t = .int .i64 (takeN bs at_ k) ∧ RR wr B b v bs (at_ + k) ∧ Only (fun k => k = b) W wr) (fun _ i _ => m - (intOf i).toNat)
  case atStart => exact ⟨0, Nat.zero_le _, rfl, rfl, H.out.drew (Drew.drewN _ _), (Drew.drewN _ _).only⟩
  case round =>
    obtain ⟨k, hk, rfl, rfl, hR, hO⟩ := hrel
    have HO := Lib.hid hO
    clear hO
    by_cases hlt : k < m
    · have c0 := hR.c0
      have c1 := hR.c1
      have f1 := Lib.frozen_of_heap hR.1 1
      obtain ⟨hw, hor⟩ := take_or bs at_ k (by omega)
      have hp : at_ + k < 8 * bs.length := by have := HS.out; omega
      have hpi : ((at_ + k : Nat) : Int) ≤ 1125899906842624 + 32 := by omega
      have HE2 := fun n => Lib.hid (hR.set (Drew.drewN wr n) (at_ + k + 1) (by omega))
      have HR := Lib.hid hR
      obtain ⟨ao, cap, rfl, hcap, hcm, hnone⟩ := own_shape hR.2.1
      cases ao with
      | none => have := (hnone rfl).1; omega
      | some a =>
        obtain ⟨g, rfl, -, -⟩ := own_block hR.2.1
        have hrc := src_cell (Src.of_own hR.2.1 rfl) ((at_ + k) / 8) (by omega)
        rw [Lib.addr_add, Nat.zero_add] at hrc
        have hand := and_one_u8 (bs[(at_ + k) / 8]'(by omega)) ((at_ + k) % 8)
        have hgd : bitN bs (at_ + k) = (bs[(at_ + k) / 8]'(by omega)).toNat / 2 ^ ((at_ + k) % 8) % 2 := by unfold bitN; rw [List.getD_eq_getElem?_getD, List.getElem?_eq_getElem (by omega)]; rfl
        rw [← hgd] at hand
        have hb2 := bitN_lt bs (at_ + k)
        generalize bs[(at_ + k) / 8]'(by omega) = old at *
        generalize bitN bs (at_ + k) = x at *
        clear hgd hR hnone
        generalize hpp : at_ + k = p at *
        have hi8 : (p : Int) / 8 < (bs.length : Int) := by omega
        have hk64 : (k : Int) ≤ 64 := by omega
        have HP := Lib.hid hpp
        clear hpp hp
        go_wp2
        go_quiet (fail)
        go_wp2
        go_roundw
        case rel =>
          have hE := fun n => (HE2 n).out
          rw [show ((p + 1 : Nat) : Int) = (p : Int) + 1 from rfl] at hE
          refine ⟨k + 1, by omega, by go_num, rfl, ?_, HO.out.trans (hE _).2 (fun i q => .inl q)⟩
          rw [← Nat.add_assoc, HP.out]
          exact (hE _).1
        case measure => simp [intOf]; omega
    · obtain rfl : k = m := by omega
      have HR := Lib.hid hR
      clear hR
      go_wp2
      go_ret2
      exact ⟨rfl, HR.out, HO.out⟩

end Go.Proofs.YtmmbadkkkjkgnaaDoor.Bit
