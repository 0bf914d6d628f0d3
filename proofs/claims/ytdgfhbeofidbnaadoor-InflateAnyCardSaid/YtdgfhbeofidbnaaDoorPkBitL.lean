/- The document's reader of bits: what is left, bits that are taken. The document's reader of bits: Align, whole bytes. Bytes, and lists of calls, that came in: as they lie in memory, and how much they hold. -/
import Derived.Test.YtdgfhbeofidbnaaDoorPkBitE
import Derived.Test.YtdgfhbeofidbnaaDoorPkMem
import Derived.Test.YtdgfhbeofidbnaaDoorRows
import Derived.Deep.Slices
import Derived.Deep.Fields
import Derived.ChangeSlices
import Derived.ChangeSame
import Derived.ProofKit
import Derived.SizedLaws
namespace Go.Proofs.YtdgfhbeofidbnaaDoor.Bit
open Go.RowKit Go.Shelf Go.Proofs.YtdgfhbeofidbnaaDoor.Mem

/-- Block c is the document's reader of the bytes bs, in the row v; so many bits have been taken. -/
def RR (W : World) (B c : Nat) (v : Value) (bs : List UInt8) (at_ : Nat) : Prop :=
  W.heap[c]? = some (.cells #[v, .int .i64 at_] 105 (0, 0)) ∧ W.ownsRow B 5 1 v bs.length (bVs bs) ∧ v.ownBlock ≠ some c ∧ B ≤ c ∧ at_ ≤ 8 * bs.length ∧ bs.length ≤ 140737488355328
section
variable {W W' : World} {B c : Nat} {v : Value} {bs : List UInt8} {at_ : Nat}
theorem RR.lt (h : RR W B c v bs at_) : c < W.heap.size := (Array.getElem?_eq_some_iff.1 h.1).1
theorem RR.same (h : RR W B c v bs at_) (hc : W'.heap[c]? = W.heap[c]?) (hk : ∀ g, v.ownBlock = some g → W'.heap[g]? = W.heap[g]?) : RR W' B c v bs at_ :=
  ⟨hc.trans h.1, own_same h.2.1 hk, h.2.2⟩
theorem RR.below (h : RR W B c v bs at_) (hb : Below W.heap.size W W') : RR W' B c v bs at_ := h.same (hb.block c h.lt) (fun g hg => hb.block g (h.2.1.lt g hg).2)
theorem RR.drew (h : RR W B c v bs at_) (d : Drew W W') : RR W' B c v bs at_ := h.same (by rw [d.heap]) (fun g hg => by rw [d.heap])
theorem RR.only {S : Nat → Prop} (h : RR W B c v bs at_) (o : Only S W W') (hb : ¬ S c) (hg : ∀ g, v.ownBlock = some g → ¬ S g) : RR W' B c v bs at_ := h.same (o.block c h.lt hb) (fun g q => o.block g (h.2.1.lt g q).2 (hg g q))
theorem RR.c0 (h : RR W B c v bs at_) : W.cell? ⟨c, 0, none⟩ = some v := by rw [Lib.cell_of_heap h.1]; rfl
theorem RR.c1 (h : RR W B c v bs at_) : W.cell? ⟨c, 1, none⟩ = some (.int .i64 at_) := by rw [Lib.cell_of_heap h.1]; rfl
theorem RR.set (h : RR W B c v bs at_) (d : Drew W W') (x : Nat) (hx : x ≤ 8 * bs.length) : RR (W'.setCell ⟨c, 1, none⟩ (.int .i64 x)) B c v bs x ∧ Only (fun k => k = c) W (W'.setCell ⟨c, 1, none⟩ (.int .i64 x)) := by
  have h' := h.drew d
  refine ⟨⟨(Lib.heap_setCell_same (i := 1) h'.1 _).trans rfl, own_same h'.2.1 (fun k hk => Below.heap_setCell _ _ _ _ (fun e => ?_)), h.2.2.1, h.2.2.2.1, hx, h.2.2.2.2.2⟩, d.only.trans (S' := fun k => k = c) (Only.setCell (S := fun k => k = c) rfl _ _) (fun i q => .inl q)⟩
  exact h.2.2.1 (by rw [hk, e])
end

set_option maxRecDepth 100000 in
set_option maxHeartbeats 2000000 in
theorem refNewReader_any (W : World) (B n c : Nat) (ax : Option Addr) (bs : List UInt8) (hx : Src W (.slice ax n c) bs) (hn : bs.length = n) (hl : n ≤ 140737488355328) (hB : B ≤ W.heap.size) :
    Calls Tryd.prog 54 #[.slice ax n c] W fun e w' => ∃ b v, e = .returned (.pointer (some ⟨b, 0, none⟩)) ∧ RR w' B b v bs 0 ∧ W.heap.size ≤ b ∧ (∀ g, v.ownBlock = some g → W.heap.size ≤ g) ∧ Below W.heap.size W w' := by
  subst hn
  obtain ⟨v1, W1, hr1, ho1, hb1⟩ := fresh_any W (.slice ax bs.length c) 22 bs hx hl
  obtain ⟨ao1, c1, rfl, -, -, -⟩ := own_shape ho1
  have HO1 := Lib.hid ho1
  have HB1 := Lib.hid hb1
  clear hx ho1 hb1
  go_enter Tryd.func54, Tryd.ntmps54
  go_wp2_with (at_builtin; refine wpList_append_at _ rfl _ _ _ _ rfl _ _ rfl rfl _ _ hr1 ?_)
  go_ret
  have hA := (Below.refl W1.heap.size W1).alloc (Nat.le_refl _) (.cells #[.slice ao1 bs.length c1, .int .i64 0] 105)
  have hs1 := HB1.out.size
  refine ⟨W1.heap.size, _, rfl, ⟨heap_alloc_new _ _, ownsRow_mono (own_below HO1.out hA) hB, fun e => ?_, by omega, Nat.zero_le _, hl⟩, hs1, fun g hg => (HO1.out.lt g hg).1, HB1.out.trans (hA.mono hs1)⟩
  have := (HO1.out.lt _ e).2
  omega

set_option maxHeartbeats 1000000 in
theorem refLeft_any (W : World) (B c : Nat) (v : Value) (bs : List UInt8) (at_ : Nat) (h : RR W B c v bs at_) :
    Calls Tryd.prog 109 #[.pointer (some ⟨c, 0, none⟩)] W fun e w' => e = .returned (.int .i64 (8 * (bs.length : Int) - at_)) ∧ ∃ m, w' = W.drewN m := by
  have c0 := h.c0
  have c1 := h.c1
  have hlen := h.2.2.2.2.2
  have hat := h.2.2.2.2.1
  obtain ⟨ao, cap, rfl, hcap, hcm, hnone⟩ := own_shape h.2.1
  have mixed : Tryd.prog.follows .mixedOrders = true := by kernel_rfl
  clear h hnone
  go_enter Tryd.func109, Tryd.ntmps109
  go_wp2
  go_quiet (fail)
  go_wp2
  go_ret
  exact ⟨rfl, _, rfl⟩

set_option maxHeartbeats 1000000 in
theorem refTake_bad (W : World) (c : Nat) (x : Int) (hx : x < 0 ∨ 32 < x) :
    Calls Tryd.prog 79 #[.pointer (some ⟨c, 0, none⟩), .int .i64 x] W fun e w' => e = .returned (.tuple #[.int .i64 0, .int .i64 1]) ∧ W = w' := by
  rcases hx with hx | hx
  · go_enter Tryd.func79, Tryd.ntmps79
    go_wp2
    go_ret2
    exact ⟨rfl, rfl⟩
  · have h' : ¬ x < 0 := by omega
    go_enter Tryd.func79, Tryd.ntmps79
    go_wp2
    go_ret2
    exact ⟨rfl, rfl⟩

set_option maxHeartbeats 1000000 in
theorem refTake_end (W : World) (B b : Nat) (v : Value) (bs : List UInt8) (at_ m : Nat) (h : RR W B b v bs at_) (hm : m ≤ 32) (hs : 8 * bs.length < at_ + m) :
    Calls Tryd.prog 79 #[.pointer (some ⟨b, 0, none⟩), .int .i64 m] W fun e w' => e = .returned (.tuple #[.int .i64 0, .int .i64 20]) ∧ Drew W w' := by
  have HL := Lib.hid (refLeft_any W B b v bs at_ h)
  have hgt : 8 * (bs.length : Int) - at_ < (m : Int) := by omega
  clear h
  go_enter Tryd.func79, Tryd.ntmps79
  go_wp2_with (go_at_call 109; refine HL.out.mono ?_; rintro e w1 ⟨rfl, n1, rfl⟩)
  go_ret2
  exact ⟨rfl, Drew.drewN _ _⟩

theorem and_one_u8 (x : UInt8) (i : Nat) : bits BinOp.and IntKind.u8 ((x.toNat : Int) / 2 ^ i) 1 = ((x.toNat / 2 ^ i % 2 : Nat) : Int) := by
  have e : ((x.toNat : Int) / 2 ^ i) = ((x.toNat / 2 ^ i : Nat) : Int) := by rw [Int.natCast_ediv, Int.natCast_pow]; rfl
  have hx := UInt8.toNat_lt x
  have hle : x.toNat / 2 ^ i ≤ x.toNat := Nat.div_le_self _ _
  have := u8_and_nat (x.toNat / 2 ^ i) 1 (by omega) (by decide)
  rw [e]
  exact this.trans (by rw [Nat.and_one_is_mod])

set_option maxRecDepth 100000 in
set_option maxHeartbeats 4000000 in
theorem refTake_ok (W : World) (B b : Nat) (v : Value) (bs : List UInt8) (at_ m : Nat) (h : RR W B b v bs at_) (hm : m ≤ 32) (hs : at_ + m ≤ 8 * bs.length) :
    Calls Tryd.prog 79 #[.pointer (some ⟨b, 0, none⟩), .int .i64 m] W fun e w' => e = .returned (.tuple #[.int .i64 (takeN bs at_ m), .int .i64 0]) ∧ RR w' B b v bs (at_ + m) ∧ Only (fun k => k = b) W w' := by
  have HL := Lib.hid (refLeft_any W B b v bs at_ h)
  have hgt : ¬ 8 * (bs.length : Int) - at_ < (m : Int) := by omega
  have hlen : (bs.length : Int) ≤ 140737488355328 := by have := h.2.2.2.2.2; omega
  have hat : (at_ : Int) ≤ 1125899906842624 := by have := h.2.2.2.2.1; omega
  have H := Lib.hid h
  have HS := Lib.hid hs
  have mixed : Tryd.prog.follows .mixedOrders = true := by kernel_rfl
  clear h hs
  go_enter Tryd.func79, Tryd.ntmps79
  go_wp2_with (go_at_call 109; refine HL.out.mono ?_; rintro e w1 ⟨rfl, n1, rfl⟩)
  go_loopw [6, 7] (fun t i wr => ∃ k : Nat, k ≤ m ∧ i = .int .i64 k ∧ t = .int .i64 (takeN bs at_ k) ∧ RR wr B b v bs (at_ + k) ∧ Only (fun k => k = b) W wr) (fun _ i _ => m - (intOf i).toNat)
  case atStart => exact ⟨0, Nat.zero_le _, rfl, rfl, H.out.drew (Drew.drewN _ _), (Drew.drewN _ _).only⟩
  case round =>
    obtain ⟨k, hk, rfl, rfl, hR, hO⟩ := hrel
    have HO := Lib.hid hO
    clear hO
    by_cases hlt : k < m
    · have c0 := hR.c0
      have c1 := hR.c1
      have f1 := Lib.frozen_of_heap hR.1 1
      obtain ⟨hw, hor⟩ := take_or bs at_ k (by omega)
      have hp : at_ + k < 8 * bs.length := by have := HS.out; omega
      have hpi : ((at_ + k : Nat) : Int) ≤ 1125899906842624 + 32 := by omega
      have HE2 := fun n => Lib.hid (hR.set (Drew.drewN wr n) (at_ + k + 1) (by omega))
      have HR := Lib.hid hR
      obtain ⟨ao, cap, rfl, hcap, hcm, hnone⟩ := own_shape hR.2.1
      cases ao with
      | none => have := (hnone rfl).1; omega
      | some a =>
        obtain ⟨g, rfl, -, -⟩ := own_block hR.2.1
        have hrc := src_cell (Src.of_own hR.2.1 rfl) ((at_ + k) / 8) (by omega)
        rw [Lib.addr_add, Nat.zero_add] at hrc
        have hand := and_one_u8 (bs[(at_ + k) / 8]'(by omega)) ((at_ + k) % 8)
        have hgd : bitN bs (at_ + k) = (bs[(at_ + k) / 8]'(by omega)).toNat / 2 ^ ((at_ + k) % 8) % 2 := by unfold bitN; rw [List.getD_eq_getElem?_getD, List.getElem?_eq_getElem (by omega)]; rfl
        rw [← hgd] at hand
        have hb2 := bitN_lt bs (at_ + k)
        generalize bs[(at_ + k) / 8]'(by omega) = old at *
        generalize bitN bs (at_ + k) = x at *
        clear hgd hR hnone
        generalize hpp : at_ + k = p at *
        have hi8 : (p : Int) / 8 < (bs.length : Int) := by omega
        have hk64 : (k : Int) ≤ 64 := by omega
        have HP := Lib.hid hpp
        clear hpp hp
        go_wp2
        go_quiet (fail)
        go_wp2
        go_roundw
        case rel =>
          have hE := fun n => (HE2 n).out
          rw [show ((p + 1 : Nat) : Int) = (p : Int) + 1 from rfl] at hE
          refine ⟨k + 1, by omega, by go_num, rfl, ?_, HO.out.trans (hE _).2 (fun i q => .inl q)⟩
          rw [← Nat.add_assoc, HP.out]
          exact (hE _).1
        case measure => simp [intOf]; omega
    · obtain rfl : k = m := by omega
      have HR := Lib.hid hR
      clear hR
      go_wp2
      go_ret2
      exact ⟨rfl, HR.out, HO.out⟩

end Go.Proofs.YtdgfhbeofidbnaaDoor.Bit
namespace Go.Proofs.YtdgfhbeofidbnaaDoor.Bit
open Go.RowKit Go.Shelf Go.Proofs.YtdgfhbeofidbnaaDoor.Mem

set_option maxHeartbeats 1000000 in
theorem refAlign_any (W : World) (B c : Nat) (v : Value) (bs : List UInt8) (at_ : Nat) (h : RR W B c v bs at_) :
    Calls Tryd.prog 80 #[.pointer (some ⟨c, 0, none⟩)] W fun e w' => e = .returned (.tuple #[]) ∧ RR w' B c v bs (8 * ((at_ + 7) / 8)) ∧ Only (fun k => k = c) W w' := by
  have c1 := h.c1
  have f1 := Lib.frozen_of_heap h.1 1
  have hlen := h.2.2.2.2.2
  have hat := h.2.2.2.2.1
  have HE := Lib.hid (h.set (Drew.refl W) (8 * ((at_ + 7) / 8)) (by omega))
  clear h
  go_enter Tryd.func80, Tryd.ntmps80
  go_wp2
  go_end0
  have hE := HE.out
  rw [show ((8 * ((at_ + 7) / 8) : Nat) : Int) = ((at_ : Int) + 7) / 8 * 8 by omega] at hE
  exact ⟨rfl, hE.1, hE.2⟩

set_option maxHeartbeats 1000000 in
theorem refRaw_bad (W : World) (c : Nat) (x : Int) (hx : x < 0) :
    Calls Tryd.prog 81 #[.pointer (some ⟨c, 0, none⟩), .int .i64 x] W fun e w' => e = .returned (.tuple #[.slice none 0 0, .int .i64 1]) ∧ W = w' := by
  go_enter Tryd.func81, Tryd.ntmps81
  go_wp2
  go_ret2
  exact ⟨rfl, rfl⟩

set_option maxHeartbeats 1000000 in
theorem refRaw_end (W : World) (B c : Nat) (v : Value) (bs : List UInt8) (at_ m : Nat) (h : RR W B c v bs at_) (hs : bs.length < (at_ + 7) / 8 + m) :
    Calls Tryd.prog 81 #[.pointer (some ⟨c, 0, none⟩), .int .i64 m] W fun e w' => e = .returned (.tuple #[.slice none 0 0, .int .i64 20]) ∧ W = w' := by
  have c0 := h.c0
  have c1 := h.c1
  have hlen := h.2.2.2.2.2
  have hat := h.2.2.2.2.1
  obtain ⟨ao, cap, rfl, hcap, hcm, hnone⟩ := own_shape h.2.1
  have hgt : (bs.length : Int) - ((at_ : Int) + 7) / 8 < (m : Int) := by omega
  clear h hnone
  go_enter Tryd.func81, Tryd.ntmps81
  go_wp2
  go_ret2
  exact ⟨rfl, rfl⟩

/-- Bytes from the middle of a reader's row. -/
theorem mid_of (W : World) (B c : Nat) (v : Value) (bs : List UInt8) (at_ m : Nat) (h : RR W B c v bs at_) (hs : (at_ + 7) / 8 + m ≤ bs.length) :
    (v = .slice none 0 0 ∧ bs = [] ∧ at_ = 0) ∨ ∃ g cap, v = .slice (some ⟨g, 0, none⟩) bs.length cap ∧ bs.length ≤ cap ∧ cap ≤ 9223372036854775807 ∧ g ≠ c ∧
      ∀ q c2, ((at_ + 7) / 8 < bs.length → q = (⟨g, (at_ + 7) / 8, none⟩ : Addr)) → Src W (.slice (some q) m c2) ((bs.drop ((at_ + 7) / 8)).take m) := by
  have hat := h.2.2.2.2.1
  have ho := h.2.1
  have hne := h.2.2.1
  obtain ⟨ao, cap, rfl, hcap, hcm, hnone⟩ := own_shape ho
  cases ao with
  | none =>
    obtain ⟨h0, rfl⟩ := hnone rfl
    exact .inl ⟨by rw [h0], List.eq_nil_of_length_eq_zero h0, by omega⟩
  | some a =>
    obtain ⟨g, rfl, -, -⟩ := own_block ho
    refine .inr ⟨g, cap, rfl, hcap, hcm, fun e => hne (by rw [e]; rfl), fun q c2 hq => ?_⟩
    have := src_drop (Src.of_own ho rfl) (n := (at_ + 7) / 8) (by omega) q c2 (fun hlt => by rw [hq hlt, Lib.addr_add, Nat.zero_add]) ⟨g, rfl⟩
    exact src_take this (by rw [List.length_drop]; omega)

set_option maxRecDepth 100000 in
set_option maxHeartbeats 4000000 in
theorem refRaw_ok (W : World) (B c : Nat) (v : Value) (bs : List UInt8) (at_ m : Nat) (h : RR W B c v bs at_) (hs : (at_ + 7) / 8 + m ≤ bs.length) :
    Calls Tryd.prog 81 #[.pointer (some ⟨c, 0, none⟩), .int .i64 m] W fun e w' => ∃ v', e = .returned (.tuple #[v', .int .i64 0]) ∧ w'.ownsRow W.heap.size 5 1 v' m (bVs ((bs.drop ((at_ + 7) / 8)).take m)) ∧ RR w' B c v bs (8 * ((at_ + 7) / 8 + m)) ∧ Only (fun k => k = c) W w' := by
  have c0 := h.c0
  have c1 := h.c1
  have f1 := Lib.frozen_of_heap h.1 1
  have hlen := h.2.2.2.2.2
  have hat := h.2.2.2.2.1
  have hlt := h.lt
  have hml : ((bs.drop ((at_ + 7) / 8)).take m).length = m := by rw [List.length_take, List.length_drop]; omega
  obtain ⟨q1, q2⟩ := h.set (Drew.refl W) (8 * ((at_ + 7) / 8 + m)) (by omega)
  have hmid := mid_of W B c v bs at_ m h hs
  obtain ⟨V, hV⟩ : ∃ V, V = W.setCell ⟨c, 1, none⟩ (.int .i64 ((8 * ((at_ + 7) / 8 + m) : Nat) : Int)) := ⟨_, rfl⟩
  rw [← hV] at q1 q2
  have hbA := (Below.refl V.heap.size V).alloc (Nat.le_refl _) (.cells #[] 5)
  have cA : (V.alloc (.cells #[] 5)).cell? ⟨c, 0, none⟩ = some v := (hbA.cell (p := ⟨c, 0, none⟩) q1.lt).trans q1.c0
  have hcast : ((8 * ((at_ + 7) / 8 + m) : Nat) : Int) = 8 * (((at_ : Int) + 7) / 8 + (m : Int)) := by omega
  rw [hcast] at hV
  -- what is made behind the store
  have fin : ∀ (x : Value), Src W x ((bs.drop ((at_ + 7) / 8)).take m) → (∀ a n k, x = .slice (some a) n k → a.block ≠ c) → ∃ v1 W1, (Builtin.append_ #[22, 22] 22 #[.slice (some ⟨V.heap.size, 0, none⟩) 0 0, x]).run Tryd.prog (V.alloc (.cells #[] 5)) = .ok v1 W1 ∧
      W1.ownsRow W.heap.size 5 1 v1 m (bVs ((bs.drop ((at_ + 7) / 8)).take m)) ∧ RR W1 B c v bs (8 * ((at_ + 7) / 8 + m)) ∧ Only (fun k => k = c) W W1 := by
    intro x hx hxc
    obtain ⟨v1, W1, r1, r2, r3⟩ := fresh_any V x 22 _ (hx.only q2 hxc) (by rw [hml]; omega)
    rw [hml] at r2
    exact ⟨v1, W1, r1, ownsRow_mono r2 q2.size, q1.below r3, q2.trans (S' := fun _ => False) (Only.of_below r3) (fun i q => q.elim)⟩
  have hgt : ¬ (bs.length : Int) - ((at_ : Int) + 7) / 8 < (m : Int) := by omega
  subst hV
  simp only [World.size_setCell] at fin cA hbA
  rcases hmid with ⟨rfl, rfl, rfl⟩ | ⟨g, cap, rfl, hcap, hcm, hgc, hsr⟩
  · obtain rfl : m = 0 := by simpa using hs
    obtain ⟨v1, W1, hr1, r2, r3, r4⟩ := fin (.slice none 0 0) (.inl ⟨rfl, rfl⟩) (fun a n k e => by cases e)
    obtain ⟨ao1, k1, rfl, -, -, -⟩ := own_shape r2
    have HE := Lib.hid (And.intro r2 (And.intro r3 r4))
    clear fin r2 r3 r4 q1 q2 h hs hml hbA hcast
    simp only [Int.natCast_zero, Int.zero_add, Int.add_zero] at hr1 cA
    go_enter Tryd.func81, Tryd.ntmps81
    go_wp2_with (at_builtin; refine wpList_append_at _ rfl _ _ _ _ rfl _ _ rfl rfl _ _ hr1 ?_)
    go_ret2
    exact ⟨_, rfl, HE.out⟩
  · by_cases hcx : (at_ + 7) / 8 = cap
    · obtain rfl : m = 0 := by omega
      obtain ⟨v1, W1, hr1, r2, r3, r4⟩ := fin (.slice (some ⟨g, 0, none⟩) 0 0) (hsr _ _ (fun q => by omega)) (fun a n k e => by cases e; exact hgc)
      obtain ⟨ao1, k1, rfl, -, -, -⟩ := own_shape r2
      have HE := Lib.hid (And.intro r2 (And.intro r3 r4))
      simp only [Int.natCast_zero, Int.add_zero] at hr1 cA
      clear fin r2 r3 r4 q1 q2 h hs hml hbA hcast hsr
      go_enter Tryd.func81, Tryd.ntmps81
      go_wp2_with (at_builtin; refine wpList_append_at _ rfl _ _ _ _ rfl _ _ rfl rfl _ _ hr1 ?_)
      go_ret2
      have hE := HE.out
      simp only [List.take_zero, hcx, Nat.add_zero] at hE
      exact ⟨_, rfl, hE⟩
    · have hmm : (at_ + 7) / 8 + m - (at_ + 7) / 8 = m := by omega
      obtain ⟨v1, W1, hr1, r2, r3, r4⟩ := fin (.slice (some ⟨g, (at_ + 7) / 8, none⟩) m (cap - (at_ + 7) / 8)) (hsr _ _ (fun _ => rfl)) (fun a n k e => by cases e; exact hgc)
      obtain ⟨ao1, k1, rfl, -, -, -⟩ := own_shape r2
      have hr2 : (Builtin.append_ #[22, 22] 22 #[.slice (some ⟨W.heap.size, 0, none⟩) 0 0, .slice (some ⟨g, (at_ + 7) / 8, none⟩) ((at_ + 7) / 8 + m - (at_ + 7) / 8) (cap - (at_ + 7) / 8)]).run Tryd.prog ((W.setCell ⟨c, 1, none⟩ (.int .i64 (8 * (((at_ : Int) + 7) / 8 + (m : Int))))).alloc (.cells #[] 5)) = .ok (.slice ao1 m k1) W1 := by rw [hmm]; exact hr1
      have HE := Lib.hid (And.intro r2 (And.intro r3 r4))
      clear hmm hr1
      clear fin r2 r3 r4 q1 q2 h hs hml hbA hcast hsr
      go_enter Tryd.func81, Tryd.ntmps81
      go_wp2_with (at_builtin; refine wpList_append_at _ rfl _ _ _ _ rfl _ _ rfl rfl _ _ hr2 ?_)
      go_ret2
      exact ⟨_, rfl, HE.out⟩

end Go.Proofs.YtdgfhbeofidbnaaDoor.Bit
namespace Go.Proofs.YtdgfhbeofidbnaaDoor.Bit
open Go.RowKit Go.Shelf Go.Lib Go.Proofs.YtdgfhbeofidbnaaDoor.Mem
open Go.ChangeShapes Go.WideShapes Go.ChangeAt

def byteOf (z : Int) : UInt8 := UInt8.ofNat z.toNat
theorem byteOf_val (z : Int) (h : (Lit.int .u8 z).wf = true) : ((byteOf z).toNat : Int) = z := by
  have hw : 0 ≤ z ∧ z ≤ 255 := by simpa [Lit.wf, IntKind.min, IntKind.max, IntKind.signed, IntKind.bits] using h
  have : (UInt8.ofNat z.toNat).toNat = z.toNat % 256 := by simp
  unfold byteOf
  omega

set_option maxRecDepth 100000 in
/-- A list of bytes, wherever it stands. -/
theorem bytes_of_trod {H : Type} {enc : TypeId × Value → H} {W : World} {fuel : Nat} {cs : List Value} {x : DataW H × List MemPlace} (h : DataW.trod enc Tryd.prog W 0 (fun _ => true) true fuel 22 cs = some x) :
    ∃ (ao : Option Addr) (l : List UInt8) (c : Nat), cs = [.slice ao l.length c] ∧ Src W (.slice ao l.length c) l ∧ l.length ≤ c ∧ ∀ N, (∀ n ∈ x.1.weights Tryd.prog 22, n ≤ N) → l.length ≤ N := by
  rcases open_ints Tryd.underlying22 Tryd.underlying5 (by kernel_rfl) h with ⟨hcs, hx⟩ | ⟨a, len, cap, zs, hcs, _, hl, hm, hz, hx, hcell, hwz⟩
  · exact ⟨none, [], 0, hcs, .inl ⟨rfl, rfl⟩, Nat.le_refl _, fun N _ => Nat.zero_le _⟩
  · simp only [if_true] at hz
    have hlen : ((zs.take len).map byteOf).length = len := by rw [List.length_map, List.length_take]; omega
    refine ⟨some a, (zs.take len).map byteOf, cap, by rw [hlen]; exact hcs, .inr ⟨a, cap, rfl, fun j v hj => ?_⟩, by omega, fun N hN => ?_⟩
    · have hjl : j < len := by
        have := (List.getElem?_eq_some_iff.1 hj).1
        rw [bVs_len, hlen] at this
        exact this
      rw [hcell j (by omega)]
      have hZ : zs[j]? = some (zs.getD j 0) := by rw [List.getD_eq_getElem?_getD, List.getElem?_eq_getElem (by omega)]; rfl
      rw [bVs, List.getElem?_map, List.getElem?_map, List.getElem?_take, if_pos hjl, hZ] at hj
      have hv : bV (byteOf (zs.getD j 0)) = v := by simpa using hj
      rw [← hv, bV, byteOf_val _ (hwz _ (List.mem_of_getElem? hZ))]
    · rw [hx] at hN
      have hb : Tryd.prog.bytesOf 5 = 1 := by kernel_rfl
      have := hN (((lits .u8 (zs.take len) : List (DataW H)).length + (lits .u8 (zs.drop len) : List (DataW H)).length) * Tryd.prog.bytesOf 5) (by simp only [DataW.weights, Tryd.underlying22]; exact List.mem_cons_self ..)
      rw [hb] at this
      simp only [lits, List.length_map, List.length_take, List.length_drop] at this
      omega

/-- A call that came in. -/
structure OpV where
  kind : Int
  n : Int
  v : Int
  b : List UInt8
  ba : Option Addr
  bc : Nat
deriving Inhabited

/-- The r-th call of a list lies there. -/
def OpAt (W : World) (ao : Option Addr) (r : Nat) (o : OpV) : Prop :=
  ∃ a, ao = some a ∧ W.cell? (a.add (r * 4)) = some (.int .i64 o.kind) ∧ W.cell? (a.add (r * 4 + 1)) = some (.int .i64 o.n) ∧ W.cell? (a.add (r * 4 + 2)) = some (.int .i64 o.v) ∧ W.cell? (a.add (r * 4 + 3)) = some (.slice o.ba o.b.length o.bc) ∧
    Src W (.slice o.ba o.b.length o.bc) o.b ∧ o.b.length ≤ 140737488351232
theorem weights_all {H : Type} {P : Program} {e : TypeId} : ∀ {l : List (DataW H)} {d : DataW H}, d ∈ l → ∀ n ∈ d.weights P e, n ∈ DataW.weightsAll P e l
  | [], _, h, _, _ => by cases h
  | x :: l, d, h, n, hn => by
    simp only [DataW.weightsAll, List.mem_append]
    rcases List.mem_cons.1 h with rfl | h
    · exact .inl hn
    · exact .inr (weights_all h n hn)


/-- All weights of an argument are within the reach. -/
theorem reach_of {H : Type} {P : Program} {ts : List TypeId} {ds : List (DataW H)} (h : (DataW.weightsEach P ts ds).all (· ≤ reachBytes) = true) {j : Nat} {t : TypeId} {d : DataW H} (ht : ts[j]? = some t) (hd : ds[j]? = some d) : ∀ n ∈ d.weights P t, n ≤ 140737488351232 := fun n hn => by
  have := List.all_eq_true.1 h _ (DataW.weights_mem_each ht hd n hn)
  have e : reachBytes = 140737488351232 := by decide
  rw [← e]
  simpa using this

end Go.Proofs.YtdgfhbeofidbnaaDoor.Bit
