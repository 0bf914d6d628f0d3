/- The document's reader of bits: Align, whole bytes. -/
import Derived.Test.YtaibehfpbcgijabDoorBitL
namespace Go.Proofs.YtaibehfpbcgijabDoor.Bit
open Go.RowKit Go.Shelf Go.Proofs.YtaibehfpbcgijabDoor.Mem

set_option maxHeartbeats 1000000 in
theorem refAlign_any (W : World) (B c : Nat) (v : Value) (bs : List UInt8) (at_ : Nat) (h : RR W B c v bs at_) :
    Calls Tryd.prog 21 #[.pointer (some ⟨c, 0, none⟩)] W fun e w' => e = .returned (.tuple #[]) ∧ RR w' B c v bs (8 * ((at_ + 7) / 8)) ∧ Only (fun k => k = c) W w' := by
  have c1 := h.c1
  have f1 := Lib.frozen_of_heap h.1 1
  have hlen := h.2.2.2.2.2
  have hat := h.2.2.2.2.1
  have HE := Lib.hid (h.set (Drew.refl W) (8 * ((at_ + 7) / 8)) (by omega))
  clear h
  go_enter Tryd.func21, Tryd.ntmps21
  go_wp2
  go_end0
  have hE := HE.out
  rw [show ((8 * ((at_ + 7) / 8) : Nat) : Int) = ((at_ : Int) + 7) / 8 * 8 by omega] at hE
  exact ⟨rfl, hE.1, hE.2⟩

set_option maxHeartbeats 1000000 in
theorem refRaw_bad (W : World) (c : Nat) (x : Int) (hx : x < 0) :
    Calls Tryd.prog 23 #[.pointer (some ⟨c, 0, none⟩), .int .i64 x] W fun e w' => e = .returned (.tuple #[.slice none 0 0, .int .i64 1]) ∧ W = w' := by
  go_enter Tryd.func23, Tryd.ntmps23
  go_wp2
  go_ret2
  exact ⟨rfl, rfl⟩

set_option maxHeartbeats 1000000 in
theorem refRaw_end (W : World) (B c : Nat) (v : Value) (bs : List UInt8) (at_ m : Nat) (h : RR W B c v bs at_) (hs : bs.length < (at_ + 7) / 8 + m) :
    Calls Tryd.prog 23 #[.pointer (some ⟨c, 0, none⟩), .int .i64 m] W fun e w' => e = .returned (.tuple #[.slice none 0 0, .int .i64 20]) ∧ W = w' := by
  have c0 := h.c0
  have c1 := h.c1
  have hlen := h.2.2.2.2.2
  have hat := h.2.2.2.2.1
  obtain ⟨ao, cap, rfl, hcap, hcm, hnone⟩ := own_shape h.2.1
  have hgt : (bs.length : Int) - ((at_ : Int) + 7) / 8 < (m : Int) := by omega
  clear h hnone
  go_enter Tryd.func23, Tryd.ntmps23
  go_wp2
  go_ret2
  exact ⟨rfl, rfl⟩

/-- Bytes from the middle of a reader's row. -/
theorem mid_of (W : World) (B c : Nat) (v : Value) (bs : List UInt8) (at_ m : Nat) (h : RR W B c v bs at_) (hs : (at_ + 7) / 8 + m ≤ bs.length) :
    (v = .slice none 0 0 ∧ bs = [] ∧ at_ = 0) ∨ ∃ g cap, v = .slice (some ⟨g, 0, none⟩) bs.length cap ∧ bs.length ≤ cap ∧ cap ≤ 9223372036854775807 ∧ g ≠ c ∧
      ∀ q c2, ((at_ + 7) / 8 < bs.length → q = (⟨g, (at_ + 7) / 8, none⟩ : Addr)) → Src W (.slice (some q) m c2) ((bs.drop ((at_ + 7) / 8)).take m) := by
  have hat := h.2.2.2.2.1
  have ho := h.2.1
  have hne := h.2.2.1
  obtain ⟨ao, cap, rfl, hcap, hcm, hnone⟩ := own_shape ho
  cases ao with
  | none =>
    obtain ⟨h0, rfl⟩ := hnone rfl
    exact .inl ⟨by rw [h0], List.eq_nil_of_length_eq_zero h0, by omega⟩
  | some a =>
    obtain ⟨g, rfl, -, -⟩ := own_block ho
    refine .inr ⟨g, cap, rfl, hcap, hcm, fun e => hne (by rw [e]; rfl), fun q c2 hq => ?_⟩
    have := src_drop (Src.of_own ho rfl) (n := (at_ + 7) / 8) (by omega) q c2 (fun hlt => by rw [hq hlt, Lib.addr_add, Nat.zero_add]) ⟨g, rfl⟩
    exact src_take this (by rw [List.length_drop]; omega)

set_option maxRecDepth 100000 in
set_option maxHeartbeats 4000000 in
theorem refRaw_ok (W : World) (B c : Nat) (v : Value) (bs : List UInt8) (at_ m : Nat) (h : RR W B c v bs at_) (hs : (at_ + 7) / 8 + m ≤ bs.length) :
    Calls Tryd.prog 23 #[.pointer (some ⟨c, 0, none⟩), .int .i64 m] W fun e w' => ∃ v', e = .returned (.tuple #[v', .int .i64 0]) ∧ w'.ownsRow W.heap.size 5 1 v' m (bVs ((bs.drop ((at_ + 7) / 8)).take m)) ∧ RR w' B c v bs (8 * ((at_ + 7) / 8 + m)) ∧ Only (fun k => k = c) W w' := by
  have c0 := h.c0
  have c1 := h.c1
  have f1 := Lib.frozen_of_heap h.1 1
  have hlen := h.2.2.2.2.2
  have hat := h.2.2.2.2.1
  have hlt := h.lt
  have hml : ((bs.drop ((at_ + 7) / 8)).take m).length = m := by rw [List.length_take, List.length_drop]; omega
  obtain ⟨q1, q2⟩ := h.set (Drew.refl W) (8 * ((at_ + 7) / 8 + m)) (by omega)
  have hmid := mid_of W B c v bs at_ m h hs
  obtain ⟨V, hV⟩ : ∃ V, V = W.setCell ⟨c, 1, none⟩ (.int .i64 ((8 * ((at_ + 7) / 8 + m) : Nat) : Int)) := ⟨_, rfl⟩
  rw [← hV] at q1 q2
  have hbA := (Below.refl V.heap.size V).alloc (Nat.le_refl _) (.cells #[] 5)
  have cA : (V.alloc (.cells #[] 5)).cell? ⟨c, 0, none⟩ = some v := (hbA.cell (p := ⟨c, 0, none⟩) q1.lt).trans q1.c0
  have hcast : ((8 * ((at_ + 7) / 8 + m) : Nat) : Int) = 8 * (((at_ : Int) + 7) / 8 + (m : Int)) := by omega
  rw [hcast] at hV
  -- what is made behind the store
  have fin : ∀ (x : Value), Src W x ((bs.drop ((at_ + 7) / 8)).take m) → (∀ a n k, x = .slice (some a) n k → a.block ≠ c) → ∃ v1 W1, (Builtin.append_ #[27, 27] 27 #[.slice (some ⟨V.heap.size, 0, none⟩) 0 0, x]).run Tryd.prog (V.alloc (.cells #[] 5)) = .ok v1 W1 ∧
      W1.ownsRow W.heap.size 5 1 v1 m (bVs ((bs.drop ((at_ + 7) / 8)).take m)) ∧ RR W1 B c v bs (8 * ((at_ + 7) / 8 + m)) ∧ Only (fun k => k = c) W W1 := by
    intro x hx hxc
    obtain ⟨v1, W1, r1, r2, r3⟩ := fresh_any V x 27 _ (hx.only q2 hxc) (by rw [hml]; omega)
    rw [hml] at r2
    exact ⟨v1, W1, r1, ownsRow_mono r2 q2.size, q1.below r3, q2.trans (S' := fun _ => False) (Only.of_below r3) (fun i q => q.elim)⟩
  have hgt : ¬ (bs.length : Int) - ((at_ : Int) + 7) / 8 < (m : Int) := by omega
  subst hV
  simp only [World.size_setCell] at fin cA hbA
  rcases hmid with ⟨rfl, rfl, rfl⟩ | ⟨g, cap, rfl, hcap, hcm, hgc, hsr⟩
  · obtain rfl : m = 0 := by simpa using hs
    obtain ⟨v1, W1, hr1, r2, r3, r4⟩ := fin (.slice none 0 0) (.inl ⟨rfl, rfl⟩) (fun a n k e => by cases e)
    obtain ⟨ao1, k1, rfl, -, -, -⟩ := own_shape r2
    have HE := Lib.hid (And.intro r2 (And.intro r3 r4))
    clear fin r2 r3 r4 q1 q2 h hs hml hbA hcast
    simp only [Int.natCast_zero, Int.zero_add, Int.add_zero] at hr1 cA
    go_enter Tryd.func23, Tryd.ntmps23
    go_wp2_with (at_builtin; refine wpList_append_at _ rfl _ _ _ _ rfl _ _ rfl rfl _ _ hr1 ?_)
    go_ret2
    exact ⟨_, rfl, HE.out⟩
  · by_cases hcx : (at_ + 7) / 8 = cap
    · obtain rfl : m = 0 := by omega
      obtain ⟨v1, W1, hr1, r2, r3, r4⟩ := fin (.slice (some ⟨g, 0, none⟩) 0 0) (hsr _ _ (fun q => by omega)) (fun a n k e => by cases e; exact hgc)
      obtain ⟨ao1, k1, rfl, -, -, -⟩ := own_shape r2
      have HE := Lib.hid (And.intro r2 (And.intro r3 r4))
      simp only [Int.natCast_zero, Int.add_zero] at hr1 cA
      clear fin r2 r3 r4 q1 q2 h hs hml hbA hcast hsr
      go_enter Tryd.func23, Tryd.ntmps23
      go_wp2_with (at_builtin; refine wpList_append_at _ rfl _ _ _ _ rfl _ _ rfl rfl _ _ hr1 ?_)
      go_ret2
      have hE := HE.out
      simp only [List.take_zero, hcx, Nat.add_zero] at hE
      exact ⟨_, rfl, hE⟩
    · have hmm : (at_ + 7) / 8 + m - (at_ + 7) / 8 = m := by omega
      obtain ⟨v1, W1, hr1, r2, r3, r4⟩ := fin (.slice (some ⟨g, (at_ + 7) / 8, none⟩) m (cap - (at_ + 7) / 8)) (hsr _ _ (fun _ => rfl)) (fun a n k e => by cases e; exact hgc)
      obtain ⟨ao1, k1, rfl, -, -, -⟩ := own_shape r2
      have hr2 : (Builtin.append_ #[27, 27] 27 #[.slice (some ⟨W.heap.size, 0, none⟩) 0 0, .slice (some ⟨g, (at_ + 7) / 8, none⟩) ((at_ + 7) / 8 + m - (at_ + 7) / 8) (cap - (at_ + 7) / 8)]).run Tryd.prog ((W.setCell ⟨c, 1, none⟩ (.int .i64 (8 * (((at_ : Int) + 7) / 8 + (m : Int))))).alloc (.cells #[] 5)) = .ok (.slice ao1 m k1) W1 := by rw [hmm]; exact hr1
      have HE := Lib.hid (And.intro r2 (And.intro r3 r4))
      clear hmm hr1
      clear fin r2 r3 r4 q1 q2 h hs hml hbA hcast hsr
      go_enter Tryd.func23, Tryd.ntmps23
      go_wp2_with (at_builtin; refine wpList_append_at _ rfl _ _ _ _ rfl _ _ rfl rfl _ _ hr2 ?_)
      go_ret2
      exact ⟨_, rfl, HE.out⟩

end Go.Proofs.YtaibehfpbcgijabDoor.Bit
