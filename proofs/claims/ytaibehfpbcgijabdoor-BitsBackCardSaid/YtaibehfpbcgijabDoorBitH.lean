/- A reader of package bits: whole bytes are taken; NewReader. -/
import Derived.Test.YtaibehfpbcgijabDoorBitG
namespace Go.Proofs.YtaibehfpbcgijabDoor.Bit
open Go.RowKit Go.Shelf Go.Proofs.YtaibehfpbcgijabDoor.Mem

set_option maxHeartbeats 1000000 in
theorem rraw_bad (W : World) (B b : Nat) (v : Value) (bs : List UInt8) (at_ : Nat) (x : Int) (h : RB W B b v bs at_) (hx : x < 0) :
    Calls Tryd.prog 22 #[.pointer (some ⟨b, 0, none⟩), .int .i64 x] W fun e w' => e = .returned (.tuple #[.slice none 0 0, .int .i64 1]) ∧ W = w' := by
  have HM := Lib.hid (rmade_yes W B b v bs at_ h)
  clear h
  go_enter Tryd.func22, Tryd.ntmps22
  go_wp2_with (go_at_call 37; refine HM.out.mono ?_; rintro e w1 ⟨rfl, rfl⟩)
  go_ret2
  exact ⟨rfl, rfl⟩

/-- The rest of a reader's row, from the next whole byte on. -/
theorem rest_of (W : World) (B b : Nat) (v : Value) (bs : List UInt8) (at_ : Nat) (h : RB W B b v bs at_) :
    (v = .slice none 0 0 ∧ bs = [] ∧ at_ = 0) ∨ ∃ g cap, v = .slice (some ⟨g, 0, none⟩) bs.length cap ∧ bs.length ≤ cap ∧ cap ≤ 9223372036854775807 ∧ (at_ + 7) / 8 ≤ bs.length ∧
      ∀ q c2, ((at_ + 7) / 8 < bs.length → q = (⟨g, (at_ + 7) / 8, none⟩ : Addr)) → Src W (.slice (some q) (bs.length - (at_ + 7) / 8) c2) (bs.drop ((at_ + 7) / 8)) := by
  have hat := h.2.2.2.2.1
  have ho := h.2.1
  obtain ⟨ao, cap, rfl, hcap, hcm, hnone⟩ := own_shape ho
  cases ao with
  | none =>
    obtain ⟨h0, rfl⟩ := hnone rfl
    exact .inl ⟨by rw [h0], List.eq_nil_of_length_eq_zero h0, by omega⟩
  | some a =>
    obtain ⟨g, rfl, -, -⟩ := own_block ho
    refine .inr ⟨g, cap, rfl, hcap, hcm, by omega, fun q c2 hq => ?_⟩
    exact src_drop (Src.of_own ho rfl) (by omega) q c2 (fun hlt => by rw [hq hlt, Lib.addr_add, Nat.zero_add]) ⟨g, rfl⟩

set_option maxRecDepth 100000 in
set_option maxHeartbeats 4000000 in
theorem rraw_end (W : World) (B b : Nat) (v : Value) (bs : List UInt8) (at_ m : Nat) (h : RB W B b v bs at_) (hs : bs.length < (at_ + 7) / 8 + m) :
    Calls Tryd.prog 22 #[.pointer (some ⟨b, 0, none⟩), .int .i64 m] W fun e w' => e = .returned (.tuple #[.slice none 0 0, .int .i64 20]) ∧ Drew W w' := by
  have HM := Lib.hid (rmade_yes W B b v bs at_ h)
  have HS : Hid (∀ k, Calls Tryd.prog 39 #[.pointer (some ⟨b, 0, none⟩)] (W.drewN k) fun e w' => e = .returned (.int .i64 (((at_ + 7) / 8 : Nat) : Int)) ∧ ∃ m, w' = (W.drewN k).drewN m) := Lib.hid fun k =>
    (begun_any _ B b v bs at_ (h.drew (Drew.drewN W k))).mono fun e w' ⟨q, r⟩ => ⟨q, 0, r⟩
  have hlen := h.2.2.2.2.2
  have c0 := h.c0
  have mixed : Tryd.prog.follows .mixedOrders = true := by kernel_rfl
  rcases rest_of W B b v bs at_ h with ⟨rfl, rfl, rfl⟩ | ⟨g, cap, rfl, hcap, hcm, hle, -⟩
  · have hm : 0 < m := by simpa using hs
    clear h hs
    rw [show (0 + 7) / 8 = 0 from rfl] at HS
    go_enter Tryd.func22, Tryd.ntmps22
    go_wp2_with (go_at_call 37; refine HM.out.mono ?_; rintro e w1 ⟨rfl, rfl⟩)
    go_quiet ((go_at_call 39; exact Calls.quiet_of (HS.out _)))
    go_wp2
    go_ret2
    exact ⟨rfl, Drew.drewN _ _⟩
  · generalize (at_ + 7) / 8 = x at *
    have hgt : ((bs.length - x : Nat) : Int) < (m : Int) := by omega
    clear h hs
    generalize bs.length = n at *
    by_cases hcx : cap = x
    · subst hcx
      go_enter Tryd.func22, Tryd.ntmps22
      go_wp2_with (go_at_call 37; refine HM.out.mono ?_; rintro e w1 ⟨rfl, rfl⟩)
      go_quiet ((go_at_call 39; exact Calls.quiet_of (HS.out _)))
      go_wp2
      go_ret2
      exact ⟨rfl, Drew.drewN _ _⟩
    · go_enter Tryd.func22, Tryd.ntmps22
      go_wp2_with (go_at_call 37; refine HM.out.mono ?_; rintro e w1 ⟨rfl, rfl⟩)
      go_quiet ((go_at_call 39; exact Calls.quiet_of (HS.out _)))
      go_wp2
      go_ret2
      exact ⟨rfl, Drew.drewN _ _⟩

set_option maxRecDepth 100000 in
set_option maxHeartbeats 4000000 in
theorem rraw_ok (W : World) (B b : Nat) (v : Value) (bs : List UInt8) (at_ m : Nat) (h : RB W B b v bs at_) (hs : (at_ + 7) / 8 + m ≤ bs.length) :
    Calls Tryd.prog 22 #[.pointer (some ⟨b, 0, none⟩), .int .i64 m] W fun e w' => ∃ v', e = .returned (.tuple #[v', .int .i64 0]) ∧ w'.ownsRow W.heap.size 5 1 v' m (bVs ((bs.drop ((at_ + 7) / 8)).take m)) ∧ RB w' B b v bs (8 * ((at_ + 7) / 8 + m)) ∧ Only (fun k => k = b) W w' := by
  have HM := Lib.hid (rmade_yes W B b v bs at_ h)
  have HS : Hid (∀ k, Calls Tryd.prog 39 #[.pointer (some ⟨b, 0, none⟩)] (W.drewN k) fun e w' => e = .returned (.int .i64 (((at_ + 7) / 8 : Nat) : Int)) ∧ ∃ m, w' = (W.drewN k).drewN m) := Lib.hid fun k =>
    (begun_any _ B b v bs at_ (h.drew (Drew.drewN W k))).mono fun e w' ⟨q, r⟩ => ⟨q, 0, r⟩
  have HA : Hid (∀ k, Calls Tryd.prog 20 #[.pointer (some ⟨b, 0, none⟩)] (W.drewN k) fun e w' => e = .returned (.tuple #[]) ∧ RB w' B b v bs (8 * ((at_ + 7) / 8)) ∧ Only (fun i => i = b) W w') := Lib.hid fun k =>
    (ralign_any _ B b v bs at_ (h.drew (Drew.drewN W k))).mono fun e w' ⟨q, r1, r2⟩ => ⟨q, r1, (Drew.drewN W k).only.trans r2 (fun i q => .inl q)⟩
  have hlen := h.2.2.2.2.2
  have c0 := h.c0
  have hbk := h.2.2.1
  have mixed : Tryd.prog.follows .mixedOrders = true := by kernel_rfl
  -- what the store and the copy behind Align leave
  have fin : ∀ w1 : World, RB w1 B b v bs (8 * ((at_ + 7) / 8)) → Only (fun i => i = b) W w1 → ∀ (ao : Option Addr) (cap : Nat), Src W (.slice ao m cap) ((bs.drop ((at_ + 7) / 8)).take m) → (∀ a, ao = some a → a.block ≠ b) →
      Calls Tryd.prog 36 #[.slice ao m cap] (w1.setCell ⟨b, 2, none⟩ (.int .i64 (8 * (((at_ + 7) / 8 : Nat) : Int) + 8 * (m : Int)))) fun e w' => ∃ v', e = .returned v' ∧ w'.ownsRow W.heap.size 5 1 v' m (bVs ((bs.drop ((at_ + 7) / 8)).take m)) ∧ RB w' B b v bs (8 * ((at_ + 7) / 8 + m)) ∧ Only (fun k => k = b) W w' := by
    intro w1 r1 r2 ao cap hsr ha
    obtain ⟨q1, q2⟩ := r1.set (Drew.refl w1) (8 * ((at_ + 7) / 8 + m)) (by omega)
    have e : ((8 * ((at_ + 7) / 8 + m) : Nat) : Int) = 8 * (((at_ + 7) / 8 : Nat) : Int) + 8 * (m : Int) := by omega
    rw [e] at q1 q2
    have q3 := r2.trans q2 (fun i q => .inl q)
    refine (clone_any _ ao m cap _ (hsr.only q3 (fun a n c hv => ?_)) (by rw [List.length_take, List.length_drop]; omega) (by omega)).mono ?_
    · cases hv; exact ha a rfl
    · rintro e w' ⟨v', rfl, t1, t2⟩
      exact ⟨v', rfl, ownsRow_mono t1 q3.size, q1.below t2, q3.trans (S' := fun _ => False) (Only.of_below t2) (fun i q => q.elim)⟩
  have HF := Lib.hid fin
  rcases rest_of W B b v bs at_ h with ⟨rfl, rfl, rfl⟩ | ⟨g, cap, rfl, hcap, hcm, hle, hsr⟩
  · obtain rfl : m = 0 := by simpa using hs
    clear h hs fin
    rw [show (0 + 7) / 8 = 0 from rfl] at HS HA HF
    go_enter Tryd.func22, Tryd.ntmps22
    go_wp2_with (go_at_call 37; refine HM.out.mono ?_; rintro e w1 ⟨rfl, rfl⟩)
    go_quiet ((go_at_call 39; exact Calls.quiet_of (HS.out _)))
    go_wp2_with (first
      | (go_at_call 20; refine (HA.out _).mono ?_; rintro e w1 ⟨rfl, r1, r2⟩; have d2 := r1.c2; have df := Lib.frozen_of_heap r1.1 2; have HC := Lib.hid (HF.out w1 r1 r2 none 0 (.inl ⟨rfl, rfl⟩) (fun a e => by cases e)); clear r1 r2)
      | (go_at_call 36; refine HC.out.mono ?_; rintro e w2 ⟨v', rfl, t1, t2, t3⟩; have HT := Lib.hid (And.intro t1 (And.intro t2 t3)); clear t1 t2 t3))
    go_ret2
    exact ⟨v', rfl, HT.out⟩
  · have hgb : g ≠ b := fun e => hbk (by rw [e]; rfl)
    have hx0 : (((at_ + 7) / 8 : Nat) : Int) ≤ 140737488355328 := by omega
    have HSr : Hid (∀ (q : Addr) (c2 : Nat), ((at_ + 7) / 8 < bs.length → q = (⟨g, (at_ + 7) / 8, none⟩ : Addr)) → Src W (.slice (some q) m c2) ((bs.drop ((at_ + 7) / 8)).take m)) := Lib.hid fun q c2 hq => by
      have := src_take (m := m) (hsr q c2 hq) (by rw [List.length_drop]; omega)
      exact this
    generalize hxx : (at_ + 7) / 8 = x at *
    have hgt : ¬ ((bs.length - x : Nat) : Int) < (m : Int) := by omega
    have hmn : m ≤ bs.length - x := by omega
    clear h hs fin hsr hxx
    by_cases hcx : cap = x
    · obtain rfl : m = 0 := by omega
      have hx2 : bs.length = x := by omega
      have HX := Lib.hid hx2
      generalize bs.length = n at *
      subst hcx
      clear hx2
      go_enter Tryd.func22, Tryd.ntmps22
      go_wp2_with (go_at_call 37; refine HM.out.mono ?_; rintro e w1 ⟨rfl, rfl⟩)
      go_quiet ((go_at_call 39; exact Calls.quiet_of (HS.out _)))
      go_wp2_with (first
        | (go_at_call 20; refine (HA.out _).mono ?_; rintro e w1 ⟨rfl, r1, r2⟩; have d2 := r1.c2; have df := Lib.frozen_of_heap r1.1 2; have HC := Lib.hid (fun c => HF.out w1 r1 r2 (some ⟨g, 0, none⟩) c (HSr.out _ _ (fun q => by have := HX.out; omega)) (fun a e => by cases e; exact hgb)); clear r1 r2)
        | (go_at_call 36; refine (HC.out _).mono ?_; rintro e w2 ⟨v', rfl, t1, t2, t3⟩; have HT := Lib.hid (And.intro t1 (And.intro t2 t3)); clear t1 t2 t3))
      go_ret2
      exact ⟨v', rfl, HT.out⟩
    · generalize bs.length = n at *
      go_enter Tryd.func22, Tryd.ntmps22
      go_wp2_with (go_at_call 37; refine HM.out.mono ?_; rintro e w1 ⟨rfl, rfl⟩)
      go_quiet ((go_at_call 39; exact Calls.quiet_of (HS.out _)))
      go_wp2_with (first
        | (go_at_call 20; refine (HA.out _).mono ?_; rintro e w1 ⟨rfl, r1, r2⟩; have d2 := r1.c2; have df := Lib.frozen_of_heap r1.1 2; have HC := Lib.hid (fun c => HF.out w1 r1 r2 (some ⟨g, x, none⟩) c (HSr.out _ _ (fun _ => rfl)) (fun a e => by cases e; exact hgb)); clear r1 r2)
        | (go_at_call 36; refine (HC.out _).mono ?_; rintro e w2 ⟨v', rfl, t1, t2, t3⟩; have HT := Lib.hid (And.intro t1 (And.intro t2 t3)); clear t1 t2 t3))
      go_ret2
      exact ⟨v', rfl, HT.out⟩

set_option maxRecDepth 100000 in
set_option maxHeartbeats 2000000 in
theorem newReader_any (W : World) (B n c : Nat) (ax : Option Addr) (bs : List UInt8) (hx : Src W (.slice ax n c) bs) (hn : bs.length = n) (hl : n ≤ 140737488355328) (hB : B ≤ W.heap.size) :
    Calls Tryd.prog 14 #[.slice ax n c] W fun e w' => ∃ b v, e = .returned (.pointer (some ⟨b, 0, none⟩)) ∧ RB w' B b v bs 0 ∧ W.heap.size ≤ b ∧ (∀ g, v.ownBlock = some g → W.heap.size ≤ g) ∧ Below W.heap.size W w' := by
  subst hn
  have HC := Lib.hid (clone_any W ax _ c bs hx rfl hl)
  clear hx
  go_enter Tryd.func14, Tryd.ntmps14
  go_wp2_with (go_at_call 36; refine HC.out.mono ?_; rintro e w1 ⟨v, rfl, ho1, hb1⟩; obtain ⟨ao1, c1, rfl, -, -, -⟩ := own_shape ho1; have HO1 := Lib.hid ho1; have HB1 := Lib.hid hb1; clear ho1 hb1)
  go_ret
  have hA := (Below.refl w1.heap.size w1).alloc (Nat.le_refl _) (.cells #[.slice ao1 bs.length c1, .pointer (some ⟨w1.heap.size, 0, none⟩), .int .i64 0] 63)
  have hs1 := HB1.out.size
  refine ⟨w1.heap.size, _, rfl, ⟨heap_alloc_new _ _, ownsRow_mono (own_below HO1.out hA) hB, fun e => ?_, by omega, Nat.zero_le _, hl⟩, hs1, fun g hg => (HO1.out.lt g hg).1, HB1.out.trans (hA.mono hs1)⟩
  have := (HO1.out.lt _ e).2
  omega

end Go.Proofs.YtaibehfpbcgijabDoor.Bit
