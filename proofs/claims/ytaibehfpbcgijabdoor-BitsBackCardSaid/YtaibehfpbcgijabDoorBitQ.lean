/- Both readers of bits: a number, whole bytes: what each call answers and leaves. -/
import Derived.Test.YtaibehfpbcgijabDoorBitO
import Derived.Test.YtaibehfpbcgijabDoorBitH
import Derived.Test.YtaibehfpbcgijabDoorBitP
import Derived.Test.YtaibehfpbcgijabDoorBitK
import Derived.Test.YtaibehfpbcgijabDoorBitI
namespace Go.Proofs.YtaibehfpbcgijabDoor.Bit
open Go.RowKit Go.Shelf Go.Proofs.YtaibehfpbcgijabDoor.Mem

theorem knows_at (w : World) (B : Nat) (hm : Masks w B) (hB : B ≤ w.heap.size) : Calls Tryd.prog 9 #[] w fun e w' => e = .returned (.bool true) ∧ Below w.heap.size w w' :=
  knows_any w _ rfl ⟨Nat.lt_of_lt_of_le hm.1 hB, hm.2⟩

/-- P203: a number that is taken: it, the error, how many bits have been taken behind it. -/
def takeR (bs : List UInt8) (at_ : Nat) (x : Int) : Int × Int × Nat :=
  if x < 0 ∨ 32 < x then (0, 1, at_) else if 8 * bs.length < at_ + x.toNat then (0, 20, at_) else ((takeN bs at_ x.toNat : Int), 0, at_ + x.toNat)
/-- P203: whole bytes that are taken. -/
def rawR (bs : List UInt8) (at_ : Nat) (x : Int) : List UInt8 × Int × Nat :=
  if x < 0 then ([], 1, at_) else if bs.length < (at_ + 7) / 8 + x.toNat then ([], 20, at_) else ((bs.drop ((at_ + 7) / 8)).take x.toNat, 0, 8 * ((at_ + 7) / 8 + x.toNat))

theorem take_any (W : World) (B b : Nat) (v : Value) (bs : List UInt8) (at_ : Nat) (x : Int) (h : RB W B b v bs at_) (hmk : Masks W B) :
    Calls Tryd.prog 17 #[.pointer (some ⟨b, 0, none⟩), .int .i64 x] W fun e w' => e = .returned (.tuple #[.int .i64 (takeR bs at_ x).1, .int .i64 (takeR bs at_ x).2.1]) ∧ RB w' B b v bs (takeR bs at_ x).2.2 ∧ Only (fun k => k = b) W w' := by
  unfold takeR
  by_cases h1 : x < 0 ∨ 32 < x
  · rw [if_pos h1]
    refine (take_bad W B b v bs at_ x h h1).mono ?_
    rintro e w' ⟨rfl, rfl⟩
    exact ⟨rfl, h, Only.refl _ _⟩
  · rw [if_neg h1]
    obtain ⟨m, rfl⟩ := Int.eq_ofNat_of_zero_le (show 0 ≤ x by omega)
    rw [Int.toNat_natCast]
    by_cases h2 : 8 * bs.length < at_ + m
    · rw [if_pos h2]
      refine (take_end W B b v bs at_ m h (by omega) h2).mono ?_
      rintro e w' ⟨rfl, hd⟩
      exact ⟨rfl, h.drew hd, hd.only⟩
    · rw [if_neg h2]
      exact take_ok W B b v bs at_ m h hmk (by omega) (by omega)

theorem refTake_any (W : World) (B b : Nat) (v : Value) (bs : List UInt8) (at_ : Nat) (x : Int) (h : RR W B b v bs at_) :
    Calls Tryd.prog 18 #[.pointer (some ⟨b, 0, none⟩), .int .i64 x] W fun e w' => e = .returned (.tuple #[.int .i64 (takeR bs at_ x).1, .int .i64 (takeR bs at_ x).2.1]) ∧ RR w' B b v bs (takeR bs at_ x).2.2 ∧ Only (fun k => k = b) W w' := by
  unfold takeR
  by_cases h1 : x < 0 ∨ 32 < x
  · rw [if_pos h1]
    refine (refTake_bad W b x h1).mono ?_
    rintro e w' ⟨rfl, rfl⟩
    exact ⟨rfl, h, Only.refl _ _⟩
  · rw [if_neg h1]
    obtain ⟨m, rfl⟩ := Int.eq_ofNat_of_zero_le (show 0 ≤ x by omega)
    rw [Int.toNat_natCast]
    by_cases h2 : 8 * bs.length < at_ + m
    · rw [if_pos h2]
      refine (refTake_end W B b v bs at_ m h (by omega) h2).mono ?_
      rintro e w' ⟨rfl, hd⟩
      exact ⟨rfl, h.drew hd, hd.only⟩
    · rw [if_neg h2]
      exact refTake_ok W B b v bs at_ m h (by omega) (by omega)

theorem raw_any (W : World) (B b : Nat) (v : Value) (bs : List UInt8) (at_ : Nat) (x : Int) (h : RB W B b v bs at_) :
    Calls Tryd.prog 22 #[.pointer (some ⟨b, 0, none⟩), .int .i64 x] W fun e w' => ∃ v', e = .returned (.tuple #[v', .int .i64 (rawR bs at_ x).2.1]) ∧ w'.ownsRow W.heap.size 5 1 v' (rawR bs at_ x).1.length (bVs (rawR bs at_ x).1) ∧ RB w' B b v bs (rawR bs at_ x).2.2 ∧ Only (fun k => k = b) W w' := by
  unfold rawR
  by_cases h1 : x < 0
  · rw [if_pos h1]
    refine (rraw_bad W B b v bs at_ x h h1).mono ?_
    rintro e w' ⟨rfl, rfl⟩
    exact ⟨_, rfl, World.ownsRow_nil _ _ _ _, h, Only.refl _ _⟩
  · rw [if_neg h1]
    obtain ⟨m, rfl⟩ := Int.eq_ofNat_of_zero_le (show 0 ≤ x by omega)
    rw [Int.toNat_natCast]
    by_cases h2 : bs.length < (at_ + 7) / 8 + m
    · rw [if_pos h2]
      refine (rraw_end W B b v bs at_ m h h2).mono ?_
      rintro e w' ⟨rfl, hd⟩
      exact ⟨_, rfl, World.ownsRow_nil _ _ _ _, h.drew hd, hd.only⟩
    · rw [if_neg h2]
      refine (rraw_ok W B b v bs at_ m h (by omega)).mono ?_
      rintro e w' ⟨v', rfl, r1, r2, r3⟩
      refine ⟨v', rfl, ?_, r2, r3⟩
      rw [show ((bs.drop ((at_ + 7) / 8)).take m).length = m by rw [List.length_take, List.length_drop]; omega]
      exact r1

theorem refRaw_any (W : World) (B b : Nat) (v : Value) (bs : List UInt8) (at_ : Nat) (x : Int) (h : RR W B b v bs at_) :
    Calls Tryd.prog 23 #[.pointer (some ⟨b, 0, none⟩), .int .i64 x] W fun e w' => ∃ v', e = .returned (.tuple #[v', .int .i64 (rawR bs at_ x).2.1]) ∧ w'.ownsRow W.heap.size 5 1 v' (rawR bs at_ x).1.length (bVs (rawR bs at_ x).1) ∧ RR w' B b v bs (rawR bs at_ x).2.2 ∧ Only (fun k => k = b) W w' := by
  unfold rawR
  by_cases h1 : x < 0
  · rw [if_pos h1]
    refine (refRaw_bad W b x h1).mono ?_
    rintro e w' ⟨rfl, rfl⟩
    exact ⟨_, rfl, World.ownsRow_nil _ _ _ _, h, Only.refl _ _⟩
  · rw [if_neg h1]
    obtain ⟨m, rfl⟩ := Int.eq_ofNat_of_zero_le (show 0 ≤ x by omega)
    rw [Int.toNat_natCast]
    by_cases h2 : bs.length < (at_ + 7) / 8 + m
    · rw [if_pos h2]
      refine (refRaw_end W B b v bs at_ m h h2).mono ?_
      rintro e w' ⟨rfl, rfl⟩
      exact ⟨_, rfl, World.ownsRow_nil _ _ _ _, h, Only.refl _ _⟩
    · rw [if_neg h2]
      refine (refRaw_ok W B b v bs at_ m h (by omega)).mono ?_
      rintro e w' ⟨v', rfl, r1, r2, r3⟩
      refine ⟨v', rfl, ?_, r2, r3⟩
      rw [show ((bs.drop ((at_ + 7) / 8)).take m).length = m by rw [List.length_take, List.length_drop]; omega]
      exact r1

/-- Both readers have taken as many bits of the same bytes; nothing below B has changed. -/
structure Both (W wr : World) (B b c : Nat) (v u : Value) (bs : List UInt8) (at_ : Nat) : Prop where
  q : RB wr B b v bs at_
  r : RR wr B c u bs at_
  bc : b ≠ c
  vc : v.ownBlock ≠ some c
  ub : u.ownBlock ≠ some b
  bel : Below B W wr
  hB : B ≤ wr.heap.size
section
variable {W wr w' : World} {B b c : Nat} {v u : Value} {bs : List UInt8} {at_ x : Nat}
/-- The first reader was called. -/
theorem Both.one (h : Both W wr B b c v u bs at_) (q' : RB w' B b v bs x) (o : Only (fun k => k = b) wr w') : RR w' B c u bs at_ ∧ Below B W w' ∧ B ≤ w'.heap.size :=
  ⟨h.r.only o (fun e => h.bc e.symm) (fun g hg e => h.ub (by rw [hg, e])), h.bel.trans (o.below h.hB (fun k hk => by rw [hk]; exact q'.2.2.2.1)), Nat.le_trans h.hB o.size⟩
/-- The second one was called, too. -/
theorem Both.two {w2 : World} (h : Both W wr B b c v u bs at_) (q' : RB w' B b v bs x) (o : Only (fun k => k = b) wr w') (r' : RR w2 B c u bs x) (o2 : Only (fun k => k = c) w' w2) : Both W w2 B b c v u bs x where
  q := q'.only o2 h.bc (fun g hg e => h.vc (by rw [hg, e]))
  r := r'
  bc := h.bc
  vc := h.vc
  ub := h.ub
  bel := (h.one q' o).2.1.trans (o2.below (h.one q' o).2.2 (fun k hk => by rw [hk]; exact r'.2.2.2.1))
  hB := Nat.le_trans (h.one q' o).2.2 o2.size
theorem Both.drew (h : Both W wr B b c v u bs at_) (d : Drew wr w') : Both W w' B b c v u bs at_ :=
  { h with q := h.q.drew d, r := h.r.drew d, bel := h.bel.trans (d.below B), hB := by rw [d.heap]; exact h.hB }
/-- A row of the call's own is written. -/
theorem Both.at_q {q i : Nat} {y : Value} (h : Both W wr B b c v u bs at_) (hq : B ≤ q) (hb : q ≠ b) (hc : q ≠ c) (hv : v.ownBlock ≠ some q) (hu : u.ownBlock ≠ some q) : Both W (wr.setCell ⟨q, i, none⟩ y) B b c v u bs at_ :=
  { h with
    q := h.q.same (Below.heap_setCell _ _ _ _ (fun e => hb e.symm)) (fun g hg => Below.heap_setCell _ _ _ _ (fun e => hv (by rw [hg, e])))
    r := h.r.same (Below.heap_setCell _ _ _ _ (fun e => hc e.symm)) (fun g hg => Below.heap_setCell _ _ _ _ (fun e => hu (by rw [hg, e])))
    bel := h.bel.setCell (p := ⟨q, i, none⟩) hq _
    hB := by simp [World.setCell]; exact h.hB }
end

end Go.Proofs.YtaibehfpbcgijabDoor.Bit
