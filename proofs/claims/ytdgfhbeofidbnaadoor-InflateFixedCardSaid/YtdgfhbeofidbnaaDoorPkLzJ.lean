/- Package lz: the symbols of lengths and distances. -/
import Derived.Test.YtdgfhbeofidbnaaDoorPkLzB
import Derived.Test.YtdgfhbeofidbnaaDoorPkShelfL
import Derived.Lib.ItoaNum
namespace Go.Proofs.YtdgfhbeofidbnaaDoor.Lz
open Go.RowKit Go.Shelf Go.Lib Go.Proofs.YtdgfhbeofidbnaaDoor.Mem Go.Proofs.YtdgfhbeofidbnaaDoor.Huf

def wN (n e : Nat) : Nat := Lib.bitLen n - Lib.bitLen (2 * e - 1)
def hN (n e : Nat) : Nat := n / 2 ^ wN n e
/-- symbolOf's three numbers. -/
def symN (n e : Nat) : Nat × Nat × Nat := (hN n e + e * wN n e, wN n e, n - hN n e * 2 ^ wN n e)
def bwN (s e : Nat) : Nat := s / e - 1
/-- baseOf's two numbers. -/
def baseN (s e : Nat) : Nat × Nat := ((s - e * bwN s e) * 2 ^ bwN s e, bwN s e)

theorem bitLen_any (x : Nat) (W : World) (h : x ≤ 65535) : Calls Tryd.prog 65 #[.int .u64 (x : Int)] W fun e w' => e = .returned (.int .i64 ((Lib.bitLen x : Nat) : Int)) ∧ W = w' := by
  refine (Any.bits_Len Tryd.laysLen (x : Int) W (by omega) (by omega)).mono ?_
  rintro e w' ⟨rfl, rfl⟩
  exact ⟨by rw [Int.toNat_natCast], rfl⟩
theorem bitLen_16 (x : Nat) (h : x ≤ 65535) : Lib.bitLen x ≤ 16 := by
  rcases Nat.eq_zero_or_pos x with rfl | hp
  · decide
  · have := Lib.bitLenAux_bounds 64 x (by omega) (by omega)
    unfold Lib.bitLen
    rcases Nat.lt_or_ge 16 (Lib.bitLenAux 64 x) with q | q
    · have h2 : 2 ^ 16 ≤ 2 ^ (Lib.bitLenAux 64 x - 1) := Nat.pow_le_pow_right (by decide) (by omega)
      omega
    · exact q

set_option maxRecDepth 100000 in
set_option maxHeartbeats 4000000 in
theorem symbolOf_any (W : World) (n e : Nat) (hn : n ≤ 32767) (he : e = 4 ∨ e = 2) :
    Calls Tryd.prog 43 #[.int .i64 (n : Int), .int .i64 (e : Int)] W fun r w' => r = .returned (.tuple #[.int .i64 ((symN n e).1 : Nat), .int .i64 ((symN n e).2.1 : Nat), .int .i64 ((symN n e).2.2 : Nat)]) ∧ Drew W w' := by
  obtain ⟨m, hm⟩ : ∃ m, m = 2 * e - 1 := ⟨_, rfl⟩
  have HL := fun w => Lib.hid (bitLen_any n w (by omega))
  have HM := fun w => Lib.hid (bitLen_any m w (by omega))
  have hb := bitLen_16 n (by omega)
  have hb2 := bitLen_16 m (by omega)
  obtain ⟨w, hw⟩ : ∃ w, w = wN n e := ⟨_, rfl⟩
  obtain ⟨h, hh⟩ : ∃ h, h = hN n e := ⟨_, rfl⟩
  have hhw : h = n / 2 ^ w := by rw [hh, hw]; rfl
  have hww : w = Lib.bitLen n - Lib.bitLen m := by rw [hw, hm]; rfl
  have HS : Aside (symN n e = (h + e * w, w, n - h * 2 ^ w)) := by
    show symN n e = _
    unfold symN; rw [← hh, ← hw]
  generalize Lib.bitLen n = bn at *
  generalize Lib.bitLen m = bm at *
  have hw16 : w ≤ 16 := by omega
  have hle : h ≤ n := by rw [hhw]; exact Nat.div_le_self _ _
  have hmul : h * 2 ^ w ≤ n := by rw [hhw]; exact Nat.div_mul_le_self _ _
  obtain ⟨s, hs⟩ : ∃ s, s = h * 2 ^ w := ⟨_, rfl⟩
  rw [← hs] at hmul HS
  have hew : e * w ≤ 64 := by rcases he with rfl | rfl <;> omega
  obtain ⟨t, ht⟩ : ∃ t, t = e * w := ⟨_, rfl⟩
  rw [← ht] at hew HS
  have z1 : IntKind.u64.wrap (n : Int) = (n : Int) := by rw [IntKind.wrap_u64]; omega
  have z2 : IntKind.i64.wrap (2 * (e : Int)) = 2 * (e : Int) := by rw [IntKind.wrap_i64]; omega
  have z3 : IntKind.i64.wrap (2 * (e : Int) - 1) = (m : Int) := by rw [IntKind.wrap_i64]; omega
  have z4 : IntKind.u64.wrap (m : Int) = (m : Int) := by rw [IntKind.wrap_u64]; omega
  have z5 : IntKind.i64.wrap ((bn : Int) - (bm : Int)) = (bn : Int) - (bm : Int) := by rw [IntKind.wrap_i64]; omega
  have z6 : max (0 : Int) ((bn : Int) - (bm : Int)) = (w : Int) := by omega
  have z7 : (n : Int) / 2 ^ w = (h : Int) := by rw [hhw, Int.natCast_ediv, Int.natCast_pow]; rfl
  have z8 : (h : Int) * 2 ^ w = (s : Int) := by rw [hs, Int.natCast_mul, Int.natCast_pow]; rfl
  have z9 : (e : Int) * (w : Int) = (t : Int) := by rw [ht, Int.natCast_mul]
  have y1 : IntKind.i64.wrap (h : Int) = (h : Int) := by rw [IntKind.wrap_i64]; omega
  have y2 : IntKind.i64.wrap (s : Int) = (s : Int) := by rw [IntKind.wrap_i64]; omega
  have y3 : IntKind.i64.wrap (t : Int) = (t : Int) := by rw [IntKind.wrap_i64]; omega
  have y4 : IntKind.i64.wrap ((h : Int) + (t : Int)) = ((h + t : Nat) : Int) := by rw [IntKind.wrap_i64]; omega
  have y5 : IntKind.i64.wrap ((n : Int) - (s : Int)) = ((n - s : Nat) : Int) := by rw [IntKind.wrap_i64]; omega
  have w0 : (0 : Int) ≤ (w : Int) := by omega
  have zm : min w 64 = w := by omega
  clear hm hw hh hhw hww hs ht hb hb2 hw16
  go_enter Tryd.func43, Tryd.ntmps43
  go_wp2_with (first
    | (go_at_call 65; with_reducible refine (HL _).out.mono ?_; rintro r w1 ⟨rfl, rfl⟩)
    | (go_at_call 65; with_reducible refine (HM _).out.mono ?_; rintro r w2 ⟨rfl, rfl⟩))
  go_quiet (fail)
  go_wp2_with fail
  go_ret3
  refine ⟨?_, Drew.drewN _ _⟩
  rw [HS.out]
  rfl

set_option maxRecDepth 100000 in
set_option maxHeartbeats 4000000 in
theorem baseOf_any (W : World) (s e : Nat) (hs : s ≤ 29) (he : e = 4 ∨ e = 2) :
    Calls Tryd.prog 149 #[.int .i64 (s : Int), .int .i64 (e : Int)] W fun r w' => r = .returned (.tuple #[.int .i64 ((baseN s e).1 : Nat), .int .i64 ((baseN s e).2 : Nat)]) ∧ Drew W w' := by
  obtain ⟨w, hw⟩ : ∃ w, w = bwN s e := ⟨_, rfl⟩
  obtain ⟨q, hq⟩ : ∃ q, q = s / e := ⟨_, rfl⟩
  have hwq : w = q - 1 := by rw [hw, hq]; rfl
  have hq14 : q ≤ 14 := by rw [hq]; rcases he with rfl | rfl <;> omega
  have hew : e * w ≤ s := by rw [hwq, hq]; rcases he with rfl | rfl <;> omega
  obtain ⟨t, ht⟩ : ∃ t, t = e * w := ⟨_, rfl⟩
  obtain ⟨d, hd⟩ : ∃ d, d = s - e * w := ⟨_, rfl⟩
  obtain ⟨b, hb⟩ : ∃ b, b = d * 2 ^ w := ⟨_, rfl⟩
  have HS : Aside (baseN s e = (b, w)) := by
    show baseN s e = _
    unfold baseN; rw [← hw, ← hd, ← hb]
  have hbl : b ≤ 32768 * 32 := by
    have h1 : 2 ^ w ≤ 2 ^ 13 := Nat.pow_le_pow_right (by decide) (by omega)
    have h2 : d * 2 ^ w ≤ 29 * 2 ^ 13 := Nat.mul_le_mul (by omega) h1
    omega
  have z1 : Int.tdiv (s : Int) (e : Int) = (q : Int) := by rw [hq]; exact (Int.ofNat_tdiv s e).symm
  have z2 : IntKind.i64.wrap (q : Int) = (q : Int) := by rw [IntKind.wrap_i64]; omega
  have z3 : IntKind.i64.wrap ((q : Int) - 1) = (q : Int) - 1 := by rw [IntKind.wrap_i64]; omega
  have z4 : max (0 : Int) ((q : Int) - 1) = (w : Int) := by omega
  have z5 : (e : Int) * (w : Int) = (t : Int) := by rw [ht, Int.natCast_mul]
  have z6 : IntKind.i64.wrap (t : Int) = (t : Int) := by rw [IntKind.wrap_i64]; omega
  have z7 : IntKind.i64.wrap ((s : Int) - (t : Int)) = (d : Int) := by rw [IntKind.wrap_i64]; omega
  have z8 : (d : Int) * 2 ^ w = (b : Int) := by rw [hb, Int.natCast_mul, Int.natCast_pow]; rfl
  have z9 : IntKind.i64.wrap (b : Int) = (b : Int) := by rw [IntKind.wrap_i64]; omega
  have w0 : (0 : Int) ≤ (w : Int) := by omega
  have e0 : ¬ (e : Int) = 0 := by omega
  have zm : min w 64 = w := by omega
  clear hw hq hwq hq14 hew ht hd hb hbl
  go_enter Tryd.func149, Tryd.ntmps149
  go_wp2_with fail
  go_ret2
  refine ⟨?_, Drew.refl _⟩
  rw [HS.out]
  rfl
end Go.Proofs.YtdgfhbeofidbnaaDoor.Lz
