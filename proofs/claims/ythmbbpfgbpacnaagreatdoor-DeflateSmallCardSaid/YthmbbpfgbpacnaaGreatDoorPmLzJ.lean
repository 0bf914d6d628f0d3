/- Package lz: the symbols of lengths and distances. The symbols of lengths and distances, in numbers. What Length, Distance, BaseLength and BaseDistance answer: package lz. -/
import Derived.Test.YthmbbpfgbpacnaaGreatDoorPmLzA
import Derived.Lib.ItoaNum
namespace Go.Proofs.YthmbbpfgbpacnaaGreatDoor.Lz
open Go.RowKit Go.Shelf Go.Lib Mem Huf
def wN (n e : Nat) : Nat := Lib.bitLen n - Lib.bitLen (2 * e - 1)
def hN (n e : Nat) : Nat := n / 2 ^ wN n e
def symN (n e : Nat) : Nat × Nat × Nat := (hN n e + e * wN n e, wN n e, n - hN n e * 2 ^ wN n e)
def bwN (s e : Nat) : Nat := s / e - 1
def baseN (s e : Nat) : Nat × Nat := ((s - e * bwN s e) * 2 ^ bwN s e, bwN s e)
theorem bitLen_any (x : Nat) (W : World) (h : x <= 65535) : Calls Tryz.prog 159 #[.int .u64 (x : Int)] W fun e w' => e = .returned (.int .i64 ((Lib.bitLen x : Nat) : Int)) /\ W = w' := by
 refine (Any.bits_Len Tryz.laysLen (x : Int) W (by omega) (by omega)).mono ?_
 rintro e w' ⟨rfl, rfl⟩
 exact ⟨by rw [Int.toNat_natCast], rfl⟩
theorem bitLen_16 (x : Nat) (h : x <= 65535) : Lib.bitLen x <= 16 := by
 rcases Nat.eq_zero_or_pos x with rfl | hp
 ·decide
 ·have := Lib.bitLenAux_bounds 64 x (by omega) (by omega)
  unfold Lib.bitLen
  rcases Nat.lt_or_ge 16 (Lib.bitLenAux 64 x) with q | q
  ·have h2 : 2 ^ 16 <= 2 ^ (Lib.bitLenAux 64 x - 1) := Nat.pow_le_pow_right (by decide) (by omega)
   omega
  ·exact q
set_option maxRecDepth 100000 in
set_option maxHeartbeats 4000000 in
theorem symbolOf_any (W : World) (n e : Nat) (hn : n <= 32767) (he : e = 4 \/ e = 2) :
  Calls Tryz.prog 151 #[.int .i64 (n : Int), .int .i64 (e : Int)] W fun r w' => r = .returned (.tuple #[.int .i64 ((symN n e).1 : Nat), .int .i64 ((symN n e).2.1 : Nat), .int .i64 ((symN n e).2.2 : Nat)]) /\ Drew W w' := by
 obtain ⟨m, hm⟩ : ∃ m, m = 2 * e - 1 := ⟨_, rfl⟩
 have HL := fun w => Lib.hid (bitLen_any n w (by omega))
 have HM := fun w => Lib.hid (bitLen_any m w (by omega))
 have hb := bitLen_16 n (by omega)
 have hb2 := bitLen_16 m (by omega)
 obtain ⟨w, hw⟩ : ∃ w, w = wN n e := ⟨_, rfl⟩
 obtain ⟨h, hh⟩ : ∃ h, h = hN n e := ⟨_, rfl⟩
 have hhw : h = n / 2 ^ w := by rw [hh, hw]; rfl
 have hww : w = Lib.bitLen n - Lib.bitLen m := by rw [hw, hm]; rfl
 have HS : Aside (symN n e = (h + e * w, w, n - h * 2 ^ w)) := by
  show symN n e = _
  unfold symN; rw [<- hh, <- hw]
 generalize Lib.bitLen n = bn at *
 generalize Lib.bitLen m = bm at *
 have hw16 : w <= 16 := by omega
 have hle : h <= n := by rw [hhw]; exact Nat.div_le_self _ _
 have hmul : h * 2 ^ w <= n := by rw [hhw]; exact Nat.div_mul_le_self _ _
 obtain ⟨s, hs⟩ : ∃ s, s = h * 2 ^ w := ⟨_, rfl⟩
 rw [<- hs] at hmul HS
 have hew : e * w <= 64 := by rcases he with rfl | rfl <;> omega
 obtain ⟨t, ht⟩ : ∃ t, t = e * w := ⟨_, rfl⟩
 rw [<- ht] at hew HS
 have z1 : IntKind.u64.wrap (n : Int) = (n : Int) := by rw [IntKind.wrap_u64]; omega
 have z2 : IntKind.i64.wrap (2 * (e : Int)) = 2 * (e : Int) := by rw [IntKind.wrap_i64]; omega
 have z3 : IntKind.i64.wrap (2 * (e : Int) - 1) = (m : Int) := by rw [IntKind.wrap_i64]; omega
 have z4 : IntKind.u64.wrap (m : Int) = (m : Int) := by rw [IntKind.wrap_u64]; omega
 have z5 : IntKind.i64.wrap ((bn : Int) - (bm : Int)) = (bn : Int) - (bm : Int) := by rw [IntKind.wrap_i64]; omega
 have z6 : max (0 : Int) ((bn : Int) - (bm : Int)) = (w : Int) := by omega
 have z7 : (n : Int) / 2 ^ w = (h : Int) := by rw [hhw, Int.natCast_ediv, Int.natCast_pow]; rfl
 have z8 : (h : Int) * 2 ^ w = (s : Int) := by rw [hs, Int.natCast_mul, Int.natCast_pow]; rfl
 have z9 : (e : Int) * (w : Int) = (t : Int) := by rw [ht, Int.natCast_mul]
 have y1 : IntKind.i64.wrap (h : Int) = (h : Int) := by rw [IntKind.wrap_i64]; omega
 have y2 : IntKind.i64.wrap (s : Int) = (s : Int) := by rw [IntKind.wrap_i64]; omega
 have y3 : IntKind.i64.wrap (t : Int) = (t : Int) := by rw [IntKind.wrap_i64]; omega
 have y4 : IntKind.i64.wrap ((h : Int) + (t : Int)) = ((h + t : Nat) : Int) := by rw [IntKind.wrap_i64]; omega
 have y5 : IntKind.i64.wrap ((n : Int) - (s : Int)) = ((n - s : Nat) : Int) := by rw [IntKind.wrap_i64]; omega
 have w0 : (0 : Int) <= (w : Int) := by omega
 have zm : min w 64 = w := by omega
 clear hm hw hh hhw hww hs ht hb hb2 hw16
 go_enter Tryz.func151, Tryz.ntmps151
 go_wp2_with (first
  | (go_at_call 159; with_reducible refine (HL _).out.mono ?_; rintro r w1 ⟨rfl, rfl⟩)
  | (go_at_call 159; with_reducible refine (HM _).out.mono ?_; rintro r w2 ⟨rfl, rfl⟩))
 go_quiet (fail)
 go_wp2_with fail
 go_ret3
 refine ⟨?_, Drew.drewN _ _⟩
 rw [HS.out]
 rfl
set_option maxRecDepth 100000 in
set_option maxHeartbeats 4000000 in
theorem baseOf_any (W : World) (s e : Nat) (hs : s <= 29) (he : e = 4 \/ e = 2) :
  Calls Tryz.prog 145 #[.int .i64 (s : Int), .int .i64 (e : Int)] W fun r w' => r = .returned (.tuple #[.int .i64 ((baseN s e).1 : Nat), .int .i64 ((baseN s e).2 : Nat)]) /\ Drew W w' := by
 obtain ⟨w, hw⟩ : ∃ w, w = bwN s e := ⟨_, rfl⟩
 obtain ⟨q, hq⟩ : ∃ q, q = s / e := ⟨_, rfl⟩
 have hwq : w = q - 1 := by rw [hw, hq]; rfl
 have hq14 : q <= 14 := by rw [hq]; rcases he with rfl | rfl <;> omega
 have hew : e * w <= s := by rw [hwq, hq]; rcases he with rfl | rfl <;> omega
 obtain ⟨t, ht⟩ : ∃ t, t = e * w := ⟨_, rfl⟩
 obtain ⟨d, hd⟩ : ∃ d, d = s - e * w := ⟨_, rfl⟩
 obtain ⟨b, hb⟩ : ∃ b, b = d * 2 ^ w := ⟨_, rfl⟩
 have HS : Aside (baseN s e = (b, w)) := by
  show baseN s e = _
  unfold baseN; rw [<- hw, <- hd, <- hb]
 have hbl : b <= 32768 * 32 := by
  have h1 : 2 ^ w <= 2 ^ 13 := Nat.pow_le_pow_right (by decide) (by omega)
  have h2 : d * 2 ^ w <= 29 * 2 ^ 13 := Nat.mul_le_mul (by omega) h1
  omega
 have z1 : Int.tdiv (s : Int) (e : Int) = (q : Int) := by rw [hq]; exact (Int.ofNat_tdiv s e).symm
 have z2 : IntKind.i64.wrap (q : Int) = (q : Int) := by rw [IntKind.wrap_i64]; omega
 have z3 : IntKind.i64.wrap ((q : Int) - 1) = (q : Int) - 1 := by rw [IntKind.wrap_i64]; omega
 have z4 : max (0 : Int) ((q : Int) - 1) = (w : Int) := by omega
 have z5 : (e : Int) * (w : Int) = (t : Int) := by rw [ht, Int.natCast_mul]
 have z6 : IntKind.i64.wrap (t : Int) = (t : Int) := by rw [IntKind.wrap_i64]; omega
 have z7 : IntKind.i64.wrap ((s : Int) - (t : Int)) = (d : Int) := by rw [IntKind.wrap_i64]; omega
 have z8 : (d : Int) * 2 ^ w = (b : Int) := by rw [hb, Int.natCast_mul, Int.natCast_pow]; rfl
 have z9 : IntKind.i64.wrap (b : Int) = (b : Int) := by rw [IntKind.wrap_i64]; omega
 have w0 : (0 : Int) <= (w : Int) := by omega
 have e0 : ¬ (e : Int) = 0 := by omega
 have zm : min w 64 = w := by omega
 clear hw hq hwq hq14 hew ht hd hb hbl
 go_enter Tryz.func145, Tryz.ntmps145
 go_wp2_with fail
 go_ret2
 refine ⟨?_, Drew.refl _⟩
 rw [HS.out]
 rfl
end Go.Proofs.YthmbbpfgbpacnaaGreatDoor.Lz
namespace Go.Proofs.YthmbbpfgbpacnaaGreatDoor.Lz
open Go.Lib
theorem wN_spec (k e n : Nat) (hk : e = 2 ^ k) (hk1 : 1 <= k) (hel : e <= 65535) (hn : n <= 65535) :
  bwN (symN n e).1 e = (symN n e).2.1 /\ (symN n e).2.2 < 2 ^ (symN n e).2.1 /\ (baseN (symN n e).1 e).1 + (symN n e).2.2 = n /\ n < (baseN ((symN n e).1 + 1) e).1 := by
 have he : 0 < e := by rw [hk]; exact Nat.pow_pos (by decide)
 have he2 : 2 <= e := by
  rw [hk]
  calc 2 = 2 ^ 1 := rfl
   _ <= 2 ^ k := Nat.pow_le_pow_right (by decide) hk1
 have hbe : Lib.bitLen (2 * e - 1) = k + 1 \/ 65535 < e := by
  rcases Nat.lt_or_ge 65535 e with h | h
  ·exact .inr h
  ·have := Lib.bitLenAux_bounds 64 (2 * e - 1) (by omega) (by omega)
   obtain ⟨h1, h2, h3⟩ := this
   refine .inl ?_
   change Lib.bitLenAux 64 (2 * e - 1) = k + 1
   generalize Lib.bitLenAux 64 (2 * e - 1) = L at *
   have p1 : 2 * e = 2 ^ (k + 1) := by rw [hk, Nat.pow_succ]; omega
   rcases Nat.lt_trichotomy L (k + 1) with q | q | q
   ·have : 2 ^ L <= 2 ^ k := Nat.pow_le_pow_right (by decide) (by omega)
    omega
   ·exact q
   ·have : 2 ^ (k + 1) <= 2 ^ (L - 1) := Nat.pow_le_pow_right (by decide) (by omega)
    omega
 obtain ⟨w, hw⟩ : ∃ w, w = wN n e := ⟨_, rfl⟩
 obtain ⟨h, hh⟩ : ∃ h, h = n / 2 ^ w := ⟨_, rfl⟩
 have hsym : symN n e = (h + e * w, w, n - h * 2 ^ w) := by unfold symN hN; rw [<- hw, <- hh]
 -- either no extra bits, or the highest bits
 have hcase : (w = 0 /\ n < 2 * e) \/ (0 < w /\ e <= h /\ h < 2 * e) := by
  rcases Nat.lt_or_ge n (2 * e) with hlt | hge
  ·left
   refine ⟨?_, hlt⟩
   rw [hw]
   unfold wN
   rcases Nat.eq_zero_or_pos n with rfl | hp
   ·have : Lib.bitLen 0 = 0 := by decide
    omega
   ·rcases hbe with hb | hb
    ·have := Lib.bitLenAux_bounds 64 n (by omega) (by omega)
     obtain ⟨h1, h2, h3⟩ := this
     change 1 <= Lib.bitLen n at h1
     change 2 ^ (Lib.bitLen n - 1) <= n at h2
     have p1 : 2 * e = 2 ^ (k + 1) := by rw [hk, Nat.pow_succ]; omega
     rcases Nat.lt_or_ge (k + 1) (Lib.bitLen n) with q | q
     ·have : 2 ^ (k + 1) <= 2 ^ (Lib.bitLen n - 1) := Nat.pow_le_pow_right (by decide) (by omega)
      omega
     ·omega
    ·omega
  ·right
   have hb := hbe.resolve_right (by omega)
   have := Lib.bitLenAux_bounds 64 n (by omega) (by omega)
   obtain ⟨h1, h2, h3⟩ := this
   change 1 <= Lib.bitLen n at h1
   change 2 ^ (Lib.bitLen n - 1) <= n at h2
   change n < 2 ^ Lib.bitLen n at h3
   have p1 : 2 * e = 2 ^ (k + 1) := by rw [hk, Nat.pow_succ]; omega
   have hL : k + 1 < Lib.bitLen n := by
    rcases Nat.lt_or_ge (k + 1) (Lib.bitLen n) with q | q
    ·exact q
    ·have : 2 ^ Lib.bitLen n <= 2 ^ (k + 1) := Nat.pow_le_pow_right (by decide) q
     omega
   have hwL : w = Lib.bitLen n - (k + 1) := by rw [hw]; unfold wN; rw [hb]
   have q1 : Lib.bitLen n - 1 = k + w := by omega
   have q2 : Lib.bitLen n = (k + 1) + w := by omega
   rw [q1, Nat.pow_add, <- hk] at h2
   rw [q2, Nat.pow_add, <- p1] at h3
   have hpos : 0 < 2 ^ w := Nat.pow_pos (by decide)
   refine ⟨by omega, ?_, ?_⟩
   ·rw [hh]; exact (Nat.le_div_iff_mul_le hpos).2 h2
   ·rw [hh]; exact (Nat.div_lt_iff_lt_mul hpos).2 h3
 have hpos : 0 < 2 ^ w := Nat.pow_pos (by decide)
 have hdm : h * 2 ^ w + n % 2 ^ w = n := by rw [hh]; exact Nat.div_add_mod' n (2 ^ w)
 have hml : n % 2 ^ w < 2 ^ w := Nat.mod_lt _ hpos
 have hx : n - h * 2 ^ w = n % 2 ^ w := by omega
 have hdiv : (h + e * w) / e = h / e + w := Nat.add_mul_div_left h w he
 have hdiv1 : (h + e * w + 1) / e = (h + 1) / e + w := by rw [show h + e * w + 1 = (h + 1) + e * w by omega]; exact Nat.add_mul_div_left (h + 1) w he
 rw [hsym]
 simp only
 rw [hx]
 rcases hcase with ⟨rfl, hlt⟩ | ⟨hw0, hge, hlt⟩
 ·have hn' : h = n := by rw [hh, Nat.pow_zero, Nat.div_one]
  have hq : h / e < 2 := (Nat.div_lt_iff_lt_mul he).2 (by omega)
  have hbw : bwN (h + e * 0) e = 0 := by unfold bwN; rw [hdiv]; omega
  refine ⟨hbw, hml, ?_, ?_⟩
  ·unfold baseN
   rw [hbw]
   simp only [Nat.mul_zero, Nat.add_zero, Nat.sub_zero, Nat.pow_zero, Nat.mul_one]
   simp only [Nat.pow_zero, Nat.mul_one] at hdm
   omega
  ·rcases Nat.lt_or_ge (h + 1) (2 * e) with q | q
   ·have hbw1 : bwN (h + e * 0 + 1) e = 0 := by
     unfold bwN; rw [hdiv1]
     have : (h + 1) / e < 2 := (Nat.div_lt_iff_lt_mul he).2 (by omega)
     omega
    unfold baseN
    rw [hbw1]
    simp only [Nat.mul_zero, Nat.add_zero, Nat.sub_zero, Nat.pow_zero, Nat.mul_one]
    omega
   ·have he1 : h + 1 = e * 2 := by omega
    have hbw1 : bwN (h + e * 0 + 1) e = 1 := by
     unfold bwN; rw [hdiv1, he1, Nat.mul_div_cancel_left _ he]
    unfold baseN
    rw [hbw1]
    simp only [Nat.mul_zero, Nat.add_zero, Nat.mul_one, Nat.pow_one]
    omega
 ·have hq : h / e = 1 := by
   have h1 : 1 <= h / e := (Nat.le_div_iff_mul_le he).2 (by omega)
   have h2 : h / e < 2 := (Nat.div_lt_iff_lt_mul he).2 (by omega)
   omega
  have hbw : bwN (h + e * w) e = w := by unfold bwN; rw [hdiv, hq]; omega
  refine ⟨hbw, hml, ?_, ?_⟩
  ·unfold baseN
   rw [hbw]
   simp only [Nat.add_sub_cancel]
   exact hdm
  ·rcases Nat.lt_or_ge (h + 1) (2 * e) with q | q
   ·have hbw1 : bwN (h + e * w + 1) e = w := by
     unfold bwN; rw [hdiv1]
     have h1 : 1 <= (h + 1) / e := (Nat.le_div_iff_mul_le he).2 (by omega)
     have h2 : (h + 1) / e < 2 := (Nat.div_lt_iff_lt_mul he).2 (by omega)
     omega
    unfold baseN
    rw [hbw1]
    simp only
    rw [show h + e * w + 1 - e * w = h + 1 by omega, Nat.add_mul, Nat.one_mul]
    omega
   ·have he1 : h + 1 = e * 2 := by omega
    have hbw1 : bwN (h + e * w + 1) e = w + 1 := by
     unfold bwN; rw [hdiv1, he1, Nat.mul_div_cancel_left _ he]; omega
    unfold baseN
    rw [hbw1]
    simp only
    rw [show h + e * w + 1 - e * (w + 1) = e by rw [Nat.mul_add]; omega, Nat.pow_succ, <- Nat.mul_assoc, Nat.mul_right_comm]
    rw [show e * 2 = h + 1 by omega, Nat.add_mul, Nat.one_mul]
    omega
theorem base_mono4 : ∀ s, s < 100 -> (baseN s 4).1 < (baseN (s + 1) 4).1 := by decide +kernel
theorem base_mono2 : ∀ s, s < 100 -> (baseN s 2).1 < (baseN (s + 1) 2).1 := by decide +kernel
end Go.Proofs.YthmbbpfgbpacnaaGreatDoor.Lz
namespace Go.Proofs.YthmbbpfgbpacnaaGreatDoor.Lz
open Go.RowKit Go.Shelf Go.Lib Mem Huf
def lenS (n : Int) : Int × Int × Int := if n < 3 \/ n > 258 then (-1, 0, 0) else if n = 258 then (285, 0, 0) else (257 + (symN (n - 3).toNat 4).1, (symN (n - 3).toNat 4).2.1, (symN (n - 3).toNat 4).2.2)
def distS (n : Int) : Int × Int × Int := if n < 1 \/ n > 32768 then (-1, 0, 0) else ((symN (n - 1).toNat 2).1, (symN (n - 1).toNat 2).2.1, (symN (n - 1).toNat 2).2.2)
def lenB (s : Int) : Int × Int := if s < 257 \/ s > 285 then (0, 0) else if s = 285 then (258, 0) else (3 + (baseN (s - 257).toNat 4).1, (baseN (s - 257).toNat 4).2)
def distB (s : Int) : Int × Int := if s < 0 \/ s > 29 then (0, 0) else (1 + (baseN s.toNat 2).1, (baseN s.toNat 2).2)
theorem spec4 (n : Nat) (hn : n <= 65535) : bwN (symN n 4).1 4 = (symN n 4).2.1 /\ (symN n 4).2.2 < 2 ^ (symN n 4).2.1 /\ (baseN (symN n 4).1 4).1 + (symN n 4).2.2 = n /\ n < (baseN ((symN n 4).1 + 1) 4).1 := wN_spec 2 4 n rfl (by decide) (by decide) hn
theorem spec2 (n : Nat) (hn : n <= 65535) : bwN (symN n 2).1 2 = (symN n 2).2.1 /\ (symN n 2).2.2 < 2 ^ (symN n 2).2.1 /\ (baseN (symN n 2).1 2).1 + (symN n 2).2.2 = n /\ n < (baseN ((symN n 2).1 + 1) 2).1 := wN_spec 1 2 n rfl (by decide) (by decide) hn
theorem base_lt4 {s t : Nat} (h : s < t) (ht : t <= 100) : (baseN s 4).1 < (baseN t 4).1 := by
 induction t with
 | zero => omega
 | succ t ih =>
  have := base_mono4 t (by omega)
  rcases Nat.lt_or_ge s t with q | q
  ·have := ih q (by omega); omega
  ·obtain rfl : s = t := by omega
   exact this
theorem base_lt2 {s t : Nat} (h : s < t) (ht : t <= 100) : (baseN s 2).1 < (baseN t 2).1 := by
 induction t with
 | zero => omega
 | succ t ih =>
  have := base_mono2 t (by omega)
  rcases Nat.lt_or_ge s t with q | q
  ·have := ih q (by omega); omega
  ·obtain rfl : s = t := by omega
   exact this
theorem sym_small4 (n : Nat) (hn : n <= 65535) : (symN n 4).1 <= 90 := by
 have h := bitLen_16 n hn
 obtain ⟨h1, h2, h3, h4⟩ := spec4 n hn
 rcases Nat.lt_or_ge 90 (symN n 4).1 with q | q
 ·have : 21 <= bwN (symN n 4).1 4 - 0 := by unfold bwN; omega
  rw [h1] at this
  have hw : (symN n 4).2.1 = wN n 4 := rfl
  unfold wN at hw
  omega
 ·exact q
theorem sym_small2 (n : Nat) (hn : n <= 65535) : (symN n 2).1 <= 90 := by
 have h := bitLen_16 n hn
 obtain ⟨h1, h2, h3, h4⟩ := spec2 n hn
 rcases Nat.lt_or_ge 90 (symN n 2).1 with q | q
 ·have : 21 <= bwN (symN n 2).1 2 - 0 := by unfold bwN; omega
  rw [h1] at this
  have hw : (symN n 2).2.1 = wN n 2 := rfl
  unfold wN at hw
  omega
 ·exact q
theorem sym_le4 {n s : Nat} (hn : n <= 65535) (h : n < (baseN (s + 1) 4).1) : (symN n 4).1 <= s := by
 obtain ⟨g1, g2, g3, g4⟩ := spec4 n hn
 have hb := sym_small4 n hn
 rcases Nat.lt_or_ge s (symN n 4).1 with q | q
 ·rcases Nat.lt_or_ge (s + 1) (symN n 4).1 with r | r
  ·have := base_lt4 r (by omega); omega
  ·have e : s + 1 = (symN n 4).1 := by omega
   rw [e] at h; omega
 ·exact q
theorem sym_le2 {n s : Nat} (hn : n <= 65535) (h : n < (baseN (s + 1) 2).1) : (symN n 2).1 <= s := by
 obtain ⟨g1, g2, g3, g4⟩ := spec2 n hn
 have hb := sym_small2 n hn
 rcases Nat.lt_or_ge s (symN n 2).1 with q | q
 ·rcases Nat.lt_or_ge (s + 1) (symN n 2).1 with r | r
  ·have := base_lt2 r (by omega); omega
  ·have e : s + 1 = (symN n 2).1 := by omega
   rw [e] at h; omega
 ·exact q
theorem base28 : (baseN 28 4).1 = 256 := by decide +kernel
theorem base30 : (baseN 30 2).1 = 32768 := by decide +kernel
theorem sym27 (n : Nat) (hn : n <= 255) : (symN n 4).1 <= 27 := sym_le4 (by omega) (by rw [base28]; omega)
theorem sym29 (n : Nat) (hn : n <= 32767) : (symN n 2).1 <= 29 := sym_le2 (by omega) (by rw [base30]; omega)
set_option maxRecDepth 100000 in
set_option maxHeartbeats 4000000 in
theorem length_any (W : World) (n : Int) : Calls Tryz.prog 133 #[.int .i64 n] W fun e w' => e = .returned (.tuple #[.int .i64 (lenS n).1, .int .i64 (lenS n).2.1, .int .i64 (lenS n).2.2]) /\ Drew W w' := by
 by_cases h1 : n < 3
 ·have e : lenS n = (-1, 0, 0) := if_pos (.inl h1)
  rw [e]
  go_enter Tryz.func133, Tryz.ntmps133
  go_wp2_with fail
  go_ret3
  exact ⟨rfl, Drew.refl _⟩
 ·by_cases h2 : n > 258
  ·have e : lenS n = (-1, 0, 0) := if_pos (.inr h2)
   rw [e]
   go_enter Tryz.func133, Tryz.ntmps133
   go_wp2_with fail
   go_ret3
   exact ⟨rfl, Drew.refl _⟩
  ·by_cases h3 : n = 258
   ·subst h3
    go_enter Tryz.func133, Tryz.ntmps133
    go_wp2_with fail
    go_ret3
    exact ⟨rfl, Drew.refl _⟩
   ·obtain ⟨m, rfl⟩ : ∃ m : Nat, n = (m : Int) + 3 := ⟨(n - 3).toNat, by omega⟩
    have e : lenS ((m : Int) + 3) = (257 + ((symN m 4).1 : Int), ((symN m 4).2.1 : Int), ((symN m 4).2.2 : Int)) := by
     unfold lenS
     rw [if_neg (by omega), if_neg h3, show ((m : Int) + 3 - 3).toNat = m by omega]
    rw [e]
    have HS := fun w => Lib.hid (symbolOf_any w m 4 (by omega) (.inl rfl))
    have hs27 := sym27 m (by omega)
    generalize symN m 4 = t at *
    obtain ⟨a, b, c⟩ := t
    simp only at hs27 HS ⊢
    have z : IntKind.i64.wrap ((m : Int) + 3 - 3) = (m : Int) := by rw [IntKind.wrap_i64]; omega
    have z2 : IntKind.i64.wrap (257 + (a : Int)) = 257 + (a : Int) := by rw [IntKind.wrap_i64]; omega
    have hb : (((m : Int) + 3) == 258) = false := by rw [beq_eq_false_iff_ne]; exact h3
    clear e
    go_enter Tryz.func133, Tryz.ntmps133
    go_wp2_with (go_at_call 151; refine (HS _).out.mono ?_; rintro r w1 ⟨rfl, hd⟩)
    go_ret3
    exact ⟨rfl, hd⟩
set_option maxRecDepth 100000 in
set_option maxHeartbeats 4000000 in
theorem distance_any (W : World) (n : Int) : Calls Tryz.prog 134 #[.int .i64 n] W fun e w' => e = .returned (.tuple #[.int .i64 (distS n).1, .int .i64 (distS n).2.1, .int .i64 (distS n).2.2]) /\ Drew W w' := by
 by_cases h1 : n < 1
 ·have e : distS n = (-1, 0, 0) := if_pos (.inl h1)
  rw [e]
  go_enter Tryz.func134, Tryz.ntmps134
  go_wp2_with fail
  go_ret3
  exact ⟨rfl, Drew.refl _⟩
 ·by_cases h2 : n > 32768
  ·have e : distS n = (-1, 0, 0) := if_pos (.inr h2)
   rw [e]
   go_enter Tryz.func134, Tryz.ntmps134
   go_wp2_with fail
   go_ret3
   exact ⟨rfl, Drew.refl _⟩
  ·obtain ⟨m, rfl⟩ : ∃ m : Nat, n = (m : Int) + 1 := ⟨(n - 1).toNat, by omega⟩
   have e : distS ((m : Int) + 1) = (((symN m 2).1 : Int), ((symN m 2).2.1 : Int), ((symN m 2).2.2 : Int)) := by
    unfold distS
    rw [if_neg (by omega), show ((m : Int) + 1 - 1).toNat = m by omega]
   rw [e]
   have HS := fun w => Lib.hid (symbolOf_any w m 2 (by omega) (.inr rfl))
   generalize symN m 2 = t at *
   obtain ⟨a, b, c⟩ := t
   simp only at HS ⊢
   have z : IntKind.i64.wrap ((m : Int) + 1 - 1) = (m : Int) := by rw [IntKind.wrap_i64]; omega
   clear e
   go_enter Tryz.func134, Tryz.ntmps134
   go_wp2_with (go_at_call 151; refine (HS _).out.mono ?_; rintro r w1 ⟨rfl, hd⟩)
   go_ret3
   exact ⟨rfl, hd⟩
set_option maxRecDepth 100000 in
set_option maxHeartbeats 4000000 in
theorem baseLength_any (W : World) (s : Int) : Calls Tryz.prog 122 #[.int .i64 s] W fun e w' => e = .returned (.tuple #[.int .i64 (lenB s).1, .int .i64 (lenB s).2]) /\ Drew W w' := by
 by_cases h1 : s < 257
 ·have e : lenB s = (0, 0) := if_pos (.inl h1)
  rw [e]
  go_enter Tryz.func122, Tryz.ntmps122
  go_wp2_with fail
  go_ret2
  exact ⟨rfl, Drew.refl _⟩
 ·by_cases h2 : s > 285
  ·have e : lenB s = (0, 0) := if_pos (.inr h2)
   rw [e]
   go_enter Tryz.func122, Tryz.ntmps122
   go_wp2_with fail
   go_ret2
   exact ⟨rfl, Drew.refl _⟩
  ·by_cases h3 : s = 285
   ·subst h3
    go_enter Tryz.func122, Tryz.ntmps122
    go_wp2_with fail
    go_ret2
    exact ⟨rfl, Drew.refl _⟩
   ·obtain ⟨m, rfl⟩ : ∃ m : Nat, s = (m : Int) + 257 := ⟨(s - 257).toNat, by omega⟩
    have e : lenB ((m : Int) + 257) = (3 + ((baseN m 4).1 : Int), ((baseN m 4).2 : Int)) := by
     unfold lenB
     rw [if_neg (by omega), if_neg h3, show ((m : Int) + 257 - 257).toNat = m by omega]
    rw [e]
    have HS := fun w => Lib.hid (baseOf_any w m 4 (by omega) (.inl rfl))
    have hlt : (baseN m 4).1 < (baseN 28 4).1 := base_lt4 (by omega) (by decide)
    rw [base28] at hlt
    generalize baseN m 4 = t at *
    obtain ⟨a, b⟩ := t
    simp only at hlt HS ⊢
    have z : IntKind.i64.wrap ((m : Int) + 257 - 257) = (m : Int) := by rw [IntKind.wrap_i64]; omega
    have z2 : IntKind.i64.wrap (3 + (a : Int)) = 3 + (a : Int) := by rw [IntKind.wrap_i64]; omega
    have hb : (((m : Int) + 257) == 285) = false := by rw [beq_eq_false_iff_ne]; exact h3
    clear e
    go_enter Tryz.func122, Tryz.ntmps122
    go_wp2_with (go_at_call 145; refine (HS _).out.mono ?_; rintro r w1 ⟨rfl, hd⟩)
    go_ret2
    exact ⟨rfl, hd⟩
set_option maxRecDepth 100000 in
set_option maxHeartbeats 4000000 in
theorem baseDistance_any (W : World) (s : Int) : Calls Tryz.prog 124 #[.int .i64 s] W fun e w' => e = .returned (.tuple #[.int .i64 (distB s).1, .int .i64 (distB s).2]) /\ Drew W w' := by
 by_cases h1 : s < 0
 ·have e : distB s = (0, 0) := if_pos (.inl h1)
  rw [e]
  go_enter Tryz.func124, Tryz.ntmps124
  go_wp2_with fail
  go_ret2
  exact ⟨rfl, Drew.refl _⟩
 ·by_cases h2 : s > 29
  ·have e : distB s = (0, 0) := if_pos (.inr h2)
   rw [e]
   go_enter Tryz.func124, Tryz.ntmps124
   go_wp2_with fail
   go_ret2
   exact ⟨rfl, Drew.refl _⟩
  ·obtain ⟨m, rfl⟩ : ∃ m : Nat, s = (m : Int) := ⟨s.toNat, by omega⟩
   have e : distB (m : Int) = (1 + ((baseN m 2).1 : Int), ((baseN m 2).2 : Int)) := by
    unfold distB
    rw [if_neg (by omega), Int.toNat_natCast]
   rw [e]
   have HS := fun w => Lib.hid (baseOf_any w m 2 (by omega) (.inr rfl))
   have hlt : (baseN m 2).1 < (baseN 30 2).1 := base_lt2 (by omega) (by decide)
   rw [base30] at hlt
   generalize baseN m 2 = t at *
   obtain ⟨a, b⟩ := t
   simp only at hlt HS ⊢
   have z2 : IntKind.i64.wrap (1 + (a : Int)) = 1 + (a : Int) := by rw [IntKind.wrap_i64]; omega
   clear e
   go_enter Tryz.func124, Tryz.ntmps124
   go_wp2_with (go_at_call 145; refine (HS _).out.mono ?_; rintro r w1 ⟨rfl, hd⟩)
   go_ret2
   exact ⟨rfl, hd⟩
end Go.Proofs.YthmbbpfgbpacnaaGreatDoor.Lz
