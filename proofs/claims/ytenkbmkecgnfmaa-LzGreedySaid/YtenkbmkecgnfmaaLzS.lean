/- The symbols of lengths and distances, in numbers. -/
import Derived.Test.YtenkbmkecgnfmaaLzJ
namespace Go.Proofs.Ytenkbmkecgnfmaa.Lz
open Go.Lib

theorem wN_spec (k e n : Nat) (hk : e = 2 ^ k) (hk1 : 1 ≤ k) (hel : e ≤ 65535) (hn : n ≤ 65535) :
    bwN (symN n e).1 e = (symN n e).2.1 ∧ (symN n e).2.2 < 2 ^ (symN n e).2.1 ∧ (baseN (symN n e).1 e).1 + (symN n e).2.2 = n ∧ n < (baseN ((symN n e).1 + 1) e).1 := by
  have he : 0 < e := by rw [hk]; exact Nat.pow_pos (by decide)
  have he2 : 2 ≤ e := by
    rw [hk]
    calc 2 = 2 ^ 1 := rfl
      _ ≤ 2 ^ k := Nat.pow_le_pow_right (by decide) hk1
  have hbe : Lib.bitLen (2 * e - 1) = k + 1 ∨ 65535 < e := by
    rcases Nat.lt_or_ge 65535 e with h | h
    · exact .inr h
    · have := Lib.bitLenAux_bounds 64 (2 * e - 1) (by omega) (by omega)
      obtain ⟨h1, h2, h3⟩ := this
      refine .inl ?_
      change Lib.bitLenAux 64 (2 * e - 1) = k + 1
      generalize Lib.bitLenAux 64 (2 * e - 1) = L at *
      have p1 : 2 * e = 2 ^ (k + 1) := by rw [hk, Nat.pow_succ]; omega
      rcases Nat.lt_trichotomy L (k + 1) with q | q | q
      · have : 2 ^ L ≤ 2 ^ k := Nat.pow_le_pow_right (by decide) (by omega)
        omega
      · exact q
      · have : 2 ^ (k + 1) ≤ 2 ^ (L - 1) := Nat.pow_le_pow_right (by decide) (by omega)
        omega
  obtain ⟨w, hw⟩ : ∃ w, w = wN n e := ⟨_, rfl⟩
  obtain ⟨h, hh⟩ : ∃ h, h = n / 2 ^ w := ⟨_, rfl⟩
  have hsym : symN n e = (h + e * w, w, n - h * 2 ^ w) := by unfold symN hN; rw [← hw, ← hh]
  -- either no extra bits, or the highest bits
  have hcase : (w = 0 ∧ n < 2 * e) ∨ (0 < w ∧ e ≤ h ∧ h < 2 * e) := by
    rcases Nat.lt_or_ge n (2 * e) with hlt | hge
    · left
      refine ⟨?_, hlt⟩
      rw [hw]
      unfold wN
      rcases Nat.eq_zero_or_pos n with rfl | hp
      · have : Lib.bitLen 0 = 0 := by decide
        omega
      · rcases hbe with hb | hb
        · have := Lib.bitLenAux_bounds 64 n (by omega) (by omega)
          obtain ⟨h1, h2, h3⟩ := this
          change 1 ≤ Lib.bitLen n at h1
          change 2 ^ (Lib.bitLen n - 1) ≤ n at h2
          have p1 : 2 * e = 2 ^ (k + 1) := by rw [hk, Nat.pow_succ]; omega
          rcases Nat.lt_or_ge (k + 1) (Lib.bitLen n) with q | q
          · have : 2 ^ (k + 1) ≤ 2 ^ (Lib.bitLen n - 1) := Nat.pow_le_pow_right (by decide) (by omega)
            omega
          · omega
        · omega
    · right
      have hb := hbe.resolve_right (by omega)
      have := Lib.bitLenAux_bounds 64 n (by omega) (by omega)
      obtain ⟨h1, h2, h3⟩ := this
      change 1 ≤ Lib.bitLen n at h1
      change 2 ^ (Lib.bitLen n - 1) ≤ n at h2
      change n < 2 ^ Lib.bitLen n at h3
      have p1 : 2 * e = 2 ^ (k + 1) := by rw [hk, Nat.pow_succ]; omega
      have hL : k + 1 < Lib.bitLen n := by
        rcases Nat.lt_or_ge (k + 1) (Lib.bitLen n) with q | q
        · exact q
        · have : 2 ^ Lib.bitLen n ≤ 2 ^ (k + 1) := Nat.pow_le_pow_right (by decide) q
          omega
      have hwL : w = Lib.bitLen n - (k + 1) := by rw [hw]; unfold wN; rw [hb]
      have q1 : Lib.bitLen n - 1 = k + w := by omega
      have q2 : Lib.bitLen n = (k + 1) + w := by omega
      rw [q1, Nat.pow_add, ← hk] at h2
      rw [q2, Nat.pow_add, ← p1] at h3
      have hpos : 0 < 2 ^ w := Nat.pow_pos (by decide)
      refine ⟨by omega, ?_, ?_⟩
      · rw [hh]; exact (Nat.le_div_iff_mul_le hpos).2 h2
      · rw [hh]; exact (Nat.div_lt_iff_lt_mul hpos).2 h3
  have hpos : 0 < 2 ^ w := Nat.pow_pos (by decide)
  have hdm : h * 2 ^ w + n % 2 ^ w = n := by rw [hh]; exact Nat.div_add_mod' n (2 ^ w)
  have hml : n % 2 ^ w < 2 ^ w := Nat.mod_lt _ hpos
  have hx : n - h * 2 ^ w = n % 2 ^ w := by omega
  have hdiv : (h + e * w) / e = h / e + w := Nat.add_mul_div_left h w he
  have hdiv1 : (h + e * w + 1) / e = (h + 1) / e + w := by rw [show h + e * w + 1 = (h + 1) + e * w by omega]; exact Nat.add_mul_div_left (h + 1) w he
  rw [hsym]
  simp only
  rw [hx]
  rcases hcase with ⟨rfl, hlt⟩ | ⟨hw0, hge, hlt⟩
  · have hn' : h = n := by rw [hh, Nat.pow_zero, Nat.div_one]
    have hq : h / e < 2 := (Nat.div_lt_iff_lt_mul he).2 (by omega)
    have hbw : bwN (h + e * 0) e = 0 := by unfold bwN; rw [hdiv]; omega
    refine ⟨hbw, hml, ?_, ?_⟩
    · unfold baseN
      rw [hbw]
      simp only [Nat.mul_zero, Nat.add_zero, Nat.sub_zero, Nat.pow_zero, Nat.mul_one]
      simp only [Nat.pow_zero, Nat.mul_one] at hdm
      omega
    · rcases Nat.lt_or_ge (h + 1) (2 * e) with q | q
      · have hbw1 : bwN (h + e * 0 + 1) e = 0 := by
          unfold bwN; rw [hdiv1]
          have : (h + 1) / e < 2 := (Nat.div_lt_iff_lt_mul he).2 (by omega)
          omega
        unfold baseN
        rw [hbw1]
        simp only [Nat.mul_zero, Nat.add_zero, Nat.sub_zero, Nat.pow_zero, Nat.mul_one]
        omega
      · have he1 : h + 1 = e * 2 := by omega
        have hbw1 : bwN (h + e * 0 + 1) e = 1 := by
          unfold bwN; rw [hdiv1, he1, Nat.mul_div_cancel_left _ he]
        unfold baseN
        rw [hbw1]
        simp only [Nat.mul_zero, Nat.add_zero, Nat.mul_one, Nat.pow_one]
        omega
  · have hq : h / e = 1 := by
      have h1 : 1 ≤ h / e := (Nat.le_div_iff_mul_le he).2 (by omega)
      have h2 : h / e < 2 := (Nat.div_lt_iff_lt_mul he).2 (by omega)
      omega
    have hbw : bwN (h + e * w) e = w := by unfold bwN; rw [hdiv, hq]; omega
    refine ⟨hbw, hml, ?_, ?_⟩
    · unfold baseN
      rw [hbw]
      simp only [Nat.add_sub_cancel]
      exact hdm
    · rcases Nat.lt_or_ge (h + 1) (2 * e) with q | q
      · have hbw1 : bwN (h + e * w + 1) e = w := by
          unfold bwN; rw [hdiv1]
          have h1 : 1 ≤ (h + 1) / e := (Nat.le_div_iff_mul_le he).2 (by omega)
          have h2 : (h + 1) / e < 2 := (Nat.div_lt_iff_lt_mul he).2 (by omega)
          omega
        unfold baseN
        rw [hbw1]
        simp only
        rw [show h + e * w + 1 - e * w = h + 1 by omega, Nat.add_mul, Nat.one_mul]
        omega
      · have he1 : h + 1 = e * 2 := by omega
        have hbw1 : bwN (h + e * w + 1) e = w + 1 := by
          unfold bwN; rw [hdiv1, he1, Nat.mul_div_cancel_left _ he]; omega
        unfold baseN
        rw [hbw1]
        simp only
        rw [show h + e * w + 1 - e * (w + 1) = e by rw [Nat.mul_add]; omega, Nat.pow_succ, ← Nat.mul_assoc, Nat.mul_right_comm]
        rw [show e * 2 = h + 1 by omega, Nat.add_mul, Nat.one_mul]
        omega

theorem base_mono4 : ∀ s, s < 100 → (baseN s 4).1 < (baseN (s + 1) 4).1 := by decide +kernel
theorem base_mono2 : ∀ s, s < 100 → (baseN s 2).1 < (baseN (s + 1) 2).1 := by decide +kernel
end Go.Proofs.Ytenkbmkecgnfmaa.Lz
