/- The symbols of lengths and distances as the document's own text tells them. -/
import Derived.Test.YtdgfhbeofidbnaaDoorPkLzS
namespace Go.Proofs.YtdgfhbeofidbnaaDoor.Lz
open Go.RowKit Go.Shelf Go.Lib Go.Proofs.YtdgfhbeofidbnaaDoor.Mem Go.Proofs.YtdgfhbeofidbnaaDoor.Huf

def rl : Nat → Nat
  | 0 => 11
  | k + 1 => rl k + 2 ^ ((k + 4) / 4)
def rd : Nat → Nat
  | 0 => 5
  | k + 1 => rd k + 2 ^ ((k + 2) / 2)
theorem rl_eq : ∀ t, t < 20 → rl t = 3 + (baseN (8 + t) 4).1 ∧ (baseN (8 + t) 4).2 = (t + 4) / 4 ∧ rl t ≤ 300 := by decide +kernel
theorem rd_eq : ∀ t, t < 26 → rd t = 1 + (baseN (4 + t) 2).1 ∧ (baseN (4 + t) 2).2 = (t + 2) / 2 ∧ rd t ≤ 40000 := by decide +kernel
theorem small4 : ∀ t, t < 8 → baseN t 4 = (t, 0) := by decide +kernel
theorem small2 : ∀ t, t < 4 → baseN t 2 = (t, 0) := by decide +kernel
theorem pow_14 (b : Nat) (h : b ≤ 14) : 2 ^ b ≤ 16384 := by
  have : 2 ^ b ≤ 2 ^ 14 := Nat.pow_le_pow_right (by decide) h
  omega

set_option maxRecDepth 100000 in
set_option maxHeartbeats 4000000 in
theorem refBaseLength_any (W : World) (s : Int) : Calls Tryd.prog 113 #[.int .i64 s] W fun e w' => e = .returned (.tuple #[.int .i64 (lenB s).1, .int .i64 (lenB s).2]) ∧ W = w' := by
  by_cases h1 : s < 257
  · have e : lenB s = (0, 0) := if_pos (.inl h1)
    rw [e]
    go_enter Tryd.func113, Tryd.ntmps113
    go_wp2_with fail
    go_ret2
    exact ⟨rfl, rfl⟩
  · by_cases h2 : s > 285
    · have e : lenB s = (0, 0) := if_pos (.inr h2)
      rw [e]
      go_enter Tryd.func113, Tryd.ntmps113
      go_wp2_with fail
      go_ret2
      exact ⟨rfl, rfl⟩
    · by_cases h3 : s = 285
      · subst h3
        go_enter Tryd.func113, Tryd.ntmps113
        go_wp2_with fail
        go_ret2
        exact ⟨rfl, rfl⟩
      · have hb : (s == 285) = false := by rw [beq_eq_false_iff_ne]; exact h3
        by_cases h4 : s < 265
        · obtain ⟨m, rfl⟩ : ∃ m : Nat, s = (m : Int) + 257 := ⟨(s - 257).toNat, by omega⟩
          have e : lenB ((m : Int) + 257) = (3 + (m : Int), 0) := by
            unfold lenB
            rw [if_neg (by omega), if_neg h3, show ((m : Int) + 257 - 257).toNat = m by omega, small4 m (by omega)]
            rfl
          rw [e]
          have z : IntKind.i64.wrap ((m : Int) + 257 - 254) = 3 + (m : Int) := by rw [IntKind.wrap_i64]; omega
          go_enter Tryd.func113, Tryd.ntmps113
          go_wp2_with fail
          go_ret2
          exact ⟨rfl, rfl⟩
        · obtain ⟨t, ht⟩ : ∃ t : Nat, s = ((265 + t : Nat) : Int) := ⟨(s - 265).toNat, by omega⟩
          have ht20 : t < 20 := by omega
          obtain ⟨g1, g2, g3⟩ := rl_eq t ht20
          have e : lenB s = ((rl t : Int), (((t + 4) / 4 : Nat) : Int)) := by
            unfold lenB
            rw [if_neg (by omega), if_neg h3, show (s - 257).toNat = 8 + t by omega, g2, g1]
            rfl
          rw [e]
          obtain ⟨S, hS⟩ : ∃ S, S = 265 + t := ⟨_, rfl⟩
          rw [← hS] at ht
          subst ht
          have z1 : IntKind.i64.wrap ((S : Int) - 261) = (S : Int) - 261 := by rw [IntKind.wrap_i64]; omega
          have z2 : Int.tdiv ((S : Int) - 261) 4 = (((t + 4) / 4 : Nat) : Int) := by
            rw [show (S : Int) - 261 = ((t + 4 : Nat) : Int) by omega]; exact (Int.ofNat_tdiv (t + 4) 4).symm
          have z3 : IntKind.i64.wrap (((t + 4) / 4 : Nat) : Int) = (((t + 4) / 4 : Nat) : Int) := by rw [IntKind.wrap_i64]; omega
          have HT : Aside (S = 265 + t) := hS
          clear hS e g1 g2
          generalize (t + 4) / 4 = bt at *
          go_enter Tryd.func113, Tryd.ntmps113
          go_upto_region 10 with fail
          go_loopg [5, 6] 20 (fun kx s5 s6 wr => ∃ (k K : Nat), s5 = .int .i64 (rl k : Nat) ∧ s6 = .int .i64 (K : Int) ∧ K = 265 + k ∧ k ≤ t ∧ t - k ≤ kx ∧ W = wr)
          case atStart => exact ⟨0, 265, rfl, rfl, rfl, Nat.zero_le _, by omega, rfl⟩
          case round =>
            obtain ⟨k, K, rfl, rfl, hK, hk, hkx, rfl⟩ := hrel
            have hT := HT.out
            by_cases hlt : k < t
            · have hltz : (K : Int) < (S : Int) := by omega
              obtain ⟨q, hq⟩ : ∃ q, q = (k + 4) / 4 := ⟨_, rfl⟩
              have hq14 : q ≤ 14 := by omega
              have hrl := (rl_eq k (by omega)).2.2
              have hrl2 := (rl_eq (k + 1) (by omega)).2.2
              have hs : rl (k + 1) = rl k + 2 ^ q := by rw [hq]; rfl
              have hp := pow_14 q hq14
              obtain ⟨pb, hpb⟩ : ∃ p, p = 2 ^ q := ⟨_, rfl⟩
              rw [← hpb] at hs hp
              have y1 : IntKind.i64.wrap ((K : Int) - 261) = (K : Int) - 261 := by rw [IntKind.wrap_i64]; omega
              have y2 : Int.tdiv ((K : Int) - 261) 4 = (q : Int) := by
                rw [show (K : Int) - 261 = ((k + 4 : Nat) : Int) by omega, hq]; exact (Int.ofNat_tdiv (k + 4) 4).symm
              have y3 : IntKind.i64.wrap (q : Int) = (q : Int) := by rw [IntKind.wrap_i64]; omega
              have y4 : IntKind.u64.wrap (q : Int) = (q : Int) := by rw [IntKind.wrap_u64]; omega
              have y5 : min q 64 = q := by omega
              have y6 : (2 : Int) ^ q = (pb : Int) := by rw [hpb, Int.natCast_pow]; rfl
              have y7 : IntKind.i64.wrap (pb : Int) = (pb : Int) := by rw [IntKind.wrap_i64]; omega
              have y8 : IntKind.i64.wrap ((rl k : Int) + (pb : Int)) = (rl (k + 1) : Nat) := by rw [IntKind.wrap_i64]; omega
              have y9 : IntKind.i64.wrap ((K : Int) + 1) = ((K + 1 : Nat) : Int) := by rw [IntKind.wrap_i64]; omega
              have HK : Aside (K + 1 = 265 + (k + 1)) := by show K + 1 = 265 + (k + 1); omega
              clear hq hs hpb hK hT hrl hrl2 hp hq14
              go_wp2_with fail
              go_roundg (t - (k + 1))
              case measure => omega
              case rel => exact ⟨k + 1, K + 1, by go_num, by go_num, HK.out, by omega, Nat.le_refl _, rfl⟩
            · obtain rfl : k = t := by omega
              have hltz : ¬ (K : Int) < (S : Int) := by omega
              go_wp2_with fail
              go_ret2
              exact ⟨rfl, rfl⟩

set_option maxRecDepth 100000 in
set_option maxHeartbeats 4000000 in
theorem refBaseDistance_any (W : World) (s : Int) : Calls Tryd.prog 114 #[.int .i64 s] W fun e w' => e = .returned (.tuple #[.int .i64 (distB s).1, .int .i64 (distB s).2]) ∧ W = w' := by
  by_cases h1 : s < 0
  · have e : distB s = (0, 0) := if_pos (.inl h1)
    rw [e]
    go_enter Tryd.func114, Tryd.ntmps114
    go_wp2_with fail
    go_ret2
    exact ⟨rfl, rfl⟩
  · by_cases h2 : s > 29
    · have e : distB s = (0, 0) := if_pos (.inr h2)
      rw [e]
      go_enter Tryd.func114, Tryd.ntmps114
      go_wp2_with fail
      go_ret2
      exact ⟨rfl, rfl⟩
    · by_cases h4 : s < 4
      · obtain ⟨m, rfl⟩ : ∃ m : Nat, s = (m : Int) := ⟨s.toNat, by omega⟩
        have e : distB (m : Int) = (1 + (m : Int), 0) := by
          unfold distB
          rw [if_neg (by omega), Int.toNat_natCast, small2 m (by omega)]
          rfl
        rw [e]
        have z : IntKind.i64.wrap ((m : Int) + 1) = 1 + (m : Int) := by rw [IntKind.wrap_i64]; omega
        go_enter Tryd.func114, Tryd.ntmps114
        go_wp2_with fail
        go_ret2
        exact ⟨rfl, rfl⟩
      · obtain ⟨t, ht⟩ : ∃ t : Nat, s = ((4 + t : Nat) : Int) := ⟨(s - 4).toNat, by omega⟩
        have ht26 : t < 26 := by omega
        obtain ⟨g1, g2, g3⟩ := rd_eq t ht26
        have e : distB s = ((rd t : Int), (((t + 2) / 2 : Nat) : Int)) := by
          unfold distB
          rw [if_neg (by omega), show s.toNat = 4 + t by omega, g2, g1]
          rfl
        rw [e]
        obtain ⟨S, hS⟩ : ∃ S, S = 4 + t := ⟨_, rfl⟩
        rw [← hS] at ht
        subst ht
        have z1 : IntKind.i64.wrap ((S : Int) - 2) = (S : Int) - 2 := by rw [IntKind.wrap_i64]; omega
        have z2 : Int.tdiv ((S : Int) - 2) 2 = (((t + 2) / 2 : Nat) : Int) := by
          rw [show (S : Int) - 2 = ((t + 2 : Nat) : Int) by omega]; exact (Int.ofNat_tdiv (t + 2) 2).symm
        have z3 : IntKind.i64.wrap (((t + 2) / 2 : Nat) : Int) = (((t + 2) / 2 : Nat) : Int) := by rw [IntKind.wrap_i64]; omega
        have HT : Aside (S = 4 + t) := hS
        clear hS e g1 g2
        generalize (t + 2) / 2 = bt at *
        go_enter Tryd.func114, Tryd.ntmps114
        go_upto_region 8 with fail
        go_loopg [5, 6] 26 (fun kx s5 s6 wr => ∃ (k K : Nat), s5 = .int .i64 (rd k : Nat) ∧ s6 = .int .i64 (K : Int) ∧ K = 4 + k ∧ k ≤ t ∧ t - k ≤ kx ∧ W = wr)
        case atStart => exact ⟨0, 4, rfl, rfl, rfl, Nat.zero_le _, by omega, rfl⟩
        case round =>
          obtain ⟨k, K, rfl, rfl, hK, hk, hkx, rfl⟩ := hrel
          have hT := HT.out
          by_cases hlt : k < t
          · have hltz : (K : Int) < (S : Int) := by omega
            obtain ⟨q, hq⟩ : ∃ q, q = (k + 2) / 2 := ⟨_, rfl⟩
            have hq14 : q ≤ 14 := by omega
            have hrl := (rd_eq k (by omega)).2.2
            have hrl2 := (rd_eq (k + 1) (by omega)).2.2
            have hs : rd (k + 1) = rd k + 2 ^ q := by rw [hq]; rfl
            have hp := pow_14 q hq14
            obtain ⟨pb, hpb⟩ : ∃ p, p = 2 ^ q := ⟨_, rfl⟩
            rw [← hpb] at hs hp
            have y1 : IntKind.i64.wrap ((K : Int) - 2) = (K : Int) - 2 := by rw [IntKind.wrap_i64]; omega
            have y2 : Int.tdiv ((K : Int) - 2) 2 = (q : Int) := by
              rw [show (K : Int) - 2 = ((k + 2 : Nat) : Int) by omega, hq]; exact (Int.ofNat_tdiv (k + 2) 2).symm
            have y3 : IntKind.i64.wrap (q : Int) = (q : Int) := by rw [IntKind.wrap_i64]; omega
            have y4 : IntKind.u64.wrap (q : Int) = (q : Int) := by rw [IntKind.wrap_u64]; omega
            have y5 : min q 64 = q := by omega
            have y6 : (2 : Int) ^ q = (pb : Int) := by rw [hpb, Int.natCast_pow]; rfl
            have y7 : IntKind.i64.wrap (pb : Int) = (pb : Int) := by rw [IntKind.wrap_i64]; omega
            have y8 : IntKind.i64.wrap ((rd k : Int) + (pb : Int)) = (rd (k + 1) : Nat) := by rw [IntKind.wrap_i64]; omega
            have y9 : IntKind.i64.wrap ((K : Int) + 1) = ((K + 1 : Nat) : Int) := by rw [IntKind.wrap_i64]; omega
            have HK : Aside (K + 1 = 4 + (k + 1)) := by show K + 1 = 4 + (k + 1); omega
            clear hq hs hpb hK hT hrl hrl2 hp hq14
            go_wp2_with fail
            go_roundg (t - (k + 1))
            case measure => omega
            case rel => exact ⟨k + 1, K + 1, by go_num, by go_num, HK.out, by omega, Nat.le_refl _, rfl⟩
          · obtain rfl : k = t := by omega
            have hltz : ¬ (K : Int) < (S : Int) := by omega
            go_wp2_with fail
            go_ret2
            exact ⟨rfl, rfl⟩
end Go.Proofs.YtdgfhbeofidbnaaDoor.Lz
