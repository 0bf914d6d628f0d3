/- Length and Distance as the document's own text tells them. -/
import Derived.Test.YtenkbmkecgnfmaaLzV
import Derived.Test.YtenkbmkecgnfmaaLawLzCodes
namespace Go.Proofs.Ytenkbmkecgnfmaa.Lz
open Go.RowKit Go.Shelf Go.Lib Go.Proofs.Ytenkbmkecgnfmaa.Mem Go.Proofs.Ytenkbmkecgnfmaa.Huf

theorem lenB_at (k : Nat) (hk : k < 28) : lenB ((257 + k : Nat) : Int) = (((3 + (baseN k 4).1 : Nat) : Int), ((baseN k 4).2 : Int)) := by
  unfold lenB
  rw [if_neg (by omega), if_neg (by omega), show (((257 + k : Nat) : Int) - 257).toNat = k by omega]
  rfl
theorem distB_at (k : Nat) (hk : k < 30) : distB (k : Int) = (((1 + (baseN k 2).1 : Nat) : Int), ((baseN k 2).2 : Int)) := by
  unfold distB
  rw [if_neg (by omega), Int.toNat_natCast]
  rfl
/-- The base of the k-th symbol of lengths, of distances. -/
def lb (k : Nat) : Nat := if k = 28 then 258 else 3 + (baseN k 4).1
def lx (k : Nat) : Nat := if k = 28 then 0 else (baseN k 4).2
theorem lenB_lb (k : Nat) (hk : k ≤ 28) : lenB ((257 + k : Nat) : Int) = ((lb k : Int), (lx k : Int)) := by
  unfold lb lx
  by_cases h : k = 28
  · subst h; exact lenB_285
  · rw [if_neg h, if_neg h]; exact lenB_at k (by omega)
theorem len_found (N k : Nat) (hN : N ≤ 255) (hk : k ≤ 28) (h1 : lb k ≤ N + 3) (h2 : k = 28 ∨ N + 3 < lb (k + 1)) : lenS ((N : Int) + 3) = (((257 + k : Nat) : Int), (lx k : Int), ((N + 3 - lb k : Nat) : Int)) := by
  unfold lb at h1 h2 ⊢
  unfold lx
  by_cases h : k = 28
  · subst h
    simp only [if_true] at h1 ⊢
    obtain rfl : N = 255 := by omega
    exact lenS_258
  · rw [if_neg h] at h1 ⊢
    rw [if_neg h]
    have h3 := h2.resolve_left h
    have h4 : N < (baseN (k + 1) 4).1 ∧ N < 255 := by
      by_cases h5 : k + 1 = 28
      · rw [if_pos h5] at h3
        rw [h5, base28]
        omega
      · rw [if_neg h5] at h3
        have : (baseN (k + 1) 4).1 < (baseN 28 4).1 := base_lt4 (by omega) (by decide)
        rw [base28] at this
        refine ⟨by omega, ?_⟩
        have h27 : (baseN (k + 1) 4).1 ≤ 224 := by
          have : k + 1 ≤ 27 := by omega
          rcases Nat.lt_or_ge (k + 1) 27 with q | q
          · have := base_lt4 q (by decide)
            have e : (baseN 27 4).1 = 224 := by decide +kernel
            omega
          · obtain rfl : k = 26 := by omega
            have e : (baseN 27 4).1 = 224 := by decide +kernel
            exact Nat.le_of_eq e
        omega
    have hu := sym_uniq4 (n := N) (s := k) (by omega) (by omega) (by omega) h4.1
    obtain ⟨s1, s2, s3, s4⟩ := spec4 N (by omega)
    rw [lenS_of N h4.2, ← hu]
    rw [← hu] at s1 s3
    have e : (baseN k 4).2 = (symN N 4).2.1 := s1
    rw [e, show N + 3 - (3 + (baseN k 4).1) = (symN N 4).2.2 by omega]
    rfl
def db (k : Nat) : Nat := 1 + (baseN k 2).1
def dx (k : Nat) : Nat := (baseN k 2).2
theorem distB_db (k : Nat) (hk : k ≤ 29) : distB (k : Int) = ((db k : Int), (dx k : Int)) := distB_at k (by omega)
theorem dist_found (N k : Nat) (hN : N ≤ 32767) (hk : k ≤ 29) (h1 : db k ≤ N + 1) (h2 : k = 29 ∨ N + 1 < db (k + 1)) : distS ((N : Int) + 1) = ((k : Int), (dx k : Int), ((N + 1 - db k : Nat) : Int)) := by
  unfold db at h1 h2 ⊢
  unfold dx
  have h4 : N < (baseN (k + 1) 2).1 := by
    rcases h2 with rfl | h2
    · rw [base30]; omega
    · omega
  have hu := sym_uniq2 (n := N) (s := k) (by omega) (by omega) (by omega) h4
  obtain ⟨s1, s2, s3, s4⟩ := spec2 N (by omega)
  rw [distS_of N (by omega), ← hu]
  rw [← hu] at s1 s3
  have e : (baseN k 2).2 = (symN N 2).2.1 := s1
  rw [e, show N + 1 - (1 + (baseN k 2).1) = (symN N 2).2.2 by omega]
theorem lb_bd : ∀ k, k ≤ 28 → lb k ≤ 258 := by decide +kernel
theorem db_bd : ∀ k, k ≤ 29 → db k ≤ 32768 := by decide +kernel

set_option maxRecDepth 100000 in
set_option maxHeartbeats 4000000 in
theorem refLength_any (W : World) (n : Int) : Calls Try.prog 26 #[.int .i64 n] W fun e w' => e = .returned (.tuple #[.int .i64 (lenS n).1, .int .i64 (lenS n).2.1, .int .i64 (lenS n).2.2]) ∧ W = w' := by
  by_cases h1 : n < 3
  · have e : lenS n = (-1, 0, 0) := if_pos (.inl h1)
    rw [e]
    go_enter Try.func26, Try.ntmps26
    go_wp2_with fail
    go_ret3
    exact ⟨rfl, rfl⟩
  · by_cases h2 : n > 258
    · have e : lenS n = (-1, 0, 0) := if_pos (.inr h2)
      rw [e]
      go_enter Try.func26, Try.ntmps26
      go_wp2_with fail
      go_ret3
      exact ⟨rfl, rfl⟩
    · obtain ⟨N, rfl⟩ : ∃ N : Nat, n = (N : Int) + 3 := ⟨(n - 3).toNat, by omega⟩
      have HB := fun w (k : Nat) (hk : k ≤ 28) => Lib.hid (show Calls Try.prog 30 #[.int .i64 ((257 + k : Nat) : Int)] w fun e w' => e = .returned (.tuple #[.int .i64 (lb k : Int), .int .i64 (lx k : Int)]) ∧ w = w' from by
        have := refBaseLength_any w ((257 + k : Nat) : Int)
        rw [lenB_lb k hk] at this
        exact this)
      obtain ⟨M, hM⟩ : ∃ M, M = N + 3 := ⟨_, rfl⟩
      have HF : Aside (∀ k, k ≤ 28 → lb k ≤ M → (k = 28 ∨ M < lb (k + 1)) → lenS ((N : Int) + 3) = (((257 + k : Nat) : Int), (lx k : Int), ((M - lb k : Nat) : Int))) := fun k hk q1 q2 => by
        rw [hM] at q1 q2 ⊢
        exact len_found N k (by omega) hk q1 q2
      have HM : Aside (M = N + 3 ∧ M ≤ 258) := ⟨hM, by omega⟩
      have h285 := HB W 28 (by decide)
      obtain ⟨r, hr⟩ : ∃ r, r = lenS ((N : Int) + 3) := ⟨_, rfl⟩
      rw [← hr] at HF ⊢
      rw [show (N : Int) + 3 = (M : Int) by omega] at h1 h2 ⊢
      have hl : (lb 28 : Int) = 258 := rfl
      have hx : (lx 28 : Int) = 0 := rfl
      rw [hl, hx] at h285
      clear hr hM
      go_enter Try.func26, Try.ntmps26
      go_upto_region 5 with (go_at_call 30; refine h285.out.mono ?_; rintro e w1 ⟨rfl, rfl⟩)
      go_loopg [5, 6, 7] 28 (fun kx s5 s6 s7 wr => ∃ (k K a b : Nat), s5 = .int .i64 (K : Int) ∧ s6 = .int .i64 (a : Int) ∧ s7 = .int .i64 (b : Int) ∧ K = 257 + k ∧ a ≤ 258 ∧ k ≤ 28 ∧ k ≤ kx ∧ Aside (a = lb k ∧ b = lx k ∧ (k = 28 ∨ M < lb (k + 1))) ∧ W = wr)
      case atStart => exact ⟨28, 285, 258, 0, rfl, rfl, rfl, rfl, Nat.le_refl _, Nat.le_refl _, Nat.le_refl _, ⟨rfl, rfl, .inl rfl⟩, rfl⟩
      case round =>
        obtain ⟨k, K, a, b, rfl, rfl, rfl, hK, ha, hk, hkx, HR, rfl⟩ := hrel
        by_cases hlt : M < a
        · have hltz : (a : Int) > (M : Int) := by omega
          obtain ⟨j, rfl⟩ : ∃ j, k = j + 1 := ⟨k - 1, by
            rcases Nat.eq_zero_or_pos k with rfl | hp
            · have h0 : lb 0 = 3 := rfl
              have := HR.out.1
              have := HM.out
              omega
            · omega⟩
          have HC := HB W j (by omega)
          obtain ⟨J, hJ⟩ : ∃ J, J = 257 + j := ⟨_, rfl⟩
          rw [← hJ] at HC
          have wj : IntKind.i64.wrap ((K : Int) - 1) = (J : Int) := by rw [IntKind.wrap_i64]; omega
          have hbd := lb_bd j (by omega)
          have HR2 : Aside (J = 257 + j ∧ (j = 28 ∨ M < lb (j + 1))) := ⟨hJ, .inr (by rw [← HR.out.1]; exact hlt)⟩
          obtain ⟨a2, ha2⟩ : ∃ a2, a2 = lb j := ⟨_, rfl⟩
          obtain ⟨b2, hb2⟩ : ∃ b2, b2 = lx j := ⟨_, rfl⟩
          rw [← ha2, ← hb2] at HC
          rw [← ha2] at hbd
          have HA : Aside (a2 = lb j ∧ b2 = lx j) := ⟨ha2, hb2⟩
          clear hJ HR ha2 hb2 hK
          go_wp2_with (go_at_call 30; refine HC.out.mono ?_; rintro e w1 ⟨rfl, rfl⟩)
          go_roundg j
          case measure => omega
          case rel => exact ⟨j, J, a2, b2, by go_num, by go_num, by go_num, HR2.out.1, hbd, by omega, Nat.le_refl _, ⟨HA.out.1, HA.out.2, HR2.out.2⟩, rfl⟩
        · have hltz : ¬ (a : Int) > (M : Int) := by omega
          have HE : Aside (r = ((K : Int), (b : Int), ((M - a : Nat) : Int))) := by
            show r = _
            obtain ⟨q1, q2, q3⟩ := HR.out
            rw [HF.out k hk (by omega) q3, hK, ← q1, ← q2]
          have wm : IntKind.i64.wrap ((M : Int) - (a : Int)) = ((M - a : Nat) : Int) := by
            have := HM.out.2
            rw [IntKind.wrap_i64]; omega
          clear HR HF hK
          go_wp2_with fail
          go_ret3
          refine ⟨?_, rfl⟩
          rw [HE.out]
          rfl

set_option maxRecDepth 100000 in
set_option maxHeartbeats 4000000 in
theorem refDistance_any (W : World) (n : Int) : Calls Try.prog 28 #[.int .i64 n] W fun e w' => e = .returned (.tuple #[.int .i64 (distS n).1, .int .i64 (distS n).2.1, .int .i64 (distS n).2.2]) ∧ W = w' := by
  by_cases h1 : n < 1
  · have e : distS n = (-1, 0, 0) := if_pos (.inl h1)
    rw [e]
    go_enter Try.func28, Try.ntmps28
    go_wp2_with fail
    go_ret3
    exact ⟨rfl, rfl⟩
  · by_cases h2 : n > 32768
    · have e : distS n = (-1, 0, 0) := if_pos (.inr h2)
      rw [e]
      go_enter Try.func28, Try.ntmps28
      go_wp2_with fail
      go_ret3
      exact ⟨rfl, rfl⟩
    · obtain ⟨N, rfl⟩ : ∃ N : Nat, n = (N : Int) + 1 := ⟨(n - 1).toNat, by omega⟩
      have HB := fun w (k : Nat) (hk : k ≤ 29) => Lib.hid (show Calls Try.prog 32 #[.int .i64 (k : Int)] w fun e w' => e = .returned (.tuple #[.int .i64 (db k : Int), .int .i64 (dx k : Int)]) ∧ w = w' from by
        have := refBaseDistance_any w (k : Int)
        rw [distB_db k hk] at this
        exact this)
      obtain ⟨M, hM⟩ : ∃ M, M = N + 1 := ⟨_, rfl⟩
      have HF : Aside (∀ k, k ≤ 29 → db k ≤ M → (k = 29 ∨ M < db (k + 1)) → distS ((N : Int) + 1) = ((k : Int), (dx k : Int), ((M - db k : Nat) : Int))) := fun k hk q1 q2 => by
        rw [hM] at q1 q2 ⊢
        exact dist_found N k (by omega) hk q1 q2
      have HM : Aside (M = N + 1 ∧ M ≤ 32768) := ⟨hM, by omega⟩
      have h29 := HB W 29 (by decide)
      obtain ⟨r, hr⟩ : ∃ r, r = distS ((N : Int) + 1) := ⟨_, rfl⟩
      rw [← hr] at HF ⊢
      rw [show (N : Int) + 1 = (M : Int) by omega] at h1 h2 ⊢
      obtain ⟨a0, ha0⟩ : ∃ a, a = db 29 := ⟨_, rfl⟩
      obtain ⟨b0, hb0⟩ : ∃ b, b = dx 29 := ⟨_, rfl⟩
      rw [← ha0, ← hb0] at h29
      have HA0 : Aside (a0 = db 29 ∧ b0 = dx 29 ∧ a0 ≤ 32768) := ⟨ha0, hb0, by rw [ha0]; exact db_bd 29 (by decide)⟩
      clear hr hM ha0 hb0
      go_enter Try.func28, Try.ntmps28
      go_upto_region 5 with (go_at_call 32; refine h29.out.mono ?_; rintro e w1 ⟨rfl, rfl⟩)
      go_loopg [5, 6, 7] 29 (fun kx s5 s6 s7 wr => ∃ (k a b : Nat), s5 = .int .i64 (k : Int) ∧ s6 = .int .i64 (a : Int) ∧ s7 = .int .i64 (b : Int) ∧ a ≤ 32768 ∧ k ≤ 29 ∧ k ≤ kx ∧ Aside (a = db k ∧ b = dx k ∧ (k = 29 ∨ M < db (k + 1))) ∧ W = wr)
      case atStart => exact ⟨29, a0, b0, rfl, rfl, rfl, HA0.out.2.2, Nat.le_refl _, Nat.le_refl _, ⟨HA0.out.1, HA0.out.2.1, .inl rfl⟩, rfl⟩
      case round =>
        clear HA0
        obtain ⟨k, a, b, rfl, rfl, rfl, ha, hk, hkx, HR, rfl⟩ := hrel
        by_cases hlt : M < a
        · have hltz : (a : Int) > (M : Int) := by omega
          obtain ⟨j, rfl⟩ : ∃ j, k = j + 1 := ⟨k - 1, by
            rcases Nat.eq_zero_or_pos k with rfl | hp
            · have h0 : db 0 = 1 := rfl
              have := HR.out.1
              have := HM.out
              omega
            · omega⟩
          have HC := HB W j (by omega)
          have wj : IntKind.i64.wrap (((j + 1 : Nat) : Int) - 1) = (j : Int) := by rw [IntKind.wrap_i64]; omega
          have hbd := db_bd j (by omega)
          have HR2 : Aside (j = 29 ∨ M < db (j + 1)) := .inr (by rw [← HR.out.1]; exact hlt)
          obtain ⟨a2, ha2⟩ : ∃ a2, a2 = db j := ⟨_, rfl⟩
          obtain ⟨b2, hb2⟩ : ∃ b2, b2 = dx j := ⟨_, rfl⟩
          rw [← ha2, ← hb2] at HC
          rw [← ha2] at hbd
          have HA : Aside (a2 = db j ∧ b2 = dx j) := ⟨ha2, hb2⟩
          clear HR ha2 hb2
          go_wp2_with (go_at_call 32; refine HC.out.mono ?_; rintro e w1 ⟨rfl, rfl⟩)
          go_roundg j
          case measure => omega
          case rel => exact ⟨j, a2, b2, by go_num, by go_num, by go_num, hbd, by omega, Nat.le_refl _, ⟨HA.out.1, HA.out.2, HR2.out⟩, rfl⟩
        · have hltz : ¬ (a : Int) > (M : Int) := by omega
          have HE : Aside (r = ((k : Int), (b : Int), ((M - a : Nat) : Int))) := by
            show r = _
            obtain ⟨q1, q2, q3⟩ := HR.out
            rw [HF.out k hk (by omega) q3, ← q1, ← q2]
          have wm : IntKind.i64.wrap ((M : Int) - (a : Int)) = ((M - a : Nat) : Int) := by
            have := HM.out.2
            rw [IntKind.wrap_i64]; omega
          clear HR HF
          go_wp2_with fail
          go_ret3
          refine ⟨?_, rfl⟩
          rw [HE.out]
          rfl
end Go.Proofs.Ytenkbmkecgnfmaa.Lz
