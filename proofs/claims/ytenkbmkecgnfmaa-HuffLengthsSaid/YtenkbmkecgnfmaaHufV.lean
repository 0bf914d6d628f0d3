/- Package huff's Lengths, whatever it is handed. -/
import Derived.Test.YtenkbmkecgnfmaaHufU
namespace Go.Proofs.Ytenkbmkecgnfmaa.Huf
open Go.RowKit Go.Shelf Go.Lib Go.Proofs.Ytenkbmkecgnfmaa.Mem

set_option maxHeartbeats 4000000 in
theorem lengths_any (W : World) (v : Value) (l : List Int) (limit : Int) (hs : SrcI W v l) (hl : l.length ≤ 17592186044416) :
    Calls Try.prog 11 #[v, .int .i64 limit] W fun e w' => ∃ u, e = .returned (.tuple #[u, .int .i64 (lengthsR l limit).2]) ∧ w'.ownsRow W.heap.size 3 1 u (lengthsR l limit).1.length (iVs (lengthsR l limit).1) ∧ Below W.heap.size W w' := by
  by_cases hA : l.all okCount = true ∧ l.length ≤ 320 ∧ 1 ≤ limit ∧ limit ≤ 15 ∧ (rankL l).length ≤ 2 ^ limit.toNat
  · obtain ⟨a1, a2, a3, a4, a5⟩ := hA
    obtain ⟨L, rfl⟩ : ∃ L : Nat, limit = (L : Int) := ⟨limit.toNat, by omega⟩
    have ha : Able l L := ⟨a1, a2, by omega, by omega, by simpa using a5⟩
    rw [lengthsR_able ha]
    exact lengths_able W v l L hs ha
  · have hr : lengthsR l limit = ([], 1) := by unfold lengthsR; rw [if_neg hA]
    rw [hr]
    have hmc := mayCount_any W v l hs hl
    by_cases h0 : l.all okCount = true ∧ l.length ≤ 320
    · rw [h0.1, decide_eq_true h0.2] at hmc
      have HMC := Lib.hid hmc
      by_cases h1 : limit < 1
      · clear hmc hs hA hr h0
        go_enter Try.func11, Try.ntmps11
        go_wp2_with (first | (go_at_call 33; refine HMC.out.mono ?_; rintro e w1 ⟨rfl, rfl⟩))
        go_ret2
        exact ⟨_, rfl, own_nilI _ _, Below.refl _ _⟩
      · by_cases h2 : limit > 15
        · have h3 : (15 : Int) < limit := h2
          clear hmc hs hA hr h0
          go_enter Try.func11, Try.ntmps11
          go_wp2_with (first | (go_at_call 33; refine HMC.out.mono ?_; rintro e w1 ⟨rfl, rfl⟩))
          go_ret2
          exact ⟨_, rfl, own_nilI _ _, Below.refl _ _⟩
        · have h3 : ¬ (15 : Int) < limit := h2
          obtain ⟨L, rfl⟩ : ∃ L : Nat, limit = (L : Int) := ⟨limit.toNat, by omega⟩
          obtain ⟨P, hP⟩ : ∃ P, P = 2 ^ L := ⟨_, rfl⟩
          have hkP : P < (rankL l).length := by
            rcases Nat.lt_or_ge P (rankL l).length with q | q
            · exact q
            · exact absurd ⟨h0.1, h0.2, by omega, by omega, by rw [Int.toNat_natCast, ← hP]; exact q⟩ hA
          have hP2 : P ≤ 32768 := by
            rw [hP]
            exact Nat.le_trans (Nat.pow_le_pow_right (by decide) (show L ≤ 15 by omega)) (by decide)
          have zP : (2 : Int) ^ L = (P : Int) := by rw [hP, Int.natCast_pow]; rfl
          have wP : IntKind.i64.wrap (P : Int) = (P : Int) := by rw [IntKind.wrap_i64]; omega
          have HR := Lib.hid (ranked_any W v l hs (by omega))
          have hL0 : (0 : Int) ≤ (L : Int) := by omega
          obtain ⟨ao, c, rfl, -⟩ := hs.shape
          have HMK : Aside (∀ W1 : World, ∃ g vm W2, vm = .slice (some ⟨g, 0, none⟩) l.length l.length ∧ (Instr.makeSlice 22 (.int .i64 (l.length : Int)) (.int .i64 (l.length : Int))).run Try.prog W1 = .ok vm W2 ∧ Below W1.heap.size W1 W2) := fun W1 => by
            obtain ⟨vm, W2, q1, q2, q3, g, hg⟩ := makeI_any W1 l.length (by omega)
            exact ⟨g, vm, W2, hg, q1, q3⟩
          obtain ⟨k, hkk⟩ : ∃ k, k = (rankL l).length := ⟨_, rfl⟩
          rw [← hkk] at hkP HR
          have hkz : (k : Int) > (P : Int) := by omega
          have hky : (P : Int) < (k : Int) := by omega
          clear hmc hs hA hr h0 hP hkk
          go_enter Try.func11, Try.ntmps11
          go_upto_region 4 with (first
            | (go_at_call 33; refine HMC.out.mono ?_; rintro e w1 ⟨rfl, rfl⟩)
            | (go_at_call 34; refine HR.out.mono ?_; rintro e w2 ⟨u, rfl, hu, hb⟩; obtain ⟨uo, cap, rfl, hcap, hcm, hnone⟩ := own_shape hu))
          obtain ⟨g, vm, W2, rfl, m1, m2⟩ := HMK.out w2
          have HB : Aside (Below W.heap.size W W2) := hb.trans (m2.mono hb.size)
          clear hu hb hnone m2
          go_wp2_with fail
          go_ret2
          exact ⟨_, rfl, own_nilI _ _, HB.out⟩
    · have hf : (l.all okCount && decide (l.length ≤ 320)) = false := by
        cases h : (l.all okCount && decide (l.length ≤ 320)) with
        | false => rfl
        | true =>
          rw [Bool.and_eq_true] at h
          exact absurd ⟨h.1, of_decide_eq_true h.2⟩ h0
      rw [hf] at hmc
      have HMC := Lib.hid hmc
      clear hmc hs hA hr h0 hf
      go_enter Try.func11, Try.ntmps11
      go_wp2_with (first | (go_at_call 33; refine HMC.out.mono ?_; rintro e w1 ⟨rfl, rfl⟩))
      go_ret2
      exact ⟨_, rfl, own_nilI _ _, Below.refl _ _⟩
end Go.Proofs.Ytenkbmkecgnfmaa.Huf
