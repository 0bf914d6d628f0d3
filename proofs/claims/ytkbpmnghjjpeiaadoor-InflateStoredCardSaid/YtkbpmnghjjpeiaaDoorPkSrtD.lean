/- The library's rotation of two neighbouring ranges, at elements of one cell. -/
import Derived.Test.YtkbpmnghjjpeiaaDoorPkSrtC
import Derived.Lib.Hide
namespace Go.Proofs.YtkbpmnghjjpeiaaDoor.Srt
open Go.Shelf Go.RowKit Go.Lib Go.Sort
variable {α : Type} [Inhabited α]

set_option maxHeartbeats 1000000 in
set_option maxRecDepth 1000000 in
theorem rotate_any (enc : α → Value) (fv : Value) (blk off cap a m b : Nat) (d0 d : Array α) (w0 w : World) (R : Row1 enc w0 blk off d0) (hs : d0.size = d.size) (S : SW enc w0 blk off d w) (ham : a < m) (hmb : m < b) (hb : b ≤ d.size) (hsz : d.size < 4611686018427387904) :
    Calls Tryd.prog 109 #[.slice (some ⟨blk, off, none⟩) d.size cap, .int .i64 a, .int .i64 m, .int .i64 b, fv] w fun e w' => e = .returned (.tuple #[]) ∧ ∃ d', Rot d d' a m b ∧ PermIn a b d d' ∧ SW enc w0 blk off d' w' := by
  have S0 : Aside (SW enc w0 blk off d w) := S
  have R0 : Aside (Row1 enc w0 blk off d0) := R
  clear S R
  obtain ⟨i0, hi0⟩ : ∃ q, q = m - a := ⟨_, rfl⟩
  obtain ⟨j0, hj0⟩ : ∃ q, q = b - m := ⟨_, rfl⟩
  have zi0 : IntKind.i64.wrap ((m : Int) - (a : Int)) = (i0 : Int) := by rw [IntKind.wrap_i64]; omega
  have zj0 : IntKind.i64.wrap ((b : Int) - (m : Int)) = (j0 : Int) := by rw [IntKind.wrap_i64]; omega
  have yi0 : (m : Int) - (a : Int) = (i0 : Int) := by omega
  have yj0 : (b : Int) - (m : Int) = (j0 : Int) := by omega
  have HI : Aside (i0 = m - a ∧ j0 = b - m) := ⟨hi0, hj0⟩
  clear hi0 hj0
  go_enter Tryd.func109, Tryd.ntmps109
  go_wp2
  clear zi0 zj0 yi0 yj0
  go_loopg [10, 11] (i0 + j0) (fun kx s10 s11 wr => ∃ (i j : Nat) (dk : Array α), s10 = .int .i64 i ∧ s11 = .int .i64 j ∧ 0 < i ∧ 0 < j ∧ a + i ≤ m ∧ m + j ≤ b ∧ i + j ≤ kx ∧ dk.size = d.size ∧ Aside (SW enc w0 blk off dk wr) ∧ Aside ((∀ X, Rot dk X (m - i) m (m + j) → Rot d X a m b) ∧ PermIn a b d dk))
  case atStart =>
    obtain ⟨e1, e2⟩ := HI.out
    refine ⟨i0, j0, d, rfl, rfl, by omega, by omega, by omega, by omega, Nat.le_refl _, rfl, S0, fun X h => ?_, permIn_refl d a b⟩
    rw [show m - i0 = a by omega, show m + j0 = b by omega] at h
    exact h
  case round =>
    clear S0 HI
    obtain ⟨i, j, dk, rfl, rfl, hi, hj, hai, hjb, hkx, hds, S1, HE⟩ := hrel
    obtain ⟨p, hp⟩ : ∃ q, q = m - i := ⟨_, rfl⟩
    have zp : IntKind.i64.wrap ((m : Int) - (i : Int)) = (p : Int) := by rw [IntKind.wrap_i64]; omega
    have yp : (m : Int) - (i : Int) = (p : Int) := by omega
    have HP : Aside (p = m - i) := hp
    by_cases heq : i = j
    · subst heq
      have hcon := swapRange_any enc fv blk off cap p m i d0 dk w0 wr R0.out (by omega) S1.out (by omega) (by omega) (by omega)
      rw [hds] at hcon
      have HC := Lib.hid hcon
      clear hcon S1 hp
      go_wp2_with (first | (go_at_call 114; refine HC.out.mono ?_; rintro e w2 ⟨rfl, d', q1, q2, q3⟩))
      go_end0
      have hp := HP.out
      subst hp
      refine ⟨rfl, d', HE.out.1 d' ?_, permIn_trans _ _ _ _ _ HE.out.2 (permIn_mono _ _ _ _ _ _ (by omega) (by omega) (by omega) q2), q3⟩
      exact Rot.of_swr (by omega) q1
    · have hz : ¬ (i : Int) = (j : Int) := by omega
      by_cases hgt : j < i
      · have hgz : (j : Int) < (i : Int) := by omega
        have hcon := swapRange_any enc fv blk off cap p m j d0 dk w0 wr R0.out (by omega) S1.out (by omega) (by omega) (by omega)
        rw [hds] at hcon
        have HC := Lib.hid hcon
        clear hcon S1 hp
        go_wp2_with (first | (go_at_call 114; refine HC.out.mono ?_; rintro e w2 ⟨rfl, d', q1, q2, q3⟩))
        have hp := HP.out
        subst hp
        go_roundg (i - j + j)
        case measure => omega
        case rel =>
          refine ⟨i - j, j, d', by go_num, rfl, by omega, hj, by omega, hjb, by omega, by rw [q1.size]; exact hds, q3, fun X r => HE.out.1 X (Rot.of_gt (by omega) hj hgt q1 r), permIn_trans _ _ _ _ _ HE.out.2 (permIn_mono _ _ _ _ _ _ (by omega) (by omega) (by omega) q2)⟩
      · have hgz : ¬ (j : Int) < (i : Int) := by omega
        obtain ⟨q, hq⟩ : ∃ q, q = m + j - i := ⟨_, rfl⟩
        have zq : IntKind.i64.wrap ((m : Int) + (j : Int) - (i : Int)) = (q : Int) := by rw [IntKind.wrap_i64]; omega
        have yq : (m : Int) + (j : Int) - (i : Int) = (q : Int) := by omega
        have zs : IntKind.i64.wrap ((m : Int) + (j : Int)) = (m : Int) + (j : Int) := by rw [IntKind.wrap_i64]; omega
        have HQ : Aside (q = m + j - i) := hq
        have hcon := swapRange_any enc fv blk off cap p q i d0 dk w0 wr R0.out (by omega) S1.out (by omega) (by omega) (by omega)
        rw [hds] at hcon
        have HC := Lib.hid hcon
        clear hcon S1 hp hq
        go_wp2_with (first | (go_at_call 114; refine HC.out.mono ?_; rintro e w2 ⟨rfl, d', q1, q2, q3⟩))
        have hp := HP.out
        have hq := HQ.out
        subst hp hq
        go_roundg (i + (j - i))
        case measure => omega
        case rel =>
          refine ⟨i, j - i, d', rfl, by go_num, hi, by omega, hai, by omega, Nat.le_refl _, by rw [q1.size]; exact hds, q3, fun X r => HE.out.1 X (Rot.of_lt (by omega) hi (by omega) q1 r), permIn_trans _ _ _ _ _ HE.out.2 (permIn_mono _ _ _ _ _ _ (by omega) (by omega) (by omega) q2)⟩
end Go.Proofs.YtkbpmnghjjpeiaaDoor.Srt
