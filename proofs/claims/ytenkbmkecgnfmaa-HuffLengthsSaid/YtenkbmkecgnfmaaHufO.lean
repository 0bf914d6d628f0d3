/- Package huff's weight: what lengths weigh, and whether they may be. -/
import Derived.Test.YtenkbmkecgnfmaaHufN
import Derived.Test.YtenkbmkecgnfmaaHufA
namespace Go.Proofs.Ytenkbmkecgnfmaa.Huf
open Go.RowKit Go.Shelf Go.Lib Go.Proofs.Ytenkbmkecgnfmaa.Mem

def lenN (l : List Int) (i : Nat) : Nat := (numAt l i).toNat
def okLen (z : Int) : Bool := decide (0 ≤ z ∧ z ≤ 15)
/-- The weight of lengths; false: they may not be. -/
def weightR (l : List Int) : Int × Bool := if l.length ≤ 320 ∧ l.all okLen = true then ((weightN (lenN l) l.length : Nat), decide (weightN (lenN l) l.length ≤ 32768)) else (0, false)

theorem w15_shr (n : Nat) (h0 : 0 < n) (h : n ≤ 15) : (32768 : Int) / 2 ^ n = (w15 n : Int) := by
  have : n = 1 ∨ n = 2 ∨ n = 3 ∨ n = 4 ∨ n = 5 ∨ n = 6 ∨ n = 7 ∨ n = 8 ∨ n = 9 ∨ n = 10 ∨ n = 11 ∨ n = 12 ∨ n = 13 ∨ n = 14 ∨ n = 15 := by omega
  rcases this with rfl | rfl | rfl | rfl | rfl | rfl | rfl | rfl | rfl | rfl | rfl | rfl | rfl | rfl | rfl <;> decide
theorem w15_le (n : Nat) : w15 n ≤ 32768 := by
  unfold w15
  split
  · omega
  · exact Nat.le_trans (Nat.pow_le_pow_right (by decide) (show 15 - n ≤ 15 by omega)) (by decide)
theorem sumN_bound {f : Nat → Nat} {c : Nat} (h : ∀ j, f j ≤ c) : ∀ n, sumN f n ≤ c * n
  | 0 => Nat.zero_le _
  | n + 1 => by
    have := sumN_bound h n
    have := h n
    simp only [sumN]
    rw [Nat.mul_add, Nat.mul_one]
    omega
theorem all_take (l : List Int) (i : Nat) (h : i < l.length) : (l.take (i + 1)).all okLen = ((l.take i).all okLen && okLen (numAt l i)) := by
  rw [List.take_succ_eq_append_getElem h, List.all_append, numAt_eq l i h]
  simp
theorem not_all_at (l : List Int) (i : Nat) (h : i < l.length) (hb : okLen (numAt l i) = false) : ¬ l.all okLen = true := fun q => by
  rw [List.all_eq_true] at q
  have := q _ (List.getElem_mem h)
  rw [← numAt_eq l i h, hb] at this
  cases this

set_option maxHeartbeats 4000000 in
theorem weight_any (W : World) (v : Value) (l : List Int) (hs : SrcI W v l) (hl : l.length ≤ 17592186044416) :
    Calls Try.prog 53 #[v] W fun e w' => e = .returned (.tuple #[.int .i64 (weightR l).1, .bool (weightR l).2]) ∧ W = w' := by
  obtain ⟨ao, c, rfl, hao⟩ := hs.shape
  have HS : Aside (SrcI W (.slice ao l.length c) l) := hs
  have HL : Aside (0 < l.length → ∃ a, ao = some a) := hao
  clear hs hao
  go_enter Try.func53, Try.ntmps53
  by_cases h320 : l.length ≤ 320
  · have hz320 : ¬ (l.length : Int) > 320 := by omega
    have hz321 : ¬ (320 : Int) < (l.length : Int) := by omega
    go_wp2_with fail
    go_loopg [4, 12] l.length (fun kx s4 s12 wr => ∃ (i s : Nat), s12 = .int .i64 i ∧ s4 = .int .i64 s ∧ i ≤ l.length ∧ l.length - i ≤ kx ∧ wr = W ∧ Aside ((l.take i).all okLen = true ∧ s = weightN (lenN l) i))
    case atStart => exact ⟨0, 0, rfl, rfl, Nat.zero_le _, Nat.le_refl _, rfl, rfl, rfl⟩
    case round =>
      obtain ⟨i, s, rfl, rfl, hi, hkx, rfl, HR⟩ := hrel
      by_cases hlt : i < l.length
      · obtain ⟨a, rfl⟩ := HL.out (by omega)
        have hc : wr.cell? (a.add i) = some (.int .i64 (numAt l i)) := by rw [numAt_eq l i hlt]; exact srci_cell HS.out i hlt
        obtain ⟨z, hz⟩ : ∃ z, z = numAt l i := ⟨_, rfl⟩
        rw [← hz] at hc
        have HZ := Lib.hid hz
        have hltz : (i : Int) < (l.length : Int) := by omega
        have hsb : s ≤ 32768 * 320 := by
          rw [HR.out.2]
          exact Nat.le_trans (sumN_bound (fun j => w15_le _) i) (Nat.mul_le_mul_left _ (by omega))
        clear hz
        by_cases hneg : z < 0
        · go_wp2_with fail
          go_ret2
          refine ⟨?_, rfl⟩
          unfold weightR
          rw [if_neg (fun h => not_all_at l i hlt (decide_eq_false (by rw [← HZ.out]; omega)) h.2)]
          rfl
        · by_cases hbig : z > 15
          · have hbig2 : (15 : Int) < z := hbig
            go_wp2_with fail
            go_ret2
            refine ⟨?_, rfl⟩
            unfold weightR
            rw [if_neg (fun h => not_all_at l i hlt (decide_eq_false (by rw [← HZ.out]; omega)) h.2)]
            rfl
          · have hbig2 : ¬ (15 : Int) < z := hbig
            have hall : (l.take (i + 1)).all okLen = true := by
              rw [all_take l i hlt, HR.out.1, ← HZ.out]
              exact decide_eq_true (by omega)
            have HA : Aside _ := hall
            clear hall
            by_cases h0 : z = 0
            · go_wp2_with fail
              go_roundg (l.length - (i + 1))
              case measure => omega
              case rel =>
                refine ⟨i + 1, s, by go_num, rfl, by omega, Nat.le_refl _, rfl, HA.out, ?_⟩
                rw [HR.out.2]
                unfold weightN
                simp only [sumN]
                have : lenN l i = 0 := by unfold lenN; rw [← HZ.out, h0]; rfl
                rw [this]
                rfl
            · obtain ⟨n, hn⟩ : ∃ n : Nat, z = (n : Int) := ⟨z.toNat, by omega⟩
              have HN := Lib.hid hn
              subst hn
              have hw := w15_shr n (by omega) (by omega)
              obtain ⟨m, hm⟩ : ∃ m, m = w15 n := ⟨_, rfl⟩
              rw [← hm] at hw
              have hm2 : m ≤ 32768 := by rw [hm]; exact w15_le n
              have HM := Lib.hid hm
              have wsum : IntKind.i64.wrap ((s : Int) + (m : Int)) = (s : Int) + (m : Int) := by rw [IntKind.wrap_i64]; omega
              have wm : IntKind.i64.wrap (m : Int) = (m : Int) := by rw [IntKind.wrap_i64]; omega
              have n0 : (0 : Int) ≤ (n : Int) := by omega
              clear hm
              go_wp2_with fail
              go_roundg (l.length - (i + 1))
              case measure => omega
              case rel =>
                refine ⟨i + 1, s + m, by go_num, by go_num, by omega, Nat.le_refl _, rfl, HA.out, ?_⟩
                rw [HR.out.2, HM.out]
                unfold weightN
                simp only [sumN]
                have : lenN l i = n := by unfold lenN; rw [← HZ.out]; exact Int.toNat_natCast n
                rw [this]
      · obtain rfl : i = l.length := by omega
        have hltz : ¬ (l.length : Int) < (l.length : Int) := by omega
        obtain ⟨h1, h2⟩ := HR.out
        rw [List.take_length] at h1
        have hw : weightR l = ((s : Int), decide ((s : Int) ≤ 32768)) := by
          unfold weightR
          rw [if_pos ⟨h320, h1⟩, ← h2]
          have e : (s ≤ 32768) = ((s : Int) ≤ 32768) := by simp only [eq_iff_iff]; omega
          simp only [e]
        have HW := Lib.hid hw
        clear h1 h2 hw
        by_cases hf : (s : Int) ≤ 32768
        · go_wp2_with fail
          go_ret2
          refine ⟨?_, rfl⟩
          rw [HW.out]
          simp [hf]
        · go_wp2_with fail
          go_ret2
          refine ⟨?_, rfl⟩
          rw [HW.out]
          simp [hf]
  · have hz320 : (l.length : Int) > 320 := by omega
    have hz321 : (320 : Int) < (l.length : Int) := by omega
    go_wp2_with fail
    go_ret2
    refine ⟨?_, rfl⟩
    unfold weightR
    rw [if_neg (fun h => h320 h.1)]
    rfl

end Go.Proofs.Ytenkbmkecgnfmaa.Huf
