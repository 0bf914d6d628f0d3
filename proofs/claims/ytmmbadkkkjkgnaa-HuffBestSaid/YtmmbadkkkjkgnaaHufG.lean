/- HuffBest's cost of lengths, and what Lengths answers. -/
import Derived.Test.YtmmbadkkkjkgnaaHufZ
import Derived.Test.YtmmbadkkkjkgnaaHufW
import Derived.Test.YtmmbadkkkjkgnaaHufFl
namespace Go.Proofs.Ytmmbadkkkjkgnaa.Huf
open Go.RowKit Go.Shelf Go.Lib Go.Proofs.Ytmmbadkkkjkgnaa.Mem
open Go.ChangeShapes Go.WideShapes Go.ChangeAt

theorem two_pow_w (n : Nat) (h0 : 0 < n) : (2 : Int) ^ (15 - n) = (w15 n : Int) := by
  rw [w15_pos h0, Int.natCast_pow]
  rfl
open Classical in
/-- Are they lengths for these counts? -/
noncomputable def trialB (c t : List Int) (L : Nat) : Bool := decide (Trial c t L)
theorem trialB_yes {c t : List Int} {L : Nat} (h : Trial c t L) : trialB c t L = true := by unfold trialB; simp [h]
theorem trialB_no {c t : List Int} {L : Nat} (h : ¬ Trial c t L) : trialB c t L = false := by unfold trialB; simp [h]
/-- The first i lengths could be. -/
def Upto (c t : List Int) (L i : Nat) : Prop := ∀ j, j < i → 0 ≤ numAt t j ∧ numAt t j ≤ L ∧ (numAt c j ≠ 0 → numAt t j ≠ 0)
theorem Upto.succ {c t : List Int} {L i : Nat} (h : Upto c t L i) (h1 : 0 ≤ numAt t i ∧ numAt t i ≤ L ∧ (numAt c i ≠ 0 → numAt t i ≠ 0)) : Upto c t L (i + 1) := fun j hj => by
  rcases Nat.lt_or_ge j i with q | q
  · exact h j q
  · obtain rfl : j = i := by omega
    exact h1

set_option maxHeartbeats 8000000 in
set_option maxRecDepth 100000 in
theorem cost_any (W : World) (v1 v2 : Value) (c t : List Int) (L : Nat) (h1 : SrcI W v1 c) (h2 : SrcI W v2 t) (hc : c.all okCount = true) (hn : c.length ≤ 320) (hL : L ≤ 15) :
    Calls Try.prog 16 #[v1, v2, .int .i64 (L : Int)] W fun e w' => ∃ (a : Int), e = .returned (.tuple #[.int .i64 a, .bool (trialB c t L)]) ∧ Aside (Trial c t L → a = (costN c t : Int)) ∧ Drew W w' := by
  obtain ⟨a1, c1, rfl, g1⟩ := h1.shape
  obtain ⟨a2, c2, rfl, g2⟩ := h2.shape
  have H1 : Aside (SrcI W (.slice a1 c.length c1) c ∧ (0 < c.length → ∃ a, a1 = some a)) := ⟨h1, g1⟩
  have H2 : Aside (SrcI W (.slice a2 t.length c2) t ∧ (0 < t.length → ∃ a, a2 = some a)) := ⟨h2, g2⟩
  have HC : Aside (c.all okCount = true) := hc
  clear h1 h2 g1 g2 hc
  by_cases hlen : c.length = t.length
  · have HLN : Aside (t.length = c.length) := hlen.symm
    go_enter Try.func16, Try.ntmps16
    rw [← hlen] at H2 ⊢
    clear hlen
    go_wp2_with fail
    go_loopg [8, 9, 10] c.length (fun kx s8 s9 s10 wr => ∃ (i n w : Nat), s8 = .int .i64 n ∧ s9 = .int .i64 w ∧ s10 = .int .i64 i ∧ i ≤ c.length ∧ c.length - i ≤ kx ∧ Aside (Drew W wr ∧ Upto c t L i ∧ n = sumN (fun j => valOf c j * lenN t j) i ∧ w = sumN (fun j => w15 (lenN t j)) i ∧ n ≤ 16492674416640 * i))
    case atStart => exact ⟨0, 0, 0, rfl, rfl, rfl, Nat.zero_le _, Nat.le_refl _, Drew.refl _, fun j hj => by omega, rfl, rfl, Nat.le_refl _⟩
    case round =>
      obtain ⟨i, n, w, rfl, rfl, rfl, hi, hkx, HR⟩ := hrel
      by_cases hlt : i < c.length
      · have hltz : (i : Int) < (c.length : Int) := by omega
        have i0 : (0 : Int) ≤ (i : Int) := by omega
        obtain ⟨p1, rfl⟩ := H1.out.2 (by omega)
        obtain ⟨p2, rfl⟩ := H2.out.2 (by have := HLN.out; omega)
        have hit : i < t.length := by have := HLN.out; omega
        have hcv := okCount_at HC.out hlt
        obtain ⟨cv, hcv1⟩ : ∃ cv : Nat, cv = valOf c i := ⟨_, rfl⟩
        have hcv2 : numAt c i = (cv : Int) := by rw [hcv1]; unfold valOf; omega
        have hcv3 : cv ≤ 1099511627776 := by omega
        have K1 : ∀ q, (wr.drewN q).cell? (p1.add i) = some (.int .i64 (cv : Int)) := fun q => by
          rw [← hcv2, numAt_eq c i hlt]
          exact ((HR.out.1.trans (Drew.drewN wr q)).cell).trans (srci_cell H1.out.1 i hlt)
        have K1a : wr.cell? (p1.add i) = some (.int .i64 (cv : Int)) := K1 0
        obtain ⟨z, hz⟩ : ∃ z, z = numAt t i := ⟨_, rfl⟩
        have K2 : ∀ q, (wr.drewN q).cell? (p2.add i) = some (.int .i64 z) := fun q => by
          rw [hz, numAt_eq t i hit]
          exact ((HR.out.1.trans (Drew.drewN wr q)).cell).trans (srci_cell H2.out.1 i hit)
        have K2a : wr.cell? (p2.add i) = some (.int .i64 z) := K2 0
        have HZ : Aside (z = numAt t i ∧ numAt c i = (cv : Int) ∧ cv = valOf c i ∧ i < c.length) := ⟨hz, hcv2, hcv1, hlt⟩
        have bad : ¬ (0 ≤ z ∧ z ≤ L ∧ ((cv : Int) ≠ 0 → z ≠ 0)) → ¬ Trial c t L := fun hb h => hb (by
          have := h.at_ i hlt
          rw [← hz, hcv2] at this
          exact this)
        have HB : Aside _ := bad
        have wi : IntKind.i64.wrap ((i : Int) + 1) = (i : Int) + 1 := by rw [IntKind.wrap_i64]; omega
        clear hz hcv hcv1 hcv2 bad hit
        have fin : ∀ q, Aside (Drew W (wr.drewN q)) := fun q => HR.out.1.trans (Drew.drewN _ _)
        by_cases hz0 : z < 0
        · go_wp2_with fail
          go_ret2
          exact ⟨_, by rw [trialB_no (HB.out (fun h => by omega))]; rfl, fun h => absurd h (HB.out (fun h => by omega)), HR.out.1⟩
        · by_cases hzL : z > (L : Int)
          · have hzL2 : (L : Int) < z := hzL
            go_wp2_with fail
            go_ret2
            exact ⟨_, by rw [trialB_no (HB.out (fun h => by omega))]; rfl, fun h => absurd h (HB.out (fun h => by omega)), HR.out.1⟩
          · have hzL2 : ¬ (L : Int) < z := hzL
            obtain ⟨m, hm⟩ : ∃ m : Nat, z = (m : Int) := ⟨z.toNat, by omega⟩
            subst hm
            have hmL : m ≤ L := by omega
            by_cases hbad : cv ≠ 0 ∧ m = 0
            · obtain ⟨hb1, hb2⟩ := hbad
              subst hb2
              have hb1z : ¬ (cv : Int) = 0 := by omega
              have hb1b : ((cv : Int) != 0) = true := by rw [bne_iff_ne]; exact hb1z
              have hb1c : (cv != 0) = true := by rw [bne_iff_ne]; exact hb1
              go_wp2_with fail
              go_ret2
              have hnt := HB.out (fun h => by have := h.2.2 (by omega); simp at this)
              exact ⟨_, by rw [trialB_no hnt]; rfl, fun h => absurd h hnt, HR.out.1⟩
            · have hgood : cv = 0 ∨ ¬ m = 0 := by omega
              have hup : Upto c t L (i + 1) := HR.out.2.1.succ (by
                obtain ⟨e1, e2, e3, e4⟩ := HZ.out
                rw [← e1, e2]
                exact ⟨by omega, by omega, fun h => by omega⟩)
              have hlm : lenN t i = m := by unfold lenN; rw [← HZ.out.1]; exact Int.toNat_natCast m
              have hsn : n + cv * m = sumN (fun j => valOf c j * lenN t j) (i + 1) := by
                simp only [sumN]
                rw [← HR.out.2.2.1, hlm, ← HZ.out.2.2.1]
              have hsw : w + w15 m = sumN (fun j => w15 (lenN t j)) (i + 1) := by
                simp only [sumN]
                rw [← HR.out.2.2.2.1, hlm]
              obtain ⟨pr, hpr⟩ : ∃ pr, pr = cv * m := ⟨_, rfl⟩
              have hprb : pr ≤ 16492674416640 := by
                rw [hpr]
                exact Nat.le_trans (Nat.mul_le_mul hcv3 (show m ≤ 15 by omega)) (by decide)
              have hnb := HR.out.2.2.2.2
              have hwb : w ≤ 32768 * i := by rw [HR.out.2.2.2.1]; exact sumN_bound (fun j => w15_le _) i
              have zpr : (cv : Int) * (m : Int) = (pr : Int) := by rw [hpr, Int.natCast_mul]
              have wpr : IntKind.i64.wrap (pr : Int) = (pr : Int) := by rw [IntKind.wrap_i64]; omega
              have wn : IntKind.i64.wrap ((n : Int) + (pr : Int)) = (n : Int) + (pr : Int) := by rw [IntKind.wrap_i64]; omega
              rw [← hpr] at hsn
              obtain ⟨ww, hww⟩ : ∃ ww, ww = w15 m := ⟨_, rfl⟩
              rw [← hww] at hsw
              have HS : Aside (Upto c t L (i + 1) ∧ n + pr = sumN (fun j => valOf c j * lenN t j) (i + 1) ∧ w + ww = sumN (fun j => w15 (lenN t j)) (i + 1) ∧ n + pr ≤ 16492674416640 * (i + 1)) := ⟨hup, hsn, hsw, by omega⟩
              have hwwb : ww ≤ 32768 := by rw [hww]; exact w15_le m
              have wwz : IntKind.i64.wrap ((w : Int) + (ww : Int)) = (w : Int) + (ww : Int) := by rw [IntKind.wrap_i64]; omega
              clear hup hsn hsw hlm hpr hbad
              by_cases hm0 : m = 0
              · subst hm0
                have hcv0 : cv = 0 := by omega
                subst hcv0
                have hww0 : ww = 0 := by rw [hww]; rfl
                have hpr0 : pr = 0 := by omega
                subst hww0 hpr0
                clear hww zpr wpr hgood
                go_wp2_with fail
                go_quiet (fail)
                go_wp2_with fail
                go_roundg (c.length - (i + 1))
                case measure => omega
                case rel => exact ⟨i + 1, n + 0, w + 0, by go_num, by go_num, by go_num, by omega, Nat.le_refl _, (fin _).out, HS.out.1, HS.out.2.1, HS.out.2.2.1, HS.out.2.2.2⟩
              · have hmz : ¬ (m : Int) = 0 := by omega
                have hmp : 0 < m := by omega
                have hmpz : (0 : Int) < (m : Int) := by omega
                have hmpz2 : (m : Int) > 0 := by omega
                obtain ⟨d, hd⟩ : ∃ d, d = 15 - m := ⟨_, rfl⟩
                have zd : (15 : Int) - (m : Int) = (d : Int) := by omega
                have wd : IntKind.i64.wrap ((15 : Int) - (m : Int)) = (d : Int) := by rw [IntKind.wrap_i64]; omega
                have wd2 : IntKind.u64.wrap (d : Int) = (d : Int) := by rw [IntKind.wrap_u64]; omega
                have wd3 : IntKind.i64.wrap (d : Int) = (d : Int) := by rw [IntKind.wrap_i64]; omega
                have zw : (2 : Int) ^ d = (ww : Int) := by rw [hd, two_pow_w m hmp, hww]
                have zw2 : IntKind.i64.wrap (ww : Int) = (ww : Int) := by rw [IntKind.wrap_i64]; omega
                have hmb : ((m : Int) == 0) = false := by rw [beq_eq_false_iff_ne]; exact hmz
                have hmc : (m == 0) = false := by rw [beq_eq_false_iff_ne]; exact hm0
                clear hww hd hgood
                by_cases hcv0 : cv = 0
                · have hpr0 : pr = 0 := by
                    subst hcv0
                    have : (pr : Int) = 0 := by rw [← zpr]; simp
                    omega
                  subst hcv0 hpr0
                  clear zpr wpr
                  go_wp2_with fail
                  go_quiet (fail)
                  go_wp2_with fail
                  go_roundg (c.length - (i + 1))
                  case measure => omega
                  case rel => exact ⟨i + 1, n + 0, w + ww, by go_num, by go_num, by go_num, by omega, Nat.le_refl _, (fin _).out, HS.out.1, HS.out.2.1, HS.out.2.2.1, HS.out.2.2.2⟩
                · have hcvz : ¬ (cv : Int) = 0 := by omega
                  have hcvb : ((cv : Int) != 0) = true := by rw [bne_iff_ne]; exact hcvz
                  have hcvc : (cv != 0) = true := by rw [bne_iff_ne]; exact hcv0
                  go_wp2_with fail
                  go_quiet (fail)
                  go_wp2_with fail
                  go_roundg (c.length - (i + 1))
                  case measure => omega
                  case rel => exact ⟨i + 1, n + pr, w + ww, by go_num, by go_num, by go_num, by omega, Nat.le_refl _, (fin _).out, HS.out.1, HS.out.2.1, HS.out.2.2.1, HS.out.2.2.2⟩
      · obtain rfl : i = c.length := by omega
        have hltz : ¬ (c.length : Int) < (c.length : Int) := by omega
        obtain ⟨r1, r2, r3, r4, -⟩ := HR.out
        have ht : w ≤ 32768 ↔ Trial c t L := by
          constructor
          · intro h
            exact ⟨HLN.out, r2, by unfold weightN; rw [← r4]; exact h⟩
          · intro h
            have := h.w
            unfold weightN at this
            rw [r4]
            exact this
        have HT : Aside ((w ≤ 32768 ↔ Trial c t L) ∧ n = costN c t) := ⟨ht, r3⟩
        clear ht r2 r3 r4
        by_cases hw : w ≤ 32768
        · have hwz : (w : Int) ≤ 32768 := by omega
          go_wp2_with fail
          go_ret2
          exact ⟨_, by rw [trialB_yes (HT.out.1.1 hw)]; rfl, fun _ => by rw [HT.out.2], r1⟩
        · have hwz : ¬ (w : Int) ≤ 32768 := by omega
          go_wp2_with fail
          go_ret2
          exact ⟨_, by rw [trialB_no (fun h => hw (HT.out.1.2 h))]; rfl, fun h => absurd (HT.out.1.2 h) hw, r1⟩
  · have hlz : ¬ (c.length : Int) = (t.length : Int) := by omega
    have hlb : ((c.length : Int) != (t.length : Int)) = true := by rw [bne_iff_ne]; exact hlz
    go_enter Try.func16, Try.ntmps16
    go_wp2_with fail
    go_ret2
    exact ⟨_, by rw [trialB_no (fun h => hlen h.n.symm)]; rfl, fun h => absurd h.n.symm hlen, Drew.refl _⟩

theorem out_fine {c : List Int} {L : Nat} (h : Able c L) : Fine (lensOut c L) := by
  have hl := out_len c L
  have hhi := h.hi
  refine ⟨by rw [hl]; exact h.n, fun i hi => ?_, by rw [hl]; exact (out_trial h).w⟩
  obtain ⟨h1, h2, -⟩ := out_sym h (by rw [← hl]; exact hi)
  omega
theorem out_weightR {c : List Int} {L : Nat} (h : Able c L) (h2 : 2 ≤ (rankL c).length) : weightR (lensOut c L) = (32768, true) := by
  have hf := out_fine h
  have hw := out_full h h2
  have h3 := (fine_iff _).2 hf
  unfold weightR at h3 ⊢
  split at h3
  · rename_i h4
    rw [if_pos h4, out_len, hw]
    rfl
  · cases h3
/-- How many of the first i counts are not 0. -/
def someN (c : List Int) (i : Nat) : Nat := sumN (fun j => if numAt c j = 0 then 0 else 1) i
theorem someN_le (c : List Int) (i : Nat) : someN c i ≤ i := by
  have := sumN_bound (f := fun j => if numAt c j = 0 then 0 else 1) (c := 1) (fun j => by split <;> omega) i
  unfold someN
  omega
theorem someN_all (c : List Int) : someN c c.length = (rankL c).length := by
  unfold someN
  rw [sum_rank c _ (fun i hi hn => by
    have : numAt c i = 0 := by
      rcases Classical.em (numAt c i = 0) with e | e
      · exact e
      · exact absurd ((rankL_mem c i).2 ⟨hi, e⟩) hn
    exact if_pos this)]
  have : (rankL c).map (fun j => if numAt c j = 0 then 0 else 1) = (rankL c).map (fun _ => 1) := List.map_congr_left fun i hi => if_neg ((rankL_mem c i).1 hi).2
  rw [this]
  generalize rankL c = r
  induction r with
  | nil => rfl
  | cons x r ih => simp only [List.map_cons, tot, ih, List.length_cons]; omega
end Go.Proofs.Ytmmbadkkkjkgnaa.Huf
