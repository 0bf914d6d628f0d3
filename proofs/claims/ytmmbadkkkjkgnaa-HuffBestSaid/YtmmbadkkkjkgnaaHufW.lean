/- The lengths that Lengths answers: they may be, they leave nothing, and none cost less (no program). -/
import Derived.Test.YtmmbadkkkjkgnaaHufT
import Derived.Test.YtmmbadkkkjkgnaaHufP
namespace Go.Proofs.Ytmmbadkkkjkgnaa.Huf

theorem tot_range (f : Nat → Nat) : ∀ n, sumN f n = tot ((List.range n).map f)
  | 0 => rfl
  | n + 1 => by
    rw [List.range_succ, List.map_append, tot_append, ← tot_range f n]
    simp [sumN, tot]
theorem tot_filter (f : Nat → Nat) (p : Nat → Bool) : ∀ l : List Nat, (∀ i ∈ l, p i = false → f i = 0) → tot (l.map f) = tot ((l.filter p).map f)
  | [], _ => rfl
  | x :: l, h => by
    have ih := tot_filter f p l (fun i hi => h i (List.mem_cons_of_mem _ hi))
    rw [List.filter_cons, List.map_cons]
    split
    · simp only [tot, List.map_cons, ih]
    · rename_i hp
      have := h x (List.mem_cons_self ..) (by simpa using hp)
      simp only [tot, this, ih, Nat.zero_add]
/-- A sum over all places is one over the ranked ones, where it is 0 elsewhere. -/
theorem sum_rank (l : List Int) (f : Nat → Nat) (h : ∀ i, i < l.length → i ∉ rankL l → f i = 0) : sumN f l.length = tot ((rankL l).map f) := by
  rw [tot_range, tot_filter f (fun i => decide (i ∈ rankL l)) _ (fun i hi hp => h i (List.mem_range.1 hi) (of_decide_eq_false hp))]
  refine tot_perm ((List.Perm.map f) ?_)
  refine (List.perm_ext_iff_of_nodup (List.nodup_range.filter _) (rankL_nodup l)).2 fun i => ?_
  rw [List.mem_filter, List.mem_range]
  constructor
  · rintro ⟨_, h2⟩; exact of_decide_eq_true h2
  · intro h2; exact ⟨((rankL_mem l i).1 h2).1, decide_eq_true h2⟩
theorem sum_rank_le (l : List Int) (f : Nat → Nat) : tot ((rankL l).map f) ≤ sumN f l.length := by
  have h := sum_rank l (fun i => if i ∈ rankL l then f i else 0) (fun i _ hn => if_neg hn)
  have h2 : (rankL l).map (fun i => if i ∈ rankL l then f i else 0) = (rankL l).map f := List.map_congr_left (fun i hi => if_pos hi)
  rw [h2] at h
  rw [← h]
  refine sumN_le _ fun j _ => ?_
  split
  · exact Nat.le_refl _
  · exact Nat.zero_le _
theorem costL_tot (g : Nat → Nat × Nat) : ∀ r : List Nat, costL (r.map g) = tot (r.map fun i => (g i).1 * (g i).2)
  | [] => rfl
  | x :: r => by simp only [List.map_cons, costL, tot, costL_tot g r]
theorem spend_tot (L : Nat) (g : Nat → Nat × Nat) (hL : L ≤ 15) : ∀ r : List Nat, (∀ i ∈ r, 0 < (g i).2 ∧ (g i).2 ≤ L) → spend L (r.map g) * 2 ^ (15 - L) = tot (r.map fun i => w15 (g i).2)
  | [], _ => by simp [spend, tot]
  | x :: r, h => by
    have ih := spend_tot L g hL r (fun i hi => h i (List.mem_cons_of_mem _ hi))
    have hx := h x (List.mem_cons_self ..)
    have hp : (2 : Nat) ^ (L - (g x).2) * 2 ^ (15 - L) = 2 ^ (15 - (g x).2) := by rw [← Nat.pow_add]; congr 1; omega
    simp only [List.map_cons, spend, tot, Nat.add_mul, ih, hp, w15_pos hx.1]
theorem two_L (L : Nat) (hL : L ≤ 15) : (2 : Nat) ^ L * 2 ^ (15 - L) = 32768 := by
  rw [← Nat.pow_add, show L + (15 - L) = 15 by omega]
theorem valOf_zero {l : List Int} {i : Nat} (h : i ∉ rankL l) : i < l.length → valOf l i = 0 := fun hi => by
  have : numAt l i = 0 := by
    rcases Classical.em (numAt l i = 0) with e | e
    · exact e
    · exact absurd ((rankL_mem l i).2 ⟨hi, e⟩) h
  unfold valOf
  rw [this]
  rfl

/-- Lengths for these counts: each count that is not 0 has one, none is above L, and they may be. -/
structure Trial (c t : List Int) (L : Nat) : Prop where
  n : t.length = c.length
  at_ : ∀ i, i < c.length → 0 ≤ numAt t i ∧ numAt t i ≤ L ∧ (numAt c i ≠ 0 → numAt t i ≠ 0)
  w : weightN (lenN t) c.length ≤ 32768
def costN (c t : List Int) : Nat := sumN (fun i => valOf c i * lenN t i) c.length
theorem cost_rank (c t : List Int) : costN c t = costL ((rankL c).map fun i => (valOf c i, lenN t i)) := by
  rw [costL_tot]
  exact sum_rank c _ (fun i hi hn => by rw [valOf_zero hn hi, Nat.zero_mul])

theorem out_at {c : List Int} {L : Nat} {i : Nat} (hi : i < c.length) : numAt (lensOut c L) i = if (rankL c).length = 1 then (if i ∈ rankL c then 1 else 0) else (bestLen (valOf c) (rankL c) L i : Int) := by
  have hl : (lensOut c L).length = c.length := by unfold lensOut; split <;> simp
  rw [numAt_eq _ i (by rw [hl]; exact hi)]
  unfold lensOut
  split
  · rw [List.getElem_map, List.getElem_range]
  · rw [List.getElem_map, List.getElem_range]
theorem out_len (c : List Int) (L : Nat) : (lensOut c L).length = c.length := by unfold lensOut; split <;> simp
theorem out_sym {c : List Int} {L : Nat} (h : Able c L) {i : Nat} (hi : i < c.length) : 0 ≤ numAt (lensOut c L) i ∧ numAt (lensOut c L) i ≤ L ∧ (numAt (lensOut c L) i = 0 ↔ numAt c i = 0) := by
  rw [out_at hi]
  have hlo := h.lo
  have hm := rankL_mem c i
  split
  · split
    · rename_i hr
      exact ⟨by omega, by omega, ⟨fun e => by omega, fun e => absurd e (hm.1 hr).2⟩⟩
    · rename_i hr
      refine ⟨by omega, by omega, ⟨fun _ => ?_, fun _ => rfl⟩⟩
      rcases Classical.em (numAt c i = 0) with e | e
      · exact e
      · exact absurd (hm.2 ⟨hi, e⟩) hr
  · rename_i hk
    have hb := best_le (valOf c) (rankL c) (rankL_nodup c) (rank_rising h.all) L h.k i
    refine ⟨by omega, by omega, ⟨fun e => ?_, fun e => ?_⟩⟩
    · rcases Classical.em (i ∈ rankL c) with hr | hr
      · have hp := List.length_pos_of_mem hr
        have := best_some (valOf c) (rankL c) (rankL_nodup c) (rank_rising h.all) L (by omega) h.k i hr
        omega
      · rcases Classical.em (numAt c i = 0) with e | e
        · exact e
        · exact absurd (hm.2 ⟨hi, e⟩) hr
    · have := best_none (valOf c) (rankL c) L i (fun hr => (hm.1 hr).2 e)
      omega
theorem out_lenN {c : List Int} {L : Nat} (hk : (rankL c).length ≠ 1) {i : Nat} (hi : i < c.length) : lenN (lensOut c L) i = bestLen (valOf c) (rankL c) L i := by
  unfold lenN
  rw [out_at hi, if_neg hk]
  exact Int.toNat_natCast _
theorem map_out {c : List Int} {L : Nat} (hk : (rankL c).length ≠ 1) : (rankL c).map (fun i => (valOf c i, lenN (lensOut c L) i)) = (rankL c).map (fun i => (valOf c i, bestLen (valOf c) (rankL c) L i)) :=
  List.map_congr_left fun i hi => by rw [out_lenN hk ((rankL_mem c i).1 hi).1]
theorem out_weight {c : List Int} {L : Nat} (h : Able c L) : weightN (lenN (lensOut c L)) c.length = tot ((rankL c).map fun i => w15 (lenN (lensOut c L) i)) :=
  sum_rank c _ fun i hi hn => by
    have h0 : numAt c i = 0 := by
      rcases Classical.em (numAt c i = 0) with e | e
      · exact e
      · exact absurd ((rankL_mem c i).2 ⟨hi, e⟩) hn
    have := (out_sym h hi).2.2.2 h0
    unfold lenN
    rw [this]
    rfl
theorem out_full {c : List Int} {L : Nat} (h : Able c L) (h2 : 2 ≤ (rankL c).length) : weightN (lenN (lensOut c L)) c.length = 32768 := by
  have hf := best_full (valOf c) (rankL c) (rankL_nodup c) (rank_rising h.all) L h2 h.k
  have hs := spend_tot L (fun i => (valOf c i, bestLen (valOf c) (rankL c) L i)) h.hi (rankL c) (fun i hi => ⟨best_some (valOf c) (rankL c) (rankL_nodup c) (rank_rising h.all) L h2 h.k i hi, best_le (valOf c) (rankL c) (rankL_nodup c) (rank_rising h.all) L h.k i⟩)
  rw [hf, two_L L h.hi] at hs
  rw [out_weight h, hs]
  congr 1
  refine List.map_congr_left fun i hi => ?_
  rw [out_lenN (by omega) ((rankL_mem c i).1 hi).1]
theorem out_trial {c : List Int} {L : Nat} (h : Able c L) : Trial c (lensOut c L) L := by
  refine ⟨out_len c L, fun i hi => ?_, ?_⟩
  · obtain ⟨h1, h2, h3⟩ := out_sym h hi
    exact ⟨h1, h2, fun h4 h5 => h4 (h3.1 h5)⟩
  · rcases Nat.lt_or_ge (rankL c).length 2 with q | q
    · rw [out_weight h]
      match hr : rankL c, q with
      | [], _ => simp [tot]
      | [s], _ =>
        have := w15_le (lenN (lensOut c L) s)
        simp only [List.map_cons, List.map_nil, tot]
        omega
      | _ :: _ :: _, q => exact absurd q (by simp)
    · rw [out_full h q]
      exact Nat.le_refl _
/-- NONE COST LESS. -/
theorem out_least {c t : List Int} {L : Nat} (h : Able c L) (ht : Trial c t L) : costN c (lensOut c L) ≤ costN c t := by
  have hlen : ∀ i ∈ rankL c, 0 < lenN t i ∧ lenN t i ≤ L := fun i hi => by
    have hm := (rankL_mem c i).1 hi
    obtain ⟨h1, h2, h3⟩ := ht.at_ i hm.1
    have := h3 hm.2
    unfold lenN
    omega
  rw [cost_rank, cost_rank]
  by_cases hk : (rankL c).length = 1
  · match hr : rankL c, hk with
    | [s], _ =>
      have hs : s ∈ rankL c := by rw [hr]; exact List.mem_cons_self ..
      have hi := ((rankL_mem c s).1 hs).1
      have h1 : lenN (lensOut c L) s = 1 := by
        unfold lenN
        rw [out_at hi, if_pos (by rw [hr]; rfl), if_pos hs]
        rfl
      have h2 := (hlen s hs).1
      simp only [List.map_cons, List.map_nil, costL, h1, Nat.mul_one, Nat.add_zero]
      exact Nat.le_mul_of_pos_right _ h2
  · rw [map_out hk]
    refine best_least (valOf c) (rankL c) (rankL_nodup c) (rank_rising h.all) L h.k (lenN t) (fun i hi => (hlen i hi).2) ?_
    have hs := spend_tot L (fun i => (valOf c i, lenN t i)) h.hi (rankL c) hlen
    have hw := sum_rank_le c (fun i => w15 (lenN t i))
    have hq := ht.w
    unfold weightN at hq
    have : spend L ((rankL c).map fun i => (valOf c i, lenN t i)) * 2 ^ (15 - L) ≤ 2 ^ L * 2 ^ (15 - L) := by
      rw [hs, two_L L h.hi]
      exact Nat.le_trans hw hq
    exact Nat.le_of_mul_le_mul_right this (Nat.pow_pos (by decide))
end Go.Proofs.Ytmmbadkkkjkgnaa.Huf
