/- The codes of lengths, symbol by symbol, by their rank (no program but the words of XHufO). -/
import Derived.Test.YtenkbmkecgnfmaaHufO
namespace Go.Proofs.Ytenkbmkecgnfmaa.Huf

/-- Lengths that may be. -/
structure Fine (l : List Int) : Prop where
  n : l.length ≤ 320
  all : ∀ i, i < l.length → 0 ≤ numAt l i ∧ numAt l i ≤ 15
  w : weightN (lenN l) l.length ≤ 32768
theorem fine_iff (l : List Int) : (weightR l).2 = true ↔ Fine l := by
  unfold weightR
  have hall : l.all okLen = true ↔ ∀ i, i < l.length → 0 ≤ numAt l i ∧ numAt l i ≤ 15 := by
    rw [List.all_eq_true]
    constructor
    · intro h i hi
      rw [numAt_eq l i hi]
      exact of_decide_eq_true (h _ (List.getElem_mem hi))
    · intro h z hz
      obtain ⟨i, hi, rfl⟩ := List.mem_iff_getElem.1 hz
      have := h i hi
      rw [numAt_eq l i hi] at this
      exact decide_eq_true this
  constructor
  · intro h
    split at h
    · rename_i h1
      exact ⟨h1.1, hall.1 h1.2, of_decide_eq_true h⟩
    · cases h
  · intro h
    rw [if_pos ⟨h.n, hall.2 h.all⟩]
    exact decide_eq_true h.w
theorem Fine.len {l : List Int} (h : Fine l) {i : Nat} (hi : i < l.length) : (lenN l i : Int) = numAt l i ∧ lenN l i ≤ 15 := by
  have := h.all i hi
  unfold lenN
  omega
theorem Fine.mem {l : List Int} (h : Fine l) (s : Nat) : s ∈ rankL l ↔ s < l.length ∧ 0 < lenN l s := by
  rw [rankL_mem]
  constructor
  · rintro ⟨h1, h2⟩
    have := h.len h1
    exact ⟨h1, by omega⟩
  · rintro ⟨h1, h2⟩
    have := h.len h1
    exact ⟨h1, by omega⟩
theorem Fine.ahead {l : List Int} (h : Fine l) {i k : Nat} (hi : i < l.length) (hk : k < l.length) : Lt2 (numAt l) i k ↔ Ahead (lenN l) i k := by
  have h1 := h.len hi
  have h2 := h.len hk
  unfold Lt2 Ahead
  omega
def codeL (l : List Int) (i : Nat) : Nat := codeN (lenN l) l.length i
/-- P302: each symbol's code. -/
def codesR (l : List Int) : List Int × Int := if (weightR l).2 then ((List.range l.length).map (fun i => (codeL l i : Int)), 0) else ([], 30)

theorem getElem_rank_lt {l : List Int} {j k : Nat} (hj : j < (rankL l).length) (hk : k < (rankL l).length) (h : j < k) : Lt2 (numAt l) (rankL l)[j] (rankL l)[k] := (List.pairwise_iff_getElem.1 (rankL_pair l)) j k hj hk h
/-- Of two that follow one another, nothing lies between. -/
theorem rank_next {l : List Int} (h : Fine l) {k : Nat} (hk : k + 1 < (rankL l).length) : accAt (lenN l) l.length (lenN l (rankL l)[k + 1]) (rankL l)[k + 1] = accAt (lenN l) l.length (lenN l (rankL l)[k]) (rankL l)[k] + w15 (lenN l (rankL l)[k]) := by
  have hp := (h.mem _).1 (List.getElem_mem (show k < (rankL l).length by omega))
  have hs := (h.mem _).1 (List.getElem_mem hk)
  have hlt := getElem_rank_lt (show k < (rankL l).length by omega) hk (Nat.lt_succ_self k)
  have hbet : ∀ j, j ∈ rankL l → Lt2 (numAt l) (rankL l)[k] j → Lt2 (numAt l) j (rankL l)[k + 1] → False := fun j hj h1 h2 => by
    obtain ⟨i, hi, rfl⟩ := List.mem_iff_getElem.1 hj
    rcases Nat.lt_or_ge k i with q | q
    · rcases Nat.lt_or_ge (k + 1) i with r | r
      · exact Lt2.irrefl _ (h2.trans (getElem_rank_lt hk hi r))
      · obtain rfl : i = k + 1 := by omega
        exact Lt2.irrefl _ h2
    · rcases Nat.lt_or_ge i k with r | r
      · exact Lt2.irrefl _ (h1.trans (getElem_rank_lt hi (by omega) r))
      · obtain rfl : i = k := by omega
        exact Lt2.irrefl _ h1
  generalize (rankL l)[k] = p at *
  generalize (rankL l)[k + 1] = s at *
  have e : w15 (lenN l p) = sumN (fun j => if j = p then w15 (lenN l p) else 0) l.length := (sumN_one p _ _ hp.1).symm
  rw [e]
  unfold accAt
  rw [← sumN_add]
  have hps := (h.ahead hp.1 hs.1).1 hlt
  unfold Ahead at hps
  refine sumN_eq _ fun j hj => ?_
  by_cases hjp : j = p
  · subst hjp
    rw [if_pos hps, if_neg (by omega), if_pos rfl, Nat.zero_add]
  · rw [if_neg hjp, Nat.add_zero]
    by_cases h0 : lenN l j = 0
    · rw [h0]
      have : w15 0 = 0 := rfl
      rw [this, ite_self, ite_self]
    · have hjr : j ∈ rankL l := (h.mem j).2 ⟨hj, by omega⟩
      have hb := hbet j hjr
      rw [h.ahead hp.1 hj, h.ahead hj hs.1] at hb
      unfold Ahead at hb
      by_cases h2 : lenN l j < lenN l p ∨ lenN l j = lenN l p ∧ j < p
      · rw [if_pos h2, if_pos (by omega)]
      · have hpj : lenN l p < lenN l j ∨ lenN l p = lenN l j ∧ p < j := by omega
        rw [if_neg h2, if_neg (fun g => hb hpj g)]
theorem rank_first {l : List Int} (h : Fine l) (h0 : 0 < (rankL l).length) : accAt (lenN l) l.length (lenN l (rankL l)[0]) (rankL l)[0] = 0 := by
  have hs := (h.mem _).1 (List.getElem_mem h0)
  have hall : ∀ j, j ∈ rankL l → ¬ Lt2 (numAt l) j (rankL l)[0] := fun j hj h1 => by
    obtain ⟨i, hi, rfl⟩ := List.mem_iff_getElem.1 hj
    rcases Nat.eq_zero_or_pos i with rfl | q
    · exact Lt2.irrefl _ h1
    · exact Lt2.irrefl _ (h1.trans (getElem_rank_lt h0 hi q))
  generalize (rankL l)[0] = s at *
  unfold accAt
  have hz : sumN (fun j => if lenN l j < lenN l s ∨ lenN l j = lenN l s ∧ j < s then w15 (lenN l j) else 0) l.length = sumN (fun _ => 0) l.length := sumN_eq _ fun j hj => by
    by_cases h1 : lenN l j = 0
    · rw [h1]
      have : w15 0 = 0 := rfl
      rw [this, ite_self]
    · have hb := hall j ((h.mem j).2 ⟨hj, by omega⟩)
      rw [h.ahead hj hs.1] at hb
      unfold Ahead at hb
      rw [if_neg hb]
  rw [hz]
  generalize l.length = n
  induction n with
  | zero => rfl
  | succ n ih => simp only [sumN, ih]
/-- The code of the one behind: that of the one ahead, and 1, shifted. -/
theorem code_next {l : List Int} (h : Fine l) {k : Nat} (hk : k + 1 < (rankL l).length) : lenN l (rankL l)[k] ≤ lenN l (rankL l)[k + 1] ∧ codeL l (rankL l)[k + 1] = (codeL l (rankL l)[k] + 1) * 2 ^ (lenN l (rankL l)[k + 1] - lenN l (rankL l)[k]) := by
  have hp := (h.mem _).1 (List.getElem_mem (show k < (rankL l).length by omega))
  have hs := (h.mem _).1 (List.getElem_mem hk)
  have hlt := (h.ahead hp.1 hs.1).1 (getElem_rank_lt (show k < (rankL l).length by omega) hk (Nat.lt_succ_self k))
  have hn := rank_next h hk
  generalize (rankL l)[k] = p at *
  generalize (rankL l)[k + 1] = s at *
  unfold Ahead at hlt
  have h15 := (h.len hs.1).2
  refine ⟨by omega, ?_⟩
  have m1 := codeN_mul (lenN l) l.length p hp.2
  have m2 := codeN_mul (lenN l) l.length s hs.2
  unfold codeL
  have hpow : (2 : Nat) ^ (15 - lenN l p) = 2 ^ (lenN l s - lenN l p) * 2 ^ (15 - lenN l s) := by rw [← Nat.pow_add]; congr 1; omega
  rw [w15_pos hp.2, ← m1, ← m2, hpow] at hn
  have e : codeN (lenN l) l.length s * 2 ^ (15 - lenN l s) = (codeN (lenN l) l.length p + 1) * 2 ^ (lenN l s - lenN l p) * 2 ^ (15 - lenN l s) := by
    rw [hn, Nat.mul_assoc, Nat.add_mul, Nat.one_mul]
  exact Nat.eq_of_mul_eq_mul_right (Nat.pow_pos (by decide)) e
theorem code_first {l : List Int} (h : Fine l) (h0 : 0 < (rankL l).length) : codeL l (rankL l)[0] = 0 := by
  have hs := (h.mem _).1 (List.getElem_mem h0)
  have hn := rank_first h h0
  generalize (rankL l)[0] = s at *
  have m2 := codeN_mul (lenN l) l.length s hs.2
  rw [hn] at m2
  unfold codeL
  rcases Nat.mul_eq_zero.1 m2 with q | q
  · exact q
  · have := Nat.pow_pos (n := 15 - lenN l s) (show 0 < 2 by decide); omega
theorem code_lt {l : List Int} (h : Fine l) {s : Nat} (hs : s < l.length) (h0 : 0 < lenN l s) : codeL l s < 2 ^ lenN l s := codeN_lt (lenN l) l.length s hs h0 (h.len hs).2 h.w
theorem code_32 {l : List Int} (h : Fine l) {s : Nat} (hs : s < l.length) : codeL l s < 32768 := by
  by_cases h0 : lenN l s = 0
  · unfold codeL codeN; rw [if_pos h0]; decide
  · exact Nat.lt_of_lt_of_le (code_lt h hs (by omega)) (Nat.le_trans (Nat.pow_le_pow_right (by decide) (h.len hs).2) (by decide))

/-- The codes behind the first j symbols of the rank. -/
def codesAt (l : List Int) (j : Nat) : List Int := (List.range l.length).map fun i => if i ∈ (rankL l).take j then (codeL l i : Int) else 0
theorem codesAt_len (l : List Int) (j : Nat) : (codesAt l j).length = l.length := by simp [codesAt]
theorem codesAt_zero (l : List Int) : codesAt l 0 = List.replicate l.length 0 := by
  unfold codesAt
  apply List.ext_getElem
  · simp
  · intro i h1 h2; simp
theorem codesAt_step (l : List Int) (j : Nat) (hj : j < (rankL l).length) : codesAt l (j + 1) = (codesAt l j).set (rankL l)[j] (codeL l (rankL l)[j]) := by
  unfold codesAt
  apply List.ext_getElem
  · simp
  · intro i h1 h2
    simp only [List.length_map, List.length_range] at h1
    have hm : i ∈ (rankL l).take (j + 1) ↔ i ∈ (rankL l).take j ∨ i = (rankL l)[j] := by rw [List.take_succ_eq_append_getElem hj, List.mem_append, List.mem_singleton]
    rw [List.getElem_map, List.getElem_range, List.getElem_set]
    by_cases e : (rankL l)[j] = i
    · rw [if_pos e, if_pos (hm.2 (.inr e.symm)), e]
    · rw [if_neg e, List.getElem_map, List.getElem_range]
      by_cases q : i ∈ (rankL l).take j
      · rw [if_pos q, if_pos (hm.2 (.inl q))]
      · rw [if_neg q, if_neg (fun g => (hm.1 g).elim q (fun z => e z.symm))]
theorem codesAt_all {l : List Int} (h : Fine l) : codesAt l (rankL l).length = (codesR l).1 := by
  unfold codesAt codesR
  rw [(fine_iff l).2 h, if_pos rfl, List.take_length]
  apply List.ext_getElem
  · simp
  · intro i h1 h2
    simp only [List.length_map, List.length_range] at h1
    rw [List.getElem_map, List.getElem_map, List.getElem_range]
    by_cases q : i ∈ rankL l
    · rw [if_pos q]
    · rw [if_neg q]
      have : lenN l i = 0 := by
        rcases Nat.eq_zero_or_pos (lenN l i) with e | e
        · exact e
        · exact absurd ((h.mem i).2 ⟨h1, e⟩) q
      unfold codeL codeN
      rw [if_pos this]
      rfl
end Go.Proofs.Ytenkbmkecgnfmaa.Huf
