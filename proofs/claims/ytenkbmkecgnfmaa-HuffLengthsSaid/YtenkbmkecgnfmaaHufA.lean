/- Codes of lengths, as numbers: where each begins, that they lie apart, that none is the beginning of another one. No program is spoken of here. -/
import Derived.ProofKit
namespace Go.Proofs.Ytenkbmkecgnfmaa.Huf

/-- f 0 + .. + f (n - 1). -/
def sumN (f : Nat → Nat) : Nat → Nat
  | 0 => 0
  | n + 1 => sumN f n + f n
theorem sumN_le {f g : Nat → Nat} : ∀ n, (∀ j, j < n → f j ≤ g j) → sumN f n ≤ sumN g n
  | 0, _ => Nat.le_refl _
  | n + 1, h => by
    have := sumN_le n (fun j hj => h j (by omega))
    have := h n (by omega)
    simp only [sumN]
    omega
theorem sumN_eq {f g : Nat → Nat} : ∀ n, (∀ j, j < n → f j = g j) → sumN f n = sumN g n
  | 0, _ => rfl
  | n + 1, h => by
    have := sumN_eq n (fun j hj => h j (by omega))
    have := h n (by omega)
    simp only [sumN]
    omega
theorem sumN_add {f g : Nat → Nat} : ∀ n, sumN (fun j => f j + g j) n = sumN f n + sumN g n
  | 0 => rfl
  | n + 1 => by
    have := sumN_add (f := f) (g := g) n
    simp only [sumN]
    omega
/-- One place of a sum. -/
theorem sumN_one (k c : Nat) : ∀ n, k < n → sumN (fun j => if j = k then c else 0) n = c
  | 0, h => by omega
  | n + 1, h => by
    simp only [sumN]
    by_cases e : n = k
    · subst e
      have : sumN (fun j => if j = n then c else 0) n = sumN (fun _ => 0) n := sumN_eq n (fun j hj => if_neg (by omega))
      rw [if_pos rfl, this]
      have z : ∀ m, sumN (fun _ => 0) m = 0 := fun m => by induction m with
        | zero => rfl
        | succ m ih => simp only [sumN, ih]
      rw [z, Nat.zero_add]
    · rw [if_neg e, sumN_one k c n (by omega), Nat.add_zero]
theorem sumN_dvd {f : Nat → Nat} {d : Nat} : ∀ n, (∀ j, j < n → d ∣ f j) → d ∣ sumN f n
  | 0, _ => Nat.dvd_zero _
  | n + 1, h => Nat.dvd_add (sumN_dvd n (fun j hj => h j (by omega))) (h n (by omega))

/-- What a length takes of 2^15. -/
def w15 (n : Nat) : Nat := if n = 0 then 0 else 2 ^ (15 - n)
/-- What all take that come ahead of place i of the length n. -/
def accAt (l : Nat → Nat) (c n i : Nat) : Nat := sumN (fun j => if l j < n ∨ l j = n ∧ j < i then w15 (l j) else 0) c
def weightN (l : Nat → Nat) (c : Nat) : Nat := sumN (fun j => w15 (l j)) c

theorem w15_pos {n : Nat} (h : 0 < n) : w15 n = 2 ^ (15 - n) := if_neg (by omega)
theorem accAt_start (l : Nat → Nat) (c : Nat) : accAt l c 1 0 = 0 := by
  have h : accAt l c 1 0 = sumN (fun _ => 0) c := sumN_eq c (fun j _ => by
    split
    · rename_i h
      have : l j = 0 := by omega
      unfold w15
      rw [if_pos this]
    · rfl)
  rw [h]
  clear h
  induction c with
  | zero => rfl
  | succ c ih => simp only [sumN, ih]
theorem accAt_next (l : Nat → Nat) (c n : Nat) : accAt l c (n + 1) 0 = accAt l c n c :=
  sumN_eq c fun j hj => by
    by_cases h : l j < n + 1
    · rw [if_pos (.inl h), if_pos (by omega)]
    · rw [if_neg (by omega), if_neg (by omega)]
theorem accAt_step (l : Nat → Nat) (c n i : Nat) (hi : i < c) : accAt l c n (i + 1) = accAt l c n i + if l i = n then w15 n else 0 := by
  have e : (if l i = n then w15 n else 0) = sumN (fun j => if j = i then (if l i = n then w15 n else 0) else 0) c := (sumN_one i _ c hi).symm
  rw [e]
  unfold accAt
  rw [← sumN_add]
  refine sumN_eq c fun j hj => ?_
  by_cases hji : j = i
  · subst hji
    rw [if_pos rfl]
    by_cases h1 : l j = n
    · rw [if_pos (.inr ⟨h1, by omega⟩), if_neg (by omega), if_pos h1, h1, Nat.zero_add]
    · rw [if_neg h1]
      by_cases h2 : l j < n
      · rw [if_pos (.inl h2), if_pos (.inl h2)] <;> rfl
      · rw [if_neg (by omega), if_neg (by omega)]
  · rw [if_neg hji]
    by_cases h2 : l j < n ∨ l j = n ∧ j < i
    · rw [if_pos h2, if_pos (by omega)] <;> rfl
    · rw [if_neg h2, if_neg (by omega)]

/-- A code's place is a multiple of its width. -/
theorem accAt_dvd (l : Nat → Nat) (c n i : Nat) : 2 ^ (15 - n) ∣ accAt l c n i :=
  sumN_dvd c fun j _ => by
    by_cases h : l j < n ∨ l j = n ∧ j < i
    · rw [if_pos h]
      unfold w15
      split
      · exact Nat.dvd_zero _
      · exact Nat.pow_dvd_pow 2 (by omega)
    · rw [if_neg h]
      exact Nat.dvd_zero _
/-- i comes ahead of k. -/
def Ahead (l : Nat → Nat) (i k : Nat) : Prop := l i < l k ∨ l i = l k ∧ i < k
/-- What comes ahead lies ahead. -/
theorem acc_ahead (l : Nat → Nat) (c i k : Nat) (hi : i < c) (h : Ahead l i k) : accAt l c (l i) i + w15 (l i) ≤ accAt l c (l k) k := by
  have e : w15 (l i) = sumN (fun j => if j = i then w15 (l i) else 0) c := (sumN_one i _ c hi).symm
  rw [e]
  unfold accAt
  rw [← sumN_add]
  refine sumN_le c fun j hj => ?_
  unfold Ahead at h
  by_cases hji : j = i
  · subst hji
    rw [if_neg (by omega), if_pos rfl, if_pos h, Nat.zero_add]
    exact Nat.le_refl _
  · rw [if_neg hji, Nat.add_zero]
    by_cases h2 : l j < l i ∨ l j = l i ∧ j < i
    · rw [if_pos h2, if_pos (by omega)]
      exact Nat.le_refl _
    · rw [if_neg h2]
      exact Nat.zero_le _
/-- All lie within the weight. -/
theorem acc_within (l : Nat → Nat) (c i : Nat) (hi : i < c) : accAt l c (l i) i + w15 (l i) ≤ weightN l c := by
  have e : w15 (l i) = sumN (fun j => if j = i then w15 (l i) else 0) c := (sumN_one i _ c hi).symm
  rw [e]
  unfold accAt weightN
  rw [← sumN_add]
  refine sumN_le c fun j hj => ?_
  by_cases hji : j = i
  · subst hji
    rw [if_neg (by omega), if_pos rfl, Nat.zero_add]
    exact Nat.le_refl _
  · rw [if_neg hji, Nat.add_zero]
    split
    · exact Nat.le_refl _
    · exact Nat.zero_le _
theorem ahead_or (l : Nat → Nat) (i k : Nat) (h : i ≠ k) : Ahead l i k ∨ Ahead l k i := by unfold Ahead; omega

/-- The code of place i: 0 of those without a length. -/
def codeN (l : Nat → Nat) (c i : Nat) : Nat := if l i = 0 then 0 else accAt l c (l i) i / 2 ^ (15 - l i)
theorem codeN_mul (l : Nat → Nat) (c i : Nat) (h : 0 < l i) : codeN l c i * 2 ^ (15 - l i) = accAt l c (l i) i := by
  unfold codeN
  rw [if_neg (by omega)]
  exact Nat.div_mul_cancel (accAt_dvd l c (l i) i)
/-- A code has no more bits than its length. -/
theorem codeN_lt (l : Nat → Nat) (c i : Nat) (hi : i < c) (h : 0 < l i) (h15 : l i ≤ 15) (hw : weightN l c ≤ 2 ^ 15) : codeN l c i < 2 ^ l i := by
  have h1 := acc_within l c i hi
  have h2 := codeN_mul l c i h
  rw [w15_pos h, ← h2] at h1
  have h3 : (2 : Nat) ^ 15 = 2 ^ l i * 2 ^ (15 - l i) := by rw [← Nat.pow_add]; congr 1; omega
  have h4 : (codeN l c i + 1) * 2 ^ (15 - l i) ≤ 2 ^ l i * 2 ^ (15 - l i) := by rw [Nat.add_mul, Nat.one_mul, ← h3]; exact Nat.le_trans h1 hw
  exact Nat.le_of_mul_le_mul_right h4 (Nat.pow_pos (by decide))
/-- No code is the beginning of another one. -/
theorem codeN_prefix (l : Nat → Nat) (c i k : Nat) (hi : i < c) (hk : k < c) (hne : i ≠ k) (h : 0 < l i) (hle : l i ≤ l k) (h15 : l k ≤ 15) : codeN l c k / 2 ^ (l k - l i) ≠ codeN l c i := by
  intro e
  have hp : (2 : Nat) ^ (15 - l i) = 2 ^ (l k - l i) * 2 ^ (15 - l k) := by rw [← Nat.pow_add]; congr 1; omega
  have hd : 0 < (2 : Nat) ^ (l k - l i) := Nat.pow_pos (by decide)
  have hd2 : 0 < (2 : Nat) ^ (15 - l k) := Nat.pow_pos (by decide)
  have m1 := codeN_mul l c i h
  have m2 := codeN_mul l c k (by omega)
  have b1 := Nat.div_mul_le_self (codeN l c k) (2 ^ (l k - l i))
  have b2 : codeN l c k < (codeN l c k / 2 ^ (l k - l i) + 1) * 2 ^ (l k - l i) := by
    have := Nat.lt_mul_div_succ (codeN l c k) hd
    rw [Nat.mul_comm] at this
    exact this
  rw [e] at b1 b2
  have u1 : accAt l c (l i) i ≤ accAt l c (l k) k := by
    rw [← m1, ← m2, hp, ← Nat.mul_assoc]
    exact Nat.mul_le_mul_right _ b1
  have u2 : accAt l c (l k) k < accAt l c (l i) i + 2 ^ (15 - l i) := by
    have h3 : codeN l c k * 2 ^ (15 - l k) < (codeN l c i + 1) * 2 ^ (l k - l i) * 2 ^ (15 - l k) := (Nat.mul_lt_mul_right hd2).2 b2
    rw [Nat.mul_assoc, ← hp, m2, Nat.add_mul, m1, Nat.one_mul] at h3
    exact h3
  rcases ahead_or l i k hne with g | g
  · have := acc_ahead l c i k hi g
    rw [w15_pos h] at this
    omega
  · have := acc_ahead l c k i hk g
    rw [w15_pos (by omega)] at this
    omega

end Go.Proofs.Ytenkbmkecgnfmaa.Huf
