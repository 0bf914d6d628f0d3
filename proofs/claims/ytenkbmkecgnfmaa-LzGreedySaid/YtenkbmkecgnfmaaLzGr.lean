/- The greatest of all that is alike, with candidates to spare. -/
import Derived.Test.YtenkbmkecgnfmaaLzI
namespace Go.Proofs.Ytenkbmkecgnfmaa.Lz
open Go.Proofs.Ytenkbmkecgnfmaa.Mem Go.Proofs.Ytenkbmkecgnfmaa.Huf

/-- The most that is alike at the distances from 1 on. -/
def mxN (b : List UInt8) (j : Nat) : Nat → Nat
  | 0 => 0
  | t + 1 => max (mxN b j t) (alikeN b (j - (t + 1)) j)
theorem mxN_succ (b : List UInt8) (j t : Nat) : mxN b j (t + 1) = max (mxN b j t) (alikeN b (j - (t + 1)) j) := rfl
def cut3 (n : Nat) : Nat := if n < 3 then 0 else n
theorem cut3_max (m a : Nat) : cut3 (max m a) = if a < 3 then cut3 m else if a > cut3 m then a else cut3 m := by
  unfold cut3
  split <;> split <;> (try split) <;> (try split) <;> omega
theorem scan_cut (b : List UInt8) (j W : Nat) : ∀ i k s, i ≤ j → i ≤ k → j - i ≤ W → s.1 = cut3 (mxN b j (j - i)) → (scan b j W i k s).1 = cut3 (mxN b j (min W j)) := by
  intro i
  induction i with
  | zero =>
    intro k s h1 h2 h3 h4
    have e : scan b j W 0 k s = s := rfl
    rw [e, h4, Nat.sub_zero, Nat.min_eq_right (by omega)]
  | succ i ih =>
    intro k s h1 h2 h3 h4
    rw [scan_succ]
    by_cases hw : j - i ≤ W
    · rw [if_pos ⟨hw, by omega⟩]
      have e1 : j - i = (j - (i + 1)) + 1 := by omega
      have e2 : mxN b j (j - i) = max (mxN b j (j - (i + 1))) (alikeN b i j) := by
        rw [e1, mxN_succ, ← e1, show j - (j - i) = i by omega]
      have e3 : cut3 (mxN b j (j - i)) = if alikeN b i j < 3 then cut3 (mxN b j (j - (i + 1))) else if alikeN b i j > cut3 (mxN b j (j - (i + 1))) then alikeN b i j else cut3 (mxN b j (j - (i + 1))) := by
        rw [e2, cut3_max]
      rw [← h4] at e3
      split
      · rename_i ha
        rw [if_pos ha] at e3
        exact ih k s (by omega) (by omega) hw e3.symm
      · rename_i ha
        rw [if_neg ha] at e3
        refine ih (k - 1) _ (by omega) (by omega) hw ?_
        rw [e3]
        split <;> rfl
    · rw [if_neg (by rintro ⟨q, -⟩; exact hw q), h4]
      rw [Nat.min_eq_left (by omega), show j - (i + 1) = W by omega]
theorem great_cut (b : List UInt8) (j W k : Nat) (h : j ≤ k) : (greatN b W k j).1 = cut3 (mxN b j (min W j)) := by
  unfold greatN
  refine scan_cut b j W j k (0, 0) (Nat.le_refl _) h (by omega) ?_
  rw [Nat.sub_self]
  rfl
theorem pcAt_cut (b : List UInt8) (j W k : Nat) (h : j ≤ k) : (pcAt b W k j).len = (cut3 (mxN b j (min W j)) : Nat) := by
  have hg := great_cut b j W k h
  unfold pcAt
  rw [← hg]
  split
  · rename_i h0; rw [h0]; rfl
  · rfl
end Go.Proofs.Ytenkbmkecgnfmaa.Lz
