/- The best lengths: they are full, each that is wanted has one, and none cost less. No program is spoken of here. -/
import Derived.Test.YtenkbmkecgnfmaaHufD
namespace Go.Proofs.Ytenkbmkecgnfmaa.Huf

/-- What lengths take of 2^t, one of 0 all of it. -/
def spend (t : Nat) : List (Nat × Nat) → Nat
  | [] => 0
  | x :: l => 2 ^ (t - x.2) + spend t l
theorem wide_spend (t : Nat) : ∀ xs, wideL t xs + spend t xs = xs.length * 2 ^ t
  | [] => by simp [wideL, spend]
  | x :: xs => by
    have ih := wide_spend t xs
    have hp : (2 : Nat) ^ (t - x.2) ≤ 2 ^ t := Nat.pow_le_pow_right (by decide) (by omega)
    simp only [wideL, spend, List.length_cons, Nat.add_mul, Nat.one_mul]
    omega
theorem spend_len (t : Nat) : ∀ xs, xs.length ≤ spend t xs
  | [] => Nat.le_refl _
  | x :: xs => by
    have ih := spend_len t xs
    have hp : 0 < (2 : Nat) ^ (t - x.2) := Nat.pow_pos (by decide)
    simp only [spend, List.length_cons]
    omega
theorem spend_zero (t : Nat) : ∀ xs : List (Nat × Nat), (∃ x ∈ xs, x.2 = 0) → 2 ^ t + xs.length ≤ spend t xs + 1
  | [], h => by obtain ⟨x, hx, _⟩ := h; cases hx
  | y :: xs, h => by
    obtain ⟨x, hx, h0⟩ := h
    simp only [spend, List.length_cons]
    rcases List.mem_cons.1 hx with rfl | hx
    · have := spend_len t xs
      rw [h0, Nat.sub_zero]
      omega
    · have := spend_zero t xs ⟨x, hx, h0⟩
      have hp : 0 < (2 : Nat) ^ (t - y.2) := Nat.pow_pos (by decide)
      omega
theorem spend_all (t : Nat) (val : Nat → Nat) : ∀ sy : List Nat, spend t (sy.map fun i => (val i, t)) = sy.length
  | [] => rfl
  | x :: sy => by
    have ih := spend_all t val sy
    simp only [List.map_cons, spend, List.length_cons]
    rw [ih, Nat.sub_self]
    omega

section
variable (val : Nat → Nat) (sy : List Nat)
theorem rows_low (hr : Rising (sy.map (coin val))) (t m : Nat) (xs : List (Nat × Nat)) (hx : (xs.map (·.1)).Sublist (sy.map val)) (hl : ∀ x ∈ xs, x.2 ≤ t) (hm : m * 2 ^ t ≤ 2 * wideL t xs) :
    m ≤ (rowS (sy.map (coin val)) t).length ∧ tot (((rowS (sy.map (coin val)) t).take m).map (·.1)) ≤ costL xs := by
  have h := cost_low (sy.map val) (fun t => (rowS (sy.map (coin val)) t).map (·.1)) rfl
    (fun t => List.pairwise_map.2 (rowS_rising hr (t + 1)))
    (fun t => by
      have h1 := (mergeS_perm (sy.map (coin val)) (pairS (rowS (sy.map (coin val)) t))).map (·.1)
      rw [List.map_append, pairS_fst, List.map_map] at h1
      exact h1) t m xs hx hl hm
  rw [List.length_map, ← List.map_take] at h
  exact h
/-- How long a symbol's code is. -/
def bestLen (L i : Nat) : Nat := occ i ((rowS (sy.map (coin val)) L).take (2 * sy.length - 2))
theorem best_room (hr : Rising (sy.map (coin val))) (L : Nat) (hk : sy.length ≤ 2 ^ L) : 2 * sy.length - 2 ≤ (rowS (sy.map (coin val)) L).length := by
  have hw := wide_spend L (sy.map fun i => (val i, L))
  rw [spend_all, List.length_map] at hw
  refine (rows_low val sy hr L _ (sy.map fun i => (val i, L)) ?_ ?_ ?_).1
  · rw [List.map_map]; exact List.Sublist.refl _
  · intro x hx
    obtain ⟨i, _, rfl⟩ := List.mem_map.1 hx
    exact Nat.le_refl _
  · rw [Nat.sub_mul, Nat.mul_assoc]
    omega
theorem best_le (hn : sy.Nodup) (hr : Rising (sy.map (coin val))) (L : Nat) (hk : sy.length ≤ 2 ^ L) (i : Nat) : bestLen val sy L i ≤ L :=
  (row_main val sy hn hr L _ (best_room val sy hr L hk)).1 i
theorem best_none (L i : Nat) (h : i ∉ sy) : bestLen val sy L i = 0 := by
  rcases Nat.eq_zero_or_pos (bestLen val sy L i) with h0 | h0
  · exact h0
  · obtain ⟨x, hx, hi⟩ := occ_pos i _ h0
    exact absurd (row_worth val sy L x (List.mem_of_mem_take hx) i hi).1 h
/-- Two or more: nothing is left over. -/
theorem best_full (hn : sy.Nodup) (hr : Rising (sy.map (coin val))) (L : Nat) (h2 : 2 ≤ sy.length) (hk : sy.length ≤ 2 ^ L) : spend L (sy.map fun i => (val i, bestLen val sy L i)) = 2 ^ L := by
  have hm := (row_main val sy hn hr L _ (best_room val sy hr L hk)).2.1
  have hw := wide_spend L (sy.map fun i => (val i, bestLen val sy L i))
  rw [List.length_map] at hw
  unfold bestLen at *
  rw [Nat.sub_mul, Nat.mul_assoc] at hm
  have hq : 2 * 2 ^ L ≤ sy.length * 2 ^ L := Nat.mul_le_mul_right _ h2
  omega
/-- Two or more: each has a length. -/
theorem best_some (hn : sy.Nodup) (hr : Rising (sy.map (coin val))) (L : Nat) (h2 : 2 ≤ sy.length) (hk : sy.length ≤ 2 ^ L) (i : Nat) (hi : i ∈ sy) : 0 < bestLen val sy L i := by
  rcases Nat.eq_zero_or_pos (bestLen val sy L i) with h0 | h0
  · have hf := best_full val sy hn hr L h2 hk
    have := spend_zero L (sy.map fun i => (val i, bestLen val sy L i)) ⟨_, List.mem_map.2 ⟨i, hi, rfl⟩, h0⟩
    rw [List.length_map] at this
    omega
  · exact h0
/-- NONE COST LESS. -/
theorem best_least (hn : sy.Nodup) (hr : Rising (sy.map (coin val))) (L : Nat) (hk : sy.length ≤ 2 ^ L) (tr : Nat → Nat) (hl : ∀ i ∈ sy, tr i ≤ L) (hs : spend L (sy.map fun i => (val i, tr i)) ≤ 2 ^ L) :
    costL (sy.map fun i => (val i, bestLen val sy L i)) ≤ costL (sy.map fun i => (val i, tr i)) := by
  have hc := (row_main val sy hn hr L _ (best_room val sy hr L hk)).2.2
  have hw := wide_spend L (sy.map fun i => (val i, tr i))
  rw [List.length_map] at hw
  have h := (rows_low val sy hr L (2 * sy.length - 2) (sy.map fun i => (val i, tr i)) (by rw [List.map_map]; exact List.Sublist.refl _) (fun x hx => by
    obtain ⟨i, hi, rfl⟩ := List.mem_map.1 hx
    exact hl i hi) (by
    rw [Nat.sub_mul, Nat.mul_assoc]
    omega)).2
  unfold bestLen
  rw [hc]
  exact h
end

end Go.Proofs.Ytenkbmkecgnfmaa.Huf
