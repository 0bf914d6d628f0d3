/- Lengths by packages: they may be, they leave nothing over, and none cost less. No program is spoken of here. -/
import Derived.Test.YtenkbmkecgnfmaaHufC
namespace Go.Proofs.Ytenkbmkecgnfmaa.Huf

/-- The rows: the coins; then coins and pairs. -/
def rowS (C : List Item) : Nat → List Item
  | 0 => []
  | t + 1 => mergeS C (pairS (rowS C t))
theorem rowS_rising {C : List Item} (h : Rising C) : ∀ t, Rising (rowS C t)
  | 0 => List.Pairwise.nil
  | t + 1 => mergeS_rising _ _ h (pairS_rising _ (rowS_rising h t))
def coin (val : Nat → Nat) (i : Nat) : Item := (val i, [i])
theorem pairS_worth (P : Nat → Nat → Prop) (hm : ∀ i c d, P i c → c ≤ d → P i d) : ∀ l : List Item, (∀ x ∈ l, ∀ i ∈ x.2, P i x.1) → ∀ x ∈ pairS l, ∀ i ∈ x.2, P i x.1
  | [], _, x, hx => by cases hx
  | [_], _, x, hx => by cases hx
  | a :: b :: l, h, x, hx => by
    rcases List.mem_cons.1 hx with rfl | hx
    · intro i hi
      rcases List.mem_append.1 hi with hi | hi
      · exact hm i _ _ (h a (List.mem_cons_self ..) i hi) (Nat.le_add_right _ _)
      · exact hm i _ _ (h b (List.mem_cons_of_mem _ (List.mem_cons_self ..)) i hi) (Nat.le_add_left _ _)
    · exact pairS_worth P hm l (fun z hz => h z (List.mem_cons_of_mem _ (List.mem_cons_of_mem _ hz))) x hx
theorem row_worth (val : Nat → Nat) (sy : List Nat) : ∀ t, ∀ x ∈ rowS (sy.map (coin val)) t, ∀ i ∈ x.2, i ∈ sy ∧ val i ≤ x.1
  | 0, x, hx => by cases hx
  | t + 1, x, hx => by
    rcases List.mem_append.1 ((mergeS_perm _ _).mem_iff.2 hx) with h | h
    · obtain ⟨k, hk, rfl⟩ := List.mem_map.1 h
      intro i hi
      obtain rfl : i = k := by simpa [coin] using hi
      exact ⟨hk, Nat.le_refl _⟩
    · exact pairS_worth (fun i c => i ∈ sy ∧ val i ≤ c) (fun i c d h1 h2 => ⟨h1.1, Nat.le_trans h1.2 h2⟩) _ (row_worth val sy t) x h
theorem costL_append : ∀ a b, costL (a ++ b) = costL a + costL b
  | [], b => by simp [costL]
  | x :: a, b => by have := costL_append a b; simp only [List.cons_append, costL]; omega
theorem wideL_append (t : Nat) : ∀ a b, wideL t (a ++ b) = wideL t a + wideL t b
  | [], b => by simp [wideL]
  | x :: a, b => by have := wideL_append t a b; simp only [List.cons_append, wideL]; omega
section
variable (val l l' : Nat → Nat)
theorem cost_one : ∀ A : List Nat, (∀ i ∈ A, l i = 1 + l' i) → costL (A.map fun i => (val i, l i)) = tot (A.map val) + costL (A.map fun i => (val i, l' i))
  | [], _ => rfl
  | x :: A, h => by
    have ih := cost_one A (fun i hi => h i (List.mem_cons_of_mem _ hi))
    simp only [List.map_cons, costL, tot]
    rw [ih, h x (List.mem_cons_self ..), Nat.mul_add, Nat.mul_one]
    omega
theorem cost_none : ∀ A : List Nat, (∀ i ∈ A, l i = 0) → costL (A.map fun i => (val i, l i)) = 0
  | [], _ => rfl
  | x :: A, h => by
    have ih := cost_none A (fun i hi => h i (List.mem_cons_of_mem _ hi))
    simp only [List.map_cons, costL]
    rw [ih, h x (List.mem_cons_self ..), Nat.mul_zero]
theorem wide_none (t : Nat) : ∀ A : List Nat, (∀ i ∈ A, l i = 0) → wideL t (A.map fun i => (val i, l i)) = 0
  | [], _ => rfl
  | x :: A, h => by
    have ih := wide_none t A (fun i hi => h i (List.mem_cons_of_mem _ hi))
    simp only [List.map_cons, wideL]
    rw [ih, h x (List.mem_cons_self ..), Nat.sub_zero, Nat.sub_self]
theorem wide_one (t : Nat) : ∀ A : List Nat, (∀ i ∈ A, l i = 1 + l' i ∧ l' i ≤ t) → wideL (t + 1) (A.map fun i => (val i, l i)) = A.length * 2 ^ t + wideL t (A.map fun i => (val i, l' i))
  | [], _ => by simp [wideL]
  | x :: A, h => by
    have ih := wide_one t A (fun i hi => h i (List.mem_cons_of_mem _ hi))
    obtain ⟨h1, h2⟩ := h x (List.mem_cons_self ..)
    have hp : (2 : Nat) ^ (t - l' x) ≤ 2 ^ t := Nat.pow_le_pow_right (by decide) (by omega)
    have e : (2 : Nat) ^ (t + 1) = 2 ^ t + 2 ^ t := by rw [Nat.pow_succ]; omega
    simp only [List.map_cons, wideL, List.length_cons]
    rw [ih, h1, show t + 1 - (1 + l' x) = t - l' x by omega, e, Nat.add_mul, Nat.one_mul]
    clear ih e
    generalize (2 : Nat) ^ (t - l' x) = u at *
    generalize (2 : Nat) ^ t = v at *
    generalize A.length * v = z
    omega
end
theorem occ_coins (val : Nat → Nat) (i : Nat) : ∀ A : List Nat, occ i (A.map (coin val)) = A.count i
  | [] => rfl
  | x :: A => by
    simp only [List.map_cons, occ, coin, occ_coins val i A, List.count_cons, List.count_nil]
    omega

theorem count_nodup (i : Nat) : ∀ A : List Nat, A.Nodup → i ∈ A → A.count i = 1
  | [], _, h => by cases h
  | x :: A, hn, h => by
    have hn' := List.nodup_cons.1 hn
    rcases List.mem_cons.1 h with rfl | h
    · rw [List.count_cons_self, List.count_eq_zero_of_not_mem hn'.1]
    · have hne : x ≠ i := fun e => hn'.1 (e ▸ h)
      rw [List.count_cons_of_ne hne, count_nodup i A hn'.2 h]

/-- What the first m items of row t make. -/
theorem row_main (val : Nat → Nat) (sy : List Nat) (hn : sy.Nodup) (hr : Rising (sy.map (coin val))) : ∀ t m, m ≤ (rowS (sy.map (coin val)) t).length →
    (∀ i, occ i ((rowS (sy.map (coin val)) t).take m) ≤ t) ∧ 2 * wideL t (sy.map fun i => (val i, occ i ((rowS (sy.map (coin val)) t).take m))) = m * 2 ^ t ∧
    costL (sy.map fun i => (val i, occ i ((rowS (sy.map (coin val)) t).take m))) = tot (((rowS (sy.map (coin val)) t).take m).map (·.1))
  | 0, m, h => by
    have hm : m = 0 := by simpa [rowS] using h
    subst hm
    have hz : ∀ i ∈ sy, occ i ((rowS (sy.map (coin val)) 0).take 0) = 0 := fun i _ => by simp [occ]
    rw [wide_none val _ 0 sy hz, cost_none val _ sy hz]
    exact ⟨fun i => by simp [occ], by simp, by simp [tot]⟩
  | t + 1, m, h => by
    have hlen := (mergeS_perm (sy.map (coin val)) (pairS (rowS (sy.map (coin val)) t))).length_eq
    rw [List.length_append] at hlen
    have hw := row_worth val sy t
    obtain ⟨n, p, rfl, q2, q3, q4, q5⟩ := mergeS_take (sy.map (coin val)) (pairS (rowS (sy.map (coin val)) t)) m hr (by rw [hlen]; exact h)
    have hpl := pairS_len (rowS (sy.map (coin val)) t)
    obtain ⟨i1, i2, i3⟩ := row_main val sy hn hr t (2 * p) (by omega)
    have hpw := pairS_worth (fun i c => i ∈ sy ∧ val i ≤ c) (fun i c d h1 h2 => ⟨h1.1, Nat.le_trans h1.2 h2⟩) _ hw
    have ho : ∀ i, occ i ((rowS (sy.map (coin val)) (t + 1)).take (n + p)) = (sy.take n).count i + occ i ((rowS (sy.map (coin val)) t).take (2 * p)) := fun i => by
      show occ i ((mergeS _ _).take (n + p)) = _
      rw [← occ_perm i q4, occ_append, ← List.map_take, occ_coins, occ_pairs i p _ (by omega)]
    have hv : tot (((rowS (sy.map (coin val)) (t + 1)).take (n + p)).map (·.1)) = tot ((sy.take n).map val) + tot (((rowS (sy.map (coin val)) t).take (2 * p)).map (·.1)) := by
      show tot (((mergeS _ _).take (n + p)).map (·.1)) = _
      rw [← tot_perm (q4.map (·.1)), List.map_append, tot_append, List.map_take, List.map_map, List.map_take, pairS_fst, (pairUp_take p _ (by rw [List.length_map]; omega)).2, ← List.map_take, ← List.map_take]
      rfl
    have hsplit : sy = sy.take n ++ sy.drop n := (List.take_append_drop _ _).symm
    have hnd := hn
    rw [hsplit] at hnd
    have hdis := (List.nodup_append.1 hnd)
    have hcA : ∀ i ∈ sy.take n, (sy.take n).count i = 1 := fun i hi => count_nodup i _ hdis.1 hi
    have hin : ∀ i, 0 < occ i ((rowS (sy.map (coin val)) t).take (2 * p)) → i ∈ sy.take n := fun i hi => by
      rw [← occ_pairs i p _ (by omega)] at hi
      obtain ⟨x, hx, hix⟩ := occ_pos i _ hi
      obtain ⟨hs, hle⟩ := hpw x (List.mem_of_mem_take hx) i hix
      have := q5 x hx (coin val i) (List.mem_map.2 ⟨i, hs, rfl⟩) hle
      rw [← List.map_take] at this
      obtain ⟨k, hk, e⟩ := List.mem_map.1 this
      have : k = i := by simpa [coin] using congrArg Prod.snd e
      exact this ▸ hk
    have hD : ∀ i ∈ sy.drop n, occ i ((rowS (sy.map (coin val)) t).take (2 * p)) = 0 := fun i hi => by
      rcases Nat.eq_zero_or_pos (occ i ((rowS (sy.map (coin val)) t).take (2 * p))) with h0 | h0
      · exact h0
      · exact absurd rfl (hdis.2.2 i (hin i h0) i hi)
    have hD2 : ∀ i ∈ sy.drop n, occ i ((rowS (sy.map (coin val)) (t + 1)).take (n + p)) = 0 := fun i hi => by
      rw [ho, hD i hi, List.count_eq_zero_of_not_mem (fun hA => absurd rfl (hdis.2.2 i hA i hi))]
    have hA2 : ∀ i ∈ sy.take n, occ i ((rowS (sy.map (coin val)) (t + 1)).take (n + p)) = 1 + occ i ((rowS (sy.map (coin val)) t).take (2 * p)) := fun i hi => by rw [ho, hcA i hi]
    have hnl : (sy.take n).length = n := by rw [List.length_take]; rw [List.length_map] at q2; omega
    refine ⟨fun i => ?_, ?_, ?_⟩
    · rw [ho]
      by_cases hi : i ∈ sy.take n
      · rw [hcA i hi]; have := i1 i; omega
      · rw [List.count_eq_zero_of_not_mem hi]; have := i1 i; omega
    · have e1 := wide_one val _ _ t (sy.take n) (fun i hi => ⟨hA2 i hi, i1 i⟩)
      have e2 := wide_none val _ (t + 1) (sy.drop n) hD2
      have e3 := wide_none val _ t (sy.drop n) hD
      have s1 : wideL (t + 1) (sy.map fun i => (val i, occ i ((rowS (sy.map (coin val)) (t + 1)).take (n + p)))) = n * 2 ^ t + wideL t (sy.map fun i => (val i, occ i ((rowS (sy.map (coin val)) t).take (2 * p)))) := by
        generalize (fun i => (val i, occ i ((rowS (sy.map (coin val)) (t + 1)).take (n + p)))) = f1 at *
        generalize (fun i => (val i, occ i ((rowS (sy.map (coin val)) t).take (2 * p)))) = f2 at *
        have g1 : wideL (t + 1) (sy.map f1) = wideL (t + 1) ((sy.take n).map f1) + wideL (t + 1) ((sy.drop n).map f1) := by rw [← wideL_append, ← List.map_append, List.take_append_drop]
        have g2 : wideL t (sy.map f2) = wideL t ((sy.take n).map f2) + wideL t ((sy.drop n).map f2) := by rw [← wideL_append, ← List.map_append, List.take_append_drop]
        rw [g1, g2, e1, e2, e3, hnl]
        rfl
      rw [s1, Nat.mul_add, i2, Nat.pow_succ, Nat.add_mul]
      generalize (2 : Nat) ^ t = v
      rw [Nat.mul_assoc 2 p v, ← Nat.mul_assoc n v 2, ← Nat.mul_assoc p v 2]
      generalize n * v = a
      generalize p * v = b
      omega
    · have e1 := cost_one val _ _ (sy.take n) hA2
      have e2 := cost_none val _ (sy.drop n) hD2
      have e3 := cost_none val _ (sy.drop n) hD
      rw [hv, ← i3]
      generalize (fun i => (val i, occ i ((rowS (sy.map (coin val)) (t + 1)).take (n + p)))) = f1 at *
      generalize (fun i => (val i, occ i ((rowS (sy.map (coin val)) t).take (2 * p)))) = f2 at *
      have g1 : costL (sy.map f1) = costL ((sy.take n).map f1) + costL ((sy.drop n).map f1) := by rw [← costL_append, ← List.map_append, List.take_append_drop]
      have g2 : costL (sy.map f2) = costL ((sy.take n).map f2) + costL ((sy.drop n).map f2) := by rw [← costL_append, ← List.map_append, List.take_append_drop]
      rw [g1, g2, e1, e2, e3]
      omega

end Go.Proofs.Ytenkbmkecgnfmaa.Huf
