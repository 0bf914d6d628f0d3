/- Merging in place by exchanges (no program): what a rotation and a merge of two sorted ranges hold. -/
import Derived.Sort.LotA
import Derived.Sort.Lot0
namespace Go.Proofs.YtkbpmnghjjpeiaaDoor.Srt
open Go.Sort
variable {α : Type} [Inhabited α]

theorem at_eq {d : Array α} {i j : Nat} (h : i = j) : d[i]! = d[j]! := by rw [h]
theorem permIn_mem {a b : Nat} {d d' : Array α} (h : PermIn a b d d') (hb : b ≤ d.size) (i : Nat) (h1 : a ≤ i) (h2 : i < b) : ∃ j, a ≤ j ∧ j < b ∧ d'[i]! = d[j]! :=
  permIn_all d d' a b (fun x => ∃ j, a ≤ j ∧ j < b ∧ x = d[j]!) hb h (fun j p q => ⟨j, p, q, rfl⟩) i h1 h2

/-- The ranges of n from a and from b on have changed places. -/
structure SwR (d d' : Array α) (a b n : Nat) : Prop where
  size : d'.size = d.size
  left : ∀ k, k < n → d'[a + k]! = d[b + k]!
  right : ∀ k, k < n → d'[b + k]! = d[a + k]!
  other : ∀ k, (k < a ∨ a + n ≤ k) → (k < b ∨ b + n ≤ k) → d'[k]! = d[k]!
theorem SwR.zero (d : Array α) (a b : Nat) : SwR d d a b 0 := ⟨rfl, fun k h => by omega, fun k h => by omega, fun _ _ _ => rfl⟩
theorem SwR.step {d d' : Array α} {a b n : Nat} (h : SwR d d' a b n) (hab : a + n < b) (hb : b + n < d.size) : SwR d (swp d' (a + n) (b + n)) a b (n + 1) := by
  have hs := h.size
  have e1 : d'[a + n]! = d[a + n]! := h.other _ (by omega) (by omega)
  have e2 : d'[b + n]! = d[b + n]! := h.other _ (by omega) (by omega)
  refine ⟨by rw [size_swp]; exact hs, fun k hk => ?_, fun k hk => ?_, fun k h1 h2 => ?_⟩
  · by_cases hkn : k = n
    · subst hkn
      rw [swp_left _ _ _ (by omega) (by omega)]; exact e2
    · rw [swp_other _ _ _ _ (by omega) (by omega)]; exact h.left k (by omega)
  · by_cases hkn : k = n
    · subst hkn
      rw [swp_right _ _ _ (by omega)]; exact e1
    · rw [swp_other _ _ _ _ (by omega) (by omega)]; exact h.right k (by omega)
  · rw [swp_other _ _ _ _ (by omega) (by omega)]; exact h.other k (by omega) (by omega)

/-- The ranges from a to m and from m to b have changed places. -/
structure Rot (d d' : Array α) (a m b : Nat) : Prop where
  size : d'.size = d.size
  left : ∀ k, a ≤ k → k < a + (b - m) → d'[k]! = d[k + (m - a)]!
  right : ∀ k, a + (b - m) ≤ k → k < b → d'[k]! = d[k - (b - m)]!
  other : ∀ k, k < a ∨ b ≤ k → d'[k]! = d[k]!
theorem Rot.refl_left (d : Array α) (a b : Nat) : Rot d d a a b :=
  ⟨rfl, fun k _ _ => at_eq (by omega), fun k _ _ => by omega, fun _ _ => rfl⟩
theorem Rot.refl_right (d : Array α) (a b : Nat) : Rot d d a b b :=
  ⟨rfl, fun k _ _ => by omega, fun k _ _ => at_eq (by omega), fun _ _ => rfl⟩
theorem Rot.of_swr {d d' : Array α} {m i : Nat} (hi : i ≤ m) (h : SwR d d' (m - i) m i) : Rot d d' (m - i) m (m + i) := by
  refine ⟨h.size, fun k h1 h2 => ?_, fun k h1 h2 => ?_, fun k h1 => h.other k (by omega) (by omega)⟩
  · have := h.left (k - (m - i)) (by omega)
    rw [at_eq (show m - i + (k - (m - i)) = k by omega)] at this
    rw [this]; exact at_eq (by omega)
  · have := h.right (k - m) (by omega)
    rw [at_eq (show m + (k - m) = k by omega)] at this
    rw [this]; exact at_eq (by omega)
theorem Rot.of_gt {d d' X : Array α} {m i j : Nat} (hi : i ≤ m) (hj : 0 < j) (hij : j < i) (h : SwR d d' (m - i) m j) (r : Rot d' X (m - (i - j)) m (m + j)) : Rot d X (m - i) m (m + j) := by
  refine ⟨r.size.trans h.size, fun k h1 h2 => ?_, fun k h1 h2 => ?_, fun k h1 => ?_⟩
  · rw [r.other k (by omega)]
    have := h.left (k - (m - i)) (by omega)
    rw [at_eq (show m - i + (k - (m - i)) = k by omega)] at this
    rw [this]; exact at_eq (by omega)
  · by_cases hk : k < m - (i - j) + j
    · rw [r.left k (by omega) (by omega)]
      have := h.right (k + (i - j) - m) (by omega)
      rw [at_eq (show m + (k + (i - j) - m) = k + (m - (m - (i - j))) by omega)] at this
      rw [this]; exact at_eq (by omega)
    · rw [r.right k (by omega) (by omega), h.other _ (by omega) (by omega)]
  · rw [r.other k (by omega), h.other k (by omega) (by omega)]
theorem Rot.of_lt {d d' X : Array α} {m i j : Nat} (hi : i ≤ m) (h0 : 0 < i) (hij : i < j) (h : SwR d d' (m - i) (m + j - i) i) (r : Rot d' X (m - i) m (m + (j - i))) : Rot d X (m - i) m (m + j) := by
  refine ⟨r.size.trans h.size, fun k h1 h2 => ?_, fun k h1 h2 => ?_, fun k h1 => ?_⟩
  · by_cases hk : k < m - i + (j - i)
    · rw [r.left k (by omega) (by omega), at_eq (show k + (m - (m - i)) = k + i by omega)]
      by_cases hk2 : k + i < m
      · omega
      · rw [h.other _ (by omega) (by omega)]; exact at_eq (by omega)
    · by_cases hk2 : k < m + (j - i)
      · rw [r.right k (by omega) (by omega)]
        have := h.left (k - (j - i) - (m - i)) (by omega)
        rw [at_eq (show m - i + (k - (j - i) - (m - i)) = k - (m + (j - i) - m) by omega)] at this
        rw [this]; exact at_eq (by omega)
      · omega
  · by_cases hk2 : k < m + (j - i)
    · omega
    · rw [r.other k (by omega)]
      have := h.right (k - (m + j - i)) (by omega)
      rw [at_eq (show m + j - i + (k - (m + j - i)) = k by omega)] at this
      rw [this]; exact at_eq (by omega)
  · rw [r.other k (by omega), h.other k (by omega) (by omega)]
/-- The first one goes up a place. -/
theorem Rot.up {d d' : Array α} {a k : Nat} (hak : a ≤ k) (hk : k + 1 < d.size) (r : Rot d d' a (a + 1) (k + 1)) : Rot d (swp d' k (k + 1)) a (a + 1) (k + 2) := by
  have hs := r.size
  have e1 : d'[k]! = d[a]! := by rw [r.right k (by omega) (by omega)]; exact at_eq (by omega)
  have e2 : d'[k + 1]! = d[k + 1]! := r.other _ (by omega)
  refine ⟨by rw [size_swp]; exact hs, fun q h1 h2 => ?_, fun q h1 h2 => ?_, fun q h1 => ?_⟩
  · by_cases hq : q = k
    · subst hq
      rw [swp_left _ _ _ (by omega) (by omega), e2]; exact at_eq (by omega)
    · rw [swp_other _ _ _ _ (by omega) (by omega), r.left q (by omega) (by omega)]
  · obtain rfl : q = k + 1 := by omega
    rw [swp_right _ _ _ (by omega), e1]; exact at_eq (by omega)
  · rw [swp_other _ _ _ _ (by omega) (by omega), r.other q (by omega)]
/-- The last one goes down a place. -/
theorem Rot.down {d d' : Array α} {k m : Nat} (h0 : 0 < k) (hkm : k ≤ m) (hm : m < d.size) (r : Rot d d' k m (m + 1)) : Rot d (swp d' k (k - 1)) (k - 1) m (m + 1) := by
  have hs := r.size
  have e1 : d'[k]! = d[m]! := by rw [r.left k (by omega) (by omega)]; exact at_eq (by omega)
  have e2 : d'[k - 1]! = d[k - 1]! := r.other _ (by omega)
  refine ⟨by rw [size_swp]; exact hs, fun q h1 h2 => ?_, fun q h1 h2 => ?_, fun q h1 => ?_⟩
  · obtain rfl : q = k - 1 := by omega
    rw [swp_right _ _ _ (by omega), e1]; exact at_eq (by omega)
  · by_cases hq : q = k
    · subst hq
      rw [swp_left _ _ _ (by omega) (by omega), e2]; exact at_eq (by omega)
    · rw [swp_other _ _ _ _ (by omega) (by omega), r.right q (by omega) (by omega)]
  · rw [swp_other _ _ _ _ (by omega) (by omega), r.other q (by omega)]

/-- Two neighbouring ranges, each sorted by lt; lt0 says the same as lt of one of the right and one of the left. -/
structure Mrg (lt0 lt : α → α → Bool) (d : Array α) (a m b : Nat) : Prop where
  left : SortedIn lt a m d
  right : SortedIn lt m b d
  cross : ∀ i j, a ≤ i → i < m → m ≤ j → j < b → lt0 d[j]! d[i]! = lt d[j]! d[i]!
variable {lt0 lt : α → α → Bool}
theorem Mrg.congr {d d' : Array α} {a m b : Nat} (h : Mrg lt0 lt d a m b) (he : ∀ k, a ≤ k → k < b → d'[k]! = d[k]!) (ham : a ≤ m) (hmb : m ≤ b) : Mrg lt0 lt d' a m b :=
  ⟨fun i j h1 h2 h3 => by rw [he i (by omega) (by omega), he j (by omega) (by omega)]; exact h.left i j h1 h2 h3,
   fun i j h1 h2 h3 => by rw [he i (by omega) (by omega), he j (by omega) (by omega)]; exact h.right i j h1 h2 h3,
   fun i j h1 h2 h3 h4 => by rw [he i (by omega) (by omega), he j (by omega) (by omega)]; exact h.cross i j h1 h2 h3 h4⟩
theorem le_sorted (hS : SWO lt) {d : Array α} {a b i j : Nat} (h : SortedIn lt a b d) (h1 : a ≤ i) (h2 : i ≤ j) (h3 : j < b) : lt d[j]! d[i]! = false := by
  rcases Nat.lt_or_eq_of_le h2 with q | rfl
  · exact h i j h1 q h3
  · exact hS.irrefl _
omit [Inhabited α] in
theorem swo_asymm (hS : SWO lt) {x y : α} (h : lt x y = true) : lt y x = false := by
  cases e : lt y x with
  | false => rfl
  | true => have := hS.trans x y x h e; rw [hS.irrefl] at this; cases this

/-- One on the left. -/
theorem Mrg.one_left (hS : SWO lt) {d d' : Array α} {a b i : Nat} (h : Mrg lt0 lt d a (a + 1) b) (hi : a + 1 ≤ i) (hib : i ≤ b) (hlo : i = a + 1 ∨ lt0 d[i - 1]! d[a]! = true) (hhi : i = b ∨ lt0 d[i]! d[a]! = false) (r : Rot d d' a (a + 1) i) : SortedIn lt a b d' := by
  have eL : ∀ k, a ≤ k → k < i - 1 → d'[k]! = d[k + 1]! := fun k h1 h2 => by rw [r.left k h1 (by omega)]; exact at_eq (by omega)
  have eM : d'[i - 1]! = d[a]! := by rw [r.right _ (by omega) (by omega)]; exact at_eq (by omega)
  have eR : ∀ k, i ≤ k → d'[k]! = d[k]! := fun k h1 => r.other k (by omega)
  intro p q hap hpq hqb
  by_cases q1 : q < i - 1
  · rw [eL p hap (by omega), eL q (by omega) q1]; exact h.right _ _ (by omega) (by omega) (by omega)
  by_cases q2 : q = i - 1
  · subst q2
    rw [eM, eL p hap (by omega)]
    have hc : lt d[i - 1]! d[a]! = true := by
      rcases hlo with q | q
      · omega
      · rw [← h.cross a (i - 1) (by omega) (by omega) (by omega) (by omega)]; exact q
    have hs := le_sorted hS h.right (show a + 1 ≤ p + 1 by omega) (show p + 1 ≤ i - 1 by omega) (by omega)
    cases e : lt d[a]! d[p + 1]! with
    | false => rfl
    | true => rw [hS.trans _ _ _ hc e] at hs; cases hs
  rw [eR q (by omega)]
  by_cases p1 : p < i - 1
  · rw [eL p hap p1]; exact h.right _ _ (by omega) (by omega) (by omega)
  by_cases p2 : p = i - 1
  · subst p2
    rw [eM]
    have hc : lt d[i]! d[a]! = false := by
      rcases hhi with q | q
      · omega
      · rw [← h.cross a i (by omega) (by omega) (by omega) (by omega)]; exact q
    exact hS.ntrans _ _ _ (le_sorted hS h.right (show a + 1 ≤ i by omega) (by omega) (by omega)) hc
  · rw [eR p (by omega)]; exact h.right _ _ (by omega) (by omega) (by omega)
/-- One on the right. -/
theorem Mrg.one_right (hS : SWO lt) {d d' : Array α} {a m i : Nat} (h : Mrg lt0 lt d a m (m + 1)) (hi : a ≤ i) (him : i ≤ m) (hlo : i = a ∨ lt0 d[m]! d[i - 1]! = false) (hhi : i = m ∨ lt0 d[m]! d[i]! = true) (r : Rot d d' i m (m + 1)) : SortedIn lt a (m + 1) d' := by
  have eL : ∀ k, k < i → d'[k]! = d[k]! := fun k h1 => r.other k (by omega)
  have eM : d'[i]! = d[m]! := by rw [r.left i (by omega) (by omega)]; exact at_eq (by omega)
  have eR : ∀ k, i < k → k ≤ m → d'[k]! = d[k - 1]! := fun k h1 h2 => by rw [r.right k (by omega) (by omega)]; exact at_eq (by omega)
  intro p q hap hpq hqb
  by_cases q1 : q < i
  · rw [eL p (by omega), eL q q1]; exact h.left _ _ hap hpq (by omega)
  by_cases q2 : q = i
  · subst q2
    rw [eM, eL p (by omega)]
    have hc : lt d[m]! d[q - 1]! = false := by
      rcases hlo with z | z
      · omega
      · rw [← h.cross (q - 1) m (by omega) (by omega) (by omega) (by omega)]; exact z
    exact hS.ntrans _ _ _ hc (le_sorted hS h.left hap (show p ≤ q - 1 by omega) (by omega))
  rw [eR q (by omega) (by omega)]
  by_cases p1 : p < i
  · rw [eL p p1]; exact h.left _ _ hap (by omega) (by omega)
  by_cases p2 : p = i
  · subst p2
    rw [eM]
    have hc : lt d[m]! d[p]! = true := by
      rcases hhi with z | z
      · omega
      · rw [← h.cross p m (by omega) (by omega) (by omega) (by omega)]; exact z
    have hs := le_sorted hS h.left hi (show p ≤ q - 1 by omega) (by omega)
    cases e : lt d[q - 1]! d[m]! with
    | false => rfl
    | true => rw [hS.trans _ _ _ e hc] at hs; cases hs
  · rw [eR p (by omega) (by omega)]; exact h.left _ _ (by omega) (by omega) (by omega)

/-- The two ranges are cut, what is between has changed places: two pairs of ranges, none of the second less than one of the first. -/
theorem Mrg.cut (hS : SWO lt) {d d' : Array α} {a m b s e : Nat} (h : Mrg lt0 lt d a m b) (has : a ≤ s) (hsm : s ≤ m) (hme : m ≤ e) (heb : e ≤ b) (hlo : s = a ∨ e = b ∨ lt0 d[e]! d[s - 1]! = false) (hhi : s = m ∨ e = m ∨ lt0 d[e - 1]! d[s]! = true) (r : Rot d d' s m e) :
    Mrg lt0 lt d' a s (s + (e - m)) ∧ Mrg lt0 lt d' (s + (e - m)) e b ∧ ∀ i j, a ≤ i → i < s + (e - m) → s + (e - m) ≤ j → j < b → lt d'[j]! d'[i]! = false := by
  have e1 : ∀ k, k < s → d'[k]! = d[k]! := fun k hk => r.other k (by omega)
  have e2 : ∀ k, s ≤ k → k < s + (e - m) → d'[k]! = d[k + (m - s)]! := fun k h1 h2 => r.left k h1 h2
  have e3 : ∀ k, s + (e - m) ≤ k → k < e → d'[k]! = d[k - (e - m)]! := fun k h1 h2 => r.right k h1 h2
  have e4 : ∀ k, e ≤ k → d'[k]! = d[k]! := fun k hk => r.other k (by omega)
  have lo : ∀ i j, a ≤ i → i < s → e ≤ j → j < b → lt d[j]! d[i]! = false := fun i j h1 h2 h3 h4 => by
    have hc : lt d[e]! d[s - 1]! = false := by
      rcases hlo with q | q | q
      · omega
      · omega
      · rw [← h.cross (s - 1) e (by omega) (by omega) (by omega) (by omega)]; exact q
    exact hS.ntrans _ _ _ (le_sorted hS h.right hme h3 h4) (hS.ntrans _ _ _ hc (le_sorted hS h.left h1 (show i ≤ s - 1 by omega) (by omega)))
  have hi : ∀ i j, s ≤ i → i < m → m ≤ j → j < e → lt d[i]! d[j]! = false := fun i j h1 h2 h3 h4 => by
    have hc : lt d[e - 1]! d[s]! = true := by
      rcases hhi with q | q | q
      · omega
      · omega
      · rw [← h.cross s (e - 1) (by omega) (by omega) (by omega) (by omega)]; exact q
    cases q : lt d[i]! d[j]! with
    | false => rfl
    | true =>
      have h5 := le_sorted hS h.right h3 (show j ≤ e - 1 by omega) (by omega)
      have h6 := le_sorted hS h.left has h1 h2
      cases q2 : lt d[e - 1]! d[j]! with
      | true => rw [q2] at h5; cases h5
      | false =>
        have h7 := swo_asymm hS q
        have h8 := hS.ntrans _ _ _ q2 (hS.ntrans _ _ _ h7 h6)
        rw [hc] at h8; cases h8
  refine ⟨⟨?_, ?_, ?_⟩, ⟨?_, ?_, ?_⟩, ?_⟩
  · intro i j h1 h2 h3
    rw [e1 i (by omega), e1 j h3]; exact h.left _ _ h1 h2 (by omega)
  · intro i j h1 h2 h3
    rw [e2 i h1 (by omega), e2 j (by omega) h3]; exact h.right _ _ (by omega) (by omega) (by omega)
  · intro i j h1 h2 h3 h4
    rw [e1 i h2, e2 j h3 h4]; exact h.cross _ _ h1 (by omega) (by omega) (by omega)
  · intro i j h1 h2 h3
    rw [e3 i h1 (by omega), e3 j (by omega) h3]; exact h.left _ _ (by omega) (by omega) (by omega)
  · intro i j h1 h2 h3
    rw [e4 i h1, e4 j (by omega)]; exact h.right _ _ (by omega) h2 h3
  · intro i j h1 h2 h3 h4
    rw [e3 i h1 h2, e4 j h3]; exact h.cross _ _ (by omega) (by omega) (by omega) h4
  · intro i j h1 h2 h3 h4
    by_cases hi1 : i < s
    · rw [e1 i hi1]
      by_cases hj : j < e
      · rw [e3 j h3 hj]; exact h.left _ _ h1 (by omega) (by omega)
      · rw [e4 j (by omega)]; exact lo i j h1 hi1 (by omega) h4
    · rw [e2 i (by omega) h2]
      by_cases hj : j < e
      · rw [e3 j h3 hj]; exact hi _ _ (by omega) (by omega) (by omega) (by omega)
      · rw [e4 j (by omega)]; exact h.right _ _ (by omega) (by omega) h4
/-- The two parts, each sorted, are sorted. -/
theorem sorted_join {d d1 d2 : Array α} {a m b : Nat} (hb : b ≤ d.size) (hmb : m ≤ b) (p1 : PermIn a m d d1) (p2 : PermIn m b d1 d2) (s1 : SortedIn lt a m d1) (s2 : SortedIn lt m b d2)
    (h : ∀ i j, a ≤ i → i < m → m ≤ j → j < b → lt d[j]! d[i]! = false) : SortedIn lt a b d2 := by
  intro i j h1 h2 h3
  by_cases hj : j < m
  · rw [p2.2.1 i (by omega), p2.2.1 j (by omega)]; exact s1 i j h1 h2 hj
  · by_cases hi : i < m
    · rw [p2.2.1 i (by omega)]
      obtain ⟨i', q1, q2, q3⟩ := permIn_mem p1 (by omega) i h1 hi
      obtain ⟨j', r1, r2, r3⟩ := permIn_mem p2 (by rw [p1.1]; exact hb) j (by omega) h3
      rw [q3, r3, p1.2.1 j' (by omega)]
      exact h i' j' q1 q2 r1 r2
    · exact s2 i j (by omega) h2 h3
end Go.Proofs.YtkbpmnghjjpeiaaDoor.Srt
