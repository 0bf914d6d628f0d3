/- Merging in place by exchanges (no program): what a rotation and a merge of two sorted ranges hold. Sorting by blocks that are merged (no program): the insertion into a block, the rows of blocks, and that the whole is sorted by the order in which none are alike. The library's exchange of two ranges, at elements of one cell. The library's rotation of two neighbouring ranges, at elements of one cell. -/
import Derived.Sort.LotA
import Derived.Sort.Lot0
import Derived.Test.YthmbbpfgbpacnaaGreatDoorChecked
import Derived.Shelf.SlSortCmp.Kit1
import Derived.Sort.WalkB2
import Derived.Sort.WalkB12
import Derived.Deep.LoopGhost
import Derived.Lib.Hide
namespace Go.Proofs.YthmbbpfgbpacnaaGreatDoor.Srt
open Go.Sort
variable {α : Type} [Inhabited α]
theorem at_eq {d : Array α} {i j : Nat} (h : i = j) : d[i]! = d[j]! := by rw [h]
theorem permIn_mem {a b : Nat} {d d' : Array α} (h : PermIn a b d d') (hb : b <= d.size) (i : Nat) (h1 : a <= i) (h2 : i < b) : ∃ j, a <= j /\ j < b /\ d'[i]! = d[j]! :=
 permIn_all d d' a b (fun x => ∃ j, a <= j /\ j < b /\ x = d[j]!) hb h (fun j p q => ⟨j, p, q, rfl⟩) i h1 h2
structure SwR (d d' : Array α) (a b n : Nat) : Prop where
 size : d'.size = d.size
 left : ∀ k, k < n -> d'[a + k]! = d[b + k]!
 right : ∀ k, k < n -> d'[b + k]! = d[a + k]!
 other : ∀ k, (k < a \/ a + n <= k) -> (k < b \/ b + n <= k) -> d'[k]! = d[k]!
theorem SwR.zero (d : Array α) (a b : Nat) : SwR d d a b 0 := ⟨rfl, fun k h => by omega, fun k h => by omega, fun _ _ _ => rfl⟩
theorem SwR.step {d d' : Array α} {a b n : Nat} (h : SwR d d' a b n) (hab : a + n < b) (hb : b + n < d.size) : SwR d (swp d' (a + n) (b + n)) a b (n + 1) := by
 have hs := h.size
 have e1 : d'[a + n]! = d[a + n]! := h.other _ (by omega) (by omega)
 have e2 : d'[b + n]! = d[b + n]! := h.other _ (by omega) (by omega)
 refine ⟨by rw [size_swp]; exact hs, fun k hk => ?_, fun k hk => ?_, fun k h1 h2 => ?_⟩
 ·by_cases hkn : k = n
  ·subst hkn
   rw [swp_left _ _ _ (by omega) (by omega)]; exact e2
  ·rw [swp_other _ _ _ _ (by omega) (by omega)]; exact h.left k (by omega)
 ·by_cases hkn : k = n
  ·subst hkn
   rw [swp_right _ _ _ (by omega)]; exact e1
  ·rw [swp_other _ _ _ _ (by omega) (by omega)]; exact h.right k (by omega)
 ·rw [swp_other _ _ _ _ (by omega) (by omega)]; exact h.other k (by omega) (by omega)
structure Rot (d d' : Array α) (a m b : Nat) : Prop where
 size : d'.size = d.size
 left : ∀ k, a <= k -> k < a + (b - m) -> d'[k]! = d[k + (m - a)]!
 right : ∀ k, a + (b - m) <= k -> k < b -> d'[k]! = d[k - (b - m)]!
 other : ∀ k, k < a \/ b <= k -> d'[k]! = d[k]!
theorem Rot.refl_left (d : Array α) (a b : Nat) : Rot d d a a b :=
 ⟨rfl, fun k _ _ => at_eq (by omega), fun k _ _ => by omega, fun _ _ => rfl⟩
theorem Rot.refl_right (d : Array α) (a b : Nat) : Rot d d a b b :=
 ⟨rfl, fun k _ _ => by omega, fun k _ _ => at_eq (by omega), fun _ _ => rfl⟩
theorem Rot.of_swr {d d' : Array α} {m i : Nat} (hi : i <= m) (h : SwR d d' (m - i) m i) : Rot d d' (m - i) m (m + i) := by
 refine ⟨h.size, fun k h1 h2 => ?_, fun k h1 h2 => ?_, fun k h1 => h.other k (by omega) (by omega)⟩
 ·have := h.left (k - (m - i)) (by omega)
  rw [at_eq (show m - i + (k - (m - i)) = k by omega)] at this
  rw [this]; exact at_eq (by omega)
 ·have := h.right (k - m) (by omega)
  rw [at_eq (show m + (k - m) = k by omega)] at this
  rw [this]; exact at_eq (by omega)
theorem Rot.of_gt {d d' X : Array α} {m i j : Nat} (hi : i <= m) (hj : 0 < j) (hij : j < i) (h : SwR d d' (m - i) m j) (r : Rot d' X (m - (i - j)) m (m + j)) : Rot d X (m - i) m (m + j) := by
 refine ⟨r.size.trans h.size, fun k h1 h2 => ?_, fun k h1 h2 => ?_, fun k h1 => ?_⟩
 ·rw [r.other k (by omega)]
  have := h.left (k - (m - i)) (by omega)
  rw [at_eq (show m - i + (k - (m - i)) = k by omega)] at this
  rw [this]; exact at_eq (by omega)
 ·by_cases hk : k < m - (i - j) + j
  ·rw [r.left k (by omega) (by omega)]
   have := h.right (k + (i - j) - m) (by omega)
   rw [at_eq (show m + (k + (i - j) - m) = k + (m - (m - (i - j))) by omega)] at this
   rw [this]; exact at_eq (by omega)
  ·rw [r.right k (by omega) (by omega), h.other _ (by omega) (by omega)]
 ·rw [r.other k (by omega), h.other k (by omega) (by omega)]
theorem Rot.of_lt {d d' X : Array α} {m i j : Nat} (hi : i <= m) (h0 : 0 < i) (hij : i < j) (h : SwR d d' (m - i) (m + j - i) i) (r : Rot d' X (m - i) m (m + (j - i))) : Rot d X (m - i) m (m + j) := by
 refine ⟨r.size.trans h.size, fun k h1 h2 => ?_, fun k h1 h2 => ?_, fun k h1 => ?_⟩
 ·by_cases hk : k < m - i + (j - i)
  ·rw [r.left k (by omega) (by omega), at_eq (show k + (m - (m - i)) = k + i by omega)]
   by_cases hk2 : k + i < m
   ·omega
   ·rw [h.other _ (by omega) (by omega)]; exact at_eq (by omega)
  ·by_cases hk2 : k < m + (j - i)
   ·rw [r.right k (by omega) (by omega)]
    have := h.left (k - (j - i) - (m - i)) (by omega)
    rw [at_eq (show m - i + (k - (j - i) - (m - i)) = k - (m + (j - i) - m) by omega)] at this
    rw [this]; exact at_eq (by omega)
   ·omega
 ·by_cases hk2 : k < m + (j - i)
  ·omega
  ·rw [r.other k (by omega)]
   have := h.right (k - (m + j - i)) (by omega)
   rw [at_eq (show m + j - i + (k - (m + j - i)) = k by omega)] at this
   rw [this]; exact at_eq (by omega)
 ·rw [r.other k (by omega), h.other k (by omega) (by omega)]
theorem Rot.up {d d' : Array α} {a k : Nat} (hak : a <= k) (hk : k + 1 < d.size) (r : Rot d d' a (a + 1) (k + 1)) : Rot d (swp d' k (k + 1)) a (a + 1) (k + 2) := by
 have hs := r.size
 have e1 : d'[k]! = d[a]! := by rw [r.right k (by omega) (by omega)]; exact at_eq (by omega)
 have e2 : d'[k + 1]! = d[k + 1]! := r.other _ (by omega)
 refine ⟨by rw [size_swp]; exact hs, fun q h1 h2 => ?_, fun q h1 h2 => ?_, fun q h1 => ?_⟩
 ·by_cases hq : q = k
  ·subst hq
   rw [swp_left _ _ _ (by omega) (by omega), e2]; exact at_eq (by omega)
  ·rw [swp_other _ _ _ _ (by omega) (by omega), r.left q (by omega) (by omega)]
 ·obtain rfl : q = k + 1 := by omega
  rw [swp_right _ _ _ (by omega), e1]; exact at_eq (by omega)
 ·rw [swp_other _ _ _ _ (by omega) (by omega), r.other q (by omega)]
theorem Rot.down {d d' : Array α} {k m : Nat} (h0 : 0 < k) (hkm : k <= m) (hm : m < d.size) (r : Rot d d' k m (m + 1)) : Rot d (swp d' k (k - 1)) (k - 1) m (m + 1) := by
 have hs := r.size
 have e1 : d'[k]! = d[m]! := by rw [r.left k (by omega) (by omega)]; exact at_eq (by omega)
 have e2 : d'[k - 1]! = d[k - 1]! := r.other _ (by omega)
 refine ⟨by rw [size_swp]; exact hs, fun q h1 h2 => ?_, fun q h1 h2 => ?_, fun q h1 => ?_⟩
 ·obtain rfl : q = k - 1 := by omega
  rw [swp_right _ _ _ (by omega), e1]; exact at_eq (by omega)
 ·by_cases hq : q = k
  ·subst hq
   rw [swp_left _ _ _ (by omega) (by omega), e2]; exact at_eq (by omega)
  ·rw [swp_other _ _ _ _ (by omega) (by omega), r.right q (by omega) (by omega)]
 ·rw [swp_other _ _ _ _ (by omega) (by omega), r.other q (by omega)]
structure Mrg (lt0 lt : α -> α -> Bool) (d : Array α) (a m b : Nat) : Prop where
 left : SortedIn lt a m d
 right : SortedIn lt m b d
 cross : ∀ i j, a <= i -> i < m -> m <= j -> j < b -> lt0 d[j]! d[i]! = lt d[j]! d[i]!
variable {lt0 lt : α -> α -> Bool}
theorem Mrg.congr {d d' : Array α} {a m b : Nat} (h : Mrg lt0 lt d a m b) (he : ∀ k, a <= k -> k < b -> d'[k]! = d[k]!) (ham : a <= m) (hmb : m <= b) : Mrg lt0 lt d' a m b :=
 ⟨fun i j h1 h2 h3 => by rw [he i (by omega) (by omega), he j (by omega) (by omega)]; exact h.left i j h1 h2 h3,
  fun i j h1 h2 h3 => by rw [he i (by omega) (by omega), he j (by omega) (by omega)]; exact h.right i j h1 h2 h3,
  fun i j h1 h2 h3 h4 => by rw [he i (by omega) (by omega), he j (by omega) (by omega)]; exact h.cross i j h1 h2 h3 h4⟩
theorem le_sorted (hS : SWO lt) {d : Array α} {a b i j : Nat} (h : SortedIn lt a b d) (h1 : a <= i) (h2 : i <= j) (h3 : j < b) : lt d[j]! d[i]! = false := by
 rcases Nat.lt_or_eq_of_le h2 with q | rfl
 ·exact h i j h1 q h3
 ·exact hS.irrefl _
omit [Inhabited α] in
theorem swo_asymm (hS : SWO lt) {x y : α} (h : lt x y = true) : lt y x = false := by
 cases e : lt y x with
 | false => rfl
 | true => have := hS.trans x y x h e; rw [hS.irrefl] at this; cases this
theorem Mrg.one_left (hS : SWO lt) {d d' : Array α} {a b i : Nat} (h : Mrg lt0 lt d a (a + 1) b) (hi : a + 1 <= i) (hib : i <= b) (hlo : i = a + 1 \/ lt0 d[i - 1]! d[a]! = true) (hhi : i = b \/ lt0 d[i]! d[a]! = false) (r : Rot d d' a (a + 1) i) : SortedIn lt a b d' := by
 have eL : ∀ k, a <= k -> k < i - 1 -> d'[k]! = d[k + 1]! := fun k h1 h2 => by rw [r.left k h1 (by omega)]; exact at_eq (by omega)
 have eM : d'[i - 1]! = d[a]! := by rw [r.right _ (by omega) (by omega)]; exact at_eq (by omega)
 have eR : ∀ k, i <= k -> d'[k]! = d[k]! := fun k h1 => r.other k (by omega)
 intro p q hap hpq hqb
 by_cases q1 : q < i - 1
 ·rw [eL p hap (by omega), eL q (by omega) q1]; exact h.right _ _ (by omega) (by omega) (by omega)
 by_cases q2 : q = i - 1
 ·subst q2
  rw [eM, eL p hap (by omega)]
  have hc : lt d[i - 1]! d[a]! = true := by
   rcases hlo with q | q
   ·omega
   ·rw [<- h.cross a (i - 1) (by omega) (by omega) (by omega) (by omega)]; exact q
  have hs := le_sorted hS h.right (show a + 1 <= p + 1 by omega) (show p + 1 <= i - 1 by omega) (by omega)
  cases e : lt d[a]! d[p + 1]! with
  | false => rfl
  | true => rw [hS.trans _ _ _ hc e] at hs; cases hs
 rw [eR q (by omega)]
 by_cases p1 : p < i - 1
 ·rw [eL p hap p1]; exact h.right _ _ (by omega) (by omega) (by omega)
 by_cases p2 : p = i - 1
 ·subst p2
  rw [eM]
  have hc : lt d[i]! d[a]! = false := by
   rcases hhi with q | q
   ·omega
   ·rw [<- h.cross a i (by omega) (by omega) (by omega) (by omega)]; exact q
  exact hS.ntrans _ _ _ (le_sorted hS h.right (show a + 1 <= i by omega) (by omega) (by omega)) hc
 ·rw [eR p (by omega)]; exact h.right _ _ (by omega) (by omega) (by omega)
theorem Mrg.one_right (hS : SWO lt) {d d' : Array α} {a m i : Nat} (h : Mrg lt0 lt d a m (m + 1)) (hi : a <= i) (him : i <= m) (hlo : i = a \/ lt0 d[m]! d[i - 1]! = false) (hhi : i = m \/ lt0 d[m]! d[i]! = true) (r : Rot d d' i m (m + 1)) : SortedIn lt a (m + 1) d' := by
 have eL : ∀ k, k < i -> d'[k]! = d[k]! := fun k h1 => r.other k (by omega)
 have eM : d'[i]! = d[m]! := by rw [r.left i (by omega) (by omega)]; exact at_eq (by omega)
 have eR : ∀ k, i < k -> k <= m -> d'[k]! = d[k - 1]! := fun k h1 h2 => by rw [r.right k (by omega) (by omega)]; exact at_eq (by omega)
 intro p q hap hpq hqb
 by_cases q1 : q < i
 ·rw [eL p (by omega), eL q q1]; exact h.left _ _ hap hpq (by omega)
 by_cases q2 : q = i
 ·subst q2
  rw [eM, eL p (by omega)]
  have hc : lt d[m]! d[q - 1]! = false := by
   rcases hlo with z | z
   ·omega
   ·rw [<- h.cross (q - 1) m (by omega) (by omega) (by omega) (by omega)]; exact z
  exact hS.ntrans _ _ _ hc (le_sorted hS h.left hap (show p <= q - 1 by omega) (by omega))
 rw [eR q (by omega) (by omega)]
 by_cases p1 : p < i
 ·rw [eL p p1]; exact h.left _ _ hap (by omega) (by omega)
 by_cases p2 : p = i
 ·subst p2
  rw [eM]
  have hc : lt d[m]! d[p]! = true := by
   rcases hhi with z | z
   ·omega
   ·rw [<- h.cross p m (by omega) (by omega) (by omega) (by omega)]; exact z
  have hs := le_sorted hS h.left hi (show p <= q - 1 by omega) (by omega)
  cases e : lt d[q - 1]! d[m]! with
  | false => rfl
  | true => rw [hS.trans _ _ _ e hc] at hs; cases hs
 ·rw [eR p (by omega) (by omega)]; exact h.left _ _ (by omega) (by omega) (by omega)
theorem Mrg.cut (hS : SWO lt) {d d' : Array α} {a m b s e : Nat} (h : Mrg lt0 lt d a m b) (has : a <= s) (hsm : s <= m) (hme : m <= e) (heb : e <= b) (hlo : s = a \/ e = b \/ lt0 d[e]! d[s - 1]! = false) (hhi : s = m \/ e = m \/ lt0 d[e - 1]! d[s]! = true) (r : Rot d d' s m e) :
  Mrg lt0 lt d' a s (s + (e - m)) /\ Mrg lt0 lt d' (s + (e - m)) e b /\ ∀ i j, a <= i -> i < s + (e - m) -> s + (e - m) <= j -> j < b -> lt d'[j]! d'[i]! = false := by
 have e1 : ∀ k, k < s -> d'[k]! = d[k]! := fun k hk => r.other k (by omega)
 have e2 : ∀ k, s <= k -> k < s + (e - m) -> d'[k]! = d[k + (m - s)]! := fun k h1 h2 => r.left k h1 h2
 have e3 : ∀ k, s + (e - m) <= k -> k < e -> d'[k]! = d[k - (e - m)]! := fun k h1 h2 => r.right k h1 h2
 have e4 : ∀ k, e <= k -> d'[k]! = d[k]! := fun k hk => r.other k (by omega)
 have lo : ∀ i j, a <= i -> i < s -> e <= j -> j < b -> lt d[j]! d[i]! = false := fun i j h1 h2 h3 h4 => by
  have hc : lt d[e]! d[s - 1]! = false := by
   rcases hlo with q | q | q
   ·omega
   ·omega
   ·rw [<- h.cross (s - 1) e (by omega) (by omega) (by omega) (by omega)]; exact q
  exact hS.ntrans _ _ _ (le_sorted hS h.right hme h3 h4) (hS.ntrans _ _ _ hc (le_sorted hS h.left h1 (show i <= s - 1 by omega) (by omega)))
 have hi : ∀ i j, s <= i -> i < m -> m <= j -> j < e -> lt d[i]! d[j]! = false := fun i j h1 h2 h3 h4 => by
  have hc : lt d[e - 1]! d[s]! = true := by
   rcases hhi with q | q | q
   ·omega
   ·omega
   ·rw [<- h.cross s (e - 1) (by omega) (by omega) (by omega) (by omega)]; exact q
  cases q : lt d[i]! d[j]! with
  | false => rfl
  | true =>
   have h5 := le_sorted hS h.right h3 (show j <= e - 1 by omega) (by omega)
   have h6 := le_sorted hS h.left has h1 h2
   cases q2 : lt d[e - 1]! d[j]! with
   | true => rw [q2] at h5; cases h5
   | false =>
    have h7 := swo_asymm hS q
    have h8 := hS.ntrans _ _ _ q2 (hS.ntrans _ _ _ h7 h6)
    rw [hc] at h8; cases h8
 refine ⟨⟨?_, ?_, ?_⟩, ⟨?_, ?_, ?_⟩, ?_⟩
 ·intro i j h1 h2 h3
  rw [e1 i (by omega), e1 j h3]; exact h.left _ _ h1 h2 (by omega)
 ·intro i j h1 h2 h3
  rw [e2 i h1 (by omega), e2 j (by omega) h3]; exact h.right _ _ (by omega) (by omega) (by omega)
 ·intro i j h1 h2 h3 h4
  rw [e1 i h2, e2 j h3 h4]; exact h.cross _ _ h1 (by omega) (by omega) (by omega)
 ·intro i j h1 h2 h3
  rw [e3 i h1 (by omega), e3 j (by omega) h3]; exact h.left _ _ (by omega) (by omega) (by omega)
 ·intro i j h1 h2 h3
  rw [e4 i h1, e4 j (by omega)]; exact h.right _ _ (by omega) h2 h3
 ·intro i j h1 h2 h3 h4
  rw [e3 i h1 h2, e4 j h3]; exact h.cross _ _ (by omega) (by omega) (by omega) h4
 ·intro i j h1 h2 h3 h4
  by_cases hi1 : i < s
  ·rw [e1 i hi1]
   by_cases hj : j < e
   ·rw [e3 j h3 hj]; exact h.left _ _ h1 (by omega) (by omega)
   ·rw [e4 j (by omega)]; exact lo i j h1 hi1 (by omega) h4
  ·rw [e2 i (by omega) h2]
   by_cases hj : j < e
   ·rw [e3 j h3 hj]; exact hi _ _ (by omega) (by omega) (by omega) (by omega)
   ·rw [e4 j (by omega)]; exact h.right _ _ (by omega) (by omega) h4
theorem sorted_join {d d1 d2 : Array α} {a m b : Nat} (hb : b <= d.size) (hmb : m <= b) (p1 : PermIn a m d d1) (p2 : PermIn m b d1 d2) (s1 : SortedIn lt a m d1) (s2 : SortedIn lt m b d2)
  (h : ∀ i j, a <= i -> i < m -> m <= j -> j < b -> lt d[j]! d[i]! = false) : SortedIn lt a b d2 := by
 intro i j h1 h2 h3
 by_cases hj : j < m
 ·rw [p2.2.1 i (by omega), p2.2.1 j (by omega)]; exact s1 i j h1 h2 hj
 ·by_cases hi : i < m
  ·rw [p2.2.1 i (by omega)]
   obtain ⟨i', q1, q2, q3⟩ := permIn_mem p1 (by omega) i h1 hi
   obtain ⟨j', r1, r2, r3⟩ := permIn_mem p2 (by rw [p1.1]; exact hb) j (by omega) h3
   rw [q3, r3, p1.2.1 j' (by omega)]
   exact h i' j' q1 q2 r1 r2
  ·exact s2 i j (by omega) h2 h3
end Go.Proofs.YthmbbpfgbpacnaaGreatDoor.Srt
namespace Go.Proofs.YthmbbpfgbpacnaaGreatDoor.Srt
open Go.Sort
variable {α : Type} [Inhabited α] {lt0 lt : α -> α -> Bool} {Pre : α -> α -> Prop}
theorem insInner_eq (a : Nat) : ∀ (j : Nat) (d : Array α), j < d.size -> (∀ k, a <= k -> k < j -> lt0 d[j]! d[k]! = lt d[j]! d[k]!) -> insInner lt0 a j d = insInner lt a j d
 | 0, _, _, _ => rfl
 | j + 1, d, hj, h => by
  unfold insInner
  by_cases haj : j + 1 > a
  ·have h1 := h j (by omega) (by omega)
   rw [h1]
   split
   ·refine insInner_eq a j _ (by rw [size_swp]; omega) (fun k h2 h3 => ?_)
    rw [swp_right _ _ _ (by omega), swp_other _ _ _ _ (by omega) (by omega)]
    exact h k h2 (by omega)
   ·rfl
  ·simp [haj]
theorem insOuter_eq (hS : SWO lt) (hpre : ∀ x y, Pre x y -> lt0 y x = lt y x) (a b : Nat) : ∀ (n i : Nat) (d : Array α), b - i = n -> a < i -> i <= b -> b <= d.size -> SortedIn lt a i d ->
  (∀ k j, a <= k -> k < i -> i <= j -> j < b -> Pre d[k]! d[j]!) -> (∀ k j, i <= k -> k < j -> j < b -> Pre d[k]! d[j]!) -> insOuter lt0 a b i d = insOuter lt a b i d
 | 0, i, d, hn, hai, hib, hb, hs, h1, h2 => by
  obtain rfl : i = b := by omega
  rw [insOuter.eq_def lt0, insOuter.eq_def lt, if_neg (by omega), if_neg (by omega)]
 | n + 1, i, d, hn, hai, hib, hb, hs, h1, h2 => by
  have hlt : i < b := by omega
  rw [insOuter.eq_def lt0, insOuter.eq_def lt, if_pos hlt, if_pos hlt, insInner_eq a i d (by omega) (fun k q1 q2 => hpre _ _ (h1 k i q1 q2 (Nat.le_refl _) hlt))]
  have sp := insInner_spec hS swp_permIn permIn_refl permIn_trans a (i + 1) i (by omega) i d (by omega) (Nat.le_refl _) (by omega) ⟨fun p q hap hpq hqi _ hq => hs p q hap hpq (by omega), fun q h1 h2 => by omega⟩
  have ot : ∀ k, i + 1 <= k -> (insInner lt a i d)[k]! = d[k]! := fun k hk => sp.1.2.1 k (by omega)
  refine insOuter_eq hS hpre a b n (i + 1) _ (by omega) (by omega) (by omega) (by rw [sp.1.1]; exact hb) sp.2 (fun k j q1 q2 q3 q4 => ?_) (fun k j q1 q2 q3 => ?_)
  ·rw [ot j q3]
   obtain ⟨k', r1, r2, r3⟩ := permIn_mem sp.1 (by omega) k q1 q2
   rw [r3]
   by_cases hk : k' < i
   ·exact h1 k' j r1 hk (by omega) q4
   ·exact h2 k' j (by omega) (by omega) q4
  ·rw [ot k q1, ot j (by omega)]; exact h2 k j (by omega) q2 q3
theorem insertion_lt (hS : SWO lt) (hpre : ∀ x y, Pre x y -> lt0 y x = lt y x) (d : Array α) (a b : Nat) (hab : a <= b) (hb : b <= d.size) (h : ∀ k j, a <= k -> k < j -> j < b -> Pre d[k]! d[j]!) :
  PermIn a b d (insertionSort lt0 d a b) /\ SortedIn lt a b (insertionSort lt0 d a b) := by
 have he : insertionSort lt0 d a b = insertionSort lt d a b := by
  unfold insertionSort
  by_cases hq : a + 1 <= b
  ·exact insOuter_eq hS hpre a b (b - (a + 1)) (a + 1) d rfl (by omega) hq hb (fun i j h1 h2 h3 => by omega) (fun k j h1 h2 h3 h4 => h k j h1 (by omega) h4) (fun k j h1 h2 h3 => h k j (by omega) h2 h3)
  ·rw [insOuter.eq_def lt0, insOuter.eq_def lt, if_neg (by omega), if_neg (by omega)]
 rw [he]
 exact insertionSort_holds hS d a b hab hb
def PreAt (Pre : α -> α -> Prop) (d : Array α) (c : Nat) : Prop := ∀ i j, i < c -> c <= j -> j < d.size -> Pre d[i]! d[j]!
theorem PreAt.perm {d d' : Array α} {a b c : Nat} (h : PreAt Pre d c) (p : PermIn a b d d') (hb : b <= d.size) (hc : c <= a \/ b <= c) : PreAt Pre d' c := by
 intro i j h1 h2 h3
 rw [p.1] at h3
 have hi : ∃ i', i' < c /\ d'[i]! = d[i']! := by
  by_cases hq : a <= i /\ i < b
  ·obtain ⟨i', r1, r2, r3⟩ := permIn_mem p hb i hq.1 hq.2
   exact ⟨i', by omega, r3⟩
  ·exact ⟨i, h1, p.2.1 i (by omega)⟩
 have hj : ∃ j', c <= j' /\ j' < d.size /\ d'[j]! = d[j']! := by
  by_cases hq : a <= j /\ j < b
  ·obtain ⟨j', r1, r2, r3⟩ := permIn_mem p hb j hq.1 hq.2
   exact ⟨j', by omega, by omega, r3⟩
  ·exact ⟨j, h2, h3, p.2.1 j (by omega)⟩
 obtain ⟨i', a1, a2⟩ := hi
 obtain ⟨j', b1, b2, b3⟩ := hj
 rw [a2, b3]
 exact h i' j' a1 b1 b2
theorem sorted_perm {d d' : Array α} {a b p q : Nat} (h : SortedIn lt p q d) (hp : PermIn a b d d') (hc : q <= a \/ b <= p) : SortedIn lt p q d' := fun i j h1 h2 h3 => by
 rw [hp.2.1 i (by omega), hp.2.1 j (by omega)]; exact h i j h1 h2 h3
theorem dvd_step {k a c : Nat} (ha : k ∣ a) (hc : k ∣ c) (h : c <= a + k) : c <= a \/ c = a + k := by
 obtain ⟨x, rfl⟩ := ha
 obtain ⟨y, rfl⟩ := hc
 rcases Nat.lt_or_ge x y with q | q
 ·have : k * (x + 1) <= k * y := Nat.mul_le_mul_left k q
  rw [Nat.mul_add, Nat.mul_one] at this
  omega
 ·exact .inl (Nat.mul_le_mul_left k q)
theorem dvd_gt {k a c : Nat} (ha : k ∣ a) (hc : k ∣ c) (h : a < c) : a + k <= c := by
 obtain ⟨x, rfl⟩ := ha
 obtain ⟨y, rfl⟩ := hc
 have : x < y := by
  rcases Nat.lt_or_ge x y with q | q
  ·exact q
  ·have := Nat.mul_le_mul_left k q; omega
 have : k * (x + 1) <= k * y := Nat.mul_le_mul_left k this
 rw [Nat.mul_add, Nat.mul_one] at this
 exact this
structure Ins1 (lt : α -> α -> Bool) (Pre : α -> α -> Prop) (d : Array α) (k a : Nat) : Prop where
 al : k ∣ a
 raw : ∀ i j, i < j -> a <= j -> j < d.size -> Pre d[i]! d[j]!
 pre : ∀ c, k ∣ c -> PreAt Pre d c
 srt : ∀ c, k ∣ c -> c < a -> SortedIn lt c (c + k) d
theorem Ins1.start {d : Array α} {k : Nat} (h : ∀ i j, i < j -> j < d.size -> Pre d[i]! d[j]!) : Ins1 lt Pre d k 0 :=
 ⟨Nat.dvd_zero _, fun i j h1 _ h3 => h i j h1 h3, fun c _ i j h1 h2 h3 => h i j (by omega) h3, fun c _ h2 => by omega⟩
theorem Ins1.step {d d' : Array α} {k a : Nat} (h : Ins1 lt Pre d k a) (hb : a + k <= d.size) (p : PermIn a (a + k) d d') (s : SortedIn lt a (a + k) d') : Ins1 lt Pre d' k (a + k) := by
 refine ⟨Nat.dvd_add h.al (Nat.dvd_refl k), fun i j h1 h2 h3 => ?_, fun c hc => ?_, fun c hc hca => ?_⟩
 ·rw [p.1] at h3
  rw [p.2.1 j (by omega)]
  by_cases hq : a <= i /\ i < a + k
  ·obtain ⟨i', r1, r2, r3⟩ := permIn_mem p hb i hq.1 hq.2
   rw [r3]; exact h.raw i' j (by omega) (by omega) h3
  ·rw [p.2.1 i (by omega)]; exact h.raw i j h1 (by omega) h3
 ·refine (h.pre c hc).perm p hb ?_
  rcases Nat.lt_or_ge a c with q | q
  ·exact .inr (dvd_gt h.al hc q)
  ·exact .inl q
 ·rcases Nat.lt_or_ge c a with q | q
  ·exact sorted_perm (h.srt c hc q) p (.inl (dvd_gt hc h.al q))
  ·rcases dvd_step h.al hc (by omega) with r | r
   ·obtain rfl : c = a := by omega
    exact s
   ·omega
structure Lev (lt : α -> α -> Bool) (Pre : α -> α -> Prop) (d : Array α) (k a : Nat) : Prop where
 al : 2 * k ∣ a
 pre2 : ∀ c, 2 * k ∣ c -> c <= a -> PreAt Pre d c
 srt2 : ∀ c, 2 * k ∣ c -> c < a -> SortedIn lt c (c + 2 * k) d
 pre1 : ∀ c, k ∣ c -> a <= c -> PreAt Pre d c
 srt1 : ∀ c, k ∣ c -> a <= c -> SortedIn lt c (min (c + k) d.size) d
theorem Ins1.last {d d' : Array α} {k a : Nat} (h : Ins1 lt Pre d k a) (ha : a <= d.size) (hn : d.size < a + k) (p : PermIn a d.size d d') (s : SortedIn lt a d.size d') : Lev lt Pre d' k 0 := by
 have hs := p.1
 refine ⟨Nat.dvd_zero _, fun c _ hc => ?_, fun c _ hc => by omega, fun c hc _ => ?_, fun c hc _ => ?_⟩
 ·obtain rfl : c = 0 := by omega
  intro i j h1; omega
 ·rcases Nat.lt_or_ge a c with q | q
  ·have := dvd_gt h.al hc q
   intro i j h1 h2 h3; omega
  ·exact (h.pre c hc).perm p (Nat.le_refl _) (.inl q)
 ·rw [hs]
  rcases Nat.lt_or_ge c a with q | q
  ·have q2 := dvd_gt hc h.al q
   rw [Nat.min_eq_left (by omega)]
   exact sorted_perm (h.srt c hc q) p (.inl q2)
  ·rcases Nat.lt_or_ge a c with r | r
   ·have := dvd_gt h.al hc r
    rw [Nat.min_eq_right (by omega)]
    intro i j h1 h2 h3; omega
   ·obtain rfl : c = a := by omega
    rw [Nat.min_eq_right (by omega)]
    exact s
theorem dvd_half {k a : Nat} (h : 2 * k ∣ a) : k ∣ a := Nat.dvd_trans (Nat.dvd_mul_left k 2) h
theorem Lev.mrg {d : Array α} {k a b : Nat} (hpre : ∀ x y, Pre x y -> lt0 y x = lt y x) (h : Lev lt Pre d k a) (h1 : a + k < d.size) (hb : b = min (a + 2 * k) d.size) : Mrg lt0 lt d a (a + k) b := by
 have al1 := dvd_half h.al
 have al2 : k ∣ a + k := Nat.dvd_add al1 (Nat.dvd_refl k)
 refine ⟨?_, ?_, fun i j q1 q2 q3 q4 => hpre _ _ (h.pre1 (a + k) al2 (by omega) i j q2 q3 (by omega))⟩
 ·have := h.srt1 a al1 (Nat.le_refl _)
  rwa [Nat.min_eq_left (by omega)] at this
 ·have := h.srt1 (a + k) al2 (by omega)
  rwa [show a + k + k = a + 2 * k by omega, <- hb] at this
theorem Lev.step {d d' : Array α} {k a : Nat} (hk : 0 < k) (h : Lev lt Pre d k a) (hb : a + 2 * k <= d.size) (p : PermIn a (a + 2 * k) d d') (s : SortedIn lt a (a + 2 * k) d') : Lev lt Pre d' k (a + 2 * k) := by
 have hs := p.1
 have al' : 2 * k ∣ a + 2 * k := Nat.dvd_add h.al (Nat.dvd_refl _)
 refine ⟨al', fun c hc hca => ?_, fun c hc hca => ?_, fun c hc hca => ?_, fun c hc hca => ?_⟩
 ·rcases dvd_step h.al hc hca with q | q
  ·exact (h.pre2 c hc q).perm p hb (.inl q)
  ·exact (h.pre1 c (dvd_half hc) (by omega)).perm p hb (.inr (by omega))
 ·rcases Nat.lt_or_ge c a with q | q
  ·exact sorted_perm (h.srt2 c hc q) p (.inl (dvd_gt hc h.al q))
  ·rcases dvd_step h.al hc (by omega) with r | r
   ·obtain rfl : c = a := by omega
    exact s
   ·omega
 ·exact (h.pre1 c hc (by omega)).perm p hb (.inr hca)
 ·rw [hs]; exact sorted_perm (h.srt1 c hc (by omega)) p (.inr hca)
theorem Lev.last {d d' : Array α} {k a : Nat} (h : Lev lt Pre d k a) (ha : a <= d.size) (hn : d.size < a + 2 * k) (p : PermIn a d.size d d') (s : SortedIn lt a d.size d') : Lev lt Pre d' (2 * k) 0 := by
 have hs := p.1
 refine ⟨Nat.dvd_zero _, fun c _ hc => ?_, fun c _ hc => by omega, fun c hc _ => ?_, fun c hc _ => ?_⟩
 ·obtain rfl : c = 0 := by omega
  intro i j h1; omega
 ·rcases Nat.lt_or_ge a c with q | q
  ·have := dvd_gt h.al hc q
   intro i j h1 h2 h3; omega
  ·exact (h.pre2 c hc q).perm p (Nat.le_refl _) (.inl q)
 ·rw [hs]
  rcases Nat.lt_or_ge c a with q | q
  ·have q2 := dvd_gt hc h.al q
   rw [Nat.min_eq_left (by omega)]
   exact sorted_perm (h.srt2 c hc q) p (.inl q2)
  ·rcases Nat.lt_or_ge a c with r | r
   ·have := dvd_gt h.al hc r
    rw [Nat.min_eq_right (by omega)]
    intro i j h1 h2 h3; omega
   ·obtain rfl : c = a := by omega
    rw [Nat.min_eq_right (by omega)]
    exact s
theorem Lev.tail {d : Array α} {k a : Nat} (h : Lev lt Pre d k a) (hn : d.size <= a + k) : SortedIn lt a d.size d := by
 have := h.srt1 a (dvd_half h.al) (Nat.le_refl _)
 rwa [Nat.min_eq_right hn] at this
theorem Lev.whole {d : Array α} {k : Nat} (h : Lev lt Pre d k 0) (hk : d.size <= k) : SortedIn lt 0 d.size d := h.tail (by omega)
end Go.Proofs.YthmbbpfgbpacnaaGreatDoor.Srt
namespace Go.Proofs.YthmbbpfgbpacnaaGreatDoor.Srt
open Go.Shelf Go.RowKit Go.Lib Go.Sort
variable {α : Type} [Inhabited α]
set_option maxHeartbeats 4000000 in
set_option maxRecDepth 1000000 in
theorem swapRange_any (enc : α -> Value) (fv : Value) (blk off cap a b n : Nat) (d0 d : Array α) (w0 w : World) (R : Row1 enc w0 blk off d0) (hs : d0.size = d.size) (S : SW enc w0 blk off d w) (hab : a + n <= b) (hb : b + n <= d.size) (hsz : d.size < 4611686018427387904) :
  Calls Tryz.prog 172 #[.slice (some ⟨blk, off, none⟩) d.size cap, .int .i64 a, .int .i64 b, .int .i64 n, fv] w fun e w' => e = .returned (.tuple #[]) /\ ∃ d', SwR d d' a b n /\ PermIn a (b + n) d d' /\ SW enc w0 blk off d' w' := by
 have mixed : Tryz.prog.follows Departure.mixedOrders = true := by kernel_rfl
 have hcl0 := R.hO.cells
 simp only [Value.cells] at hcl0
 have hst := R.hO.store Tryz.prog
 have S0 : Aside (SW enc w0 blk off d w) := S
 clear S
 go_enter Tryz.func172, Tryz.ntmps172
 go_wp2
 go_loopg [10] n (fun kx s10 wr => ∃ (i : Nat) (dk : Array α), s10 = .int .i64 i /\ i <= n /\ n - i <= kx /\ dk.size = d.size /\ Aside (SW enc w0 blk off dk wr) /\ Aside (SwR d dk a b i /\ PermIn a (b + n) d dk))
 case atStart => exact ⟨0, d, rfl, Nat.zero_le _, Nat.le_refl _, rfl, S0, SwR.zero d a b, permIn_refl d a (b + n)⟩
 case round =>
  clear S0
  obtain ⟨i, dk, rfl, hi, hkx, hds, S1, HE⟩ := hrel
  by_cases hlt : i < n
  ·have hltz : (i : Int) < (n : Int) := by omega
   go_wp2_with fail
   obtain ⟨iN1, hiN1⟩ : ∃ q, q = a + i := ⟨_, rfl⟩
   obtain ⟨jN1, hjN1⟩ : ∃ q, q = b + i := ⟨_, rfl⟩
   have ea1 : ((a : Int) + (i : Int)).toNat = iN1 := by omega
   have pa1 : (0 : Int) <= (a : Int) + (i : Int) := by omega
   have ba1 : (a : Int) + (i : Int) < (d.size : Int) := by omega
   have ra1 : IntKind.i64.wrap ((a : Int) + (i : Int)) = (a : Int) + (i : Int) := by rw [IntKind.wrap_i64]; omega
   have ec1 : ((b : Int) + (i : Int)).toNat = jN1 := by omega
   have pc1 : (0 : Int) <= (b : Int) + (i : Int) := by omega
   have bc1 : (b : Int) + (i : Int) < (d.size : Int) := by omega
   have rc1 : IntKind.i64.wrap ((b : Int) + (i : Int)) = (b : Int) + (i : Int) := by rw [IntKind.wrap_i64]; omega
   obtain ⟨x1, hx1⟩ : ∃ x, x = dk[a + i]! := ⟨_, rfl⟩
   obtain ⟨y1, hy1⟩ : ∃ x, x = dk[b + i]! := ⟨_, rfl⟩
   have S2 : Aside (SW enc w0 blk off (swp dk (a + i) (b + i)) ((wr.setCell ⟨blk, off + iN1, none⟩ (enc y1)).setCell ⟨blk, off + jN1, none⟩ (enc x1)).drew) := by rw [hiN1, hjN1, hx1, hy1]; exact S1.out.swapped R (a + i) (b + i) (by omega) (by omega)
   have c1a := S1.out.c1 R (by omega) (a + i) (by omega)
   have c1b := S1.out.c1 R (by omega) (b + i) (by omega)
   have f1a := S1.out.f1 R (by omega) (a + i) (by omega)
   have f1b := S1.out.f1 R (by omega) (b + i) (by omega)
   obtain ⟨u1, c1c⟩ := S1.out.c2 R (by omega) (a + i) (b + i) (by omega) (by omega) (enc y1)
   rw [<- hjN1, <- hiN1] at c1c
   rw [<- hx1, <- hiN1] at c1a
   rw [<- hy1, <- hjN1] at c1b
   rw [<- hiN1] at f1a
   rw [<- hjN1] at f1b
   clear S1 hx1 hy1 hiN1 hjN1
   go_wp2_with fail
   go_big_region_o
   clear c1a c1b c1c f1a f1b
   generalize ((wr.setCell ⟨blk, off + iN1, none⟩ (enc y1)).setCell ⟨blk, off + jN1, none⟩ (enc x1)).drew = w2 at S2 ⊢
   clear ea1 ec1
   go_wp2
   go_roundg (n - (i + 1))
   case measure => omega
   case rel => exact ⟨i + 1, swp dk (a + i) (b + i), by go_num, by omega, Nat.le_refl _, by rw [size_swp]; exact hds, S2, HE.out.1.step (by omega) (by omega), permIn_trans _ _ _ _ _ HE.out.2 (swp_permIn dk a (b + n) (a + i) (b + i) (by omega) (by omega) (by omega) (by omega) (by omega))⟩
  ·have hltz : ¬ (i : Int) < (n : Int) := by omega
   obtain rfl : i = n := by omega
   go_wp2
   go_end0
   exact ⟨rfl, dk, HE.out.1, HE.out.2, S1.out⟩
end Go.Proofs.YthmbbpfgbpacnaaGreatDoor.Srt
namespace Go.Proofs.YthmbbpfgbpacnaaGreatDoor.Srt
open Go.Shelf Go.RowKit Go.Lib Go.Sort
variable {α : Type} [Inhabited α]
set_option maxHeartbeats 1000000 in
set_option maxRecDepth 1000000 in
theorem rotate_any (enc : α -> Value) (fv : Value) (blk off cap a m b : Nat) (d0 d : Array α) (w0 w : World) (R : Row1 enc w0 blk off d0) (hs : d0.size = d.size) (S : SW enc w0 blk off d w) (ham : a < m) (hmb : m < b) (hb : b <= d.size) (hsz : d.size < 4611686018427387904) :
  Calls Tryz.prog 171 #[.slice (some ⟨blk, off, none⟩) d.size cap, .int .i64 a, .int .i64 m, .int .i64 b, fv] w fun e w' => e = .returned (.tuple #[]) /\ ∃ d', Rot d d' a m b /\ PermIn a b d d' /\ SW enc w0 blk off d' w' := by
 have S0 : Aside (SW enc w0 blk off d w) := S
 have R0 : Aside (Row1 enc w0 blk off d0) := R
 clear S R
 obtain ⟨i0, hi0⟩ : ∃ q, q = m - a := ⟨_, rfl⟩
 obtain ⟨j0, hj0⟩ : ∃ q, q = b - m := ⟨_, rfl⟩
 have zi0 : IntKind.i64.wrap ((m : Int) - (a : Int)) = (i0 : Int) := by rw [IntKind.wrap_i64]; omega
 have zj0 : IntKind.i64.wrap ((b : Int) - (m : Int)) = (j0 : Int) := by rw [IntKind.wrap_i64]; omega
 have yi0 : (m : Int) - (a : Int) = (i0 : Int) := by omega
 have yj0 : (b : Int) - (m : Int) = (j0 : Int) := by omega
 have HI : Aside (i0 = m - a /\ j0 = b - m) := ⟨hi0, hj0⟩
 clear hi0 hj0
 go_enter Tryz.func171, Tryz.ntmps171
 go_wp2
 clear zi0 zj0 yi0 yj0
 go_loopg [10, 11] (i0 + j0) (fun kx s10 s11 wr => ∃ (i j : Nat) (dk : Array α), s10 = .int .i64 i /\ s11 = .int .i64 j /\ 0 < i /\ 0 < j /\ a + i <= m /\ m + j <= b /\ i + j <= kx /\ dk.size = d.size /\ Aside (SW enc w0 blk off dk wr) /\ Aside ((∀ X, Rot dk X (m - i) m (m + j) -> Rot d X a m b) /\ PermIn a b d dk))
 case atStart =>
  obtain ⟨e1, e2⟩ := HI.out
  refine ⟨i0, j0, d, rfl, rfl, by omega, by omega, by omega, by omega, Nat.le_refl _, rfl, S0, fun X h => ?_, permIn_refl d a b⟩
  rw [show m - i0 = a by omega, show m + j0 = b by omega] at h
  exact h
 case round =>
  clear S0 HI
  obtain ⟨i, j, dk, rfl, rfl, hi, hj, hai, hjb, hkx, hds, S1, HE⟩ := hrel
  obtain ⟨p, hp⟩ : ∃ q, q = m - i := ⟨_, rfl⟩
  have zp : IntKind.i64.wrap ((m : Int) - (i : Int)) = (p : Int) := by rw [IntKind.wrap_i64]; omega
  have yp : (m : Int) - (i : Int) = (p : Int) := by omega
  have HP : Aside (p = m - i) := hp
  by_cases heq : i = j
  ·subst heq
   have hcon := swapRange_any enc fv blk off cap p m i d0 dk w0 wr R0.out (by omega) S1.out (by omega) (by omega) (by omega)
   rw [hds] at hcon
   have HC := Lib.hid hcon
   clear hcon S1 hp
   go_wp2_with (first | (go_at_call 172; refine HC.out.mono ?_; rintro e w2 ⟨rfl, d', q1, q2, q3⟩))
   go_end0
   have hp := HP.out
   subst hp
   refine ⟨rfl, d', HE.out.1 d' ?_, permIn_trans _ _ _ _ _ HE.out.2 (permIn_mono _ _ _ _ _ _ (by omega) (by omega) (by omega) q2), q3⟩
   exact Rot.of_swr (by omega) q1
  ·have hz : ¬ (i : Int) = (j : Int) := by omega
   by_cases hgt : j < i
   ·have hgz : (j : Int) < (i : Int) := by omega
    have hcon := swapRange_any enc fv blk off cap p m j d0 dk w0 wr R0.out (by omega) S1.out (by omega) (by omega) (by omega)
    rw [hds] at hcon
    have HC := Lib.hid hcon
    clear hcon S1 hp
    go_wp2_with (first | (go_at_call 172; refine HC.out.mono ?_; rintro e w2 ⟨rfl, d', q1, q2, q3⟩))
    have hp := HP.out
    subst hp
    go_roundg (i - j + j)
    case measure => omega
    case rel =>
     refine ⟨i - j, j, d', by go_num, rfl, by omega, hj, by omega, hjb, by omega, by rw [q1.size]; exact hds, q3, fun X r => HE.out.1 X (Rot.of_gt (by omega) hj hgt q1 r), permIn_trans _ _ _ _ _ HE.out.2 (permIn_mono _ _ _ _ _ _ (by omega) (by omega) (by omega) q2)⟩
   ·have hgz : ¬ (j : Int) < (i : Int) := by omega
    obtain ⟨q, hq⟩ : ∃ q, q = m + j - i := ⟨_, rfl⟩
    have zq : IntKind.i64.wrap ((m : Int) + (j : Int) - (i : Int)) = (q : Int) := by rw [IntKind.wrap_i64]; omega
    have yq : (m : Int) + (j : Int) - (i : Int) = (q : Int) := by omega
    have zs : IntKind.i64.wrap ((m : Int) + (j : Int)) = (m : Int) + (j : Int) := by rw [IntKind.wrap_i64]; omega
    have HQ : Aside (q = m + j - i) := hq
    have hcon := swapRange_any enc fv blk off cap p q i d0 dk w0 wr R0.out (by omega) S1.out (by omega) (by omega) (by omega)
    rw [hds] at hcon
    have HC := Lib.hid hcon
    clear hcon S1 hp hq
    go_wp2_with (first | (go_at_call 172; refine HC.out.mono ?_; rintro e w2 ⟨rfl, d', q1, q2, q3⟩))
    have hp := HP.out
    have hq := HQ.out
    subst hp hq
    go_roundg (i + (j - i))
    case measure => omega
    case rel =>
     refine ⟨i, j - i, d', rfl, by go_num, hi, by omega, hai, by omega, Nat.le_refl _, by rw [q1.size]; exact hds, q3, fun X r => HE.out.1 X (Rot.of_lt (by omega) hi (by omega) q1 r), permIn_trans _ _ _ _ _ HE.out.2 (permIn_mono _ _ _ _ _ _ (by omega) (by omega) (by omega) q2)⟩
end Go.Proofs.YthmbbpfgbpacnaaGreatDoor.Srt
