/- Sorting by blocks that are merged (no program): the insertion into a block, the rows of blocks, and that the whole is sorted by the order in which none are alike. -/
import Derived.Test.YtkbpmnghjjpeiaaDoorPkSrtA
namespace Go.Proofs.YtkbpmnghjjpeiaaDoor.Srt
open Go.Sort
variable {α : Type} [Inhabited α] {lt0 lt : α → α → Bool} {Pre : α → α → Prop}

/-- The same exchanges, where both orders say the same. -/
theorem insInner_eq (a : Nat) : ∀ (j : Nat) (d : Array α), j < d.size → (∀ k, a ≤ k → k < j → lt0 d[j]! d[k]! = lt d[j]! d[k]!) → insInner lt0 a j d = insInner lt a j d
  | 0, _, _, _ => rfl
  | j + 1, d, hj, h => by
    unfold insInner
    by_cases haj : j + 1 > a
    · have h1 := h j (by omega) (by omega)
      rw [h1]
      split
      · refine insInner_eq a j _ (by rw [size_swp]; omega) (fun k h2 h3 => ?_)
        rw [swp_right _ _ _ (by omega), swp_other _ _ _ _ (by omega) (by omega)]
        exact h k h2 (by omega)
      · rfl
    · simp [haj]
theorem insOuter_eq (hS : SWO lt) (hpre : ∀ x y, Pre x y → lt0 y x = lt y x) (a b : Nat) : ∀ (n i : Nat) (d : Array α), b - i = n → a < i → i ≤ b → b ≤ d.size → SortedIn lt a i d →
    (∀ k j, a ≤ k → k < i → i ≤ j → j < b → Pre d[k]! d[j]!) → (∀ k j, i ≤ k → k < j → j < b → Pre d[k]! d[j]!) → insOuter lt0 a b i d = insOuter lt a b i d
  | 0, i, d, hn, hai, hib, hb, hs, h1, h2 => by
    obtain rfl : i = b := by omega
    rw [insOuter.eq_def lt0, insOuter.eq_def lt, if_neg (by omega), if_neg (by omega)]
  | n + 1, i, d, hn, hai, hib, hb, hs, h1, h2 => by
    have hlt : i < b := by omega
    rw [insOuter.eq_def lt0, insOuter.eq_def lt, if_pos hlt, if_pos hlt, insInner_eq a i d (by omega) (fun k q1 q2 => hpre _ _ (h1 k i q1 q2 (Nat.le_refl _) hlt))]
    have sp := insInner_spec hS swp_permIn permIn_refl permIn_trans a (i + 1) i (by omega) i d (by omega) (Nat.le_refl _) (by omega) ⟨fun p q hap hpq hqi _ hq => hs p q hap hpq (by omega), fun q h1 h2 => by omega⟩
    have ot : ∀ k, i + 1 ≤ k → (insInner lt a i d)[k]! = d[k]! := fun k hk => sp.1.2.1 k (by omega)
    refine insOuter_eq hS hpre a b n (i + 1) _ (by omega) (by omega) (by omega) (by rw [sp.1.1]; exact hb) sp.2 (fun k j q1 q2 q3 q4 => ?_) (fun k j q1 q2 q3 => ?_)
    · rw [ot j q3]
      obtain ⟨k', r1, r2, r3⟩ := permIn_mem sp.1 (by omega) k q1 q2
      rw [r3]
      by_cases hk : k' < i
      · exact h1 k' j r1 hk (by omega) q4
      · exact h2 k' j (by omega) (by omega) q4
    · rw [ot k q1, ot j (by omega)]; exact h2 k j (by omega) q2 q3
/-- The insertion into a block whose elements stand in the order in which they came. -/
theorem insertion_lt (hS : SWO lt) (hpre : ∀ x y, Pre x y → lt0 y x = lt y x) (d : Array α) (a b : Nat) (hab : a ≤ b) (hb : b ≤ d.size) (h : ∀ k j, a ≤ k → k < j → j < b → Pre d[k]! d[j]!) :
    PermIn a b d (insertionSort lt0 d a b) ∧ SortedIn lt a b (insertionSort lt0 d a b) := by
  have he : insertionSort lt0 d a b = insertionSort lt d a b := by
    unfold insertionSort
    by_cases hq : a + 1 ≤ b
    · exact insOuter_eq hS hpre a b (b - (a + 1)) (a + 1) d rfl (by omega) hq hb (fun i j h1 h2 h3 => by omega) (fun k j h1 h2 h3 h4 => h k j h1 (by omega) h4) (fun k j h1 h2 h3 => h k j (by omega) h2 h3)
    · rw [insOuter.eq_def lt0, insOuter.eq_def lt, if_neg (by omega), if_neg (by omega)]
  rw [he]
  exact insertionSort_holds hS d a b hab hb

/-- Whatever stands ahead of c came ahead of what stands behind. -/
def PreAt (Pre : α → α → Prop) (d : Array α) (c : Nat) : Prop := ∀ i j, i < c → c ≤ j → j < d.size → Pre d[i]! d[j]!
theorem PreAt.perm {d d' : Array α} {a b c : Nat} (h : PreAt Pre d c) (p : PermIn a b d d') (hb : b ≤ d.size) (hc : c ≤ a ∨ b ≤ c) : PreAt Pre d' c := by
  intro i j h1 h2 h3
  rw [p.1] at h3
  have hi : ∃ i', i' < c ∧ d'[i]! = d[i']! := by
    by_cases hq : a ≤ i ∧ i < b
    · obtain ⟨i', r1, r2, r3⟩ := permIn_mem p hb i hq.1 hq.2
      exact ⟨i', by omega, r3⟩
    · exact ⟨i, h1, p.2.1 i (by omega)⟩
  have hj : ∃ j', c ≤ j' ∧ j' < d.size ∧ d'[j]! = d[j']! := by
    by_cases hq : a ≤ j ∧ j < b
    · obtain ⟨j', r1, r2, r3⟩ := permIn_mem p hb j hq.1 hq.2
      exact ⟨j', by omega, by omega, r3⟩
    · exact ⟨j, h2, h3, p.2.1 j (by omega)⟩
  obtain ⟨i', a1, a2⟩ := hi
  obtain ⟨j', b1, b2, b3⟩ := hj
  rw [a2, b3]
  exact h i' j' a1 b1 b2
theorem sorted_perm {d d' : Array α} {a b p q : Nat} (h : SortedIn lt p q d) (hp : PermIn a b d d') (hc : q ≤ a ∨ b ≤ p) : SortedIn lt p q d' := fun i j h1 h2 h3 => by
  rw [hp.2.1 i (by omega), hp.2.1 j (by omega)]; exact h i j h1 h2 h3

theorem dvd_step {k a c : Nat} (ha : k ∣ a) (hc : k ∣ c) (h : c ≤ a + k) : c ≤ a ∨ c = a + k := by
  obtain ⟨x, rfl⟩ := ha
  obtain ⟨y, rfl⟩ := hc
  rcases Nat.lt_or_ge x y with q | q
  · have : k * (x + 1) ≤ k * y := Nat.mul_le_mul_left k q
    rw [Nat.mul_add, Nat.mul_one] at this
    omega
  · exact .inl (Nat.mul_le_mul_left k q)
theorem dvd_gt {k a c : Nat} (ha : k ∣ a) (hc : k ∣ c) (h : a < c) : a + k ≤ c := by
  obtain ⟨x, rfl⟩ := ha
  obtain ⟨y, rfl⟩ := hc
  have : x < y := by
    rcases Nat.lt_or_ge x y with q | q
    · exact q
    · have := Nat.mul_le_mul_left k q; omega
  have : k * (x + 1) ≤ k * y := Nat.mul_le_mul_left k this
  rw [Nat.mul_add, Nat.mul_one] at this
  exact this

/-- The first pass: blocks of k up to a are sorted; behind a all is as it came. -/
structure Ins1 (lt : α → α → Bool) (Pre : α → α → Prop) (d : Array α) (k a : Nat) : Prop where
  al : k ∣ a
  raw : ∀ i j, i < j → a ≤ j → j < d.size → Pre d[i]! d[j]!
  pre : ∀ c, k ∣ c → PreAt Pre d c
  srt : ∀ c, k ∣ c → c < a → SortedIn lt c (c + k) d
theorem Ins1.start {d : Array α} {k : Nat} (h : ∀ i j, i < j → j < d.size → Pre d[i]! d[j]!) : Ins1 lt Pre d k 0 :=
  ⟨Nat.dvd_zero _, fun i j h1 _ h3 => h i j h1 h3, fun c _ i j h1 h2 h3 => h i j (by omega) h3, fun c _ h2 => by omega⟩
theorem Ins1.step {d d' : Array α} {k a : Nat} (h : Ins1 lt Pre d k a) (hb : a + k ≤ d.size) (p : PermIn a (a + k) d d') (s : SortedIn lt a (a + k) d') : Ins1 lt Pre d' k (a + k) := by
  refine ⟨Nat.dvd_add h.al (Nat.dvd_refl k), fun i j h1 h2 h3 => ?_, fun c hc => ?_, fun c hc hca => ?_⟩
  · rw [p.1] at h3
    rw [p.2.1 j (by omega)]
    by_cases hq : a ≤ i ∧ i < a + k
    · obtain ⟨i', r1, r2, r3⟩ := permIn_mem p hb i hq.1 hq.2
      rw [r3]; exact h.raw i' j (by omega) (by omega) h3
    · rw [p.2.1 i (by omega)]; exact h.raw i j h1 (by omega) h3
  · refine (h.pre c hc).perm p hb ?_
    rcases Nat.lt_or_ge a c with q | q
    · exact .inr (dvd_gt h.al hc q)
    · exact .inl q
  · rcases Nat.lt_or_ge c a with q | q
    · exact sorted_perm (h.srt c hc q) p (.inl (dvd_gt hc h.al q))
    · rcases dvd_step h.al hc (by omega) with r | r
      · obtain rfl : c = a := by omega
        exact s
      · omega
/-- The state of a pass: up to a, blocks of 2 k are sorted; behind it, of k. -/
structure Lev (lt : α → α → Bool) (Pre : α → α → Prop) (d : Array α) (k a : Nat) : Prop where
  al : 2 * k ∣ a
  pre2 : ∀ c, 2 * k ∣ c → c ≤ a → PreAt Pre d c
  srt2 : ∀ c, 2 * k ∣ c → c < a → SortedIn lt c (c + 2 * k) d
  pre1 : ∀ c, k ∣ c → a ≤ c → PreAt Pre d c
  srt1 : ∀ c, k ∣ c → a ≤ c → SortedIn lt c (min (c + k) d.size) d
theorem Ins1.last {d d' : Array α} {k a : Nat} (h : Ins1 lt Pre d k a) (ha : a ≤ d.size) (hn : d.size < a + k) (p : PermIn a d.size d d') (s : SortedIn lt a d.size d') : Lev lt Pre d' k 0 := by
  have hs := p.1
  refine ⟨Nat.dvd_zero _, fun c _ hc => ?_, fun c _ hc => by omega, fun c hc _ => ?_, fun c hc _ => ?_⟩
  · obtain rfl : c = 0 := by omega
    intro i j h1; omega
  · rcases Nat.lt_or_ge a c with q | q
    · have := dvd_gt h.al hc q
      intro i j h1 h2 h3; omega
    · exact (h.pre c hc).perm p (Nat.le_refl _) (.inl q)
  · rw [hs]
    rcases Nat.lt_or_ge c a with q | q
    · have q2 := dvd_gt hc h.al q
      rw [Nat.min_eq_left (by omega)]
      exact sorted_perm (h.srt c hc q) p (.inl q2)
    · rcases Nat.lt_or_ge a c with r | r
      · have := dvd_gt h.al hc r
        rw [Nat.min_eq_right (by omega)]
        intro i j h1 h2 h3; omega
      · obtain rfl : c = a := by omega
        rw [Nat.min_eq_right (by omega)]
        exact s
theorem dvd_half {k a : Nat} (h : 2 * k ∣ a) : k ∣ a := Nat.dvd_trans (Nat.dvd_mul_left k 2) h
/-- What a merge of two blocks asks. -/
theorem Lev.mrg {d : Array α} {k a b : Nat} (hpre : ∀ x y, Pre x y → lt0 y x = lt y x) (h : Lev lt Pre d k a) (h1 : a + k < d.size) (hb : b = min (a + 2 * k) d.size) : Mrg lt0 lt d a (a + k) b := by
  have al1 := dvd_half h.al
  have al2 : k ∣ a + k := Nat.dvd_add al1 (Nat.dvd_refl k)
  refine ⟨?_, ?_, fun i j q1 q2 q3 q4 => hpre _ _ (h.pre1 (a + k) al2 (by omega) i j q2 q3 (by omega))⟩
  · have := h.srt1 a al1 (Nat.le_refl _)
    rwa [Nat.min_eq_left (by omega)] at this
  · have := h.srt1 (a + k) al2 (by omega)
    rwa [show a + k + k = a + 2 * k by omega, ← hb] at this
theorem Lev.step {d d' : Array α} {k a : Nat} (hk : 0 < k) (h : Lev lt Pre d k a) (hb : a + 2 * k ≤ d.size) (p : PermIn a (a + 2 * k) d d') (s : SortedIn lt a (a + 2 * k) d') : Lev lt Pre d' k (a + 2 * k) := by
  have hs := p.1
  have al' : 2 * k ∣ a + 2 * k := Nat.dvd_add h.al (Nat.dvd_refl _)
  refine ⟨al', fun c hc hca => ?_, fun c hc hca => ?_, fun c hc hca => ?_, fun c hc hca => ?_⟩
  · rcases dvd_step h.al hc hca with q | q
    · exact (h.pre2 c hc q).perm p hb (.inl q)
    · exact (h.pre1 c (dvd_half hc) (by omega)).perm p hb (.inr (by omega))
  · rcases Nat.lt_or_ge c a with q | q
    · exact sorted_perm (h.srt2 c hc q) p (.inl (dvd_gt hc h.al q))
    · rcases dvd_step h.al hc (by omega) with r | r
      · obtain rfl : c = a := by omega
        exact s
      · omega
  · exact (h.pre1 c hc (by omega)).perm p hb (.inr hca)
  · rw [hs]; exact sorted_perm (h.srt1 c hc (by omega)) p (.inr hca)
/-- A pass is done: the last blocks were merged, or there was nothing to merge. -/
theorem Lev.last {d d' : Array α} {k a : Nat} (h : Lev lt Pre d k a) (ha : a ≤ d.size) (hn : d.size < a + 2 * k) (p : PermIn a d.size d d') (s : SortedIn lt a d.size d') : Lev lt Pre d' (2 * k) 0 := by
  have hs := p.1
  refine ⟨Nat.dvd_zero _, fun c _ hc => ?_, fun c _ hc => by omega, fun c hc _ => ?_, fun c hc _ => ?_⟩
  · obtain rfl : c = 0 := by omega
    intro i j h1; omega
  · rcases Nat.lt_or_ge a c with q | q
    · have := dvd_gt h.al hc q
      intro i j h1 h2 h3; omega
    · exact (h.pre2 c hc q).perm p (Nat.le_refl _) (.inl q)
  · rw [hs]
    rcases Nat.lt_or_ge c a with q | q
    · have q2 := dvd_gt hc h.al q
      rw [Nat.min_eq_left (by omega)]
      exact sorted_perm (h.srt2 c hc q) p (.inl q2)
    · rcases Nat.lt_or_ge a c with r | r
      · have := dvd_gt h.al hc r
        rw [Nat.min_eq_right (by omega)]
        intro i j h1 h2 h3; omega
      · obtain rfl : c = a := by omega
        rw [Nat.min_eq_right (by omega)]
        exact s
theorem Lev.tail {d : Array α} {k a : Nat} (h : Lev lt Pre d k a) (hn : d.size ≤ a + k) : SortedIn lt a d.size d := by
  have := h.srt1 a (dvd_half h.al) (Nat.le_refl _)
  rwa [Nat.min_eq_right hn] at this
/-- One block is the whole. -/
theorem Lev.whole {d : Array α} {k : Nat} (h : Lev lt Pre d k 0) (hk : d.size ≤ k) : SortedIn lt 0 d.size d := h.tail (by omega)
end Go.Proofs.YtkbpmnghjjpeiaaDoor.Srt
