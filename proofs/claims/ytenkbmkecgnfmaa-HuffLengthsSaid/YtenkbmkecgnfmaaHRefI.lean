/- The document's own coins: an insertion by count, in numbers. -/
import Derived.Test.YtenkbmkecgnfmaaHufK
namespace Go.Proofs.Ytenkbmkecgnfmaa.Huf
open Go.RowKit Go.Shelf Go.Lib Go.Proofs.Ytenkbmkecgnfmaa.Mem

theorem ins_pair {K : Nat → Int} {R : List Nat} {i k : Nat} (hp : R.Pairwise (Lt2 K)) (hlt : ∀ s ∈ R, s < i) (ha : ∀ s ∈ R.take k, K s ≤ K i) (hb : ∀ s ∈ R.drop k, K i < K s) : (R.take k ++ i :: R.drop k).Pairwise (Lt2 K) := by
  have hsp : (R.take k ++ R.drop k).Pairwise (Lt2 K) := by rw [List.take_append_drop]; exact hp
  obtain ⟨h1, h2, h3⟩ := List.pairwise_append.1 hsp
  refine List.pairwise_append.2 ⟨h1, List.pairwise_cons.2 ⟨fun t ht => .inl (hb t ht), h2⟩, fun a ha' b hb' => ?_⟩
  rcases List.mem_cons.1 hb' with rfl | hb'
  · have h4 := ha a ha'
    have h5 := hlt a (List.mem_of_mem_take ha')
    rcases Int.lt_or_eq_of_le h4 with q | q
    · exact .inl q
    · exact .inr ⟨q, h5⟩
  · exact h3 a ha' b hb'
/-- All ahead of the place that stopped the search have no greater count. -/
theorem take_le {K : Nat → Int} {R : List Nat} {i k : Nat} (hp : R.Pairwise (Lt2 K)) (hk : k < R.length) (h : K R[k] ≤ K i) : ∀ s ∈ R.take (k + 1), K s ≤ K i := by
  intro s hs
  obtain ⟨j, hj, rfl⟩ := List.getElem_of_mem hs
  rw [List.length_take] at hj
  rw [List.getElem_take]
  rcases Nat.lt_or_ge j k with q | q
  · have := List.pairwise_iff_getElem.1 hp j k (by omega) hk q
    rcases this with r | ⟨r, -⟩
    · omega
    · omega
  · obtain rfl : j = k := by omega
    exact h
theorem drop_gt {K : Nat → Int} {R : List Nat} {i k : Nat} (hk : k < R.length) (h : K i < K R[k]) (hb : ∀ s ∈ R.drop (k + 1), K i < K s) : ∀ s ∈ R.drop k, K i < K s := by
  intro s hs
  rw [List.drop_eq_getElem_cons hk] at hs
  rcases List.mem_cons.1 hs with rfl | hs
  · exact h
  · exact hb s hs
theorem ins_mem {R : List Nat} {i k : Nat} {l : List Int} (hm : ∀ s, s ∈ R ↔ s < i ∧ numAt l s ≠ 0) (hi : numAt l i ≠ 0) (s : Nat) : s ∈ R.take k ++ i :: R.drop k ↔ s < i + 1 ∧ numAt l s ≠ 0 := by
  rw [List.mem_append, List.mem_cons]
  have : s ∈ R ↔ s ∈ R.take k ∨ s ∈ R.drop k := by rw [← List.mem_append, List.take_append_drop]
  constructor
  · rintro (h | rfl | h)
    · have := (hm s).1 (List.mem_of_mem_take h); exact ⟨by omega, this.2⟩
    · exact ⟨by omega, hi⟩
    · have := (hm s).1 (List.mem_of_mem_drop h); exact ⟨by omega, this.2⟩
  · rintro ⟨h1, h2⟩
    by_cases e : s = i
    · exact .inr (.inl e)
    · rcases this.1 ((hm s).2 ⟨by omega, h2⟩) with q | q
      · exact .inl q
      · exact .inr (.inr q)
theorem skip_mem {R : List Nat} {i : Nat} {l : List Int} (hm : ∀ s, s ∈ R ↔ s < i ∧ numAt l s ≠ 0) (hi : numAt l i = 0) (s : Nat) : s ∈ R ↔ s < i + 1 ∧ numAt l s ≠ 0 := by
  rw [hm]
  constructor
  · rintro ⟨h1, h2⟩; exact ⟨by omega, h2⟩
  · rintro ⟨h1, h2⟩
    refine ⟨?_, h2⟩
    rcases Nat.lt_or_ge s i with q | q
    · exact q
    · obtain rfl : s = i := by omega
      exact absurd hi h2
/-- The row so far, of the first i counts. -/
def CoinsAt (l : List Int) (i : Nat) (R : List Nat) : Prop := R.Pairwise (Lt2 (numAt l)) ∧ (∀ s, s ∈ R ↔ s < i ∧ numAt l s ≠ 0) ∧ R.length ≤ i
theorem CoinsAt.nil (l : List Int) : CoinsAt l 0 [] := ⟨List.Pairwise.nil, fun s => ⟨fun h => (by cases h), fun h => by omega⟩, Nat.le_refl _⟩
theorem CoinsAt.last {l : List Int} {R : List Nat} (h : CoinsAt l l.length R) : R = rankL l := rankL_eq h.1 h.2.1
theorem CoinsAt.skip {l : List Int} {i : Nat} {R : List Nat} (h : CoinsAt l i R) (hi : numAt l i = 0) : CoinsAt l (i + 1) R := ⟨h.1, skip_mem h.2.1 hi, by have := h.2.2; omega⟩
theorem CoinsAt.ins {l : List Int} {i k : Nat} {R : List Nat} (h : CoinsAt l i R) (hi : numAt l i ≠ 0) (ha : ∀ s ∈ R.take k, numAt l s ≤ numAt l i) (hb : ∀ s ∈ R.drop k, numAt l i < numAt l s) : CoinsAt l (i + 1) (R.take k ++ i :: R.drop k) :=
  ⟨ins_pair h.1 (fun s hs => ((h.2.1 s).1 hs).1) ha hb, ins_mem h.2.1 hi, by have := h.2.2; simp only [List.length_append, List.length_cons, List.length_take, List.length_drop]; omega⟩

theorem ins_items {xs : List ItV} {R : List Nat} {val : Nat → Nat} {x : ItV} {i k : Nat} (h : xs.map ItV.item = R.map (coin val)) (hx : x.item = coin val i) : (xs.take k ++ [x] ++ xs.drop k).map ItV.item = (R.take k ++ i :: R.drop k).map (coin val) := by
  rw [List.map_append, List.map_append, List.map_take, List.map_drop, h, List.map_append, List.map_cons, ← List.map_take, ← List.map_drop, List.map_cons, List.map_nil, hx, List.append_assoc, List.singleton_append]
end Go.Proofs.Ytenkbmkecgnfmaa.Huf
