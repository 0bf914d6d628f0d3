/- Package huff's Lengths: what it answers, and the counting of symbols in a row (no program). -/
import Derived.Test.YtenkbmkecgnfmaaHufS
import Derived.Test.YtenkbmkecgnfmaaHufE
namespace Go.Proofs.Ytenkbmkecgnfmaa.Huf

/-- Which counts and limits have lengths. -/
structure Able (l : List Int) (L : Nat) : Prop where
  all : l.all okCount = true
  n : l.length ≤ 320
  lo : 1 ≤ L
  hi : L ≤ 15
  k : (rankL l).length ≤ 2 ^ L
def lensOut (l : List Int) (L : Nat) : List Int := if (rankL l).length = 1 then (List.range l.length).map (fun i => if i ∈ rankL l then 1 else 0) else (List.range l.length).map (fun i => (bestLen (valOf l) (rankL l) L i : Int))
/-- P303: the lengths. -/
def lengthsR (l : List Int) (limit : Int) : List Int × Int :=
  if l.all okCount = true ∧ l.length ≤ 320 ∧ 1 ≤ limit ∧ limit ≤ 15 ∧ (rankL l).length ≤ 2 ^ limit.toNat then (lensOut l limit.toNat, 0) else ([], 1)
theorem lengthsR_able {l : List Int} {L : Nat} (h : Able l L) : lengthsR l (L : Int) = (lensOut l L, 0) := by
  unfold lengthsR
  have h1 := h.lo
  have h2 := h.hi
  rw [if_pos ⟨h.all, h.n, by omega, by omega, h.k⟩]
  rfl
theorem okCount_at {l : List Int} (h : l.all okCount = true) {s : Nat} (hs : s < l.length) : 0 ≤ numAt l s ∧ numAt l s ≤ 1099511627776 := by
  rw [numAt_eq l s hs]
  rw [List.all_eq_true] at h
  exact of_decide_eq_true (h _ (List.getElem_mem hs))
theorem rank_rising {l : List Int} (h : l.all okCount = true) : Rising ((rankL l).map (coin (valOf l))) := by
  unfold Rising
  rw [List.pairwise_map]
  refine List.Pairwise.imp_of_mem ?_ (rankL_pair l)
  intro a b ha hb hab
  have h1 := okCount_at h ((rankL_mem l a).1 ha).1
  have h2 := okCount_at h ((rankL_mem l b).1 hb).1
  show valOf l a ≤ valOf l b
  unfold valOf
  unfold Lt2 at hab
  omega
theorem rank_bnd {l : List Int} (h : l.all okCount = true) : Bnd 1099511627776 1 ((rankL l).map (coin (valOf l))) := fun x hx => by
  obtain ⟨s, hs, rfl⟩ := List.mem_map.1 hx
  have h1 := okCount_at h ((rankL_mem l s).1 hs).1
  refine ⟨?_, Nat.le_refl _⟩
  show valOf l s ≤ _
  unfold valOf
  omega

/-- How often each symbol stands in the first j items, and in q symbols more. -/
def lensI (n : Nat) (R : List Item) (j : Nat) (ss : List Nat) : List Int := (List.range n).map fun i => ((occ i (R.take j) + ss.count i : Nat) : Int)
theorem lensI_len (n : Nat) (R : List Item) (j : Nat) (ss : List Nat) : (lensI n R j ss).length = n := by simp [lensI]
theorem lensI_zero (n : Nat) (R : List Item) : lensI n R 0 [] = List.replicate n 0 := by
  unfold lensI
  apply List.ext_getElem
  · simp
  · intro i h1 h2; simp [occ]
theorem lensI_item (n : Nat) (R : List Item) (j : Nat) (hj : j < R.length) : lensI n R j (R[j]).2 = lensI n R (j + 1) [] := by
  unfold lensI
  congr 1
  funext i
  rw [List.take_succ_eq_append_getElem hj, occ_append]
  simp [occ]
theorem lensI_at (n : Nat) (R : List Item) (j : Nat) (ss : List Nat) (s : Nat) (hs : s < n) : (lensI n R j ss)[s]'(by rw [lensI_len]; exact hs) = ((occ s (R.take j) + ss.count s : Nat) : Int) := by
  unfold lensI
  rw [List.getElem_map, List.getElem_range]
theorem lensI_step (n : Nat) (R : List Item) (j : Nat) (ss : List Nat) (s : Nat) : (lensI n R j ss).set s (((occ s (R.take j) + ss.count s : Nat) : Int) + 1) = lensI n R j (ss ++ [s]) := by
  apply List.ext_getElem
  · rw [List.length_set, lensI_len, lensI_len]
  · intro i h1 h2
    rw [List.length_set, lensI_len] at h1
    rw [List.getElem_set, lensI_at n R j (ss ++ [s]) i h1, List.count_append]
    by_cases e : s = i
    · subst e
      rw [if_pos rfl]
      simp only [List.count_singleton_self]
      omega
    · rw [if_neg e, lensI_at n R j ss i h1]
      have : List.count i [s] = 0 := by
        rw [List.count_eq_zero]
        intro h
        exact e (List.mem_singleton.1 h).symm
      rw [this]
      rfl
theorem occ_bound (S : Nat) (i : Nat) : ∀ l : List Item, (∀ x ∈ l, x.2.length ≤ S) → occ i l ≤ l.length * S
  | [], _ => Nat.zero_le _
  | x :: l, h => by
    have h1 := occ_bound S i l (fun y hy => h y (List.mem_cons_of_mem _ hy))
    have h2 := h x (List.mem_cons_self ..)
    have h3 := List.count_le_length (a := i) (l := x.2)
    simp only [occ, List.length_cons]
    rw [Nat.add_mul, Nat.one_mul]
    omega
theorem lens_best {l : List Int} {L : Nat} (hk : (rankL l).length ≠ 1) : lensI l.length (rowS ((rankL l).map (coin (valOf l))) L) (2 * (rankL l).length - 2) [] = lensOut l L := by
  unfold lensI lensOut bestLen
  rw [if_neg hk]
  congr 1
theorem lens_none {l : List Int} {L : Nat} (hk : (rankL l).length = 0) : List.replicate l.length 0 = lensOut l L := by
  rw [← lens_best (L := L) (by omega), hk, ← lensI_zero l.length (rowS ((rankL l).map (coin (valOf l))) L)]
theorem lens_one {l : List Int} {L : Nat} (hk : (rankL l).length = 1) : (List.replicate l.length (0 : Int)).set ((rankL l)[0]'(by omega)) 1 = lensOut l L := by
  unfold lensOut
  rw [if_pos hk]
  apply List.ext_getElem
  · simp
  · intro i h1 h2
    rw [List.getElem_set, List.getElem_map, List.getElem_range]
    have hm : ∀ i, i ∈ rankL l ↔ (rankL l)[0]'(by omega) = i := fun i => by
      constructor
      · intro h
        obtain ⟨j, hj, rfl⟩ := List.mem_iff_getElem.1 h
        congr 1
        omega
      · rintro rfl
        exact List.getElem_mem _
    by_cases e : (rankL l)[0]'(by omega) = i
    · rw [if_pos e, if_pos ((hm i).2 e)]
    · rw [if_neg e, if_neg (fun g => e ((hm i).1 g))]
      simp
end Go.Proofs.Ytenkbmkecgnfmaa.Huf
