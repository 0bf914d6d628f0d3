/- The document's own Lengths: how many counts there are; a pair put at the end of a row. -/
import Derived.Test.YtenkbmkecgnfmaaHRefO
import Derived.Test.YtenkbmkecgnfmaaHufV
import Derived.Test.YtenkbmkecgnfmaaHufR
namespace Go.Proofs.Ytenkbmkecgnfmaa.Huf
open Go.RowKit Go.Shelf Go.Lib Go.Proofs.Ytenkbmkecgnfmaa.Mem

/-- How many of the first counts are not 0. -/
def cntN (l : List Int) (i : Nat) : Nat := (List.range i).countP fun s => decide (numAt l s ≠ 0)
theorem cntN_zero (l : List Int) : cntN l 0 = 0 := rfl
theorem cntN_succ (l : List Int) (i : Nat) : cntN l (i + 1) = cntN l i + (if numAt l i = 0 then 0 else 1) := by
  unfold cntN
  rw [List.range_succ, List.countP_append, List.countP_singleton]
  by_cases h : numAt l i = 0
  · simp [h]
  · simp [h]
theorem cntN_le (l : List Int) (i : Nat) : cntN l i ≤ i := by
  have := List.countP_le_length (p := fun s => decide (numAt l s ≠ 0)) (l := List.range i)
  rwa [List.length_range] at this
theorem rankX_count (K : Nat → Int) : ∀ xs : List Nat, (rankX K xs).length = xs.countP fun s => decide (K s ≠ 0)
  | [] => rfl
  | s :: xs => by
    have := rankX_count K xs
    unfold rankX
    rw [List.countP_cons]
    split
    · rename_i h; rw [this]; simp [h]
    · rename_i h; rw [insR_len, this]; simp [h]
theorem rank_count (l : List Int) : (rankL l).length = cntN l l.length := rankX_count (numAt l) (List.range l.length)

/-- 'append(row, item{x.n + y.n, append(append([]int{}, x...), y...)})'. -/
theorem pair_step {w : World} {B : Nat} {v12 : Value} {ys : List ItV} {x y : ItV} (hB : B ≤ w.heap.size) (h : OwnIt 70 w B v12 ys) (hx : ItS w x) (hy : ItS w y) (hl : x.s.length + y.s.length ≤ 1048576) (hlim : ys.length + 1 ≤ 1048576) :
    ∃ u1 W1, (Builtin.append_ #[22, 22] 22 #[.slice (some ⟨w.heap.size, 0, none⟩) 0 0, .slice x.ba x.s.length x.bc]).run Try.prog (w.drew.alloc (.cells #[] 3)) = .ok u1 W1 ∧ Below w.heap.size w W1 ∧
    ∃ ao c W2, (Builtin.append_ #[22, 22] 22 #[u1, .slice y.ba y.s.length y.bc]).run Try.prog W1 = .ok (.slice ao (x.s.length + y.s.length) c) W2 ∧ Below w.heap.size w W2 ∧
    ∃ v' W3, (Builtin.append_ #[67, 67] 67 #[v12, .slice (some ⟨W2.heap.size, 0, none⟩) 1 1]).run Try.prog (W2.alloc (.cells #[.int .i64 ((x.n : Int) + (y.n : Int)), .slice ao (x.s.length + y.s.length) c] 70)) = .ok v' W3 ∧
      OwnIt 70 W3 B v' (ys ++ [⟨x.n + y.n, x.s ++ y.s, ao, c⟩]) ∧ (∀ a, ao = some a → w.heap.size ≤ a.block) ∧ Below B w W3 := by
  have hdr : Drew w w.drew := ⟨rfl, rfl, rfl, rfl⟩
  have hA : Below w.heap.size w (w.drew.alloc (.cells #[] 3)) := (hdr.below _).trans ((Below.refl w.drew.heap.size w.drew).alloc (Nat.le_refl _) (.cells #[] 3))
  have hown : (w.drew.alloc (.cells #[] 3)).ownsRow w.heap.size 3 1 (.slice (some ⟨w.heap.size, 0, none⟩) 0 0) ([] : List Int).length (iVs []) := World.ownsRow_made w.drew #[] 0 (Nat.le_refl _) (Nat.zero_le _) rfl
  obtain ⟨u1, W1, q1, q2, q3, -⟩ := appI_any (w.drew.alloc (.cells #[] 3)) w.heap.size _ (.slice x.ba x.s.length x.bc) 22 [] (natI x.s) hown hA.size (hx.below hA).1 (by rw [natI_len, List.length_nil]; omega)
  rw [List.nil_append] at q2
  have hb1 : Below w.heap.size w W1 := hA.trans (bel_grown hown q3 hA.size (Nat.le_refl _))
  obtain ⟨u2, W2, p1, p2, p3, -⟩ := appI_any W1 w.heap.size u1 (.slice y.ba y.s.length y.bc) 22 (natI x.s) (natI y.s) q2 hb1.size (hy.below hb1).1 (by rw [natI_len, natI_len]; omega)
  have hb2 : Below w.heap.size w W2 := hb1.trans (bel_grown q2 p3 hb1.size (Nat.le_refl _))
  obtain ⟨ao, c, rfl, -, -, -⟩ := own_shape p2
  have hn2 : (natI x.s ++ natI y.s).length = x.s.length + y.s.length := by rw [List.length_append, natI_len, natI_len]
  have hao : ∀ a, ao = some a → w.heap.size ≤ a.block := fun a ha => by
    subst ha
    exact (p2.lt a.block rfl).1
  have hits : ItS W2 ⟨x.n + y.n, x.s ++ y.s, ao, c⟩ := by
    refine ⟨?_, by simp only [List.length_append]; have := hx.2; omega⟩
    have := SrcI.of_own p2
    rw [hn2, ← natI_append] at this
    unfold ItV.sl
    simp only [List.length_append]
    exact this
  obtain ⟨v', W3, z1, z2, z3, -, -, -⟩ := (h.below hb2).push Try.underlying67 info_ritem (Nat.le_trans hB hb2.size) ⟨x.n + y.n, x.s ++ y.s, ao, c⟩ hits (fun a ha hk' => by
    have h1 := hao a ha
    have h2 := (h.row.lt _ hk').2
    omega) hlim
  simp only [List.length_append] at z1
  rw [hn2] at p1
  exact ⟨u1, W1, q1, hb1, ao, c, W2, p1, hb2, v', W3, z1, z2, hao, (hb2.mono hB).trans z3⟩
end Go.Proofs.Ytenkbmkecgnfmaa.Huf
