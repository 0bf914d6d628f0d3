/- The document's own merged: it is mergeS. -/
import Derived.Test.YtenkbmkecgnfmaaHufK
namespace Go.Proofs.Ytenkbmkecgnfmaa.Huf
open Go.RowKit Go.Shelf Go.Lib Go.Proofs.Ytenkbmkecgnfmaa.Mem

theorem info_ritem : (Try.prog.info? 70).map (fun i => (i.zero, i.size, i.bytes)) = some (some (.agg #[.int .i64 0, .slice none 0 0]), 2, 32) := by kernel_rfl
/-- What is left to merge. -/
def leftM (cs ps : List ItV) (i k : Nat) : List Item := mergeS ((cs.drop i).map ItV.item) ((ps.drop k).map ItV.item)
theorem leftM_a (cs ps : List ItV) (i k : Nat) (hi : i < cs.length) (h : ∀ hk : k < ps.length, ¬ ps[k].n < cs[i].n) : leftM cs ps i k = cs[i].item :: leftM cs ps (i + 1) k := by
  unfold leftM
  rw [List.drop_eq_getElem_cons hi, List.map_cons]
  by_cases hk : k < ps.length
  · rw [List.drop_eq_getElem_cons hk, List.map_cons, mergeS_cons, if_pos (show cs[i].item.1 ≤ ps[k].item.1 from Nat.le_of_not_lt (h hk))]
  · rw [List.drop_eq_nil_of_le (show ps.length ≤ k by omega), List.map_nil, mergeS_nil, mergeS_nil]
theorem leftM_b (cs ps : List ItV) (i k : Nat) (hi : i < cs.length) (hk : k < ps.length) (h : ps[k].n < cs[i].n) : leftM cs ps i k = ps[k].item :: leftM cs ps i (k + 1) := by
  unfold leftM
  rw [List.drop_eq_getElem_cons hi, List.map_cons, List.drop_eq_getElem_cons hk, List.map_cons, mergeS_cons, if_neg (show ¬ cs[i].item.1 ≤ ps[k].item.1 from Nat.not_le.2 h)]
theorem leftM_end (cs ps : List ItV) (k : Nat) : leftM cs ps cs.length k = (ps.drop k).map ItV.item := by
  unfold leftM
  rw [List.drop_length, List.map_nil, nil_mergeS]
/-- The row so far. -/
def RowM (W w : World) (v : Value) (cs ps d : List ItV) (i k : Nat) : Prop :=
  Below W.heap.size W w ∧ OwnIt 70 w W.heap.size v d ∧ d.map ItV.item ++ leftM cs ps i k = leftM cs ps 0 0 ∧ d.length = i + k ∧ ∀ x ∈ d, x ∈ cs ++ ps

theorem second (a : Addr) (j : Nat) : (⟨(a.add (j * 2)).block, (a.add (j * 2)).off + 1, none⟩ : Addr) = a.add (j * 2 + 1) := (show _ = (a.add (j * 2)).add 1 from rfl).trans (Deep.add_add a _ _)
theorem rowM_push {W w w1 : World} {v : Value} {cs ps d : List ItV} {i k i' k' : Nat} {x : ItV} (h : RowM W w v cs ps d i k) (hd : Drew w w1) (hI : ∀ x ∈ cs ++ ps, ItS W x) (hx : x ∈ cs ++ ps) (hl : leftM cs ps i k = x.item :: leftM cs ps i' k') (hn : i' + k' = i + k + 1) (hlim : i + k + 1 ≤ 1048576) :
    ∃ v' W', (Builtin.append_ #[67, 67] 67 #[v, .slice (some ⟨w1.heap.size, 0, none⟩) 1 1]).run Try.prog (w1.alloc (.cells #[.int .i64 (x.n : Int), .slice x.ba x.s.length x.bc] 70)) = .ok v' W' ∧ RowM W W' v' cs ps (d ++ [x]) i' k' := by
  obtain ⟨h1, h2, h3, h4, h5⟩ := h
  have hb := h1.trans (hd.below _)
  have hsz : W.heap.size ≤ w1.heap.size := hb.size
  obtain ⟨v', W', q1, q2, q3, -, -, -⟩ := (h2.below (hd.below _)).push Try.underlying67 info_ritem hsz x ((hI x hx).below hb) (fun a ha e => by
    have l1 := (hI x hx).lt ha
    have l2 := (h2.row.lt _ e).1
    omega) (by omega)
  refine ⟨v', W', q1, hb.trans q3, q2, ?_, by rw [List.length_append, List.length_singleton]; omega, fun y hy => (List.mem_append.1 hy).elim (h5 y) (fun z => by rw [List.mem_singleton.1 z]; exact hx)⟩
  rw [← h3, hl, List.map_append, List.append_assoc]
  rfl
end Go.Proofs.Ytenkbmkecgnfmaa.Huf
