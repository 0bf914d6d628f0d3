/- Lists of pieces that came in. -/
import Derived.Test.YtenkbmkecgnfmaaLzQ
import Derived.Test.YtenkbmkecgnfmaaLzP
namespace Go.Proofs.Ytenkbmkecgnfmaa.Lz
open Go.RowKit Go.Shelf Go.Lib Go.Proofs.Ytenkbmkecgnfmaa.Mem Go.Proofs.Ytenkbmkecgnfmaa.Huf
open Go.ChangeShapes Go.WideShapes Go.ChangeAt

instance : Inhabited Pc := ⟨⟨0, 0, 0⟩⟩
def okPc (p : Pc) : Prop := (Lit.int .i64 p.len).wf = true ∧ (Lit.int .i64 p.dist).wf = true

set_option maxRecDepth 100000 in
/-- One piece, out of its three cells. -/
theorem pc_of_trod {H : Type} {enc : TypeId × Value → H} {W : World} {fuel : Nat} {cs : List Value} {x : DataW H × List MemPlace} (h : DataW.trod enc Try.prog W 0 (fun _ => true) true fuel 44 cs = some x) :
    ∃ p : Pc, cs = pcCells p ∧ okPc p := by
  obtain ⟨ys, n, _, hx, hlen, hyl, hf⟩ := DataW.trod_struct Try.underlying44 h
  have hc3 : Try.prog.cellsOf 44 = 3 := by kernel_rfl
  have k3 : Try.prog.cellsOf 3 = 1 := by kernel_rfl
  have k5 : Try.prog.cellsOf 5 = 1 := by kernel_rfl
  rw [hc3] at hlen
  obtain ⟨c0, c1, c2, rfl⟩ : ∃ c0 c1 c2, cs = [c0, c1, c2] := by
    match cs, hlen with
    | [a, b, c], _ => exact ⟨a, b, c, rfl⟩
  obtain ⟨y0, y1, y2, rfl⟩ : ∃ y0 y1 y2, ys = [y0, y1, y2] := by
    match ys, hyl with
    | [a, b, c], _ => exact ⟨a, b, c, rfl⟩
  have f0 : DataW.trod enc Try.prog W 0 (fun _ => true) true n 3 (List.take (Try.prog.cellsOf 3) (List.drop 0 [c0, c1, c2])) = some y0 := hf 0 _ rfl
  have f1 : DataW.trod enc Try.prog W 0 (fun _ => true) true n 3 (List.take (Try.prog.cellsOf 3) (List.drop 1 [c0, c1, c2])) = some y1 := hf 1 _ rfl
  have f2 : DataW.trod enc Try.prog W 0 (fun _ => true) true n 5 (List.take (Try.prog.cellsOf 5) (List.drop 2 [c0, c1, c2])) = some y2 := hf 2 _ rfl
  rw [k3] at f0 f1
  rw [k5] at f2
  have f0' : DataW.trod enc Try.prog W 0 (fun _ => true) true n 3 [c0] = some y0 := f0
  have f1' : DataW.trod enc Try.prog W 0 (fun _ => true) true n 3 [c1] = some y1 := f1
  have f2' : DataW.trod enc Try.prog W 0 (fun _ => true) true n 5 [c2] = some y2 := f2
  obtain ⟨z0, e0, -, g0⟩ := DataW.trod_int Try.underlying3 f0'
  obtain ⟨z1, e1, -, g1⟩ := DataW.trod_int Try.underlying3 f1'
  obtain ⟨z2, e2, -, g2⟩ := DataW.trod_int Try.underlying5 f2'
  simp only [List.cons.injEq, and_true] at e0 e1 e2
  refine ⟨⟨z0, z1, byteOf z2⟩, ?_, g0, g1⟩
  rw [e0, e1, e2]
  unfold pcCells
  rw [byteOf_val z2 g2]

set_option maxRecDepth 100000 in
/-- A list of pieces that came in. -/
theorem pcs_of_trod {H : Type} {enc : TypeId × Value → H} {W : World} {fuel : Nat} {cs : List Value} {x : DataW H × List MemPlace} (h : DataW.trod enc Try.prog W 0 (fun _ => true) true fuel 37 cs = some x) :
    ∃ (ao : Option Addr) (ps : List Pc) (c : Nat), cs = [.slice ao ps.length c] ∧ SrcP W (.slice ao ps.length c) ps ∧ (∀ p ∈ ps, okPc p) ∧ ∀ N, (∀ n ∈ x.1.weights Try.prog 37, n ≤ N) → ps.length * 24 ≤ N := by
  have hc3 : Try.prog.cellsOf 44 = 3 := by kernel_rfl
  rcases Deep.open_slice Try.underlying37 h with ⟨hcs, hx⟩ | ⟨a, len, cap, m, n, D, Pl, hcs, _, hl, hm, hmm, hx, hi⟩
  · exact ⟨none, [], 0, hcs, .inl ⟨rfl, rfl⟩, fun p hp => (by cases hp), fun N _ => by simp⟩
  · simp only [if_true] at hmm
    subst m
    have each : ∀ i, i < len → ∃ p : Pc, okPc p ∧ ∀ j v, (pcCells p)[j]? = some v → W.cell? (a.add (i * 3 + j)) = some v := fun i hil => by
      obtain ⟨cs', hcc, ht⟩ := hi i (by omega)
      rw [hc3] at hcc
      obtain ⟨p, hp, hok⟩ := pc_of_trod ht
      obtain ⟨_, hcl, hat⟩ := World.cells?_some hcc
      refine ⟨p, hok, fun j v hj => ?_⟩
      have hj3 : j < 3 := (List.getElem?_eq_some_iff.1 hj).1
      rw [← Deep.add_add, hat j hj3, hp]
      exact hj
    obtain ⟨f, hf⟩ := Deep.choose_lt each
    have hlen : ((List.range len).map f).length = len := by rw [List.length_map, List.length_range]
    refine ⟨some a, (List.range len).map f, cap, by rw [hlen]; exact hcs, .inr ⟨a, cap, rfl, fun j u hu => ?_⟩, fun p hp => ?_, fun N hN => ?_⟩
    · have hjl := (List.getElem?_eq_some_iff.1 hu).1
      rw [pcsCells_len, hlen] at hjl
      have hq : j / 3 < len := by omega
      have hx' : ((List.range len).map f)[j / 3]? = some (f (j / 3)) := by rw [List.getElem?_map, List.getElem?_range hq]; rfl
      have := pcsCells_at _ _ _ (j % 3) hx' (Nat.mod_lt _ (by decide))
      rw [show j / 3 * 3 + j % 3 = j by omega] at this
      rw [this] at hu
      have := (hf (j / 3) hq).2 _ _ hu
      rwa [show j / 3 * 3 + j % 3 = j by omega] at this
    · obtain ⟨i, hi', rfl⟩ := List.mem_map.1 hp
      exact (hf i (List.mem_range.1 hi')).1
    · rw [hx] at hN
      have hb : Try.prog.bytesOf 44 = 24 := by kernel_rfl
      have := hN ((((List.range len).map D).length + ((List.range (cap - len)).map fun j => D (len + j)).length) * Try.prog.bytesOf 44) (by simp only [DataW.weights, Try.underlying37]; exact List.mem_cons_self ..)
      rw [hb] at this
      simp only [List.length_map, List.length_range] at this
      rw [hlen]
      omega
end Go.Proofs.Ytenkbmkecgnfmaa.Lz
