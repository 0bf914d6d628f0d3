/- A list of calls on a queue, that came in. -/
import Derived.Test.YtaibehfpbcgijaaDoorAscZ8
import Derived.Test.YtaibehfpbcgijaaDoorAscV
import Derived.Test.YtaibehfpbcgijaaDoorRows
import Derived.Deep.Slices
import Derived.Deep.Fields
import Derived.ChangeSlices
import Derived.ChangeSame
import Derived.ProofKit
import Derived.SizedLaws
namespace Go.Proofs.YtaibehfpbcgijaaDoor.Asc
open Go.RowKit Go.Shelf Go.Lib
open Go.ChangeShapes Go.WideShapes Go.ChangeAt

set_option maxRecDepth 100000 in
/-- A list of bytes, wherever it stands. -/
theorem bytes_of_trod {H : Type} {enc : TypeId × Value → H} {W : World} {fuel : Nat} {cs : List Value} {x : DataW H × List MemPlace} (h : DataW.trod enc Tryd.prog W 0 (fun _ => true) true fuel 45 cs = some x) :
    ∃ (ao : Option Addr) (l : List UInt8) (c : Nat), cs = [.slice ao l.length c] ∧ Src W (.slice ao l.length c) l ∧ l.length ≤ Rows.uptoBulk x.1 := by
  rcases open_ints Tryd.underlying45 Tryd.underlying5 (by kernel_rfl) h with ⟨hcs, hx⟩ | ⟨a, len, cap, zs, hcs, _, hl, hm, hz, hx, hcell, hwz⟩
  · exact ⟨none, [], 0, hcs, .inl ⟨rfl, rfl⟩, Nat.zero_le _⟩
  · simp only [if_true] at hz
    have hlen : ((zs.take len).map byteOf).length = len := by rw [List.length_map, List.length_take]; omega
    refine ⟨some a, (zs.take len).map byteOf, cap, by rw [hlen]; exact hcs, .inr ⟨a, cap, rfl, fun j v hj => ?_⟩, ?_⟩
    · have hjl : j < len := by
        have := (List.getElem?_eq_some_iff.1 hj).1
        rw [bVs_len, hlen] at this
        exact this
      rw [hcell j (by omega)]
      have hZ : zs[j]? = some (zs.getD j 0) := by rw [List.getD_eq_getElem?_getD, List.getElem?_eq_getElem (by omega)]; rfl
      rw [bVs, List.getElem?_map, List.getElem?_map, List.getElem?_take, if_pos hjl, hZ] at hj
      have hv : bV (byteOf (zs.getD j 0)) = v := by simpa using hj
      rw [← hv, bV, byteOf_val _ (hwz _ (List.mem_of_getElem? hZ))]
    · rw [hx, List.length_map]
      simp only [Rows.uptoBulk, bulk_lits]
      omega

/-- A call that came in. -/
structure OpV where
  kind : Int
  n : Int
  b : List UInt8
  ba : Option Addr
  bc : Nat
deriving Inhabited

/-- The r-th call of a list lies there. -/
def OpAt (W : World) (ao : Option Addr) (r : Nat) (o : OpV) : Prop :=
  ∃ a, ao = some a ∧ W.cell? (a.add (r * 3)) = some (.int .i64 o.kind) ∧ W.cell? (a.add (r * 3 + 1)) = some (.int .i64 o.n) ∧ W.cell? (a.add (r * 3 + 2)) = some (.slice o.ba o.b.length o.bc) ∧
    Src W (.slice o.ba o.b.length o.bc) o.b ∧ o.b.length ≤ 1048576
theorem bulk_mem {H : Type} : ∀ {l : List (DataW H)} {d : DataW H}, d ∈ l → Rows.uptoBulk d ≤ Rows.uptoBulkAll l
  | [], _, h => by cases h
  | x :: l, d, h => by
    simp only [Rows.uptoBulkAll]
    rcases List.mem_cons.1 h with rfl | h
    · omega
    · have := bulk_mem h; omega
theorem bulk_pos {H : Type} (d : DataW H) : 1 ≤ Rows.uptoBulk d := by
  unfold Rows.uptoBulk
  split <;> omega
theorem bulk_count {H : Type} : ∀ (l : List (DataW H)), l.length ≤ Rows.uptoBulkAll l
  | [] => Nat.zero_le _
  | x :: l => by
    have := bulk_pos x
    have := bulk_count l
    simp only [Rows.uptoBulkAll, List.length_cons]
    omega

set_option maxRecDepth 100000 in
/-- One call, out of its three cells. -/
theorem op_of_trod {H : Type} {enc : TypeId × Value → H} {W : World} {fuel : Nat} {cs : List Value} {x : DataW H × List MemPlace} (h : DataW.trod enc Tryd.prog W 0 (fun _ => true) true fuel 47 cs = some x) :
    ∃ o : OpV, cs[0]? = some (.int .i64 o.kind) ∧ cs[1]? = some (.int .i64 o.n) ∧ cs[2]? = some (.slice o.ba o.b.length o.bc) ∧ Src W (.slice o.ba o.b.length o.bc) o.b ∧ o.b.length ≤ Rows.uptoBulk x.1 := by
  obtain ⟨ys, n, _, hx, hlen, hyl, hf⟩ := DataW.trod_struct Tryd.underlying47 h
  have hc4 : Tryd.prog.cellsOf 47 = 3 := by kernel_rfl
  have k3 : Tryd.prog.cellsOf 3 = 1 := by kernel_rfl
  have k27 : Tryd.prog.cellsOf 45 = 1 := by kernel_rfl
  rw [hc4] at hlen
  obtain ⟨c0, c1, c2, rfl⟩ : ∃ c0 c1 c2, cs = [c0, c1, c2] := by
    match cs, hlen with
    | [a, b, c], _ => exact ⟨a, b, c, rfl⟩
  obtain ⟨y0, y1, y2, rfl⟩ : ∃ y0 y1 y2, ys = [y0, y1, y2] := by
    match ys, hyl with
    | [a, b, c], _ => exact ⟨a, b, c, rfl⟩
  have f0 : DataW.trod enc Tryd.prog W 0 (fun _ => true) true n 3 (List.take (Tryd.prog.cellsOf 3) (List.drop 0 [c0, c1, c2])) = some y0 := hf 0 _ rfl
  have f1 : DataW.trod enc Tryd.prog W 0 (fun _ => true) true n 3 (List.take (Tryd.prog.cellsOf 3) (List.drop 1 [c0, c1, c2])) = some y1 := hf 1 _ rfl
  have f2 : DataW.trod enc Tryd.prog W 0 (fun _ => true) true n 45 (List.take (Tryd.prog.cellsOf 45) (List.drop 2 [c0, c1, c2])) = some y2 := hf 2 _ rfl
  rw [k3] at f0 f1
  rw [k27] at f2
  have f0' : DataW.trod enc Tryd.prog W 0 (fun _ => true) true n 3 [c0] = some y0 := f0
  have f1' : DataW.trod enc Tryd.prog W 0 (fun _ => true) true n 3 [c1] = some y1 := f1
  have f2' : DataW.trod enc Tryd.prog W 0 (fun _ => true) true n 45 [c2] = some y2 := f2
  obtain ⟨z0, e0, -, -⟩ := DataW.trod_int Tryd.underlying3 f0'
  obtain ⟨z1, e1, -, -⟩ := DataW.trod_int Tryd.underlying3 f1'
  obtain ⟨ao, l, c, e3, hs, hw⟩ := bytes_of_trod f2'
  simp only [List.cons.injEq, and_true] at e0 e1 e3
  refine ⟨⟨z0, z1, l, ao, c⟩, by rw [e0]; rfl, by rw [e1]; rfl, by rw [e3]; rfl, hs, Nat.le_trans hw ?_⟩
  rw [hx]
  simp only [Rows.uptoBulk, List.map_cons, List.map_nil, Rows.uptoBulkAll]
  omega

set_option maxRecDepth 100000 in
/-- A list of calls that came in. -/
theorem ops_of_trod {H : Type} {enc : TypeId × Value → H} {W : World} {fuel : Nat} {cs : List Value} {x : DataW H × List MemPlace} (h : DataW.trod enc Tryd.prog W 0 (fun _ => true) true fuel 38 cs = some x)
    (hN : Rows.uptoBulk x.1 ≤ 1048576) :
    ∃ (ao : Option Addr) (os : List OpV) (c : Nat), cs = [.slice ao os.length c] ∧ (∀ r o, os[r]? = some o → OpAt W ao r o) ∧ os.length ≤ 1048576 := by
  have hc4 : Tryd.prog.cellsOf 47 = 3 := by kernel_rfl
  rcases Deep.open_slice Tryd.underlying38 h with ⟨hcs, hx⟩ | ⟨a, len, cap, m, n, D, Pl, hcs, _, hl, hm, hmm, hx, hi⟩
  · exact ⟨none, [], 0, hcs, fun r o hr => by simp at hr, by simp⟩
  · simp only [if_true] at hmm
    subst m
    have hmem : ∀ i, i < len → D i ∈ (List.range len).map D := fun i hil => List.mem_map.2 ⟨i, List.mem_range.2 hil, rfl⟩
    rw [hx] at hN
    simp only [Rows.uptoBulk] at hN
    have each : ∀ i, i < len → ∃ o : OpV, OpAt W (some a) i o := fun i hil => by
      obtain ⟨cs', hcc, ht⟩ := hi i (by omega)
      rw [hc4] at hcc
      obtain ⟨o, q0, q1, q2, hs, hw⟩ := op_of_trod ht
      obtain ⟨_, hcl, hat⟩ := World.cells?_some hcc
      have at_ : ∀ j, j < 3 → W.cell? (a.add (i * 3 + j)) = cs'[j]? := fun j hj => by rw [← Deep.add_add]; exact hat j hj
      have hb := bulk_mem (hmem i hil)
      have hw2 : o.b.length ≤ Rows.uptoBulk (D i) := hw
      refine ⟨o, a, rfl, ?_, (at_ 1 (by decide)).trans q1, (at_ 2 (by decide)).trans q2, hs, ?_⟩
      · have := (at_ 0 (by decide)).trans q0
        rwa [Nat.add_zero] at this
      · omega
    obtain ⟨f, hf⟩ := Deep.choose_lt each
    have hlen : ((List.range len).map f).length = len := by rw [List.length_map, List.length_range]
    refine ⟨some a, (List.range len).map f, cap, by rw [hlen]; exact hcs, fun r o hr => ?_, ?_⟩
    · rw [List.getElem?_map] at hr
      have hrn : r < len := by
        rcases Nat.lt_or_ge r len with h | h
        · exact h
        · rw [List.getElem?_eq_none (by simpa using h)] at hr; cases hr
      rw [List.getElem?_range hrn] at hr
      obtain rfl : f r = o := by simpa using hr
      exact hf r hrn
    · have := bulk_count ((List.range len).map D)
      rw [List.length_map, List.length_range] at this
      rw [hlen]
      omega

end Go.Proofs.YtaibehfpbcgijaaDoor.Asc
