/- Bytes, and lists of calls, that came in: as they lie in memory, and how much they hold. -/
import Derived.Test.YtaibehfpbcgijabDoorMem
import Derived.Test.YtaibehfpbcgijabDoorRows
import Derived.Deep.Slices
import Derived.Deep.Fields
import Derived.ChangeSlices
import Derived.ChangeSame
import Derived.ProofKit
import Derived.SizedLaws
namespace Go.Proofs.YtaibehfpbcgijabDoor.Bit
open Go.RowKit Go.Shelf Go.Lib Go.Proofs.YtaibehfpbcgijabDoor.Mem
open Go.ChangeShapes Go.WideShapes Go.ChangeAt

def byteOf (z : Int) : UInt8 := UInt8.ofNat z.toNat
theorem byteOf_val (z : Int) (h : (Lit.int .u8 z).wf = true) : ((byteOf z).toNat : Int) = z := by
  have hw : 0 ≤ z ∧ z ≤ 255 := by simpa [Lit.wf, IntKind.min, IntKind.max, IntKind.signed, IntKind.bits] using h
  have : (UInt8.ofNat z.toNat).toNat = z.toNat % 256 := by simp
  unfold byteOf
  omega

set_option maxRecDepth 100000 in
/-- A list of bytes, wherever it stands. -/
theorem bytes_of_trod {H : Type} {enc : TypeId × Value → H} {W : World} {fuel : Nat} {cs : List Value} {x : DataW H × List MemPlace} (h : DataW.trod enc Tryd.prog W 0 (fun _ => true) true fuel 27 cs = some x) :
    ∃ (ao : Option Addr) (l : List UInt8) (c : Nat), cs = [.slice ao l.length c] ∧ Src W (.slice ao l.length c) l ∧ l.length ≤ c ∧ ∀ N, (∀ n ∈ x.1.weights Tryd.prog 27, n ≤ N) → l.length ≤ N := by
  rcases open_ints Tryd.underlying27 Tryd.underlying5 (by kernel_rfl) h with ⟨hcs, hx⟩ | ⟨a, len, cap, zs, hcs, _, hl, hm, hz, hx, hcell, hwz⟩
  · exact ⟨none, [], 0, hcs, .inl ⟨rfl, rfl⟩, Nat.le_refl _, fun N _ => Nat.zero_le _⟩
  · simp only [if_true] at hz
    have hlen : ((zs.take len).map byteOf).length = len := by rw [List.length_map, List.length_take]; omega
    refine ⟨some a, (zs.take len).map byteOf, cap, by rw [hlen]; exact hcs, .inr ⟨a, cap, rfl, fun j v hj => ?_⟩, by omega, fun N hN => ?_⟩
    · have hjl : j < len := by
        have := (List.getElem?_eq_some_iff.1 hj).1
        rw [bVs_len, hlen] at this
        exact this
      rw [hcell j (by omega)]
      have hZ : zs[j]? = some (zs.getD j 0) := by rw [List.getD_eq_getElem?_getD, List.getElem?_eq_getElem (by omega)]; rfl
      rw [bVs, List.getElem?_map, List.getElem?_map, List.getElem?_take, if_pos hjl, hZ] at hj
      have hv : bV (byteOf (zs.getD j 0)) = v := by simpa using hj
      rw [← hv, bV, byteOf_val _ (hwz _ (List.mem_of_getElem? hZ))]
    · rw [hx] at hN
      have hb : Tryd.prog.bytesOf 5 = 1 := by kernel_rfl
      have := hN (((lits .u8 (zs.take len) : List (DataW H)).length + (lits .u8 (zs.drop len) : List (DataW H)).length) * Tryd.prog.bytesOf 5) (by simp only [DataW.weights, Tryd.underlying27]; exact List.mem_cons_self ..)
      rw [hb] at this
      simp only [lits, List.length_map, List.length_take, List.length_drop] at this
      omega

/-- A call that came in. -/
structure OpV where
  kind : Int
  n : Int
  v : Int
  b : List UInt8
  ba : Option Addr
  bc : Nat
deriving Inhabited

/-- The r-th call of a list lies there. -/
def OpAt (W : World) (ao : Option Addr) (r : Nat) (o : OpV) : Prop :=
  ∃ a, ao = some a ∧ W.cell? (a.add (r * 4)) = some (.int .i64 o.kind) ∧ W.cell? (a.add (r * 4 + 1)) = some (.int .i64 o.n) ∧ W.cell? (a.add (r * 4 + 2)) = some (.int .i64 o.v) ∧ W.cell? (a.add (r * 4 + 3)) = some (.slice o.ba o.b.length o.bc) ∧
    Src W (.slice o.ba o.b.length o.bc) o.b ∧ o.b.length ≤ 140737488351232
theorem weights_all {H : Type} {P : Program} {e : TypeId} : ∀ {l : List (DataW H)} {d : DataW H}, d ∈ l → ∀ n ∈ d.weights P e, n ∈ DataW.weightsAll P e l
  | [], _, h, _, _ => by cases h
  | x :: l, d, h, n, hn => by
    simp only [DataW.weightsAll, List.mem_append]
    rcases List.mem_cons.1 h with rfl | h
    · exact .inl hn
    · exact .inr (weights_all h n hn)


set_option maxRecDepth 100000 in
/-- One call, out of its four cells. -/
theorem op_of_trod {H : Type} {enc : TypeId × Value → H} {W : World} {fuel : Nat} {cs : List Value} {x : DataW H × List MemPlace} (h : DataW.trod enc Tryd.prog W 0 (fun _ => true) true fuel 32 cs = some x) :
    ∃ o : OpV, cs[0]? = some (.int .i64 o.kind) ∧ cs[1]? = some (.int .i64 o.n) ∧ cs[2]? = some (.int .i64 o.v) ∧ cs[3]? = some (.slice o.ba o.b.length o.bc) ∧ Src W (.slice o.ba o.b.length o.bc) o.b ∧ ∀ N, (∀ n ∈ x.1.weights Tryd.prog 32, n ≤ N) → o.b.length ≤ N := by
  obtain ⟨ys, n, _, hx, hlen, hyl, hf⟩ := DataW.trod_struct Tryd.underlying32 h
  have hc4 : Tryd.prog.cellsOf 32 = 4 := by kernel_rfl
  have k3 : Tryd.prog.cellsOf 3 = 1 := by kernel_rfl
  have k27 : Tryd.prog.cellsOf 27 = 1 := by kernel_rfl
  rw [hc4] at hlen
  obtain ⟨c0, c1, c2, c3, rfl⟩ : ∃ c0 c1 c2 c3, cs = [c0, c1, c2, c3] := by
    match cs, hlen with
    | [a, b, c, d], _ => exact ⟨a, b, c, d, rfl⟩
  obtain ⟨y0, y1, y2, y3, rfl⟩ : ∃ y0 y1 y2 y3, ys = [y0, y1, y2, y3] := by
    match ys, hyl with
    | [a, b, c, d], _ => exact ⟨a, b, c, d, rfl⟩
  have f0 : DataW.trod enc Tryd.prog W 0 (fun _ => true) true n 3 (List.take (Tryd.prog.cellsOf 3) (List.drop 0 [c0, c1, c2, c3])) = some y0 := hf 0 _ rfl
  have f1 : DataW.trod enc Tryd.prog W 0 (fun _ => true) true n 3 (List.take (Tryd.prog.cellsOf 3) (List.drop 1 [c0, c1, c2, c3])) = some y1 := hf 1 _ rfl
  have f2 : DataW.trod enc Tryd.prog W 0 (fun _ => true) true n 3 (List.take (Tryd.prog.cellsOf 3) (List.drop 2 [c0, c1, c2, c3])) = some y2 := hf 2 _ rfl
  have f3 : DataW.trod enc Tryd.prog W 0 (fun _ => true) true n 27 (List.take (Tryd.prog.cellsOf 27) (List.drop 3 [c0, c1, c2, c3])) = some y3 := hf 3 _ rfl
  rw [k3] at f0 f1 f2
  rw [k27] at f3
  have f0' : DataW.trod enc Tryd.prog W 0 (fun _ => true) true n 3 [c0] = some y0 := f0
  have f1' : DataW.trod enc Tryd.prog W 0 (fun _ => true) true n 3 [c1] = some y1 := f1
  have f2' : DataW.trod enc Tryd.prog W 0 (fun _ => true) true n 3 [c2] = some y2 := f2
  have f3' : DataW.trod enc Tryd.prog W 0 (fun _ => true) true n 27 [c3] = some y3 := f3
  obtain ⟨z0, e0, -, -⟩ := DataW.trod_int Tryd.underlying3 f0'
  obtain ⟨z1, e1, -, -⟩ := DataW.trod_int Tryd.underlying3 f1'
  obtain ⟨z2, e2, -, -⟩ := DataW.trod_int Tryd.underlying3 f2'
  obtain ⟨ao, l, c, e3, hs, -, hw⟩ := bytes_of_trod f3'
  simp only [List.cons.injEq, and_true] at e0 e1 e2 e3
  refine ⟨⟨z0, z1, z2, l, ao, c⟩, by rw [e0]; rfl, by rw [e1]; rfl, by rw [e2]; rfl, by rw [e3]; rfl, hs, fun N hN => hw N fun m hm => hN m ?_⟩
  rw [hx]
  simp only [DataW.weights, Tryd.underlying32, List.map_cons, List.map_nil, DataW.weightsEach, List.mem_append]
  exact .inr (.inr (.inr (.inl hm)))

set_option maxRecDepth 100000 in
/-- A list of calls that came in. -/
theorem ops_of_trod {H : Type} {enc : TypeId × Value → H} {W : World} {fuel : Nat} {cs : List Value} {x : DataW H × List MemPlace} (h : DataW.trod enc Tryd.prog W 0 (fun _ => true) true fuel 22 cs = some x)
    (hN : ∀ n ∈ x.1.weights Tryd.prog 22, n ≤ 140737488351232) :
    ∃ (ao : Option Addr) (os : List OpV) (c : Nat), cs = [.slice ao os.length c] ∧ (∀ r o, os[r]? = some o → OpAt W ao r o) ∧ os.length * 48 ≤ 140737488351232 := by
  have hc4 : Tryd.prog.cellsOf 32 = 4 := by kernel_rfl
  rcases Deep.open_slice Tryd.underlying22 h with ⟨hcs, hx⟩ | ⟨a, len, cap, m, n, D, Pl, hcs, _, hl, hm, hmm, hx, hi⟩
  · exact ⟨none, [], 0, hcs, fun r o hr => by simp at hr, by simp⟩
  · simp only [if_true] at hmm
    subst m
    have hmem : ∀ i, i < len → D i ∈ (List.range len).map D := fun i hil => List.mem_map.2 ⟨i, List.mem_range.2 hil, rfl⟩
    have each : ∀ i, i < len → ∃ o : OpV, OpAt W (some a) i o := fun i hil => by
      obtain ⟨cs', hcc, ht⟩ := hi i (by omega)
      rw [hc4] at hcc
      obtain ⟨o, q0, q1, q2, q3, hs, hw⟩ := op_of_trod ht
      obtain ⟨_, hcl, hat⟩ := World.cells?_some hcc
      have at_ : ∀ j, j < 4 → W.cell? (a.add (i * 4 + j)) = cs'[j]? := fun j hj => by rw [← Deep.add_add]; exact hat j hj
      refine ⟨o, a, rfl, ?_, (at_ 1 (by decide)).trans q1, (at_ 2 (by decide)).trans q2, (at_ 3 (by decide)).trans q3, hs, hw _ fun k hk => hN k ?_⟩
      · have := (at_ 0 (by decide)).trans q0
        rwa [Nat.add_zero] at this
      · rw [hx]
        simp only [DataW.weights, Tryd.underlying22, List.mem_cons, List.mem_append]
        exact .inr (.inl (weights_all (hmem i hil) k hk))
    obtain ⟨f, hf⟩ := Deep.choose_lt each
    have hlen : ((List.range len).map f).length = len := by rw [List.length_map, List.length_range]
    refine ⟨some a, (List.range len).map f, cap, by rw [hlen]; exact hcs, fun r o hr => ?_, ?_⟩
    · rw [List.getElem?_map] at hr
      have hrn : r < len := by
        rcases Nat.lt_or_ge r len with h | h
        · exact h
        · rw [List.getElem?_eq_none (by simpa using h)] at hr; cases hr
      rw [List.getElem?_range hrn] at hr
      obtain rfl : f r = o := by simpa using hr
      exact hf r hrn
    · rw [hx] at hN
      have hb : Tryd.prog.bytesOf 32 = 48 := by kernel_rfl
      have := hN ((((List.range len).map D).length + ((List.range (cap - len)).map fun j => D (len + j)).length) * Tryd.prog.bytesOf 32) (by simp only [DataW.weights, Tryd.underlying22]; exact List.mem_cons_self ..)
      rw [hb] at this
      simp only [List.length_map, List.length_range] at this
      rw [hlen]
      omega

/-- All weights of an argument are within the reach. -/
theorem reach_of {H : Type} {P : Program} {ts : List TypeId} {ds : List (DataW H)} (h : (DataW.weightsEach P ts ds).all (· ≤ reachBytes) = true) {j : Nat} {t : TypeId} {d : DataW H} (ht : ts[j]? = some t) (hd : ds[j]? = some d) : ∀ n ∈ d.weights P t, n ≤ 140737488351232 := fun n hn => by
  have := List.all_eq_true.1 h _ (DataW.weights_mem_each ht hd n hn)
  have e : reachBytes = 140737488351232 := by decide
  rw [← e]
  simpa using this

end Go.Proofs.YtaibehfpbcgijabDoor.Bit
