/- Bytes, and lists of calls, that came in: as they lie in memory, and how much they hold. -/
import Derived.Test.YthmbbpfgbpacnaaGreatDoorPmMem
import Derived.Test.YthmbbpfgbpacnaaGreatDoorRows
import Derived.Deep.Slices
import Derived.Deep.Fields
import Derived.ChangeSlices
import Derived.ChangeSame
import Derived.ProofKit
import Derived.SizedLaws
namespace Go.Proofs.YthmbbpfgbpacnaaGreatDoor.Bit
open Go.RowKit Go.Shelf Go.Lib Mem
open Go.ChangeShapes Go.WideShapes Go.ChangeAt
def byteOf (z : Int) : UInt8 := UInt8.ofNat z.toNat
theorem byteOf_val (z : Int) (h : (Lit.int .u8 z).wf = true) : ((byteOf z).toNat : Int) = z := by
 have hw : 0 <= z /\ z <= 255 := by simpa [Lit.wf, IntKind.min, IntKind.max, IntKind.signed, IntKind.bits] using h
 have : (UInt8.ofNat z.toNat).toNat = z.toNat % 256 := by simp
 unfold byteOf
 omega
set_option maxRecDepth 100000 in
theorem bytes_of_trod {H : Type} {enc : TypeId × Value -> H} {W : World} {fuel : Nat} {cs : List Value} {x : DataW H × List MemPlace} (h : DataW.trod enc Tryz.prog W 0 (fun _ => true) true fuel 22 cs = some x) :
  ∃ (ao : Option Addr) (l : List UInt8) (c : Nat), cs = [.slice ao l.length c] /\ Src W (.slice ao l.length c) l /\ l.length <= c /\ ∀ N, (∀ n ∈ x.1.weights Tryz.prog 22, n <= N) -> l.length <= N := by
 rcases open_ints Tryz.underlying22 Tryz.underlying5 (by kernel_rfl) h with ⟨hcs, hx⟩ | ⟨a, len, cap, zs, hcs, _, hl, hm, hz, hx, hcell, hwz⟩
 ·exact ⟨none, [], 0, hcs, .inl ⟨rfl, rfl⟩, Nat.le_refl _, fun N _ => Nat.zero_le _⟩
 ·simp only [if_true] at hz
  have hlen : ((zs.take len).map byteOf).length = len := by rw [List.length_map, List.length_take]; omega
  refine ⟨some a, (zs.take len).map byteOf, cap, by rw [hlen]; exact hcs, .inr ⟨a, cap, rfl, fun j v hj => ?_⟩, by omega, fun N hN => ?_⟩
  ·have hjl : j < len := by
    have := (List.getElem?_eq_some_iff.1 hj).1
    rw [bVs_len, hlen] at this
    exact this
   rw [hcell j (by omega)]
   have hZ : zs[j]? = some (zs.getD j 0) := by rw [List.getD_eq_getElem?_getD, List.getElem?_eq_getElem (by omega)]; rfl
   rw [bVs, List.getElem?_map, List.getElem?_map, List.getElem?_take, if_pos hjl, hZ] at hj
   have hv : bV (byteOf (zs.getD j 0)) = v := by simpa using hj
   rw [<- hv, bV, byteOf_val _ (hwz _ (List.mem_of_getElem? hZ))]
  ·rw [hx] at hN
   have hb : Tryz.prog.bytesOf 5 = 1 := by kernel_rfl
   have := hN (((lits .u8 (zs.take len) : List (DataW H)).length + (lits .u8 (zs.drop len) : List (DataW H)).length) * Tryz.prog.bytesOf 5) (by simp only [DataW.weights, Tryz.underlying22]; exact List.mem_cons_self ..)
   rw [hb] at this
   simp only [lits, List.length_map, List.length_take, List.length_drop] at this
   omega
theorem reach_of {H : Type} {P : Program} {ts : List TypeId} {ds : List (DataW H)} (h : (DataW.weightsEach P ts ds).all (· <= reachBytes) = true) {j : Nat} {t : TypeId} {d : DataW H} (ht : ts[j]? = some t) (hd : ds[j]? = some d) : ∀ n ∈ d.weights P t, n <= 140737488351232 := fun n hn => by
 have := List.all_eq_true.1 h _ (DataW.weights_mem_each ht hd n hn)
 have e : reachBytes = 140737488351232 := by decide
 rw [<- e]
 simpa using this
end Go.Proofs.YthmbbpfgbpacnaaGreatDoor.Bit
