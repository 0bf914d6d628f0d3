/- Rows of pieces in memory, of the program's and of the document's. Bytes that came in: as they lie in memory, and how much they hold. Lists of pieces that came in. -/
import Derived.Test.YthmbbpfgbpacnaaGreatDoorPmLzA
import Derived.Test.YthmbbpfgbpacnaaGreatDoorPmInfA
import Derived.Test.YthmbbpfgbpacnaaGreatDoorPmMem
import Derived.Test.YthmbbpfgbpacnaaGreatDoorRows
import Derived.Deep.Slices
import Derived.Deep.Fields
import Derived.ChangeSlices
import Derived.ChangeSame
import Derived.ProofKit
import Derived.SizedLaws
namespace Go.Proofs.YthmbbpfgbpacnaaGreatDoor.Lz
open Go.RowKit Go.Shelf Go.Lib Mem Huf
def pcCells (p : Pc) : List Value := [.int .i64 p.len, .int .i64 p.dist, .int .u8 (p.byte.toNat : Int)]
def pcV (p : Pc) : Value := .agg #[.int .i64 p.len, .int .i64 p.dist, .int .u8 (p.byte.toNat : Int)]
def pcsCells (l : List Pc) : List Value := l.flatMap pcCells
theorem pcsCells_len (xs : List Pc) : (pcsCells xs).length = xs.length * 3 := by
 induction xs with
 | nil => rfl
 | cons x xs ih => unfold pcsCells at *; rw [List.flatMap_cons, List.length_append, ih, List.length_cons]; simp [pcCells]; omega
theorem pcsCells_append (xs ys : List Pc) : pcsCells (xs ++ ys) = pcsCells xs ++ pcsCells ys := by simp [pcsCells]
theorem pcsCells_at (xs : List Pc) : ∀ (j : Nat) (x : Pc) (i : Nat), xs[j]? = some x -> i < 3 -> (pcsCells xs)[j * 3 + i]? = (pcCells x)[i]? := by
 induction xs with
 | nil => intro j x i h _; simp at h
 | cons y xs ih =>
  intro j x i h hi
  unfold pcsCells at *
  rw [List.flatMap_cons]
  have hx : (pcCells y).length = 3 := rfl
  cases j with
  | zero =>
   obtain rfl : y = x := by simpa using h
   rw [List.getElem?_append_left (by omega), Nat.zero_mul, Nat.zero_add]
  | succ j =>
   rw [List.getElem?_append_right (by omega), hx, show (j + 1) * 3 + i - 3 = j * 3 + i by omega]
   exact ih j x i (by simpa using h) hi
theorem pcsCells_one (xs : List Pc) : ∀ u ∈ pcsCells xs, u.oneCell' = true := by
 intro u hu
 unfold pcsCells at hu
 obtain ⟨x, _, hx⟩ := List.mem_flatMap.1 hu
 simp only [pcCells, List.mem_cons, List.not_mem_nil, or_false] at hx
 rcases hx with rfl | rfl | rfl <;> rfl
theorem pcsCells_single (p : Pc) : pcsCells [p] = pcCells p := by unfold pcsCells; rw [List.flatMap_cons, List.flatMap_nil, List.append_nil]
def SrcP (W : World) (v : Value) (xs : List Pc) : Prop :=
 (v = .slice none 0 0 /\ xs = []) \/ ∃ a c, v = .slice (some a) xs.length c /\ ∀ j u, (pcsCells xs)[j]? = some u -> W.cell? (a.add j) = some u
theorem SrcP.below {W W' : World} {v : Value} {xs : List Pc} (h : SrcP W v xs) (hb : Below W.heap.size W W') : SrcP W' v xs :=
 h.imp id fun ⟨a, c, hv, hc⟩ => ⟨a, c, hv, fun j u hu => (hb.cell (block_lt_of_cell (hc j u hu))).trans (hc j u hu)⟩
theorem SrcP.drew {W W' : World} {v : Value} {xs : List Pc} (h : SrcP W v xs) (d : Drew W W') : SrcP W' v xs := h.below (d.below _)
theorem SrcP.only {S : Nat -> Prop} {W W' : World} {v : Value} {xs : List Pc} (h : SrcP W v xs) (ho : Only S W W') (hx : ∀ a n c, v = .slice (some a) n c -> ¬ S a.block) : SrcP W' v xs :=
 h.imp id fun ⟨a, c, hv, hc⟩ => ⟨a, c, hv, fun j u hu => ho.cell (hc j u hu) (by rw [Lib.block_add]; exact hx a _ c hv)⟩
theorem SrcP.shape {W : World} {v : Value} {xs : List Pc} (h : SrcP W v xs) : ∃ ao c, v = .slice ao xs.length c /\ (0 < xs.length -> ∃ a, ao = some a) := by
 rcases h with ⟨rfl, rfl⟩ | ⟨a, c, rfl, _⟩
 ·exact ⟨none, 0, rfl, fun h => by cases h⟩
 ·exact ⟨some a, c, rfl, fun _ => ⟨a, rfl⟩⟩
theorem SrcP.of_own {W : World} {B : Nat} {e : TypeId} {v : Value} {xs : List Pc} {n : Nat} (h : W.ownsRow B e 3 v n (pcsCells xs)) (hn : n = xs.length) : SrcP W v xs := by
 subst hn
 rcases h.2 with ⟨hv, h0⟩ | ⟨g, cap, cur, hv, hg, hh, hnc, hcm, hcs, htk⟩
 ·exact .inl ⟨hv, List.eq_nil_of_length_eq_zero h0⟩
 ·exact .inr ⟨⟨g, 0, none⟩, cap, hv, h.cells (g := g) (by rw [hv]; rfl)⟩
theorem srcp_at {W : World} {n c : Nat} {a : Addr} {xs : List Pc} (h : SrcP W (.slice (some a) n c) xs) (j : Nat) (hj : j < xs.length) :
  W.cell? (a.add (j * 3)) = some (.int .i64 (xs[j]).len) /\ W.cell? (a.add (j * 3 + 1)) = some (.int .i64 (xs[j]).dist) /\ W.cell? (a.add (j * 3 + 2)) = some (.int .u8 ((xs[j]).byte.toNat : Int)) := by
 rcases h with ⟨hv, _⟩ | ⟨a', c', hv, hcell⟩
 ·cases hv
 ·cases hv
  refine ⟨hcell _ _ ?_, hcell _ _ ?_, hcell _ _ ?_⟩
  ·exact pcsCells_at xs j _ 0 (List.getElem?_eq_getElem hj) (by decide)
  ·exact pcsCells_at xs j _ 1 (List.getElem?_eq_getElem hj) (by decide)
  ·exact pcsCells_at xs j _ 2 (List.getElem?_eq_getElem hj) (by decide)
theorem info_pc : (Tryz.prog.info? 105).map (fun i => (i.zero, i.size, i.bytes)) = some (some (.agg #[.int .i64 0, .int .i64 0, .int .u8 0]), 3, 24) := by kernel_rfl
section
variable {T e : TypeId} (hU : Tryz.prog.underlying T = some (.slice e)) (hinfo : (Tryz.prog.info? e).map (fun i => (i.zero, i.size, i.bytes)) = some (some (.agg #[.int .i64 0, .int .i64 0, .int .u8 0]), 3, 24))
include hU hinfo
theorem push_pc (W : World) (B : Nat) (v : Value) (xs : List Pc) (p : Pc) (h : W.ownsRow B e 3 v xs.length (pcsCells xs)) (hB : B <= W.heap.size) (hlim : (xs.length + 1) * 24 <= 140737488355328) :
  ∃ v' W', (Builtin.append_ #[T, T] T #[v, .slice (some ⟨W.heap.size, 0, none⟩) 1 1]).run Tryz.prog (W.alloc (.cells #[.int .i64 p.len, .int .i64 p.dist, .int .u8 (p.byte.toNat : Int)] e)) = .ok v' W' /\ W'.ownsRow B e 3 v' (xs ++ [p]).length (pcsCells (xs ++ [p])) /\ Below B W W' /\ Only (fun k => v.ownBlock = some k) W W' /\ (v'.ownBlock = v.ownBlock \/ ∀ k, v'.ownBlock = some k -> W.heap.size <= k) := by
 have hA := (Below.refl W.heap.size W).alloc (Nat.le_refl _) (.cells #[.int .i64 p.len, .int .i64 p.dist, .int .u8 (p.byte.toNat : Int)] e)
 have hrow := own_below h hA
 have hnews : ∀ j u, (pcCells p)[j]? = some u -> (W.alloc (.cells #[.int .i64 p.len, .int .i64 p.dist, .int .u8 (p.byte.toNat : Int)] e)).cell? ((⟨W.heap.size, 0, none⟩ : Addr).add j) = some u := fun j u hj => by
  rw [Lib.addr_add, cell_of_row _ _ _ _ _ (0, 0) (heap_alloc_new _ _), Nat.zero_add]
  simpa [pcCells] using hj
 obtain ⟨v', W', h1, h2, h3, h4⟩ := app_gen hU hinfo rfl (by decide) _ B v (.slice (some ⟨W.heap.size, 0, none⟩) 1 1) T xs.length 1 (pcsCells xs) (pcCells p) hrow (Nat.le_trans hB hA.size) (.inr ⟨_, 1, rfl, rfl, hnews⟩)
  (by intro u hu; exact pcsCells_one [p] u (by rw [pcsCells_single]; exact hu)) (by omega) (by omega)
 have ho : Only (fun k => v.ownBlock = some k) W W' := (Only.of_below hA).trans (only_grown h3 (fun k hk => hk)) (fun i hi => .inl hi)
 refine ⟨v', W', h1, ?_, (hA.mono hB).trans (bel_grown hrow h3 (Nat.le_trans hB hA.size) (Nat.le_refl B)), ho, h4.imp id fun q k hk => Nat.le_trans hA.size (q k hk)⟩
 rw [List.length_append, pcsCells_append, pcsCells_single]
 exact h2
end
end Go.Proofs.YthmbbpfgbpacnaaGreatDoor.Lz
namespace Go.Proofs.YthmbbpfgbpacnaaGreatDoor.Lz
open Go.RowKit Go.Shelf Go.Lib Mem
open Go.ChangeShapes Go.WideShapes Go.ChangeAt
def byteOf (z : Int) : UInt8 := UInt8.ofNat z.toNat
theorem byteOf_val (z : Int) (h : (Lit.int .u8 z).wf = true) : ((byteOf z).toNat : Int) = z := by
 have hw : 0 <= z /\ z <= 255 := by simpa [Lit.wf, IntKind.min, IntKind.max, IntKind.signed, IntKind.bits] using h
 have : (UInt8.ofNat z.toNat).toNat = z.toNat % 256 := by simp
 unfold byteOf
 omega
set_option maxRecDepth 100000 in
theorem bytes_of_trod {H : Type} {enc : TypeId × Value -> H} {W : World} {fuel : Nat} {cs : List Value} {x : DataW H × List MemPlace} (h : DataW.trod enc Tryz.prog W 0 (fun _ => true) true fuel 22 cs = some x) :
  ∃ (ao : Option Addr) (l : List UInt8) (c : Nat), cs = [.slice ao l.length c] /\ Src W (.slice ao l.length c) l /\ l.length <= c /\ ∀ N, (∀ n ∈ x.1.weights Tryz.prog 22, n <= N) -> l.length <= N := by
 rcases open_ints Tryz.underlying22 Tryz.underlying5 (by kernel_rfl) h with ⟨hcs, hx⟩ | ⟨a, len, cap, zs, hcs, _, hl, hm, hz, hx, hcell, hwz⟩
 ·exact ⟨none, [], 0, hcs, .inl ⟨rfl, rfl⟩, Nat.le_refl _, fun N _ => Nat.zero_le _⟩
 ·simp only [if_true] at hz
  have hlen : ((zs.take len).map byteOf).length = len := by rw [List.length_map, List.length_take]; omega
  refine ⟨some a, (zs.take len).map byteOf, cap, by rw [hlen]; exact hcs, .inr ⟨a, cap, rfl, fun j v hj => ?_⟩, by omega, fun N hN => ?_⟩
  ·have hjl : j < len := by
    have := (List.getElem?_eq_some_iff.1 hj).1
    rw [bVs_len, hlen] at this
    exact this
   rw [hcell j (by omega)]
   have hZ : zs[j]? = some (zs.getD j 0) := by rw [List.getD_eq_getElem?_getD, List.getElem?_eq_getElem (by omega)]; rfl
   rw [bVs, List.getElem?_map, List.getElem?_map, List.getElem?_take, if_pos hjl, hZ] at hj
   have hv : bV (byteOf (zs.getD j 0)) = v := by simpa using hj
   rw [<- hv, bV, byteOf_val _ (hwz _ (List.mem_of_getElem? hZ))]
  ·rw [hx] at hN
   have hb : Tryz.prog.bytesOf 5 = 1 := by kernel_rfl
   have := hN (((lits .u8 (zs.take len) : List (DataW H)).length + (lits .u8 (zs.drop len) : List (DataW H)).length) * Tryz.prog.bytesOf 5) (by simp only [DataW.weights, Tryz.underlying22]; exact List.mem_cons_self ..)
   rw [hb] at this
   simp only [lits, List.length_map, List.length_take, List.length_drop] at this
   omega
theorem reach_of {H : Type} {P : Program} {ts : List TypeId} {ds : List (DataW H)} (h : (DataW.weightsEach P ts ds).all (· <= reachBytes) = true) {j : Nat} {t : TypeId} {d : DataW H} (ht : ts[j]? = some t) (hd : ds[j]? = some d) : ∀ n ∈ d.weights P t, n <= 140737488351232 := fun n hn => by
 have := List.all_eq_true.1 h _ (DataW.weights_mem_each ht hd n hn)
 have e : reachBytes = 140737488351232 := by decide
 rw [<- e]
 simpa using this
end Go.Proofs.YthmbbpfgbpacnaaGreatDoor.Lz
namespace Go.Proofs.YthmbbpfgbpacnaaGreatDoor.Lz
open Go.RowKit Go.Shelf Go.Lib Mem Huf
open Go.ChangeShapes Go.WideShapes Go.ChangeAt
instance : Inhabited Pc := ⟨⟨0, 0, 0⟩⟩
end Go.Proofs.YthmbbpfgbpacnaaGreatDoor.Lz
