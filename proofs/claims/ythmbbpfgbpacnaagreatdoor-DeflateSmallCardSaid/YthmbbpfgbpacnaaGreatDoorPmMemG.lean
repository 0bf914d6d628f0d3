/- What a call leaves as it was, and rows of its own: of no package. Rows of ints in memory: as they come in, of the call's own, made, written, sorted. Symbols by their numbers, rising, those of one number as they stand (no program). -/
import Derived.Test.YthmbbpfgbpacnaaGreatDoorProg
import Derived.WalkKit
import Derived.WalkLawsBesides
import Derived.WalkSpells
import Derived.Lib.Hide
import Derived.Lib.BufferAt
import Derived.Lib.BufferSrc
import Derived.Lib.AppendZeros
import Derived.Laws.OwnMore
import Derived.Shelf.RegionOpenPlain
import Derived.RegionTactic
import Derived.Deep.Draws
import Derived.BigQuiet
import Derived.LaidEqlPtr
import Derived.Test.YthmbbpfgbpacnaaGreatDoorRows
import Derived.Deep.Slices
import Derived.ChangeSlices
import Derived.ChangeSame
import Derived.ProofKit
import Derived.SizedLaws
import Derived.Shelf.SlSortCmp.Kit1
namespace Go.Proofs.YthmbbpfgbpacnaaGreatDoor.Mem
open Go.RowKit Go.Shelf
structure Drew (w w' : World) : Prop where
 os : w'.os = w.os
 tape : w'.tape = w.tape
 output : w'.output = w.output
 heap : w'.heap = w.heap
theorem Drew.refl (w : World) : Drew w w := ⟨rfl, rfl, rfl, rfl⟩
theorem Drew.trans {u v w : World} (h : Drew u v) (k : Drew v w) : Drew u w := ⟨k.os.trans h.os, k.tape.trans h.tape, k.output.trans h.output, k.heap.trans h.heap⟩
theorem Drew.below {w w' : World} (h : Drew w w') (B : Nat) : Below B w w' := ⟨h.os, h.tape, h.output, by rw [h.heap]; exact Nat.le_refl _, fun k _ => by rw [h.heap]⟩
structure Only (S : Nat -> Prop) (w w' : World) : Prop where
 os : w'.os = w.os
 tape : w'.tape = w.tape
 output : w'.output = w.output
 size : w.heap.size <= w'.heap.size
 block : ∀ k, k < w.heap.size -> ¬ S k -> w'.heap[k]? = w.heap[k]?
theorem Only.refl (S : Nat -> Prop) (w : World) : Only S w w := ⟨rfl, rfl, rfl, Nat.le_refl _, fun _ _ _ => rfl⟩
theorem Only.trans {S S' : Nat -> Prop} {u v w : World} (h : Only S u v) (k : Only S' v w) (hs : ∀ i, S' i -> S i \/ u.heap.size <= i) : Only S u w :=
 ⟨k.os.trans h.os, k.tape.trans h.tape, k.output.trans h.output, Nat.le_trans h.size k.size, fun i hi h1 => (k.block i (Nat.lt_of_lt_of_le hi h.size) (fun q => (hs i q).elim h1 (fun z => by omega))).trans (h.block i hi h1)⟩
theorem Only.mono {S S' : Nat -> Prop} {u v : World} (h : Only S u v) (hs : ∀ i, S i -> S' i \/ u.heap.size <= i) : Only S' u v :=
 ⟨h.os, h.tape, h.output, h.size, fun i hi h1 => h.block i hi (fun q => (hs i q).elim h1 (fun z => by omega))⟩
theorem Only.of_below {S : Nat -> Prop} {w w' : World} (h : Below w.heap.size w w') : Only S w w' := ⟨h.os, h.tape, h.output, h.size, fun k hk _ => h.block k hk⟩
theorem Only.setCell {S : Nat -> Prop} {b i : Nat} (h : S b) (v : Value) (w : World) : Only S w (w.setCell ⟨b, i, none⟩ v) :=
 ⟨rfl, rfl, rfl, by simp [World.setCell], fun k _ h1 => Below.heap_setCell _ _ _ _ (fun e => h1 (by rw [e]; exact h))⟩
theorem Only.below {S : Nat -> Prop} {B : Nat} {w w' : World} (h : Only S w w') (hB : B <= w.heap.size) (h1 : ∀ k, S k -> B <= k) : Below B w w' :=
 ⟨h.os, h.tape, h.output, h.size, fun k hk => h.block k (by omega) (fun q => by have := h1 k q; omega)⟩
theorem Drew.only {S : Nat -> Prop} {w w' : World} (h : Drew w w') : Only S w w' := Only.of_below (h.below _)
theorem Drew.drewN (w : World) (n : Nat) : Drew w (w.drewN n) := ⟨rfl, rfl, rfl, rfl⟩
theorem cell_same {w w' : World} {p : Addr} (h : w'.heap[p.block]? = w.heap[p.block]?) : w'.cell? p = w.cell? p := by
 simp only [World.cell?, h]
theorem Only.cell {S : Nat -> Prop} {w w' : World} {p : Addr} {v : Value} (h : Only S w w') (hc : w.cell? p = some v) (h1 : ¬ S p.block) : w'.cell? p = some v :=
 (cell_same (h.block _ (block_lt_of_cell hc) h1)).trans hc
theorem Drew.cell {w w' : World} {p : Addr} (h : Drew w w') : w'.cell? p = w.cell? p := cell_same (by rw [h.heap])
theorem wpList_append_at {P : Program} (w : World) {ops : Array Oper} {rest : List Oper} {o : Oper} {a : Act} {Q : Exit -> Act -> World -> Prop} (hw : Region.wanted o (yielded ops a.tmps) = true) (s x : Operand) (t tn : TypeId)
  (ho : o.op = .call { callee := .builtin .append, args := #[s, x], argTypes := #[t, tn] }) (vs vx : Value) (hs : a.eval s = vs) (hx : a.eval x = vx)
  (v' : Value) (w' : World) (hr : (Builtin.append_ #[t, tn] o.type #[vs, vx]).run P w = .ok v' w') (h : wpList P ops Q rest (a.put o.dst v') w') : wpList P ops Q (o :: rest) a w :=
 wpList_step fun K hK => by rw [if_pos hw]; exact Lib.wp_append_run w s x t tn ho vs vx hs hx v' w' hr (hK _ _ h)
theorem ownsRow_mono {W : World} {base base' : Nat} {e : TypeId} {size : Nat} {v : Value} {n : Nat} {xs : List Value} (h : W.ownsRow base e size v n xs) (hb : base' <= base) : W.ownsRow base' e size v n xs :=
 ⟨h.1, h.2.imp id fun ⟨g, cap, cur, hv, hg, r⟩ => ⟨g, cap, cur, hv, Nat.le_trans hb hg, r⟩⟩
theorem own_same {W W1 : World} {base : Nat} {e : TypeId} {size : Nat} {v : Value} {n : Nat} {xs : List Value} (h : W.ownsRow base e size v n xs) (hs : ∀ g, v.ownBlock = some g -> W1.heap[g]? = W.heap[g]?) : W1.ownsRow base e size v n xs :=
 ⟨h.1, h.2.imp id fun ⟨g, cap, cur, hv, hg, hh, r⟩ => ⟨g, cap, cur, hv, hg, (hs g (by rw [hv]; rfl)).trans hh, r⟩⟩
theorem own_below {W W1 : World} {base : Nat} {e : TypeId} {size : Nat} {v : Value} {n : Nat} {xs : List Value} (h : W.ownsRow base e size v n xs) (hb : Below W.heap.size W W1) : W1.ownsRow base e size v n xs :=
 own_same h fun g hg => hb.block g (h.lt g hg).2
theorem own_only {S : Nat -> Prop} {W W1 : World} {base : Nat} {e : TypeId} {size : Nat} {v : Value} {n : Nat} {xs : List Value} (h : W.ownsRow base e size v n xs) (hb : Only S W W1) (hs : ∀ g, v.ownBlock = some g -> ¬ S g) : W1.ownsRow base e size v n xs :=
 own_same h fun g hg => hb.block g (h.lt g hg).2 (hs g hg)
theorem own_drew {W W1 : World} {base : Nat} {e : TypeId} {size : Nat} {v : Value} {n : Nat} {xs : List Value} (h : W.ownsRow base e size v n xs) (d : Drew W W1) : W1.ownsRow base e size v n xs := own_below h (d.below _)
theorem own_shape {W : World} {B n : Nat} {e : TypeId} {size : Nat} {v : Value} {xs : List Value} (h : W.ownsRow B e size v n xs) : ∃ ao c, v = .slice ao n c /\ n <= c /\ c <= 9223372036854775807 /\ (ao = none -> n = 0 /\ c = 0) := by
 rcases h.2 with ⟨hv, h0⟩ | ⟨k, cap, cur, hv, _, _, h2, h3, _⟩
 ·exact ⟨none, 0, by rw [hv, h0], by omega, by omega, fun _ => ⟨h0, rfl⟩⟩
 ·exact ⟨_, _, hv, h2, by unfold maxLen at h3; omega, fun q => by cases q⟩
theorem own_block {W : World} {B n cap : Nat} {e : TypeId} {size : Nat} {a : Addr} {xs : List Value} (h : W.ownsRow B e size (.slice (some a) n cap) n xs) : ∃ g, a = ⟨g, 0, none⟩ /\ B <= g /\ g < W.heap.size := by
 rcases h.2 with ⟨hv, _⟩ | ⟨g, cap', cur, hv, hb, hh, _⟩
 ·cases hv
 ·cases hv
  exact ⟨g, rfl, hb, (Array.getElem?_eq_some_iff.1 hh).1⟩
theorem bel_grown {B B' n : Nat} {e : TypeId} {size : Nat} {w w' : World} {v : Value} {xs : List Value} (h : w.ownsRow B e size v n xs) (hg : w.grownBy w' v.ownBlock) (hB : B' <= w.heap.size) (hBB : B' <= B) : Below B' w w' :=
 ⟨hg.os, hg.tape, hg.output, hg.size, fun k hk => hg.block k (by omega) (fun e => by have := (h.lt k e.symm).1; omega)⟩
theorem only_grown {S : Nat -> Prop} {w w' : World} {row : Option Nat} (hg : w.grownBy w' row) (hs : ∀ k, row = some k -> S k) : Only S w w' :=
 ⟨hg.os, hg.tape, hg.output, hg.size, fun k hk h1 => hg.block k hk (fun e => h1 (hs k e.symm))⟩
end Go.Proofs.YthmbbpfgbpacnaaGreatDoor.Mem
namespace Go.Proofs.YthmbbpfgbpacnaaGreatDoor.Huf
open Go.RowKit Go.Shelf Go.Lib Mem
open Go.ChangeShapes Go.WideShapes Go.ChangeAt
open Go.Sort (putRow putCells mapBlock)
def iV (z : Int) : Value := .int .i64 z
def iVs (l : List Int) : List Value := l.map iV
theorem iVs_one (l : List Int) : ∀ v ∈ iVs l, v.oneCell' = true := by
 intro v hv
 obtain ⟨c, _, rfl⟩ := List.mem_map.1 hv
 rfl
theorem iVs_len (l : List Int) : (iVs l).length = l.length := List.length_map ..
theorem iVs_append (l m : List Int) : iVs (l ++ m) = iVs l ++ iVs m := List.map_append
theorem iVs_at (l : List Int) (j : Nat) (h : j < l.length) : (iVs l)[j]? = some (.int .i64 l[j]) := by rw [iVs, List.getElem?_map, List.getElem?_eq_getElem h]; rfl
theorem iVs_set (l : List Int) (j : Nat) (c : Int) : iVs (l.set j c) = (iVs l).set j (.int .i64 c) := by rw [iVs, List.map_set]; rfl
def SrcI (W : World) (x : Value) (l : List Int) : Prop :=
 (x = .slice none 0 0 /\ l = []) \/ ∃ a c, x = .slice (some a) l.length c /\ ∀ j v, (iVs l)[j]? = some v -> W.cell? (a.add j) = some v
theorem SrcI.below {W W' : World} {x : Value} {l : List Int} (h : SrcI W x l) (hb : Below W.heap.size W W') : SrcI W' x l :=
 h.imp id fun ⟨a, c, hx, hc⟩ => ⟨a, c, hx, fun j v hj => (hb.cell (block_lt_of_cell (hc j v hj))).trans (hc j v hj)⟩
theorem SrcI.only {S : Nat -> Prop} {W W' : World} {x : Value} {l : List Int} (h : SrcI W x l) (ho : Only S W W') (hx : ∀ a n c, x = .slice (some a) n c -> ¬ S a.block) : SrcI W' x l :=
 h.imp id fun ⟨a, c, hv, hc⟩ => ⟨a, c, hv, fun j v hj => ho.cell (hc j v hj) (by rw [Lib.block_add]; exact hx a _ c hv)⟩
theorem SrcI.drew {W W' : World} {x : Value} {l : List Int} (h : SrcI W x l) (d : Drew W W') : SrcI W' x l := h.below (d.below _)
theorem SrcI.lt {W : World} {a : Addr} {n c : Nat} {l : List Int} (h : SrcI W (.slice (some a) n c) l) (hl : 0 < l.length) : a.block < W.heap.size := by
 rcases h with ⟨hv, _⟩ | ⟨a', c', hv, hc⟩
 ·cases hv
 ·cases hv
  have := block_lt_of_cell (hc 0 _ (iVs_at l 0 hl))
  rwa [Lib.block_add] at this
theorem SrcI.shape {W : World} {x : Value} {l : List Int} (h : SrcI W x l) : ∃ ao c, x = .slice ao l.length c /\ (0 < l.length -> ∃ a, ao = some a) := by
 rcases h with ⟨rfl, rfl⟩ | ⟨a, c, rfl, _⟩
 ·exact ⟨none, 0, rfl, fun h => by cases h⟩
 ·exact ⟨some a, c, rfl, fun _ => ⟨a, rfl⟩⟩
theorem SrcI.of_own {W : World} {base : Nat} {v : Value} {l : List Int} (h : W.ownsRow base 3 1 v l.length (iVs l)) : SrcI W v l := by
 rcases h.2 with ⟨hv, h0⟩ | ⟨g, cap, cur, hv, hr⟩
 ·exact .inl ⟨hv, List.eq_nil_of_length_eq_zero h0⟩
 ·exact .inr ⟨⟨g, 0, none⟩, cap, hv, h.cells (by rw [hv]; rfl)⟩
theorem srci_cell {W : World} {n cap : Nat} {a : Addr} {l : List Int} (h : SrcI W (.slice (some a) n cap) l) (j : Nat) (hj : j < l.length) : W.cell? (a.add j) = some (.int .i64 l[j]) := by
 rcases h with ⟨hv, _⟩ | ⟨a', c', hv, hcell⟩
 ·cases hv
 ·cases hv
  exact hcell j _ (iVs_at l j hj)
theorem own_setI {W : World} {B n cap g : Nat} {l : List Int} (h : W.ownsRow B 3 1 (.slice (some ⟨g, 0, none⟩) n cap) n (iVs l)) (j : Nat) (c : Int) :
  (W.setCell ⟨g, j, none⟩ (.int .i64 c)).ownsRow B 3 1 (.slice (some ⟨g, 0, none⟩) n cap) n (iVs (l.set j c)) := by
 rw [iVs_set]
 exact (h.stored j _).1
theorem own_cellI {W : World} {B n cap g : Nat} {l : List Int} (h : W.ownsRow B 3 1 (.slice (some ⟨g, 0, none⟩) n cap) n (iVs l)) (j : Nat) (hj : j < l.length) :
  W.cell? ⟨g, j, none⟩ = some (.int .i64 l[j]) /\ W.frozen? ⟨g, j, none⟩ = false := by
 refine ⟨by rw [h.cellAt j (by rw [<- h.1, iVs_len]; exact hj), iVs_at l j hj], ?_⟩
 rcases h.2 with ⟨hv, _⟩ | ⟨g', cap', cur, hv, _, hh, _⟩
 ·cases hv
 ·cases hv
  simp [World.frozen?, hh]
theorem info3 : (Tryz.prog.info? 3).map (fun i => (i.zero, i.size, i.bytes)) = some (some (.int .i64 0), 1, 8) := by kernel_rfl
theorem appI_any (W : World) (base : Nat) (v x : Value) (ty : TypeId) (xs l : List Int) (hown : W.ownsRow base 3 1 v xs.length (iVs xs)) (hbase : base <= W.heap.size) (hsrc : SrcI W x l) (hlim : (xs.length + l.length) * 8 <= 140737488355328) :
  ∃ v' W', (Builtin.append_ #[111, 111] ty #[v, x]).run Tryz.prog W = .ok v' W' /\ W'.ownsRow base 3 1 v' (xs ++ l).length (iVs (xs ++ l)) /\ W.grownBy W' v.ownBlock /\ (v'.ownBlock = v.ownBlock \/ ∀ k, v'.ownBlock = some k -> W.heap.size <= k) := by
 obtain ⟨i0, hi, hz0, hz1, hz2⟩ := info_parts info3
 rcases hsrc with ⟨rfl, rfl⟩ | ⟨a, c, rfl, hc⟩
 ·rw [List.append_nil]
  exact ⟨v, W, run_append_owned_none (P := Tryz.prog) (w := W) base 111 ty 3 i0 1 Tryz.underlying111 hi v _ _ hown, hown, ⟨rfl, rfl, rfl, Nat.le_refl _, fun _ _ _ => rfl⟩, .inl rfl⟩
 ·have hl1 : (iVs l).length = l.length * 1 := by rw [iVs_len, Nat.mul_one]
  have h63 : xs.length + l.length <= maxLen := by unfold maxLen; omega
  have run : ∀ b, b <= W.heap.size -> W.ownsRow b 3 1 v xs.length (iVs xs) -> ∃ v' W', (Builtin.append_ #[111, 111] ty #[v, .slice (some a) l.length c]).run Tryz.prog W = .ok v' W' /\ W'.ownsRow b 3 1 v' (xs.length + l.length) (iVs xs ++ iVs l) /\ W.grownBy W' v.ownBlock := fun b hb ho => by
   obtain ⟨v', W', q1, q2, q3, _⟩ := run_append_own (P := Tryz.prog) W b 111 ty 3 i0 (.int .i64 0) 1 8 Tryz.underlying111 hi hz0 hz1 hz2 rfl (by decide) v _ _ ho a l.length c (iVs l) hl1 hc (iVs_one l) h63 (by omega) hb
   exact ⟨v', W', q1, q2, q3⟩
  obtain ⟨v', W', hr, ho, hg⟩ := run base hbase hown
  refine ⟨v', W', hr, by rw [List.length_append, iVs_append]; exact ho, hg, ?_⟩
  rcases hown.2 with ⟨rfl, h0⟩ | ⟨g, cap, cur, rfl, hbg, hgg, hnc, hcm, hcs, htk⟩
  ·obtain ⟨v2, W2, hr2, ho2, _⟩ := run W.heap.size (Nat.le_refl _) ⟨hown.1, .inl ⟨rfl, h0⟩⟩
   rw [hr] at hr2
   injection hr2 with e1 e2
   subst e1
   exact .inr fun k hk => (ho2.lt k hk).1
  ·by_cases hroom : xs.length + l.length <= cap
   ·have hr2 := run_append_room (P := Tryz.prog) W 111 ty 3 i0 Tryz.underlying111 hi g xs.length cap cur hgg a l.length c (iVs l) (by rw [hz1]; exact hl1) hc (iVs_one l) hroom (by rw [hz1, iVs_len]; omega)
    rw [hr] at hr2
    injection hr2 with e1 e2
    subst e1
    exact .inl rfl
   ·have hr2 := run_append_grow (P := Tryz.prog) W 111 ty 3 i0 (.int .i64 0) Tryz.underlying111 hi hz0 ⟨g, 0, none⟩ xs.length cap (iVs xs) (by rw [hz1, iVs_len, Nat.mul_one]) (hown.cells (g := g) rfl) a l.length c (iVs l) (by rw [hz1]; exact hl1) hc (by omega) (by omega) (by rw [hz2]; exact growslice_fits (by omega) (by omega))
    rw [hr] at hr2
    injection hr2 with e1 e2
    subst e1
    exact .inr fun k hk => by simp [Value.ownBlock] at hk; omega
theorem appI_one (W : World) (base : Nat) (v : Value) (xs : List Int) (z : Int) (hown : W.ownsRow base 3 1 v xs.length (iVs xs)) (hbase : base <= W.heap.size) (hlim : (xs.length + 1) * 8 <= 140737488355328) :
  ∃ v' W', (Builtin.append_ #[111, 111] 111 #[v, .slice (some ⟨W.heap.size, 0, none⟩) 1 1]).run Tryz.prog (W.alloc (.cells #[.int .i64 z] 3)) = .ok v' W' /\ W'.ownsRow base 3 1 v' (xs ++ [z]).length (iVs (xs ++ [z])) /\ Below base W W' /\ base <= W'.heap.size /\ Only (fun k => v.ownBlock = some k) W W' /\ (v'.ownBlock = v.ownBlock \/ ∀ k, v'.ownBlock = some k -> W.heap.size <= k) := by
 have hA := (Below.refl W.heap.size W).alloc (Nat.le_refl _) (.cells #[.int .i64 z] 3)
 have hs : SrcI (W.alloc (.cells #[.int .i64 z] 3)) (.slice (some ⟨W.heap.size, 0, none⟩) 1 1) [z] := .inr ⟨_, 1, rfl, fun j v hj => by
  rw [Lib.addr_add, cell_of_row _ _ _ _ _ (0, 0) (heap_alloc_new _ _), Nat.zero_add]
  cases j with
  | zero => simpa [iVs, iV] using hj
  | succ j => simp [iVs] at hj⟩
 obtain ⟨v', W', h1, h2, h3, h4⟩ := appI_any _ base v _ 111 xs [z] (own_below hown hA) (Nat.le_trans hbase hA.size) hs (by simpa using hlim)
 refine ⟨v', W', h1, h2, (hA.mono hbase).trans (bel_grown (own_below hown hA) h3 (Nat.le_trans hbase hA.size) (Nat.le_refl _)), Nat.le_trans hbase (Nat.le_trans hA.size h3.size), ?_, h4.imp id fun q k hk => Nat.le_trans hA.size (q k hk)⟩
 exact (Only.of_below hA).trans (only_grown h3 (fun k hk => hk)) (fun i hi => .inl hi)
theorem own_nilI (W : World) (base : Nat) : W.ownsRow base 3 1 (.slice none 0 0) 0 (iVs []) := ⟨rfl, .inl ⟨rfl, rfl⟩⟩
theorem makeI_any (W : World) (n : Nat) (hn : n * 8 <= 140737488355328) :
  ∃ v W', (Instr.makeSlice 111 (.int .i64 (n : Int)) (.int .i64 (n : Int))).run Tryz.prog W = .ok v W' /\ W'.ownsRow W.heap.size 3 1 v n (iVs (List.replicate n 0)) /\ Below W.heap.size W W' /\ ∃ g, v = .slice (some ⟨g, 0, none⟩) n n := by
 obtain ⟨i0, hi, hz0, hz1, hz2⟩ := info_parts info3
 obtain ⟨W1, hr1, ho1, hg1⟩ := run_make_full (P := Tryz.prog) W W.heap.size 111 3 i0 (.int .i64 0) 1 Tryz.underlying111 hi hz0 hz1 .i64 .i64 n (by rw [hz2]; omega) (by unfold maxLen; omega) (Nat.le_refl _)
 have hb1 : Below W.heap.size W W1 := ⟨hg1.os, hg1.tape, hg1.output, hg1.size, fun k hk => hg1.block k hk (fun e => by cases e)⟩
 rw [show (Value.int .i64 0).cells = #[.int .i64 0] from rfl, toList_madeCells_one, show List.replicate (n * 1) (Value.int .i64 0) = iVs (List.replicate n 0) by
  unfold iVs; rw [List.map_replicate, Nat.mul_one]; rfl] at ho1
 exact ⟨_, W1, hr1, ho1, hb1, _, rfl⟩
theorem own_sorted {α : Type} [Inhabited α] {enc : α -> Value} {w0 W' : World} {B g n cap : Nat} {l : List Value} {d' : Array α} (h : w0.ownsRow B 3 1 (.slice (some ⟨g, 0, none⟩) n cap) n l) (hd : d'.size = n) (S : SW enc w0 g 0 d' W') :
  W'.ownsRow B 3 1 (.slice (some ⟨g, 0, none⟩) n cap) n (d'.toList.map enc) := by
 obtain ⟨m, os, rfl⟩ := S
 rcases h.2 with ⟨hv, _⟩ | ⟨g', cap', cur, hv, hb, hh, hnc, hcm, hcs, htk⟩
 ·cases hv
 ·cases hv
  have hlt : g < w0.heap.size := (Array.getElem?_eq_some_iff.1 hh).1
  refine ⟨by simp [hd], .inr ⟨g, cap, putCells enc 0 d' cur, rfl, hb, ?_, hnc, hcm, by simp [putCells, hcs], ?_⟩⟩
  ·unfold sortWorld
   rw [Sort.heap_grow_old _ _ (by simpa using hlt)]
   simp [putRow, mapBlock, Sort.ahead, Array.getElem?_modify, hh, Sort.onCells]
  ·rw [Nat.mul_one]
   apply List.ext_getElem?
   intro j
   by_cases hj : j < n
   ·rw [List.getElem?_take_of_lt hj, Array.getElem?_toList]
    simp [putCells, hd, hj, show j < cur.size by omega]
   ·rw [List.getElem?_take_eq_none (by omega), List.getElem?_eq_none (by simp; omega)]
theorem only_sorted {α : Type} [Inhabited α] {enc : α -> Value} {w0 W' : World} {g : Nat} {d' : Array α} (S : SW enc w0 g 0 d' W') : Only (fun k => k = g) w0 W' := by
 obtain ⟨m, os, rfl⟩ := S
 refine ⟨rfl, rfl, rfl, by unfold sortWorld; rw [Sort.size_grow, Sort.size_putRow]; show w0.heap.size <= w0.heap.size + _; omega, fun k hk h1 => ?_⟩
 unfold sortWorld
 rw [Sort.heap_grow_old _ _ (by simpa using hk)]
 simp [putRow, mapBlock, Sort.ahead, Array.getElem?_modify, Ne.symm h1]
theorem holds_own {α : Type} [Inhabited α] {enc : α -> Value} {w0 : World} {B g n cap : Nat} {d : Array α} (h : w0.ownsRow B 3 1 (.slice (some ⟨g, 0, none⟩) n cap) n (d.toList.map enc)) (hd : d.size = n) : Sort.Holds enc w0 g 0 d := by
 intro j hj
 rw [Nat.zero_add]
 refine ⟨?_, ?_⟩
 ·rw [h.cellAt j (by omega)]
  simp [hj]
 ·rcases h.2 with ⟨hv, _⟩ | ⟨g', cap', cur, hv, hb, hh, _⟩
  ·cases hv
  ·cases hv
   simp [World.frozen?, hh]
end Go.Proofs.YthmbbpfgbpacnaaGreatDoor.Huf
namespace Go.Proofs.YthmbbpfgbpacnaaGreatDoor.Huf
def Lt2 (K : Nat -> Int) (s t : Nat) : Prop := K s < K t \/ K s = K t /\ s < t
theorem Lt2.trans {K : Nat -> Int} {a b c : Nat} (h : Lt2 K a b) (k : Lt2 K b c) : Lt2 K a c := by unfold Lt2 at *; omega
theorem Lt2.irrefl {K : Nat -> Int} (a : Nat) : ¬ Lt2 K a a := by unfold Lt2; omega
theorem Lt2.total {K : Nat -> Int} {a b : Nat} (h : a ≠ b) : Lt2 K a b \/ Lt2 K b a := by unfold Lt2; omega
theorem lt2_unique {K : Nat -> Int} : ∀ {r q : List Nat}, r.Pairwise (Lt2 K) -> q.Pairwise (Lt2 K) -> (∀ s, s ∈ r ↔ s ∈ q) -> r = q
 | [], [], _, _, _ => rfl
 | [], y :: q, _, _, h => by have := (h y).2 (List.mem_cons_self ..); cases this
 | x :: r, [], _, _, h => by have := (h x).1 (List.mem_cons_self ..); cases this
 | x :: r, y :: q, hr, hq, h => by
  rw [List.pairwise_cons] at hr hq
  have e : x = y := by
   rcases Classical.em (x = y) with e | e
   ·exact e
   ·have hx : x ∈ q := by
     rcases List.mem_cons.1 ((h x).1 (List.mem_cons_self ..)) with g | g
     ·exact absurd g e
     ·exact g
    have hy : y ∈ r := by
     rcases List.mem_cons.1 ((h y).2 (List.mem_cons_self ..)) with g | g
     ·exact absurd g.symm e
     ·exact g
    exact absurd ((hr.1 y hy).trans (hq.1 x hx)) (Lt2.irrefl x)
  subst e
  have : r = q := lt2_unique hr.2 hq.2 (fun s => by
   have hs := h s
   simp only [List.mem_cons] at hs
   constructor
   ·intro g
    rcases hs.1 (.inr g) with e | g2
    ·subst e; exact absurd (hr.1 s g) (Lt2.irrefl s)
    ·exact g2
   ·intro g
    rcases hs.2 (.inr g) with e | g2
    ·subst e; exact absurd (hq.1 s g) (Lt2.irrefl s)
    ·exact g2)
  rw [this]
def insR (K : Nat -> Int) (s : Nat) : List Nat -> List Nat
 | [] => [s]
 | t :: r => if K s <= K t then s :: t :: r else t :: insR K s r
theorem insR_mem (K : Nat -> Int) (s : Nat) : ∀ (r : List Nat) (t : Nat), t ∈ insR K s r ↔ t = s \/ t ∈ r
 | [], t => by simp [insR]
 | x :: r, t => by
  unfold insR
  split
  ·simp
  ·rw [List.mem_cons, insR_mem K s r t, List.mem_cons]
   constructor
   ·rintro (h | h | h)
    ·exact .inr (.inl h)
    ·exact .inl h
    ·exact .inr (.inr h)
   ·rintro (h | h | h)
    ·exact .inr (.inl h)
    ·exact .inl h
    ·exact .inr (.inr h)
theorem insR_pair (K : Nat -> Int) (s : Nat) : ∀ r : List Nat, r.Pairwise (Lt2 K) -> (∀ t ∈ r, s < t) -> (insR K s r).Pairwise (Lt2 K)
 | [], _, _ => by simp [insR]
 | x :: r, h, hs => by
  unfold insR
  rw [List.pairwise_cons] at h
  split
  ·rename_i hle
   have hx := hs x (List.mem_cons_self ..)
   have h1 : Lt2 K s x := by unfold Lt2; omega
   rw [List.pairwise_cons, List.pairwise_cons]
   exact ⟨fun t ht => (List.mem_cons.1 ht).elim (fun e => e ▸ h1) (fun g => h1.trans (h.1 t g)), h⟩
  ·rename_i hle
   rw [List.pairwise_cons]
   refine ⟨fun t ht => ?_, insR_pair K s r h.2 (fun t ht => hs t (List.mem_cons_of_mem _ ht))⟩
   rcases (insR_mem K s r t).1 ht with rfl | g
   ·unfold Lt2; omega
   ·exact h.1 t g
def rankX (K : Nat -> Int) : List Nat -> List Nat
 | [] => []
 | s :: xs => if K s = 0 then rankX K xs else insR K s (rankX K xs)
theorem rankX_spec (K : Nat -> Int) : ∀ xs : List Nat, xs.Pairwise (· < ·) -> (rankX K xs).Pairwise (Lt2 K) /\ ∀ t, t ∈ rankX K xs ↔ t ∈ xs /\ K t ≠ 0
 | [], _ => by simp [rankX]
 | s :: xs, h => by
  rw [List.pairwise_cons] at h
  obtain ⟨h1, h2⟩ := rankX_spec K xs h.2
  unfold rankX
  split
  ·rename_i h0
   refine ⟨h1, fun t => ?_⟩
   rw [h2, List.mem_cons]
   constructor
   ·rintro ⟨q1, q2⟩; exact ⟨.inr q1, q2⟩
   ·rintro ⟨rfl | q1, q2⟩
    ·exact absurd h0 q2
    ·exact ⟨q1, q2⟩
  ·rename_i h0
   refine ⟨insR_pair K s _ h1 (fun t ht => h.1 t ((h2 t).1 ht).1), fun t => ?_⟩
   rw [insR_mem, h2, List.mem_cons]
   constructor
   ·rintro (rfl | ⟨q1, q2⟩)
    ·exact ⟨.inl rfl, h0⟩
    ·exact ⟨.inr q1, q2⟩
   ·rintro ⟨rfl | q1, q2⟩
    ·exact .inl rfl
    ·exact .inr ⟨q1, q2⟩
def numAt (l : List Int) (s : Nat) : Int := l.getD s 0
def rankL (l : List Int) : List Nat := rankX (numAt l) (List.range l.length)
theorem numAt_eq (l : List Int) (s : Nat) (h : s < l.length) : numAt l s = l[s] := by unfold numAt; rw [List.getD_eq_getElem?_getD, List.getElem?_eq_getElem h]; rfl
theorem rankL_pair (l : List Int) : (rankL l).Pairwise (Lt2 (numAt l)) := (rankX_spec _ _ List.pairwise_lt_range).1
theorem rankL_mem (l : List Int) (s : Nat) : s ∈ rankL l ↔ s < l.length /\ numAt l s ≠ 0 := by
 have := (rankX_spec (numAt l) (List.range l.length) List.pairwise_lt_range).2 s
 rw [List.mem_range] at this
 exact this
theorem rankL_eq {l : List Int} {r : List Nat} (h : r.Pairwise (Lt2 (numAt l))) (hm : ∀ s, s ∈ r ↔ s < l.length /\ numAt l s ≠ 0) : r = rankL l :=
 lt2_unique h (rankL_pair l) (fun s => by rw [hm, rankL_mem])
theorem rankL_nodup (l : List Int) : (rankL l).Nodup := (rankL_pair l).imp (fun h e => by subst e; exact Lt2.irrefl _ h)
theorem insR_len (K : Nat -> Int) (s : Nat) : ∀ r : List Nat, (insR K s r).length = r.length + 1
 | [] => rfl
 | t :: r => by
  unfold insR
  split
  ·rfl
  ·rw [List.length_cons, insR_len K s r, List.length_cons]
theorem rankX_len (K : Nat -> Int) : ∀ xs : List Nat, (rankX K xs).length <= xs.length
 | [] => Nat.le_refl _
 | s :: xs => by
  have := rankX_len K xs
  unfold rankX
  split
  ·rw [List.length_cons]; omega
  ·rw [insR_len, List.length_cons]; omega
theorem rankL_len (l : List Int) : (rankL l).length <= l.length := by
 have := rankX_len (numAt l) (List.range l.length)
 rwa [List.length_range] at this
end Go.Proofs.YthmbbpfgbpacnaaGreatDoor.Huf
