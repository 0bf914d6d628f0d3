/- A bytes.Buffer inside of a queue, read from or not: its length, its bytes, room, nothing in it. -/
import Derived.Test.YtaibehfpbcgijaaDoorAscA
import Derived.Lib.BufferAt
import Derived.RegionTactic
import Derived.Deep.Draws
import Derived.BigQuiet
namespace Go.Proofs.YtaibehfpbcgijaaDoor.Asc
open Go.RowKit

/-- Block b is a queue that NewQueue made: its limit, and its buffer's row, begin and last read; how many were searched. -/
def Qc (W : World) (b : Nat) (lim : Int) (v : Value) (off : Nat) (lr se : Int) : Prop :=
  W.heap[b]? = some (.cells #[.pointer (some ⟨b, 0, none⟩), .int .i64 lim, v, .int .i64 off, .int .i8 lr, .int .i64 se] 61 (0, 0))
section
variable {W W' : World} {b off : Nat} {lim lr se : Int} {v : Value}
theorem Qc.lt (h : Qc W b lim v off lr se) : b < W.heap.size := (Array.getElem?_eq_some_iff.1 h).1
theorem Qc.c0 (h : Qc W b lim v off lr se) : W.cell? ⟨b, 0, none⟩ = some (.pointer (some ⟨b, 0, none⟩)) := by rw [Lib.cell_of_heap h]; rfl
theorem Qc.c1 (h : Qc W b lim v off lr se) : W.cell? ⟨b, 1, none⟩ = some (.int .i64 lim) := by rw [Lib.cell_of_heap h]; rfl
theorem Qc.c2 (h : Qc W b lim v off lr se) : W.cell? ⟨b, 2, none⟩ = some v := by rw [Lib.cell_of_heap h]; rfl
theorem Qc.c3 (h : Qc W b lim v off lr se) : W.cell? ⟨b, 3, none⟩ = some (.int .i64 off) := by rw [Lib.cell_of_heap h]; rfl
theorem Qc.c4 (h : Qc W b lim v off lr se) : W.cell? ⟨b, 4, none⟩ = some (.int .i8 lr) := by rw [Lib.cell_of_heap h]; rfl
theorem Qc.c5 (h : Qc W b lim v off lr se) : W.cell? ⟨b, 5, none⟩ = some (.int .i64 se) := by rw [Lib.cell_of_heap h]; rfl
theorem Qc.f (h : Qc W b lim v off lr se) (i : Nat) : W.frozen? ⟨b, i, none⟩ = false := Lib.frozen_of_heap h i
theorem Qc.same (h : Qc W b lim v off lr se) (e : W'.heap[b]? = W.heap[b]?) : Qc W' b lim v off lr se := e.trans h
theorem Qc.set2 (h : Qc W b lim v off lr se) (x : Value) : Qc (W.setCell ⟨b, 2, none⟩ x) b lim x off lr se := (Lib.heap_setCell_same (i := 2) h x).trans rfl
theorem Qc.set3 (h : Qc W b lim v off lr se) (x : Nat) : Qc (W.setCell ⟨b, 3, none⟩ (.int .i64 x)) b lim v x lr se := (Lib.heap_setCell_same (i := 3) h _).trans rfl
theorem Qc.set4 (h : Qc W b lim v off lr se) (x : Int) : Qc (W.setCell ⟨b, 4, none⟩ (.int .i8 x)) b lim v off x se := (Lib.heap_setCell_same (i := 4) h _).trans rfl
theorem Qc.set5 (h : Qc W b lim v off lr se) (x : Int) : Qc (W.setCell ⟨b, 5, none⟩ (.int .i64 x)) b lim v off lr x := (Lib.heap_setCell_same (i := 5) h _).trans rfl
end

/-- Only blocks b and g have changed, and what came after. -/
structure Upd (b g : Nat) (w w' : World) : Prop where
  os : w'.os = w.os
  tape : w'.tape = w.tape
  output : w'.output = w.output
  size : w.heap.size ≤ w'.heap.size
  block : ∀ k, k < w.heap.size → k ≠ b → k ≠ g → w'.heap[k]? = w.heap[k]?
theorem Upd.refl (b g : Nat) (w : World) : Upd b g w w := ⟨rfl, rfl, rfl, Nat.le_refl _, fun _ _ _ _ => rfl⟩
theorem Upd.trans {b g g' : Nat} {u v w : World} (h : Upd b g u v) (k : Upd b g' v w) (hg : g' = g ∨ g' = b ∨ u.heap.size ≤ g') : Upd b g u w :=
  ⟨k.os.trans h.os, k.tape.trans h.tape, k.output.trans h.output, Nat.le_trans h.size k.size, fun i hi h1 h2 => (k.block i (Nat.lt_of_lt_of_le hi h.size) h1 (by rcases hg with hg | hg | hg <;> omega)).trans (h.block i hi h1 h2)⟩
theorem Upd.of_below {b g : Nat} {w w' : World} (h : Below w.heap.size w w') : Upd b g w w' := ⟨h.os, h.tape, h.output, h.size, fun k hk _ _ => h.block k hk⟩
theorem Upd.cellB (b g i : Nat) (v : Value) (w : World) : Upd b g w (w.setCell ⟨b, i, none⟩ v) :=
  ⟨rfl, rfl, rfl, by simp [World.setCell], fun k _ h1 _ => Below.heap_setCell _ _ _ _ h1⟩
theorem Upd.below {b g B : Nat} {w w' : World} (h : Upd b g w w') (hB : B ≤ w.heap.size) (h1 : B ≤ b) (h2 : B ≤ g) : Below B w w' :=
  ⟨h.os, h.tape, h.output, h.size, fun k hk => h.block k (by omega) (by omega) (by omega)⟩

/-- The world is as it was, but for draws. -/
structure Drew (w w' : World) : Prop where
  os : w'.os = w.os
  tape : w'.tape = w.tape
  output : w'.output = w.output
  heap : w'.heap = w.heap
theorem Drew.refl (w : World) : Drew w w := ⟨rfl, rfl, rfl, rfl⟩
theorem Drew.trans {u v w : World} (h : Drew u v) (k : Drew v w) : Drew u w := ⟨k.os.trans h.os, k.tape.trans h.tape, k.output.trans h.output, k.heap.trans h.heap⟩
theorem Drew.below {w w' : World} (h : Drew w w') (B : Nat) : Below B w w' := ⟨h.os, h.tape, h.output, by rw [h.heap]; exact Nat.le_refl _, fun k _ => by rw [h.heap]⟩
theorem Drew.upd {w w' : World} (h : Drew w w') (b g : Nat) : Upd b g w w' := Upd.of_below (h.below _)
theorem Qc.drew {w w' : World} {b off : Nat} {lim lr se : Int} {v : Value} (h : Qc w b lim v off lr se) (d : Drew w w') : Qc w' b lim v off lr se := h.same (by rw [d.heap])

set_option maxRecDepth 100000 in
set_option maxHeartbeats 1000000 in
theorem bufLen_any (W : World) (b off l cap : Nat) (ao : Option Addr) (lim lr se : Int) (h : Qc W b lim (.slice ao l cap) off lr se) (h1 : off ≤ l) (h2 : l ≤ 9223372036854775807) :
    Calls Tryd.prog 60 #[.pointer (some ⟨b, 2, none⟩)] W fun e w' => e = .returned (.int .i64 ((l - off : Nat) : Int)) ∧ Drew W w' := by
  have c2 := h.c2
  have c3 := h.c3
  clear h
  have hw : IntKind.i64.wrap ((l : Int) - (off : Int)) = ((l - off : Nat) : Int) := by rw [IntKind.wrap_i64]; omega
  go_enter Tryd.func60, Tryd.ntmps60
  go_wp2
  go_quiet (fail)
  go_wp2
  go_ret
  first
    | exact ⟨by first | rfl | (congr 2; omega), ⟨rfl, rfl, rfl, rfl⟩⟩

set_option maxRecDepth 100000 in
set_option maxHeartbeats 1000000 in
theorem bufBytes_any (W : World) (b g off l cap : Nat) (lim lr se : Int) (h : Qc W b lim (.slice (some ⟨g, 0, none⟩) l cap) off lr se) (h1 : off ≤ l) (h2 : l ≤ cap) :
    Calls Tryd.prog 61 #[.pointer (some ⟨b, 2, none⟩)] W fun e w' => (∃ o, e = .returned (.slice (some ⟨g, o, none⟩) (l - off) (cap - off)) ∧ (off < l → o = off)) ∧ Drew W w' := by
  have c2 := h.c2
  have c3 := h.c3
  clear h
  go_enter Tryd.func61, Tryd.ntmps61
  go_wp2
  go_quiet (fail)
  go_wp2
  all_goals go_ret
  all_goals skip
  all_goals exact ⟨⟨_, rfl, fun _ => by first | rfl | omega⟩, ⟨rfl, rfl, rfl, rfl⟩⟩

set_option maxRecDepth 100000 in
set_option maxHeartbeats 1000000 in
theorem tryGrow_room (W : World) (b off l cap n : Nat) (ao : Option Addr) (lim lr se : Int) (h : Qc W b lim (.slice ao l cap) off lr se) (h2 : l ≤ cap) (h3 : cap ≤ 9223372036854775807) (hn : n ≤ cap - l) :
    Calls Tryd.prog 85 #[.pointer (some ⟨b, 2, none⟩), .int .i64 n] W fun e w' => e = .returned (.tuple #[.int .i64 l, .bool true]) ∧ w' = W.setCell ⟨b, 2, none⟩ (.slice ao (l + n) cap) := by
  have c2 := h.c2
  have f2 := h.f 2
  clear h
  go_enter Tryd.func85, Tryd.ntmps85
  go_wp2
  go_ret2
  exact ⟨rfl, rfl⟩

set_option maxRecDepth 100000 in
set_option maxHeartbeats 1000000 in
theorem tryGrow_none (W : World) (b off l cap n : Nat) (ao : Option Addr) (lim lr se : Int) (h : Qc W b lim (.slice ao l cap) off lr se) (h2 : l ≤ cap) (h3 : cap ≤ 9223372036854775807) (hn : cap - l < n) :
    Calls Tryd.prog 85 #[.pointer (some ⟨b, 2, none⟩), .int .i64 n] W fun e w' => e = .returned (.tuple #[.int .i64 0, .bool false]) ∧ w' = W := by
  have c2 := h.c2
  clear h
  go_enter Tryd.func85, Tryd.ntmps85
  go_wp2
  go_ret2
  exact ⟨rfl, rfl⟩

set_option maxRecDepth 100000 in
set_option maxHeartbeats 1000000 in
theorem reset_any (W : World) (b off l cap : Nat) (ao : Option Addr) (lim lr se : Int) (h : Qc W b lim (.slice ao l cap) off lr se) :
    Calls Tryd.prog 100 #[.pointer (some ⟨b, 2, none⟩)] W fun e w' => e = .returned (.tuple #[]) ∧ ∃ lr', Qc w' b lim (.slice ao 0 cap) 0 lr' se ∧ Upd b b W w' := by
  have c2 := h.c2
  have f2 := h.f 2
  have f3 := h.f 3
  have f4 := h.f 4
  have c3 := h.c3
  have c4 := h.c4
  have H := Lib.hid h
  clear h
  go_enter Tryd.func100, Tryd.ntmps100
  go_wp2
  go_end0
  refine ⟨rfl, _, ((H.out.set2 _).set3 0).set4 _, ?_⟩
  exact ((Upd.cellB b b 2 _ _).trans (Upd.cellB b b 3 _ _) (.inl rfl)).trans (Upd.cellB b b 4 _ _) (.inl rfl)

end Go.Proofs.YtaibehfpbcgijaaDoor.Asc
