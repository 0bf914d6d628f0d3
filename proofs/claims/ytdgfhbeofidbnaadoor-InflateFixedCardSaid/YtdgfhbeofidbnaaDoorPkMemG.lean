/- What a call leaves as it was, and rows of its own: of no package. -/
import Derived.Test.YtdgfhbeofidbnaaDoorProg
import Derived.WalkKit
import Derived.WalkLawsBesides
import Derived.WalkSpells
import Derived.Lib.Hide
import Derived.Lib.BufferAt
import Derived.Lib.BufferSrc
import Derived.Lib.AppendZeros
import Derived.Laws.OwnMore
import Derived.Shelf.RegionOpenPlain
import Derived.RegionTactic
import Derived.Deep.Draws
import Derived.BigQuiet
import Derived.LaidEqlPtr
namespace Go.Proofs.YtdgfhbeofidbnaaDoor.Mem
open Go.RowKit Go.Shelf

/-! The world is as it was, but for draws; but for some blocks. -/
structure Drew (w w' : World) : Prop where
  os : w'.os = w.os
  tape : w'.tape = w.tape
  output : w'.output = w.output
  heap : w'.heap = w.heap
theorem Drew.refl (w : World) : Drew w w := ⟨rfl, rfl, rfl, rfl⟩
theorem Drew.trans {u v w : World} (h : Drew u v) (k : Drew v w) : Drew u w := ⟨k.os.trans h.os, k.tape.trans h.tape, k.output.trans h.output, k.heap.trans h.heap⟩
theorem Drew.below {w w' : World} (h : Drew w w') (B : Nat) : Below B w w' := ⟨h.os, h.tape, h.output, by rw [h.heap]; exact Nat.le_refl _, fun k _ => by rw [h.heap]⟩

structure Only (S : Nat → Prop) (w w' : World) : Prop where
  os : w'.os = w.os
  tape : w'.tape = w.tape
  output : w'.output = w.output
  size : w.heap.size ≤ w'.heap.size
  block : ∀ k, k < w.heap.size → ¬ S k → w'.heap[k]? = w.heap[k]?
theorem Only.refl (S : Nat → Prop) (w : World) : Only S w w := ⟨rfl, rfl, rfl, Nat.le_refl _, fun _ _ _ => rfl⟩
theorem Only.trans {S S' : Nat → Prop} {u v w : World} (h : Only S u v) (k : Only S' v w) (hs : ∀ i, S' i → S i ∨ u.heap.size ≤ i) : Only S u w :=
  ⟨k.os.trans h.os, k.tape.trans h.tape, k.output.trans h.output, Nat.le_trans h.size k.size, fun i hi h1 => (k.block i (Nat.lt_of_lt_of_le hi h.size) (fun q => (hs i q).elim h1 (fun z => by omega))).trans (h.block i hi h1)⟩
theorem Only.mono {S S' : Nat → Prop} {u v : World} (h : Only S u v) (hs : ∀ i, S i → S' i ∨ u.heap.size ≤ i) : Only S' u v :=
  ⟨h.os, h.tape, h.output, h.size, fun i hi h1 => h.block i hi (fun q => (hs i q).elim h1 (fun z => by omega))⟩
theorem Only.of_below {S : Nat → Prop} {w w' : World} (h : Below w.heap.size w w') : Only S w w' := ⟨h.os, h.tape, h.output, h.size, fun k hk _ => h.block k hk⟩
theorem Only.setCell {S : Nat → Prop} {b i : Nat} (h : S b) (v : Value) (w : World) : Only S w (w.setCell ⟨b, i, none⟩ v) :=
  ⟨rfl, rfl, rfl, by simp [World.setCell], fun k _ h1 => Below.heap_setCell _ _ _ _ (fun e => h1 (by rw [e]; exact h))⟩
theorem Only.below {S : Nat → Prop} {B : Nat} {w w' : World} (h : Only S w w') (hB : B ≤ w.heap.size) (h1 : ∀ k, S k → B ≤ k) : Below B w w' :=
  ⟨h.os, h.tape, h.output, h.size, fun k hk => h.block k (by omega) (fun q => by have := h1 k q; omega)⟩
theorem Drew.only {S : Nat → Prop} {w w' : World} (h : Drew w w') : Only S w w' := Only.of_below (h.below _)
theorem Drew.drewN (w : World) (n : Nat) : Drew w (w.drewN n) := ⟨rfl, rfl, rfl, rfl⟩

theorem cell_same {w w' : World} {p : Addr} (h : w'.heap[p.block]? = w.heap[p.block]?) : w'.cell? p = w.cell? p := by
  simp only [World.cell?, h]
theorem Only.cell {S : Nat → Prop} {w w' : World} {p : Addr} {v : Value} (h : Only S w w') (hc : w.cell? p = some v) (h1 : ¬ S p.block) : w'.cell? p = some v :=
  (cell_same (h.block _ (block_lt_of_cell hc) h1)).trans hc
theorem Drew.cell {w w' : World} {p : Addr} (h : Drew w w') : w'.cell? p = w.cell? p := cell_same (by rw [h.heap])

/-- An append whose run is known, guarded or not. -/
theorem wpList_append_at {P : Program} (w : World) {ops : Array Oper} {rest : List Oper} {o : Oper} {a : Act} {Q : Exit → Act → World → Prop} (hw : Region.wanted o (yielded ops a.tmps) = true) (s x : Operand) (t tn : TypeId)
    (ho : o.op = .call { callee := .builtin .append, args := #[s, x], argTypes := #[t, tn] }) (vs vx : Value) (hs : a.eval s = vs) (hx : a.eval x = vx)
    (v' : Value) (w' : World) (hr : (Builtin.append_ #[t, tn] o.type #[vs, vx]).run P w = .ok v' w') (h : wpList P ops Q rest (a.put o.dst v') w') : wpList P ops Q (o :: rest) a w :=
  wpList_step fun K hK => by rw [if_pos hw]; exact Lib.wp_append_run w s x t tn ho vs vx hs hx v' w' hr (hK _ _ h)

theorem ownsRow_mono {W : World} {base base' : Nat} {e : TypeId} {size : Nat} {v : Value} {n : Nat} {xs : List Value} (h : W.ownsRow base e size v n xs) (hb : base' ≤ base) : W.ownsRow base' e size v n xs :=
  ⟨h.1, h.2.imp id fun ⟨g, cap, cur, hv, hg, r⟩ => ⟨g, cap, cur, hv, Nat.le_trans hb hg, r⟩⟩
theorem own_zero {W : World} {B n : Nat} {e : TypeId} {size : Nat} {v : Value} {xs : List Value} (h : W.ownsRow B e size v n xs) : W.ownsRow 0 e size v n xs := ownsRow_mono h (Nat.zero_le _)
/-- An own row, told of its block alone. -/
theorem own_same {W W1 : World} {base : Nat} {e : TypeId} {size : Nat} {v : Value} {n : Nat} {xs : List Value} (h : W.ownsRow base e size v n xs) (hs : ∀ g, v.ownBlock = some g → W1.heap[g]? = W.heap[g]?) : W1.ownsRow base e size v n xs :=
  ⟨h.1, h.2.imp id fun ⟨g, cap, cur, hv, hg, hh, r⟩ => ⟨g, cap, cur, hv, hg, (hs g (by rw [hv]; rfl)).trans hh, r⟩⟩
theorem own_below {W W1 : World} {base : Nat} {e : TypeId} {size : Nat} {v : Value} {n : Nat} {xs : List Value} (h : W.ownsRow base e size v n xs) (hb : Below W.heap.size W W1) : W1.ownsRow base e size v n xs :=
  own_same h fun g hg => hb.block g (h.lt g hg).2
theorem own_only {S : Nat → Prop} {W W1 : World} {base : Nat} {e : TypeId} {size : Nat} {v : Value} {n : Nat} {xs : List Value} (h : W.ownsRow base e size v n xs) (hb : Only S W W1) (hs : ∀ g, v.ownBlock = some g → ¬ S g) : W1.ownsRow base e size v n xs :=
  own_same h fun g hg => hb.block g (h.lt g hg).2 (hs g hg)
theorem own_drew {W W1 : World} {base : Nat} {e : TypeId} {size : Nat} {v : Value} {n : Nat} {xs : List Value} (h : W.ownsRow base e size v n xs) (d : Drew W W1) : W1.ownsRow base e size v n xs := own_below h (d.below _)
theorem own_shape {W : World} {B n : Nat} {e : TypeId} {size : Nat} {v : Value} {xs : List Value} (h : W.ownsRow B e size v n xs) : ∃ ao c, v = .slice ao n c ∧ n ≤ c ∧ c ≤ 9223372036854775807 ∧ (ao = none → n = 0 ∧ c = 0) := by
  rcases h.2 with ⟨hv, h0⟩ | ⟨k, cap, cur, hv, _, _, h2, h3, _⟩
  · exact ⟨none, 0, by rw [hv, h0], by omega, by omega, fun _ => ⟨h0, rfl⟩⟩
  · exact ⟨_, _, hv, h2, by unfold maxLen at h3; omega, fun q => by cases q⟩
theorem own_block {W : World} {B n cap : Nat} {e : TypeId} {size : Nat} {a : Addr} {xs : List Value} (h : W.ownsRow B e size (.slice (some a) n cap) n xs) : ∃ g, a = ⟨g, 0, none⟩ ∧ B ≤ g ∧ g < W.heap.size := by
  rcases h.2 with ⟨hv, _⟩ | ⟨g, cap', cur, hv, hb, hh, _⟩
  · cases hv
  · cases hv
    exact ⟨g, rfl, hb, (Array.getElem?_eq_some_iff.1 hh).1⟩
theorem bel_grown {B B' n : Nat} {e : TypeId} {size : Nat} {w w' : World} {v : Value} {xs : List Value} (h : w.ownsRow B e size v n xs) (hg : w.grownBy w' v.ownBlock) (hB : B' ≤ w.heap.size) (hBB : B' ≤ B) : Below B' w w' :=
  ⟨hg.os, hg.tape, hg.output, hg.size, fun k hk => hg.block k (by omega) (fun e => by have := (h.lt k e.symm).1; omega)⟩
theorem only_grown {S : Nat → Prop} {w w' : World} {row : Option Nat} (hg : w.grownBy w' row) (hs : ∀ k, row = some k → S k) : Only S w w' :=
  ⟨hg.os, hg.tape, hg.output, hg.size, fun k hk h1 => hg.block k hk (fun e => h1 (hs k e.symm))⟩

end Go.Proofs.YtdgfhbeofidbnaaDoor.Mem
