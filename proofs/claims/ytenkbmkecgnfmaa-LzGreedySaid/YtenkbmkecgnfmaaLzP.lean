/- Rows of pieces in memory, of the program's and of the document's. -/
import Derived.Test.YtenkbmkecgnfmaaLzB
import Derived.Test.YtenkbmkecgnfmaaHufI
namespace Go.Proofs.Ytenkbmkecgnfmaa.Lz
open Go.RowKit Go.Shelf Go.Lib Go.Proofs.Ytenkbmkecgnfmaa.Mem Go.Proofs.Ytenkbmkecgnfmaa.Huf

def pcCells (p : Pc) : List Value := [.int .i64 p.len, .int .i64 p.dist, .int .u8 (p.byte.toNat : Int)]
def pcV (p : Pc) : Value := .agg #[.int .i64 p.len, .int .i64 p.dist, .int .u8 (p.byte.toNat : Int)]
def pcsCells (l : List Pc) : List Value := l.flatMap pcCells
theorem pcsCells_len (xs : List Pc) : (pcsCells xs).length = xs.length * 3 := by
  induction xs with
  | nil => rfl
  | cons x xs ih => unfold pcsCells at *; rw [List.flatMap_cons, List.length_append, ih, List.length_cons]; simp [pcCells]; omega
theorem pcsCells_append (xs ys : List Pc) : pcsCells (xs ++ ys) = pcsCells xs ++ pcsCells ys := by simp [pcsCells]
theorem pcsCells_at (xs : List Pc) : ∀ (j : Nat) (x : Pc) (i : Nat), xs[j]? = some x → i < 3 → (pcsCells xs)[j * 3 + i]? = (pcCells x)[i]? := by
  induction xs with
  | nil => intro j x i h _; simp at h
  | cons y xs ih =>
    intro j x i h hi
    unfold pcsCells at *
    rw [List.flatMap_cons]
    have hx : (pcCells y).length = 3 := rfl
    cases j with
    | zero =>
      obtain rfl : y = x := by simpa using h
      rw [List.getElem?_append_left (by omega), Nat.zero_mul, Nat.zero_add]
    | succ j =>
      rw [List.getElem?_append_right (by omega), hx, show (j + 1) * 3 + i - 3 = j * 3 + i by omega]
      exact ih j x i (by simpa using h) hi
theorem pcsCells_one (xs : List Pc) : ∀ u ∈ pcsCells xs, u.oneCell' = true := by
  intro u hu
  unfold pcsCells at hu
  obtain ⟨x, _, hx⟩ := List.mem_flatMap.1 hu
  simp only [pcCells, List.mem_cons, List.not_mem_nil, or_false] at hx
  rcases hx with rfl | rfl | rfl <;> rfl
theorem pcsCells_single (p : Pc) : pcsCells [p] = pcCells p := by unfold pcsCells; rw [List.flatMap_cons, List.flatMap_nil, List.append_nil]

/-- A row of pieces, wherever it lies. -/
def SrcP (W : World) (v : Value) (xs : List Pc) : Prop :=
  (v = .slice none 0 0 ∧ xs = []) ∨ ∃ a c, v = .slice (some a) xs.length c ∧ ∀ j u, (pcsCells xs)[j]? = some u → W.cell? (a.add j) = some u
theorem SrcP.below {W W' : World} {v : Value} {xs : List Pc} (h : SrcP W v xs) (hb : Below W.heap.size W W') : SrcP W' v xs :=
  h.imp id fun ⟨a, c, hv, hc⟩ => ⟨a, c, hv, fun j u hu => (hb.cell (block_lt_of_cell (hc j u hu))).trans (hc j u hu)⟩
theorem SrcP.drew {W W' : World} {v : Value} {xs : List Pc} (h : SrcP W v xs) (d : Drew W W') : SrcP W' v xs := h.below (d.below _)
theorem SrcP.only {S : Nat → Prop} {W W' : World} {v : Value} {xs : List Pc} (h : SrcP W v xs) (ho : Only S W W') (hx : ∀ a n c, v = .slice (some a) n c → ¬ S a.block) : SrcP W' v xs :=
  h.imp id fun ⟨a, c, hv, hc⟩ => ⟨a, c, hv, fun j u hu => ho.cell (hc j u hu) (by rw [Lib.block_add]; exact hx a _ c hv)⟩
theorem SrcP.shape {W : World} {v : Value} {xs : List Pc} (h : SrcP W v xs) : ∃ ao c, v = .slice ao xs.length c ∧ (0 < xs.length → ∃ a, ao = some a) := by
  rcases h with ⟨rfl, rfl⟩ | ⟨a, c, rfl, _⟩
  · exact ⟨none, 0, rfl, fun h => by cases h⟩
  · exact ⟨some a, c, rfl, fun _ => ⟨a, rfl⟩⟩
theorem SrcP.of_own {W : World} {B : Nat} {e : TypeId} {v : Value} {xs : List Pc} {n : Nat} (h : W.ownsRow B e 3 v n (pcsCells xs)) (hn : n = xs.length) : SrcP W v xs := by
  subst hn
  rcases h.2 with ⟨hv, h0⟩ | ⟨g, cap, cur, hv, hg, hh, hnc, hcm, hcs, htk⟩
  · exact .inl ⟨hv, List.eq_nil_of_length_eq_zero h0⟩
  · exact .inr ⟨⟨g, 0, none⟩, cap, hv, h.cells (g := g) (by rw [hv]; rfl)⟩
/-- The three cells of a piece. -/
theorem srcp_at {W : World} {n c : Nat} {a : Addr} {xs : List Pc} (h : SrcP W (.slice (some a) n c) xs) (j : Nat) (hj : j < xs.length) :
    W.cell? (a.add (j * 3)) = some (.int .i64 (xs[j]).len) ∧ W.cell? (a.add (j * 3 + 1)) = some (.int .i64 (xs[j]).dist) ∧ W.cell? (a.add (j * 3 + 2)) = some (.int .u8 ((xs[j]).byte.toNat : Int)) := by
  rcases h with ⟨hv, _⟩ | ⟨a', c', hv, hcell⟩
  · cases hv
  · cases hv
    refine ⟨hcell _ _ ?_, hcell _ _ ?_, hcell _ _ ?_⟩
    · exact pcsCells_at xs j _ 0 (List.getElem?_eq_getElem hj) (by decide)
    · exact pcsCells_at xs j _ 1 (List.getElem?_eq_getElem hj) (by decide)
    · exact pcsCells_at xs j _ 2 (List.getElem?_eq_getElem hj) (by decide)

theorem info_pc : (Try.prog.info? 45).map (fun i => (i.zero, i.size, i.bytes)) = some (some (.agg #[.int .i64 0, .int .i64 0, .int .u8 0]), 3, 24) := by kernel_rfl
theorem info_rpc : (Try.prog.info? 44).map (fun i => (i.zero, i.size, i.bytes)) = some (some (.agg #[.int .i64 0, .int .i64 0, .int .u8 0]), 3, 24) := by kernel_rfl

section
variable {T e : TypeId} (hU : Try.prog.underlying T = some (.slice e)) (hinfo : (Try.prog.info? e).map (fun i => (i.zero, i.size, i.bytes)) = some (some (.agg #[.int .i64 0, .int .i64 0, .int .u8 0]), 3, 24))
include hU hinfo
/-- 'append(row, piece)': as the call lays the one piece. -/
theorem push_pc (W : World) (B : Nat) (v : Value) (xs : List Pc) (p : Pc) (h : W.ownsRow B e 3 v xs.length (pcsCells xs)) (hB : B ≤ W.heap.size) (hlim : (xs.length + 1) * 24 ≤ 140737488355328) :
    ∃ v' W', (Builtin.append_ #[T, T] T #[v, .slice (some ⟨W.heap.size, 0, none⟩) 1 1]).run Try.prog (W.alloc (.cells #[.int .i64 p.len, .int .i64 p.dist, .int .u8 (p.byte.toNat : Int)] e)) = .ok v' W' ∧ W'.ownsRow B e 3 v' (xs ++ [p]).length (pcsCells (xs ++ [p])) ∧ Below B W W' ∧ Only (fun k => v.ownBlock = some k) W W' ∧ (v'.ownBlock = v.ownBlock ∨ ∀ k, v'.ownBlock = some k → W.heap.size ≤ k) := by
  have hA := (Below.refl W.heap.size W).alloc (Nat.le_refl _) (.cells #[.int .i64 p.len, .int .i64 p.dist, .int .u8 (p.byte.toNat : Int)] e)
  have hrow := own_below h hA
  have hnews : ∀ j u, (pcCells p)[j]? = some u → (W.alloc (.cells #[.int .i64 p.len, .int .i64 p.dist, .int .u8 (p.byte.toNat : Int)] e)).cell? ((⟨W.heap.size, 0, none⟩ : Addr).add j) = some u := fun j u hj => by
    rw [Lib.addr_add, cell_of_row _ _ _ _ _ (0, 0) (heap_alloc_new _ _), Nat.zero_add]
    simpa [pcCells] using hj
  obtain ⟨v', W', h1, h2, h3, h4⟩ := app_gen hU hinfo rfl (by decide) _ B v (.slice (some ⟨W.heap.size, 0, none⟩) 1 1) T xs.length 1 (pcsCells xs) (pcCells p) hrow (Nat.le_trans hB hA.size) (.inr ⟨_, 1, rfl, rfl, hnews⟩)
    (by intro u hu; exact pcsCells_one [p] u (by rw [pcsCells_single]; exact hu)) (by omega) (by omega)
  have ho : Only (fun k => v.ownBlock = some k) W W' := (Only.of_below hA).trans (only_grown h3 (fun k hk => hk)) (fun i hi => .inl hi)
  refine ⟨v', W', h1, ?_, (hA.mono hB).trans (bel_grown hrow h3 (Nat.le_trans hB hA.size) (Nat.le_refl B)), ho, h4.imp id fun q k hk => Nat.le_trans hA.size (q k hk)⟩
  rw [List.length_append, pcsCells_append, pcsCells_single]
  exact h2
end
end Go.Proofs.Ytenkbmkecgnfmaa.Lz
