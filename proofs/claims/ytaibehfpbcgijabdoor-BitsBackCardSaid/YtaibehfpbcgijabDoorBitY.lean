/- What calls on a writer put, and that it is read again as it was put. -/
import Derived.Test.YtaibehfpbcgijabDoorBitM
import Derived.Test.YtaibehfpbcgijabDoorBitP
import Derived.Test.YtaibehfpbcgijabDoorBitU
import Derived.Test.YtaibehfpbcgijabDoorBitQ
namespace Go.Proofs.YtaibehfpbcgijabDoor.Bit
open Go.RowKit Go.Shelf Go.Proofs.YtaibehfpbcgijabDoor.Mem

/-- The bits behind a call that was answered with no error. -/
def eff (l : List Bool) (o : OpV) : List Bool :=
  if o.kind = 0 then l ++ bitsOf o.v o.n.toNat else if o.kind = 1 then alignL l else alignL l ++ rawL o.b
def playB (ds : List OpV) : List Bool := ds.foldl eff []
theorem playB_snoc (ds : List OpV) (o : OpV) : playB (ds ++ [o]) = eff (playB ds) o := by unfold playB; rw [List.foldl_append]; rfl
theorem eff_more (l : List Bool) (o : OpV) : ∃ m, eff l o = l ++ m := by
  unfold eff alignL
  split
  · exact ⟨_, rfl⟩
  · split
    · exact ⟨_, rfl⟩
    · exact ⟨_, List.append_assoc ..⟩
theorem foldl_more (ds : List OpV) : ∀ l, ∃ m, ds.foldl eff l = l ++ m := by
  induction ds with
  | nil => intro l; exact ⟨[], (List.append_nil _).symm⟩
  | cons o ds ih =>
    intro l
    obtain ⟨m, hm⟩ := eff_more l o
    obtain ⟨m2, h2⟩ := ih (eff l o)
    exact ⟨m ++ m2, by rw [List.foldl_cons, h2, hm, List.append_assoc]⟩
/-- What was put up to the j-th call, and by it, is ahead of all the rest. -/
theorem playB_at (ds : List OpV) (j : Nat) (o : OpV) (h : ds[j]? = some o) : ∃ m, playB ds = eff (playB (ds.take j)) o ++ m ∧ playB (ds.take (j + 1)) = eff (playB (ds.take j)) o := by
  obtain ⟨hj, rfl⟩ := List.getElem?_eq_some_iff.1 h
  have e : playB (ds.take (j + 1)) = eff (playB (ds.take j)) ds[j] := by rw [List.take_succ_eq_append_getElem hj, playB_snoc]
  obtain ⟨m, hm⟩ := foldl_more (ds.drop (j + 1)) (playB (ds.take (j + 1)))
  refine ⟨m, ?_, e⟩
  rw [← e, ← hm]
  unfold playB
  rw [← List.foldl_append, List.take_append_drop]

/-- Each call that was done could be done. -/
def Fine (o : OpV) : Prop := o.kind = 0 → okPut o.v o.n

/-- A number is read as it was put. -/
theorem read_put (ds : List OpV) (j : Nat) (o : OpV) (h : ds[j]? = some o) (hf : Fine o) (h0 : o.kind = 0) :
    takeR (pk (playB ds)) (playB (ds.take j)).length o.n = (o.v, 0, (playB (ds.take (j + 1))).length) := by
  obtain ⟨m, h1, h2⟩ := playB_at ds j o h
  obtain ⟨q0, q1, q2, q3⟩ := hf h0
  have he : eff (playB (ds.take j)) o = playB (ds.take j) ++ bitsOf o.v o.n.toNat := by unfold eff; rw [if_pos h0]
  rw [he] at h1 h2
  have hlen := pk_len (playB ds)
  have hl : (playB ds).length = (playB (ds.take j)).length + o.n.toNat + m.length := by rw [h1, List.length_append, List.length_append, bitsOf_len]
  unfold takeR
  rw [if_neg (by omega), if_neg (by omega), h2, List.length_append, bitsOf_len, h1, take_back _ m o.v _ q2 q3]
/-- Whole bytes are read as they were put. -/
theorem read_raw (ds : List OpV) (j : Nat) (o : OpV) (h : ds[j]? = some o) (h0 : ¬ o.kind = 0) (h1 : ¬ o.kind = 1) :
    rawR (pk (playB ds)) (playB (ds.take j)).length (o.b.length : Int) = (o.b, 0, (playB (ds.take (j + 1))).length) := by
  obtain ⟨m, e1, e2⟩ := playB_at ds j o h
  have he : eff (playB (ds.take j)) o = alignL (playB (ds.take j)) ++ rawL o.b := by unfold eff; rw [if_neg h0, if_neg h1]
  rw [he] at e1 e2
  have hal := alignL_len (playB (ds.take j))
  have hlen := pk_len (playB ds)
  have hl : (playB ds).length = (alignL (playB (ds.take j))).length + 8 * o.b.length + m.length := by rw [e1, List.length_append, List.length_append, rawL_len]
  have hrb := raw_back (alignL (playB (ds.take j))) m o.b (by omega)
  rw [← e1, show (alignL (playB (ds.take j))).length / 8 = ((playB (ds.take j)).length + 7) / 8 by omega] at hrb
  unfold rawR
  rw [if_neg (by omega), Int.toNat_natCast, if_neg (by omega), hrb, e2, List.length_append, rawL_len, hal]
  congr 2
  omega
/-- Align comes to the same bit. -/
theorem read_align (ds : List OpV) (j : Nat) (o : OpV) (h : ds[j]? = some o) (h1 : o.kind = 1) : 8 * (((playB (ds.take j)).length + 7) / 8) = (playB (ds.take (j + 1))).length := by
  obtain ⟨m, e1, e2⟩ := playB_at ds j o h
  rw [e2]
  unfold eff
  rw [if_neg (by rw [h1]; decide), if_pos h1, alignL_len]
  omega

/-! A list of calls of the call's own. -/
def opCells (o : OpV) : List Value := [.int .i64 o.kind, .int .i64 o.n, .int .i64 o.v, .slice o.ba o.b.length o.bc]
def opsCells (ds : List OpV) : List Value := ds.flatMap opCells
theorem opsCells_len (ds : List OpV) : (opsCells ds).length = ds.length * 4 := by
  induction ds with
  | nil => rfl
  | cons o ds ih => unfold opsCells at *; rw [List.flatMap_cons, List.length_append, ih, List.length_cons]; simp [opCells]; omega
theorem opsCells_snoc (ds : List OpV) (o : OpV) : opsCells (ds ++ [o]) = opsCells ds ++ opCells o := by simp [opsCells]
theorem opsCells_at (ds : List OpV) : ∀ (j : Nat) (o : OpV) (i : Nat), ds[j]? = some o → i < 4 → (opsCells ds)[j * 4 + i]? = (opCells o)[i]? := by
  induction ds with
  | nil => intro j o i h _; simp at h
  | cons x ds ih =>
    intro j o i h hi
    unfold opsCells at *
    rw [List.flatMap_cons]
    have hx : (opCells x).length = 4 := rfl
    cases j with
    | zero =>
      obtain rfl : x = o := by simpa using h
      rw [List.getElem?_append_left (by omega), Nat.zero_mul, Nat.zero_add]
    | succ j =>
      rw [List.getElem?_append_right (by omega), hx, show (j + 1) * 4 + i - 4 = j * 4 + i by omega]
      exact ih j o i (by simpa using h) hi

theorem info_op : (Tryd.prog.info? 32).map (fun i => (i.zero, i.size, i.bytes)) = some (some (.agg #[.int .i64 0, .int .i64 0, .int .i64 0, .slice none 0 0]), 4, 48) := by kernel_rfl

/-- 'done = append(done, o)': the row is the old one, or a new one. -/
theorem app_op (W : World) (B : Nat) (v : Value) (ds : List OpV) (o : OpV) (hown : W.ownsRow B 32 4 v ds.length (opsCells ds)) (hB : B ≤ W.heap.size) (hlim : (ds.length + 1) * 48 ≤ 140737488355328) :
    ∃ v' W', (Builtin.append_ #[22, 22] 22 #[v, .slice (some ⟨W.heap.size, 0, none⟩) 1 1]).run Tryd.prog (W.alloc (.cells #[.int .i64 o.kind, .int .i64 o.n, .int .i64 o.v, .slice o.ba o.b.length o.bc] 32)) = .ok v' W' ∧
      W'.ownsRow B 32 4 v' (ds ++ [o]).length (opsCells (ds ++ [o])) ∧ (W.alloc (.cells #[.int .i64 o.kind, .int .i64 o.n, .int .i64 o.v, .slice o.ba o.b.length o.bc] 32)).grownBy W' v.ownBlock ∧ (v'.ownBlock = v.ownBlock ∨ ∀ k, v'.ownBlock = some k → W.heap.size ≤ k) := by
  obtain ⟨i0, hi, hz0, hz1, hz2⟩ := info_parts info_op
  have hA := (Below.refl W.heap.size W).alloc (Nat.le_refl _) (.cells #[.int .i64 o.kind, .int .i64 o.n, .int .i64 o.v, .slice o.ba o.b.length o.bc] 32)
  have hown' := own_below hown hA
  have hnews : ∀ j u, (opCells o)[j]? = some u → (W.alloc (.cells #[.int .i64 o.kind, .int .i64 o.n, .int .i64 o.v, .slice o.ba o.b.length o.bc] 32)).cell? ((⟨W.heap.size, 0, none⟩ : Addr).add j) = some u := fun j u hj => by
    rw [Lib.addr_add, cell_of_row _ _ _ _ _ (0, 0) (heap_alloc_new _ _), Nat.zero_add]
    simpa [opCells] using hj
  have hone : ∀ u ∈ opCells o, u.oneCell' = true := by
    intro u hu
    simp only [opCells, List.mem_cons, List.not_mem_nil, or_false] at hu
    rcases hu with rfl | rfl | rfl | rfl <;> rfl
  generalize (W.alloc (.cells #[.int .i64 o.kind, .int .i64 o.n, .int .i64 o.v, .slice o.ba o.b.length o.bc] 32)) = V at *
  have hVs := hA.size
  have h63 : ds.length + 1 ≤ maxLen := by unfold maxLen; omega
  have run : ∀ b, b ≤ V.heap.size → V.ownsRow b 32 4 v ds.length (opsCells ds) → ∃ v' W', (Builtin.append_ #[22, 22] 22 #[v, .slice (some ⟨W.heap.size, 0, none⟩) 1 1]).run Tryd.prog V = .ok v' W' ∧ W'.ownsRow b 32 4 v' (ds.length + 1) (opsCells ds ++ opCells o) ∧ V.grownBy W' v.ownBlock := fun b hb ho => by
    obtain ⟨v', W', q1, q2, q3, _⟩ := run_append_own (P := Tryd.prog) V b 22 22 32 i0 _ 4 48 Tryd.underlying22 hi hz0 hz1 hz2 rfl (by decide) v _ _ ho ⟨W.heap.size, 0, none⟩ 1 1 (opCells o) rfl hnews hone h63 hlim hb
    exact ⟨v', W', q1, q2, q3⟩
  obtain ⟨v', W', hr, ho, hg⟩ := run B (Nat.le_trans hB hVs) hown'
  refine ⟨v', W', hr, by rw [List.length_append, opsCells_snoc]; exact ho, hg, ?_⟩
  rcases hown'.2 with ⟨rfl, h0⟩ | ⟨g, cap, cur, rfl, hbg, hgg, hnc, hcm, hcs, htk⟩
  · obtain ⟨v2, W2, hr2, ho2, _⟩ := run V.heap.size (Nat.le_refl _) ⟨hown'.1, .inl ⟨rfl, h0⟩⟩
    rw [hr] at hr2
    injection hr2 with e1 e2
    subst e1
    exact .inr fun k hk => Nat.le_trans hVs (ho2.lt k hk).1
  · by_cases hroom : ds.length + 1 ≤ cap
    · have hr2 := run_append_room (P := Tryd.prog) V 22 22 32 i0 Tryd.underlying22 hi g ds.length cap cur hgg ⟨W.heap.size, 0, none⟩ 1 1 (opCells o) (by rw [hz1]; rfl) hnews hone hroom (by rw [hz1, show (opCells o).length = 4 from rfl]; omega)
      rw [hr] at hr2
      injection hr2 with e1 e2
      subst e1
      exact .inl rfl
    · have hr2 := run_append_grow (P := Tryd.prog) V 22 22 32 i0 _ Tryd.underlying22 hi hz0 ⟨g, 0, none⟩ ds.length cap (opsCells ds) (by rw [hz1, opsCells_len]) (hown'.cells (g := g) rfl) ⟨W.heap.size, 0, none⟩ 1 1 (opCells o) (by rw [hz1]; rfl) hnews (by omega) (by unfold maxLen at h63; omega) (by rw [hz2]; exact growslice_fits (by omega) hlim)
      rw [hr] at hr2
      injection hr2 with e1 e2
      subst e1
      exact .inr fun k hk => by simp [Value.ownBlock] at hk; omega

/-- The r-th call of a list, in any later world. -/
theorem op_later {W : World} {B : Nat} {ao : Option Addr} {r : Nat} {o : OpV} (hB : W.heap.size = B) (h : OpAt W ao r o) : ∃ a, ao = some a ∧ o.b.length ≤ 140737488351232 ∧ ∀ w', Below B W w' → w'.cell? (a.add (r * 4)) = some (.int .i64 o.kind) ∧ w'.cell? ⟨(a.add (r * 4)).block, (a.add (r * 4)).off + 1, none⟩ = some (.int .i64 o.n) ∧
    w'.cell? ⟨(a.add (r * 4)).block, (a.add (r * 4)).off + 2, none⟩ = some (.int .i64 o.v) ∧ w'.cell? ⟨(a.add (r * 4)).block, (a.add (r * 4)).off + 3, none⟩ = some (.slice o.ba o.b.length o.bc) ∧ Src w' (.slice o.ba o.b.length o.bc) o.b := by
  obtain ⟨a, rfl, p0, p1, p2, p3, p4, p5⟩ := h
  have mv : ∀ w', Below B W w' → ∀ (j : Nat) (y : Value), W.cell? (a.add j) = some y → w'.cell? (a.add j) = some y := fun w' hb j y hy => (hb.cell (by have := block_lt_of_cell hy; rw [hB] at this; exact this)).trans hy
  have e1 : (⟨(a.add (r * 4)).block, (a.add (r * 4)).off + 1, none⟩ : Addr) = a.add (r * 4 + 1) := (show _ = (a.add (r * 4)).add 1 from rfl).trans (Deep.add_add a _ _)
  have e2 : (⟨(a.add (r * 4)).block, (a.add (r * 4)).off + 2, none⟩ : Addr) = a.add (r * 4 + 2) := (show _ = (a.add (r * 4)).add 2 from rfl).trans (Deep.add_add a _ _)
  have e3 : (⟨(a.add (r * 4)).block, (a.add (r * 4)).off + 3, none⟩ : Addr) = a.add (r * 4 + 3) := (show _ = (a.add (r * 4)).add 3 from rfl).trans (Deep.add_add a _ _)
  refine ⟨a, rfl, p5, fun w' hb => ⟨mv w' hb _ _ p0, ?_, ?_, ?_, p4.below (hb.mono (Nat.le_of_eq hB))⟩⟩
  · rw [e1]; exact mv w' hb _ _ p1
  · rw [e2]; exact mv w' hb _ _ p2
  · rw [e3]; exact mv w' hb _ _ p3

/-- A writer, and what was done of the calls on it. -/
structure Bk (W wr : World) (B b g : Nat) (dv : Value) (ds : List OpV) : Prop where
  q : WB wr B b g (playB ds)
  hl : (playB ds).length ≤ 8388608
  d : wr.ownsRow B 32 4 dv ds.length (opsCells ds)
  db : dv.ownBlock ≠ some b
  dg : dv.ownBlock ≠ some g
  bel : Below B W wr
  hB : B ≤ wr.heap.size
  fine : ∀ o ∈ ds, Fine o
  src : ∀ o ∈ ds, (∀ w', Below B W w' → Src w' (.slice o.ba o.b.length o.bc) o.b) ∧ o.b.length ≤ 140737488351232
section
variable {W wr w' : World} {B b g : Nat} {dv : Value} {ds : List OpV}
/-- A call that was refused. -/
theorem Bk.skip (h : Bk W wr B b g dv ds) (s : WStep wr w' B b g (playB ds)) : ∃ g', Bk W w' B b g' dv ds := by
  obtain ⟨g', q1, q2, q3⟩ := s
  refine ⟨g', q1, h.hl, own_only h.d q3 ?_, h.db, fun e => ?_, h.bel.trans (q3.below h.hB (by rintro i (rfl | rfl); exact h.q.leb; exact h.q.leg)), Nat.le_trans h.hB q3.size, h.fine, h.src⟩
  · rintro i hi (rfl | rfl)
    · exact h.db hi
    · exact h.dg hi
  · rcases q2 with rfl | q2
    · exact h.dg e
    · have := (h.d.lt g' e).2; omega
/-- A call that was done is kept. -/
theorem Bk.push (h : Bk W wr B b g dv ds) (o : OpV) (s : WStep wr w' B b g (eff (playB ds) o)) (hl : (eff (playB ds) o).length ≤ 8388608) (hf : Fine o) (hs : (∀ w', Below B W w' → Src w' (.slice o.ba o.b.length o.bc) o.b) ∧ o.b.length ≤ 140737488351232) (hlim : (ds.length + 1) * 48 ≤ 140737488355328) :
    ∃ v1 W1 g', (Builtin.append_ #[22, 22] 22 #[dv, .slice (some ⟨w'.heap.size, 0, none⟩) 1 1]).run Tryd.prog (w'.alloc (.cells #[.int .i64 o.kind, .int .i64 o.n, .int .i64 o.v, .slice o.ba o.b.length o.bc] 32)) = .ok v1 W1 ∧ Bk W W1 B b g' v1 (ds ++ [o]) := by
  obtain ⟨g', q1, q2, q3⟩ := s
  have hd' : w'.ownsRow B 32 4 dv ds.length (opsCells ds) := own_only h.d q3 (by
    rintro i hi (rfl | rfl)
    · exact h.db hi
    · exact h.dg hi)
  have hdg : dv.ownBlock ≠ some g' := fun e => by
    rcases q2 with rfl | q2
    · exact h.dg e
    · have := (h.d.lt g' e).2; omega
  have hbe : Below B W w' := h.bel.trans (q3.below h.hB (by rintro i (rfl | rfl); exact h.q.leb; exact h.q.leg))
  have hB' : B ≤ w'.heap.size := Nat.le_trans h.hB q3.size
  obtain ⟨v1, W1, r1, r2, r3, r4⟩ := app_op w' B dv ds o hd' hB' hlim
  have hA := (Below.refl w'.heap.size w').alloc (Nat.le_refl _) (.cells #[.int .i64 o.kind, .int .i64 o.n, .int .i64 o.v, .slice o.ba o.b.length o.bc] 32)
  have hbW1 : Below B w' W1 := (hA.mono hB').trans (bel_grown (own_below hd' hA) r3 (Nat.le_trans hB' hA.size) (Nat.le_refl _))
  have hlt := q1.lt
  have hltg := q1.ltg
  have hgr : ∀ i, i < w'.heap.size → dv.ownBlock ≠ some i → W1.heap[i]? = w'.heap[i]? := fun i hi hne => (r3.block i (Nat.lt_of_lt_of_le hi hA.size) (fun e => hne e.symm)).trans (hA.block i hi)
  refine ⟨v1, W1, g', r1, ?_, ?_, r2, ?_, ?_, hbe.trans hbW1, Nat.le_trans hB' hbW1.size, ?_, ?_⟩
  · rw [playB_snoc]; exact q1.same (hgr b hlt h.db) (hgr g' hltg hdg)
  · rw [playB_snoc]; exact hl
  · intro e
    rcases r4 with q | q
    · exact h.db (q.symm.trans e)
    · have := q b e; omega
  · intro e
    rcases r4 with q | q
    · exact hdg (q.symm.trans e)
    · have := q g' e; omega
  · intro x hx
    rcases List.mem_append.1 hx with hx | hx
    · exact h.fine x hx
    · rw [List.mem_singleton.1 hx]; exact hf
  · intro x hx
    rcases List.mem_append.1 hx with hx | hx
    · exact h.src x hx
    · rw [List.mem_singleton.1 hx]; exact hs
end
theorem putL_ok (l : List Bool) (n x : Int) (h : (putL l n x).1 = 0) : okPut n x ∧ (putL l n x).2 = l ++ bitsOf n x.toNat := by
  unfold putL at *
  split at h
  · rename_i h1
    split at h
    · cases h
    · rename_i h2
      rw [if_pos h1, if_neg h2]
      exact ⟨h1, rfl⟩
  · cases h
theorem putL_no (l : List Bool) (n x : Int) (h : ¬ (putL l n x).1 = 0) : (putL l n x).2 = l := by
  unfold putL at *
  split
  · split
    · rfl
    · rename_i h1 h2
      rw [if_pos h1, if_neg h2] at h
      exact absurd rfl h
  · rfl
theorem rawW_ok (l : List Bool) (cs : List UInt8) (h : (rawW l cs).1 = 0) : (rawW l cs).2 = alignL l ++ rawL cs := by
  unfold rawW at *
  split
  · rename_i h1; rw [if_pos h1] at h; cases h
  · rfl
theorem rawW_no (l : List Bool) (cs : List UInt8) (h : ¬ (rawW l cs).1 = 0) : (rawW l cs).2 = l := by
  unfold rawW at *
  split
  · rfl
  · rename_i h1; rw [if_neg h1] at h; exact absurd rfl h

/-- A reader of what was put; j of the calls have been read again. -/
structure Rk (W wr : World) (B r : Nat) (u dv : Value) (ds : List OpV) (j : Nat) : Prop where
  q : RB wr B r u (pk (playB ds)) (playB (ds.take j)).length
  d : wr.ownsRow B 32 4 dv ds.length (opsCells ds)
  dr : dv.ownBlock ≠ some r
  bel : Below B W wr
  hB : B ≤ wr.heap.size
theorem Rk.next {W wr w' : World} {B r : Nat} {u dv : Value} {ds : List OpV} {j at_ : Nat} (h : Rk W wr B r u dv ds j) (q' : RB w' B r u (pk (playB ds)) at_) (o : Only (fun k => k = r) wr w') (e : at_ = (playB (ds.take (j + 1))).length) : Rk W w' B r u dv ds (j + 1) := by
  subst e
  refine ⟨q', own_only h.d o (fun g hg e => h.dr (by rw [hg, e])), h.dr, h.bel.trans (o.below h.hB (fun k hk => by rw [hk]; exact h.q.2.2.2.1)), Nat.le_trans h.hB o.size⟩
theorem Rk.drew {W wr w' : World} {B r : Nat} {u dv : Value} {ds : List OpV} {j : Nat} (h : Rk W wr B r u dv ds j) (d : Drew wr w') : Rk W w' B r u dv ds j :=
  ⟨h.q.drew d, own_drew h.d d, h.dr, h.bel.trans (d.below B), by rw [d.heap]; exact h.hB⟩
/-- The cells of the j-th call that was done. -/
theorem Rk.cells {W wr : World} {B r : Nat} {u dv : Value} {ds : List OpV} {j i : Nat} (h : Rk W wr B r u dv ds i) (hj : j < ds.length) : ∃ g cap, dv = .slice (some ⟨g, 0, none⟩) ds.length cap ∧ g < wr.heap.size ∧ ds.length ≤ cap ∧ cap ≤ 9223372036854775807 ∧
    wr.cell? ⟨g, j * 4, none⟩ = some (.int .i64 (ds[j]).kind) ∧ wr.cell? ⟨g, j * 4 + 1, none⟩ = some (.int .i64 (ds[j]).n) ∧ wr.cell? ⟨g, j * 4 + 2, none⟩ = some (.int .i64 (ds[j]).v) ∧ wr.cell? ⟨g, j * 4 + 3, none⟩ = some (.slice (ds[j]).ba (ds[j]).b.length (ds[j]).bc) := by
  obtain ⟨ao, cap, rfl, hcap, hcm, hnone⟩ := own_shape h.d
  cases ao with
  | none => have := (hnone rfl).1; omega
  | some a =>
    obtain ⟨g, rfl, -, hg⟩ := own_block h.d
    have hc : ∀ i, i < 4 → wr.cell? ⟨g, j * 4 + i, none⟩ = (opCells ds[j])[i]? := fun i hi => by
      rw [h.d.cellAt (j * 4 + i) (by omega)]
      exact opsCells_at ds j _ i (List.getElem?_eq_getElem hj) hi
    exact ⟨g, cap, rfl, hg, hcap, hcm, by have := hc 0 (by decide); rw [Nat.add_zero] at this; exact this, hc 1 (by decide), hc 2 (by decide), hc 3 (by decide)⟩

end Go.Proofs.YtaibehfpbcgijabDoor.Bit
