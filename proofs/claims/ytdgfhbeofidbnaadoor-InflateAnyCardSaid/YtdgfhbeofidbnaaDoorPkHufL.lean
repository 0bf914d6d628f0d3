/- Rows of coins and pairs in memory: a count, and a slice of symbols; those that came in, and those of the call's own. The document's own weight and Full: they answer as package huff's. The document's own Codes: they are package huff's. -/
import Derived.Test.YtdgfhbeofidbnaaDoorPkHufM
import Derived.Test.YtdgfhbeofidbnaaDoorPkHufN
namespace Go.Proofs.YtdgfhbeofidbnaaDoor.Huf
open Go.RowKit Go.Shelf Go.Lib Go.Proofs.YtdgfhbeofidbnaaDoor.Mem

/-- 'append(v, x...)' of whatever elements: the row is the old one, or a new one. -/
theorem app_gen {T e : TypeId} {size bytes : Nat} {zero : Value} (hU : Tryd.prog.underlying T = some (.slice e)) (hinfo : (Tryd.prog.info? e).map (fun i => (i.zero, i.size, i.bytes)) = some (some zero, size, bytes)) (hz : zero.cells.size = size) (hpos : 0 < size)
    (W : World) (base : Nat) (v x : Value) (ty : TypeId) (n m : Nat) (xs ys : List Value) (hown : W.ownsRow base e size v n xs) (hbase : base ≤ W.heap.size)
    (hsrc : (x = .slice none 0 0 ∧ ys = [] ∧ m = 0) ∨ ∃ a c, x = .slice (some a) m c ∧ ys.length = m * size ∧ ∀ j u, ys[j]? = some u → W.cell? (a.add j) = some u) (hone : ∀ u ∈ ys, u.oneCell' = true) (hlim : (n + m) * bytes ≤ 140737488355328) (hnm : n + m ≤ 140737488355328) :
    ∃ v' W', (Builtin.append_ #[T, T] ty #[v, x]).run Tryd.prog W = .ok v' W' ∧ W'.ownsRow base e size v' (n + m) (xs ++ ys) ∧ W.grownBy W' v.ownBlock ∧ (v'.ownBlock = v.ownBlock ∨ ∀ k, v'.ownBlock = some k → W.heap.size ≤ k) := by
  obtain ⟨i0, hi, hz0, hz1, hz2⟩ := info_parts hinfo
  rcases hsrc with ⟨rfl, rfl, rfl⟩ | ⟨a, c, rfl, hl1, hc⟩
  · rw [List.append_nil]
    exact ⟨v, W, run_append_owned_none (P := Tryd.prog) (w := W) base T ty e i0 size hU hi v _ _ hown, hown, ⟨rfl, rfl, rfl, Nat.le_refl _, fun _ _ _ => rfl⟩, .inl rfl⟩
  · have h63 : n + m ≤ maxLen := by unfold maxLen; omega
    have run : ∀ b, b ≤ W.heap.size → W.ownsRow b e size v n xs → ∃ v' W', (Builtin.append_ #[T, T] ty #[v, .slice (some a) m c]).run Tryd.prog W = .ok v' W' ∧ W'.ownsRow b e size v' (n + m) (xs ++ ys) ∧ W.grownBy W' v.ownBlock := fun b hb ho => by
      obtain ⟨v', W', q1, q2, q3, _⟩ := run_append_own (P := Tryd.prog) W b T ty e i0 zero size bytes hU hi hz0 hz1 hz2 hz hpos v _ _ ho a m c ys hl1 hc hone h63 hlim hb
      exact ⟨v', W', q1, q2, q3⟩
    obtain ⟨v', W', hr, ho, hg⟩ := run base hbase hown
    refine ⟨v', W', hr, ho, hg, ?_⟩
    rcases hown.2 with ⟨rfl, h0⟩ | ⟨g, cap, cur, rfl, hbg, hgg, hnc, hcm, hcs, htk⟩
    · obtain ⟨v2, W2, hr2, ho2, _⟩ := run W.heap.size (Nat.le_refl _) ⟨hown.1, .inl ⟨rfl, h0⟩⟩
      rw [hr] at hr2
      injection hr2 with e1 e2
      subst e1
      exact .inr fun k hk => (ho2.lt k hk).1
    · by_cases hroom : n + m ≤ cap
      · have hr2 := run_append_room (P := Tryd.prog) W T ty e i0 hU hi g n cap cur hgg a m c ys (by rw [hz1]; exact hl1) hc hone hroom (by rw [hz1, hl1, hcs, ← Nat.add_mul]; exact Nat.mul_le_mul_right _ hroom)
        rw [hr] at hr2
        injection hr2 with e1 e2
        subst e1
        exact .inl rfl
      · have hr2 := run_append_grow (P := Tryd.prog) W T ty e i0 zero hU hi hz0 ⟨g, 0, none⟩ n cap xs (by rw [hz1]; exact hown.1) (hown.cells (g := g) rfl) a m c ys (by rw [hz1]; exact hl1) hc (by omega) (by unfold maxLen at h63; omega) (by rw [hz2]; exact growslice_fits (by omega) hlim)
        rw [hr] at hr2
        injection hr2 with e1 e2
        subst e1
        exact .inr fun k hk => by simp [Value.ownBlock] at hk; omega

/-- An append whose run is known, as a step of a region that draws. -/
theorem step_append_run {P : Program} {ops : Array Oper} {o : Oper} {a : Act} {w : World} {K : Act → World → Prop} {Q : Exit → Act → World → Prop} {E : Prop}
    (hg : o.guard = none) (s x : Operand) (t tn : TypeId) (ho : o.op = .call { callee := .builtin .append, args := #[s, x], argTypes := #[t, tn] }) (vs vx : Value) (hs : a.eval s = vs) (hx : a.eval x = vx)
    (v' : Value) (w' : World) (hr : (Builtin.append_ #[t, tn] o.type #[vs, vx]).run P w = .ok v' w') (hK : K (a.put o.dst v') w') : if Region.wanted o (yielded ops a.tmps) = true then Oper.wp P o a w K Q else E := by
  have hw : Region.wanted o (yielded ops a.tmps) = true := by simp [Region.wanted, hg]
  rw [if_pos hw]
  exact Lib.wp_append_run w s x t tn ho vs vx hs hx v' w' hr hK

/-- A coin or a pair, as it lies. -/
structure ItV where
  n : Nat
  s : List Nat
  ba : Option Addr
  bc : Nat
def ItV.item (x : ItV) : Nat × List Nat := (x.n, x.s)
def ItV.sl (x : ItV) : Value := .slice x.ba x.s.length x.bc
def itCells (x : ItV) : List Value := [.int .i64 (x.n : Int), x.sl]
def itsCells (xs : List ItV) : List Value := xs.flatMap itCells
theorem itsCells_len (xs : List ItV) : (itsCells xs).length = xs.length * 2 := by
  induction xs with
  | nil => rfl
  | cons x xs ih => unfold itsCells at *; rw [List.flatMap_cons, List.length_append, ih, List.length_cons]; simp [itCells]; omega
theorem itsCells_append (xs ys : List ItV) : itsCells (xs ++ ys) = itsCells xs ++ itsCells ys := by simp [itsCells]
theorem itsCells_at (xs : List ItV) : ∀ (j : Nat) (x : ItV) (i : Nat), xs[j]? = some x → i < 2 → (itsCells xs)[j * 2 + i]? = (itCells x)[i]? := by
  induction xs with
  | nil => intro j x i h _; simp at h
  | cons y xs ih =>
    intro j x i h hi
    unfold itsCells at *
    rw [List.flatMap_cons]
    have hx : (itCells y).length = 2 := rfl
    cases j with
    | zero =>
      obtain rfl : y = x := by simpa using h
      rw [List.getElem?_append_left (by omega), Nat.zero_mul, Nat.zero_add]
    | succ j =>
      rw [List.getElem?_append_right (by omega), hx, show (j + 1) * 2 + i - 2 = j * 2 + i by omega]
      exact ih j x i (by simpa using h) hi
theorem itsCells_one (xs : List ItV) : ∀ u ∈ itsCells xs, u.oneCell' = true := by
  intro u hu
  unfold itsCells at hu
  obtain ⟨x, _, hx⟩ := List.mem_flatMap.1 hu
  simp only [itCells, ItV.sl, List.mem_cons, List.not_mem_nil, or_false] at hx
  rcases hx with rfl | rfl <;> rfl
def natI (l : List Nat) : List Int := l.map Int.ofNat
theorem natI_len (l : List Nat) : (natI l).length = l.length := List.length_map ..
theorem natI_append (l m : List Nat) : natI (l ++ m) = natI l ++ natI m := List.map_append

/-- What an item's slice holds. -/
def ItS (W : World) (x : ItV) : Prop := SrcI W x.sl (natI x.s) ∧ 0 < x.s.length
theorem ItS.below {W W' : World} {x : ItV} (h : ItS W x) (hb : Below W.heap.size W W') : ItS W' x := ⟨h.1.below hb, h.2⟩
theorem ItS.lt {W : World} {x : ItV} (h : ItS W x) {a : Addr} (ha : x.ba = some a) : a.block < W.heap.size := by
  have h1 := h.1
  unfold ItV.sl at h1
  rw [ha] at h1
  exact h1.lt (by rw [natI_len]; exact h.2)
theorem ItS.only {S : Nat → Prop} {W W' : World} {x : ItV} (h : ItS W x) (ho : Only S W W') (hx : ∀ a, x.ba = some a → ¬ S a.block) : ItS W' x :=
  ⟨h.1.only ho (fun a n c e => by
    unfold ItV.sl at e
    injection e with e1 _ _
    exact hx a e1), h.2⟩

/-- A row of items that came in. -/
structure SrcIt (W : World) (v : Value) (xs : List ItV) : Prop where
  sh : ∃ ao c, v = .slice ao xs.length c ∧ xs.length ≤ c ∧ (ao = none → c = 0) ∧ ∀ a, ao = some a → ∀ j u, (itsCells xs)[j]? = some u → W.cell? (a.add j) = some u
  its : ∀ x ∈ xs, ItS W x
theorem SrcIt.below {W W' : World} {v : Value} {xs : List ItV} (h : SrcIt W v xs) (hb : Below W.heap.size W W') : SrcIt W' v xs := by
  obtain ⟨ao, c, h1, h2, h3, h4⟩ := h.sh
  exact ⟨⟨ao, c, h1, h2, h3, fun a ha j u hu => (hb.cell (block_lt_of_cell (h4 a ha j u hu))).trans (h4 a ha j u hu)⟩, fun x hx => (h.its x hx).below hb⟩
/-- .. of the call's own. -/
structure OwnIt (e : TypeId) (W : World) (B : Nat) (v : Value) (xs : List ItV) : Prop where
  row : W.ownsRow B e 2 v xs.length (itsCells xs)
  its : ∀ x ∈ xs, ItS W x
  sep : ∀ x ∈ xs, ∀ a, x.ba = some a → v.ownBlock ≠ some a.block
theorem OwnIt.nil (e : TypeId) (W : World) (B : Nat) : OwnIt e W B (.slice none 0 0) [] := ⟨⟨rfl, .inl ⟨rfl, rfl⟩⟩, fun x hx => (by cases hx), fun x hx => (by cases hx)⟩
theorem OwnIt.src {e : TypeId} {W : World} {B : Nat} {v : Value} {xs : List ItV} (h : OwnIt e W B v xs) : SrcIt W v xs := by
  refine ⟨?_, h.its⟩
  rcases h.row.2 with ⟨hv, h0⟩ | ⟨g, cap, cur, hv, hg, hh, hnc, hcm, hcs, htk⟩
  · exact ⟨none, 0, by rw [hv, h0], by omega, fun _ => rfl, fun a ha => by cases ha⟩
  · exact ⟨some ⟨g, 0, none⟩, cap, hv, hnc, fun q => (by cases q), fun a ha j u hu => by cases ha; exact h.row.cells (g := g) (by rw [hv]; rfl) j u hu⟩
theorem OwnIt.below {e : TypeId} {W W' : World} {B : Nat} {v : Value} {xs : List ItV} (h : OwnIt e W B v xs) (hb : Below W.heap.size W W') : OwnIt e W' B v xs :=
  ⟨own_below h.row hb, fun x hx => (h.its x hx).below hb, h.sep⟩

section
variable {T e : TypeId} (hU : Tryd.prog.underlying T = some (.slice e)) (hinfo : (Tryd.prog.info? e).map (fun i => (i.zero, i.size, i.bytes)) = some (some (.agg #[.int .i64 0, .slice none 0 0]), 2, 32))
include hU hinfo
/-- 'append(row, item)': as the call lays the one item. -/
theorem OwnIt.push {W : World} {B : Nat} {v : Value} {xs : List ItV} (h : OwnIt e W B v xs) (hB : B ≤ W.heap.size) (x : ItV) (hx : ItS W x) (hsep : ∀ a, x.ba = some a → v.ownBlock ≠ some a.block) (hlim : xs.length + 1 ≤ 1048576) :
    ∃ v' W', (Builtin.append_ #[T, T] T #[v, .slice (some ⟨W.heap.size, 0, none⟩) 1 1]).run Tryd.prog (W.alloc (.cells #[.int .i64 (x.n : Int), .slice x.ba x.s.length x.bc] e)) = .ok v' W' ∧ OwnIt e W' B v' (xs ++ [x]) ∧ Below B W W' ∧ B ≤ W'.heap.size ∧ Only (fun k => v.ownBlock = some k) W W' ∧ (v'.ownBlock = v.ownBlock ∨ ∀ k, v'.ownBlock = some k → W.heap.size ≤ k) := by
  have hA := (Below.refl W.heap.size W).alloc (Nat.le_refl _) (.cells #[.int .i64 (x.n : Int), .slice x.ba x.s.length x.bc] e)
  have hrow := own_below h.row hA
  have hnews : ∀ j u, (itCells x)[j]? = some u → (W.alloc (.cells #[.int .i64 (x.n : Int), .slice x.ba x.s.length x.bc] e)).cell? ((⟨W.heap.size, 0, none⟩ : Addr).add j) = some u := fun j u hj => by
    rw [Lib.addr_add, cell_of_row _ _ _ _ _ (0, 0) (heap_alloc_new _ _), Nat.zero_add]
    simpa [itCells, ItV.sl] using hj
  obtain ⟨v', W', h1, h2, h3, h4⟩ := app_gen hU hinfo rfl (by decide) _ B v (.slice (some ⟨W.heap.size, 0, none⟩) 1 1) T xs.length 1 (itsCells xs) (itCells x) hrow (Nat.le_trans hB hA.size) (.inr ⟨_, 1, rfl, rfl, hnews⟩)
    (by intro u hu; exact itsCells_one [x] u (by unfold itsCells; rw [List.flatMap_cons]; exact List.mem_append_left _ hu)) (by omega) (by omega)
  have hbW := bel_grown hrow h3 (Nat.le_trans hB hA.size) (Nat.le_refl B)
  have ho : Only (fun k => v.ownBlock = some k) W W' := (Only.of_below hA).trans (only_grown h3 (fun k hk => hk)) (fun i hi => .inl hi)
  refine ⟨v', W', h1, ⟨?_, ?_, ?_⟩, (hA.mono hB).trans hbW, Nat.le_trans hB ho.size, ho, h4.imp id fun q k hk => Nat.le_trans hA.size (q k hk)⟩
  · rw [List.length_append, itsCells_append]
    have : itsCells [x] = itCells x := by unfold itsCells; rw [List.flatMap_cons, List.flatMap_nil, List.append_nil]
    rw [this]
    exact h2
  · intro y hy
    rcases List.mem_append.1 hy with hy | hy
    · exact (h.its y hy).only ho (fun a ha e => h.sep y hy a ha e)
    · rw [List.mem_singleton.1 hy]
      exact hx.only ho (fun a ha e => hsep a ha e)
  · intro y hy a ha hk
    have hlt : a.block < W.heap.size ∧ v.ownBlock ≠ some a.block := by
      rcases List.mem_append.1 hy with hy | hy
      · exact ⟨(h.its y hy).lt ha, h.sep y hy a ha⟩
      · rw [List.mem_singleton.1 hy] at ha
        exact ⟨hx.lt ha, hsep a ha⟩
    rcases h4 with q | q
    · exact hlt.2 (q.symm.trans hk)
    · have := Nat.le_trans hA.size (q _ hk)
      omega
/-- 'append(row, items...)'. -/
theorem OwnIt.pushAll {W : World} {B : Nat} {v y : Value} {xs ys : List ItV} (h : OwnIt e W B v xs) (hB : B ≤ W.heap.size) (hy : SrcIt W y ys) (hsep : ∀ x ∈ ys, ∀ a, x.ba = some a → v.ownBlock ≠ some a.block) (hlim : xs.length + ys.length ≤ 1048576) :
    ∃ v' W', (Builtin.append_ #[T, T] T #[v, y]).run Tryd.prog W = .ok v' W' ∧ OwnIt e W' B v' (xs ++ ys) ∧ Below B W W' ∧ B ≤ W'.heap.size := by
  obtain ⟨ao, c, rfl, hc1, hc2, hcell⟩ := hy.sh
  obtain ⟨v', W', h1, h2, h3, h4⟩ := app_gen hU hinfo rfl (by decide) W B v (.slice ao ys.length c) T xs.length ys.length (itsCells xs) (itsCells ys) h.row hB (by
    cases ao with
    | none =>
      have := hc2 rfl
      subst this
      obtain rfl : ys = [] := List.eq_nil_of_length_eq_zero (by omega)
      exact .inl ⟨rfl, rfl, rfl⟩
    | some a => exact .inr ⟨a, c, rfl, itsCells_len ys, hcell a rfl⟩) (itsCells_one ys) (by omega) (by omega)
  have ho : Only (fun k => v.ownBlock = some k) W W' := only_grown h3 (fun k hk => hk)
  refine ⟨v', W', h1, ⟨?_, ?_, ?_⟩, bel_grown h.row h3 hB (Nat.le_refl B), Nat.le_trans hB ho.size⟩
  · rw [List.length_append, itsCells_append]
    exact h2
  · intro x hx
    rcases List.mem_append.1 hx with hx | hx
    · exact (h.its x hx).only ho (fun a ha e => h.sep x hx a ha e)
    · exact (hy.its x hx).only ho (fun a ha e => hsep x hx a ha e)
  · intro x hx a ha hk
    have hlt : a.block < W.heap.size ∧ v.ownBlock ≠ some a.block := by
      rcases List.mem_append.1 hx with hx | hx
      · exact ⟨(h.its x hx).lt ha, h.sep x hx a ha⟩
      · exact ⟨(hy.its x hx).lt ha, hsep x hx a ha⟩
    rcases h4 with q | q
    · exact hlt.2 (q.symm.trans hk)
    · have := q _ hk
      omega
end
/-- The cells of the j-th item. -/
theorem SrcIt.at {W : World} {v : Value} {xs : List ItV} (h : SrcIt W v xs) (j : Nat) (hj : j < xs.length) : ∃ a c, v = .slice (some a) xs.length c ∧ xs.length ≤ c ∧ W.cell? (a.add (j * 2)) = some (.int .i64 ((xs[j]).n : Int)) ∧ W.cell? (a.add (j * 2 + 1)) = some (xs[j]).sl := by
  obtain ⟨ao, c, rfl, h1, h2, h3⟩ := h.sh
  cases ao with
  | none => have := h2 rfl; omega
  | some a =>
    refine ⟨a, c, rfl, h1, h3 a rfl _ _ ?_, h3 a rfl _ _ ?_⟩
    · have := itsCells_at xs j _ 0 (List.getElem?_eq_getElem hj) (by decide)
      exact this
    · exact itsCells_at xs j _ 1 (List.getElem?_eq_getElem hj) (by decide)
/-- The rest of a row, wherever it begins. -/
theorem SrcIt.drop {W : World} {a : Addr} {c : Nat} {xs : List ItV} (n : Nat) (h : SrcIt W (.slice (some a) xs.length c) xs) (hn : n ≤ xs.length) (q : Addr) (c2 : Nat) (hc2 : xs.length - n ≤ c2) (hq : n < xs.length → q = a.add (n * 2)) : SrcIt W (.slice (some q) (xs.length - n) c2) (xs.drop n) := by
  obtain ⟨ao, c', e, h1, h2, h3⟩ := h.sh
  cases e
  refine ⟨⟨some q, c2, by rw [List.length_drop], by rw [List.length_drop]; exact hc2, fun g => (by cases g), fun a' ha j u hu => ?_⟩, fun x hx => h.its x (List.mem_of_mem_drop hx)⟩
  cases ha
  have hsplit : itsCells xs = itsCells (xs.take n) ++ itsCells (xs.drop n) := by rw [← itsCells_append, List.take_append_drop]
  have hjl := (List.getElem?_eq_some_iff.1 hu).1
  rw [itsCells_len, List.length_drop] at hjl
  have hlt : (itsCells (xs.take n)).length = n * 2 := by rw [itsCells_len, List.length_take, Nat.min_eq_left hn]
  rw [hq (by omega), Deep.add_add]
  refine h3 a rfl (n * 2 + j) u ?_
  rw [hsplit, List.getElem?_append_right (by omega), hlt, Nat.add_sub_cancel_left]
  exact hu
end Go.Proofs.YtdgfhbeofidbnaaDoor.Huf
namespace Go.Proofs.YtdgfhbeofidbnaaDoor.Huf
open Go.RowKit Go.Shelf Go.Lib Go.Proofs.YtdgfhbeofidbnaaDoor.Mem

theorem weightR_out {l : List Int} {i : Nat} (hi : i < l.length) (h : okLen (numAt l i) = false) : (weightR l).2 = false := by
  unfold weightR
  rw [if_neg (fun q => not_all_at l i hi h q.2)]
theorem w15_shl (n : Nat) (h0 : 0 < n) : (2 : Int) ^ (15 - n) = (w15 n : Int) := by
  rw [w15_pos h0, Int.natCast_pow]
  rfl

set_option maxHeartbeats 4000000 in
set_option maxRecDepth 100000 in
theorem refWeight_any (W : World) (v : Value) (l : List Int) (hs : SrcI W v l) (hl : l.length ≤ 17592186044416) :
    Calls Tryd.prog 111 #[v] W fun e w' => ∃ n : Int, e = .returned (.tuple #[.int .i64 n, .bool (weightR l).2]) ∧ Aside ((weightR l).2 = true → n = (weightR l).1) ∧ W = w' := by
  obtain ⟨ao, c, rfl, hao⟩ := hs.shape
  have HS : Aside (SrcI W (.slice ao l.length c) l) := hs
  have HL : Aside (0 < l.length → ∃ a, ao = some a) := hao
  clear hs hao
  go_enter Tryd.func111, Tryd.ntmps111
  go_wp2_with fail
  go_loopg [4, 5] l.length (fun kx s4 s5 wr => ∃ (i s : Nat), s5 = .int .i64 i ∧ s4 = .int .i64 s ∧ i ≤ l.length ∧ s ≤ 32768 * i ∧ l.length - i ≤ kx ∧ wr = W ∧ Aside ((l.take i).all okLen = true ∧ s = weightN (lenN l) i))
  case atStart => exact ⟨0, 0, rfl, rfl, Nat.zero_le _, Nat.zero_le _, Nat.le_refl _, rfl, rfl, rfl⟩
  case round =>
    obtain ⟨i, s, rfl, rfl, hi, hsb, hkx, rfl, HR⟩ := hrel
    by_cases hlt : i < l.length
    · obtain ⟨a, rfl⟩ := HL.out (by omega)
      have hc : wr.cell? (a.add i) = some (.int .i64 (numAt l i)) := by rw [numAt_eq l i hlt]; exact srci_cell HS.out i hlt
      obtain ⟨z, hz⟩ : ∃ z, z = numAt l i := ⟨_, rfl⟩
      rw [← hz] at hc
      have HZ := Lib.hid hz
      have hltz : (i : Int) < (l.length : Int) := by omega
      clear hz
      by_cases hneg : z < 0
      · go_wp2_with fail
        go_ret2
        have h0 : (weightR l).2 = false := weightR_out hlt (decide_eq_false (by rw [← HZ.out]; omega))
        exact ⟨0, by rw [h0]; rfl, fun h => (by rw [h0] at h; cases h), rfl⟩
      · by_cases hbig : z > 15
        · have hbig2 : (15 : Int) < z := hbig
          go_wp2_with fail
          go_ret2
          have h0 : (weightR l).2 = false := weightR_out hlt (decide_eq_false (by rw [← HZ.out]; omega))
          exact ⟨0, by rw [h0]; rfl, fun h => (by rw [h0] at h; cases h), rfl⟩
        · have hbig2 : ¬ (15 : Int) < z := hbig
          have hall : (l.take (i + 1)).all okLen = true := by
            rw [all_take l i hlt, HR.out.1, ← HZ.out]
            exact decide_eq_true (by omega)
          have HA : Aside _ := hall
          clear hall
          obtain ⟨n, hn⟩ : ∃ n : Nat, z = (n : Int) := ⟨z.toNat, by omega⟩
          subst hn
          obtain ⟨m, hm⟩ : ∃ m, m = w15 n := ⟨_, rfl⟩
          have hm2 : m ≤ 32768 := by rw [hm]; exact w15_le n
          have hst : s + m = weightN (lenN l) (i + 1) := by
            have h1 := HR.out.2
            unfold weightN at h1 ⊢
            have : lenN l i = n := by unfold lenN; rw [← HZ.out]; exact Int.toNat_natCast n
            simp only [sumN]
            rw [← h1, this, ← hm]
          have HST : Aside (s + m = weightN (lenN l) (i + 1)) := hst
          clear hst
          by_cases h0 : n = 0
          · subst h0
            have hm0 : m = 0 := by rw [hm]; rfl
            subst hm0
            clear hm
            go_wp2_with fail
            go_roundg (l.length - (i + 1))
            case measure => omega
            case rel => exact ⟨i + 1, s, by go_num, by go_num, by omega, by omega, Nat.le_refl _, rfl, HA.out, HST.out⟩
          · have hn0 : 0 < n := by omega
            have hnz : (0 : Int) < (n : Int) := by omega
            have hnz2 : (n : Int) > 0 := by omega
            obtain ⟨d, hd⟩ : ∃ d, d = 15 - n := ⟨_, rfl⟩
            have zw : (2 : Int) ^ d = (m : Int) := by rw [hd, w15_shl n hn0, hm]
            have wd : IntKind.i64.wrap ((15 : Int) - (n : Int)) = (d : Int) := by rw [IntKind.wrap_i64]; omega
            have wd2 : IntKind.u64.wrap (d : Int) = (d : Int) := by rw [IntKind.wrap_u64]; omega
            have wd3 : IntKind.i64.wrap (d : Int) = (d : Int) := by rw [IntKind.wrap_i64]; omega
            have zd : (15 : Int) - (n : Int) = (d : Int) := by omega
            have wsum : IntKind.i64.wrap ((s : Int) + (m : Int)) = (s : Int) + (m : Int) := by rw [IntKind.wrap_i64]; omega
            have wm : IntKind.i64.wrap (m : Int) = (m : Int) := by rw [IntKind.wrap_i64]; omega
            clear hm hd
            go_wp2_with fail
            go_roundg (l.length - (i + 1))
            case measure => omega
            case rel => exact ⟨i + 1, s + m, by go_num, by go_num, by omega, by omega, Nat.le_refl _, rfl, HA.out, HST.out⟩
    · obtain rfl : i = l.length := by omega
      have hltz : ¬ (l.length : Int) < (l.length : Int) := by omega
      obtain ⟨h1, h2⟩ := HR.out
      rw [List.take_length] at h1
      have HT : Aside (weightR l = if l.length ≤ 320 then ((s : Int), decide (s ≤ 32768)) else (0, false)) := by
        show weightR l = _
        unfold weightR
        by_cases q : l.length ≤ 320
        · rw [if_pos ⟨q, h1⟩, if_pos q, ← h2]
        · rw [if_neg (fun h => q h.1), if_neg q]
      clear h1 h2
      by_cases h320 : l.length ≤ 320
      · have h3z : (l.length : Int) ≤ 320 := by omega
        by_cases hf : s ≤ 32768
        · have hfz : (s : Int) ≤ 32768 := by omega
          go_wp2_with fail
          go_ret2
          have := HT.out
          rw [if_pos h320, decide_eq_true hf] at this
          exact ⟨s, by rw [this]; rfl, fun _ => by rw [this], rfl⟩
        · have hfz : ¬ (s : Int) ≤ 32768 := by omega
          go_wp2_with fail
          go_ret2
          have := HT.out
          rw [if_pos h320, decide_eq_false hf] at this
          exact ⟨s, by rw [this]; rfl, fun _ => by rw [this], rfl⟩
      · have h3z : ¬ (l.length : Int) ≤ 320 := by omega
        go_wp2_with fail
        go_ret2
        have := HT.out
        rw [if_neg h320] at this
        exact ⟨s, by rw [this]; rfl, fun h => (by rw [this] at h; cases h), rfl⟩

theorem refFull_any (W : World) (v : Value) (l : List Int) (hs : SrcI W v l) (hl : l.length ≤ 17592186044416) :
    Calls Tryd.prog 86 #[v] W fun e w' => e = .returned (.bool ((weightR l).2 && decide ((weightR l).1 = 32768))) ∧ W = w' := by
  have HC := Lib.hid (refWeight_any W v l hs hl)
  obtain ⟨ao, c, rfl, hao⟩ := hs.shape
  clear hs hao
  generalize weightR l = r at HC ⊢
  obtain ⟨r1, r2⟩ := r
  go_enter Tryd.func86, Tryd.ntmps86
  cases r2 with
  | false =>
    go_wp2_with (go_at_call 111; refine HC.out.mono ?_; rintro e w2 ⟨n, rfl, hn, rfl⟩)
    go_ret
    exact ⟨rfl, rfl⟩
  | true =>
    by_cases h : r1 = 32768
    · go_wp2_with (go_at_call 111; refine HC.out.mono ?_; rintro e w2 ⟨n, rfl, hn, rfl⟩; have hnn : n = r1 := hn.out rfl; subst hnn)
      go_ret
      exact ⟨by simp [h], rfl⟩
    · go_wp2_with (go_at_call 111; refine HC.out.mono ?_; rintro e w2 ⟨n, rfl, hn, rfl⟩; have hnn : n = r1 := hn.out rfl; subst hnn)
      go_ret
      exact ⟨by simp [h], rfl⟩
end Go.Proofs.YtdgfhbeofidbnaaDoor.Huf
namespace Go.Proofs.YtdgfhbeofidbnaaDoor.Huf
open Go.RowKit Go.Shelf Go.Lib Go.Proofs.YtdgfhbeofidbnaaDoor.Mem

/-- The list as it stands ahead of place i in the turn of length n. -/
def outAt (l : List Int) (n i : Nat) : List Int := (List.range l.length).map fun j => if lenN l j < n ∨ lenN l j = n ∧ j < i then (codeL l j : Int) else 0
theorem outAt_len (l : List Int) (n i : Nat) : (outAt l n i).length = l.length := by unfold outAt; simp
theorem outAt_at (l : List Int) (n i j : Nat) (h : j < (outAt l n i).length) : (outAt l n i)[j] = if lenN l j < n ∨ lenN l j = n ∧ j < i then (codeL l j : Int) else 0 := by
  simp [outAt]
theorem outAt_start (l : List Int) : outAt l 1 0 = List.replicate l.length 0 := by
  refine List.ext_getElem (by rw [outAt_len, List.length_replicate]) fun j h1 h2 => ?_
  rw [outAt_at, List.getElem_replicate]
  split
  · have : lenN l j = 0 := by omega
    unfold codeL codeN
    rw [if_pos this]
    rfl
  · rfl
theorem outAt_next (l : List Int) (n : Nat) : outAt l (n + 1) 0 = outAt l n l.length := by
  refine List.ext_getElem (by rw [outAt_len, outAt_len]) fun j h1 h2 => ?_
  rw [outAt_len] at h1
  rw [outAt_at, outAt_at]
  by_cases h : lenN l j < n + 1
  · rw [if_pos (.inl h), if_pos (by omega)]
  · rw [if_neg (by omega), if_neg (by omega)]
theorem outAt_skip (l : List Int) (n i : Nat) (h : lenN l i ≠ n) : outAt l n (i + 1) = outAt l n i := by
  refine List.ext_getElem (by rw [outAt_len, outAt_len]) fun j h1 h2 => ?_
  rw [outAt_at, outAt_at]
  by_cases e : j = i
  · subst e
    by_cases h3 : lenN l j < n
    · rw [if_pos (.inl h3), if_pos (.inl h3)]
    · rw [if_neg (by omega), if_neg (by omega)]
  · by_cases h3 : lenN l j < n ∨ lenN l j = n ∧ j < i
    · rw [if_pos h3, if_pos (by omega)]
    · rw [if_neg h3, if_neg (by omega)]
theorem outAt_step (l : List Int) (n i : Nat) (h : lenN l i = n) : outAt l n (i + 1) = (outAt l n i).set i (codeL l i : Int) := by
  refine List.ext_getElem (by rw [List.length_set, outAt_len, outAt_len]) fun j h1 h2 => ?_
  rw [List.getElem_set, outAt_at, outAt_at]
  by_cases e : i = j
  · subst e
    rw [if_pos (.inr ⟨h, by omega⟩), if_pos rfl]
  · rw [if_neg e]
    by_cases h3 : lenN l j < n ∨ lenN l j = n ∧ j < i
    · rw [if_pos h3, if_pos (by omega)]
    · rw [if_neg h3, if_neg (by omega)]
theorem outAt_all {l : List Int} (h : Fine l) : outAt l 16 0 = (codesR l).1 := by
  unfold codesR outAt
  rw [if_pos ((fine_iff l).2 h)]
  refine List.map_congr_left fun j hj => ?_
  have := (h.len (List.mem_range.1 hj)).2
  rw [if_pos (.inl (by omega))]

theorem accAt_le (l : Nat → Nat) (c n i : Nat) : accAt l c n i ≤ weightN l c := by
  refine sumN_le c fun j _ => ?_
  split
  · exact Nat.le_refl _
  · exact Nat.zero_le _
/-- Where the turn stands: the code last given, and its length. -/
def St (l : List Int) (n i code last : Nat) : Prop :=
  (last = 0 ∧ code = 0 ∧ accAt (lenN l) l.length n i = 0) ∨ (0 < last ∧ last ≤ n ∧ (code + 1) * 2 ^ (15 - last) = accAt (lenN l) l.length n i)
theorem St.start (l : List Int) : St l 1 0 0 0 := .inl ⟨rfl, rfl, accAt_start _ _⟩
theorem St.next {l : List Int} {n code last : Nat} (h : St l n l.length code last) : St l (n + 1) 0 code last := by
  unfold St at h ⊢
  rw [accAt_next]
  rcases h with h | ⟨h1, h2, h3⟩
  · exact .inl h
  · exact .inr ⟨h1, by omega, h3⟩
theorem St.skip {l : List Int} {n i code last : Nat} (h : St l n i code last) (hi : i < l.length) (hn : lenN l i ≠ n) : St l n (i + 1) code last := by
  unfold St at h ⊢
  rw [accAt_step _ _ _ _ hi, if_neg hn, Nat.add_zero]
  exact h
theorem St.bound {l : List Int} {n i code last : Nat} (h : St l n i code last) (hf : Fine l) : code ≤ 32768 ∧ last ≤ n := by
  rcases h with ⟨rfl, rfl, _⟩ | ⟨h1, h2, h3⟩
  · exact ⟨by omega, Nat.zero_le _⟩
  · refine ⟨?_, h2⟩
    have h4 := accAt_le (lenN l) l.length n i
    have h5 := hf.w
    have h6 : code + 1 ≤ (code + 1) * 2 ^ (15 - last) := Nat.le_mul_of_pos_right _ (Nat.pow_pos (by decide))
    omega
theorem St.step {l : List Int} {n i code last : Nat} (h : St l n i code last) (hi : i < l.length) (hn0 : 0 < n) (hn : n ≤ 15) (hl : lenN l i = n) :
    (last = 0 → code = codeL l i) ∧ (0 < last → (code + 1) * 2 ^ (n - last) = codeL l i) ∧ St l n (i + 1) (codeL l i) n := by
  have hm := codeN_mul (lenN l) l.length i (by omega)
  rw [hl] at hm
  have hp : 0 < (2 : Nat) ^ (15 - n) := Nat.pow_pos (by decide)
  refine ⟨fun h0 => ?_, fun h0 => ?_, .inr ⟨hn0, Nat.le_refl _, ?_⟩⟩
  · rcases h with ⟨_, h2, h3⟩ | ⟨h1, _⟩
    · rw [h3] at hm
      rcases Nat.mul_eq_zero.1 hm with e | e
      · rw [h2]; exact e.symm
      · omega
    · omega
  · rcases h with ⟨h1, _⟩ | ⟨h1, h2, h3⟩
    · omega
    · refine Nat.eq_of_mul_eq_mul_right hp ?_
      show _ = codeN (lenN l) l.length i * _
      rw [hm, ← h3, Nat.mul_assoc, ← Nat.pow_add]
      congr 2
      omega
  · rw [accAt_step _ _ _ _ hi, if_pos hl, w15_pos hn0, Nat.add_mul, Nat.one_mul]
    show codeN (lenN l) l.length i * _ + _ = _
    rw [hm]

set_option maxHeartbeats 4000000 in
set_option maxRecDepth 100000 in
theorem refCodes_any (W : World) (v : Value) (l : List Int) (hs : SrcI W v l) (hl : l.length ≤ 17592186044416) :
    Calls Tryd.prog 110 #[v] W fun e w' => ∃ u, e = .returned (.tuple #[u, .int .i64 (codesR l).2]) ∧ w'.ownsRow W.heap.size 3 1 u (codesR l).1.length (iVs (codesR l).1) ∧ Below W.heap.size W w' := by
  have HW := Lib.hid (refWeight_any W v l hs hl)
  obtain ⟨ao, c, rfl, hao⟩ := hs.shape
  have HS : Aside (SrcI W (.slice ao l.length c) l) := hs
  have HL : Aside (0 < l.length → ∃ a, ao = some a) := hao
  clear hs hao
  by_cases hf : (weightR l).2 = true
  · have hfine := (fine_iff l).1 hf
    have HF : Aside (Fine l) := hfine
    have hr2 : (codesR l).2 = 0 := by unfold codesR; rw [if_pos hf]
    rw [hr2]
    have hn := hfine.n
    obtain ⟨vm, W1, hm1, hm2, hm3, g, hg⟩ := makeI_any W l.length (by omega)
    subst hg
    rw [← outAt_start] at hm2
    obtain ⟨sw, hsw⟩ : ∃ x, x = (weightR l).1 := ⟨_, rfl⟩
    rw [← hsw, hf] at HW
    have hHM : W1.ownsRow W.heap.size 3 1 (.slice (some ⟨g, 0, none⟩) l.length l.length) l.length (iVs (outAt l 1 0)) ∧ Below W.heap.size W W1 ∧ W.heap.size ≤ g ∧ g < W1.heap.size := by
      obtain ⟨g', e1, e2, e3⟩ := own_block hm2
      cases e1
      exact ⟨hm2, hm3, e2, e3⟩
    have HG : Aside (W.heap.size ≤ g) := hHM.2.2.1
    have h0 : Aside (W1.ownsRow W.heap.size 3 1 (.slice (some ⟨g, 0, none⟩) l.length l.length) l.length (iVs (outAt l 1 0)) ∧ Below W.heap.size W W1 ∧ W.heap.size ≤ W1.heap.size) := ⟨hHM.1, hHM.2.1, hHM.2.1.size⟩
    clear hm2 hm3 hfine hsw hf hHM
    go_enter Tryd.func110, Tryd.ntmps110
    go_wp2_with (first
      | (go_at_call 111; refine HW.out.mono ?_; rintro e w2 ⟨nn, rfl, -, rfl⟩))
    clear HW hm1
    go_loopg [7, 8, 9] 16 (fun kx s7 s8 s9 wr => ∃ (n code last : Nat), s9 = .int .i64 n ∧ s7 = .int .i64 code ∧ s8 = .int .i64 last ∧ 1 ≤ n ∧ n ≤ 16 ∧ 16 - n ≤ kx ∧ Aside (St l n 0 code last ∧ wr.ownsRow W.heap.size 3 1 (.slice (some ⟨g, 0, none⟩) l.length l.length) l.length (iVs (outAt l n 0)) ∧ Below W.heap.size W wr ∧ W.heap.size ≤ wr.heap.size))
    case atStart => exact ⟨1, 0, 0, rfl, rfl, rfl, Nat.le_refl _, by omega, by omega, St.start l, h0.out.1, h0.out.2.1, h0.out.2.2⟩
    case round =>
      clear h0
      obtain ⟨n, code, last, rfl, rfl, rfl, hn1, hn16, hkx, HR⟩ := hrel
      by_cases hlt : n ≤ 15
      · have hltz : (n : Int) ≤ 15 := by omega
        have wn : IntKind.i64.wrap ((n : Int) + 1) = (n : Int) + 1 := by rw [IntKind.wrap_i64]; omega
        obtain ⟨wo, hwo⟩ : ∃ wo, wo = wr := ⟨_, rfl⟩
        rw [← hwo] at HR ⊢
        clear hwo
        go_upto_region 11 with fail
        go_loopg [7, 8, 10] l.length (fun kx s7 s8 s10 wi => ∃ (i cd la : Nat), s10 = .int .i64 i ∧ s7 = .int .i64 cd ∧ s8 = .int .i64 la ∧ i ≤ l.length ∧ l.length - i ≤ kx ∧ Aside (St l n i cd la ∧ wi.ownsRow W.heap.size 3 1 (.slice (some ⟨g, 0, none⟩) l.length l.length) l.length (iVs (outAt l n i)) ∧ Below W.heap.size W wi ∧ W.heap.size ≤ wi.heap.size))
        case atStart => exact ⟨0, code, last, rfl, rfl, rfl, Nat.zero_le _, Nat.le_refl _, HR.out⟩
        case round =>
          clear HR
          obtain ⟨i, cd, la, rfl, rfl, rfl, hi, hki, HR⟩ := hrel
          by_cases hit : i < l.length
          · have hitz : (i : Int) < (l.length : Int) := by omega
            obtain ⟨a, rfl⟩ := HL.out (by omega)
            obtain ⟨q1, q2, q3, q4⟩ := HR.out
            have hlen := HF.out.len hit
            obtain ⟨m, hm⟩ : ∃ m, m = lenN l i := ⟨_, rfl⟩
            have hc : wr.cell? (a.add i) = some (.int .i64 (m : Int)) := by
              rw [hm, hlen.1, numAt_eq l i hit]
              exact srci_cell (HS.out.below q3) i hit
            have hm15 : m ≤ 15 := by rw [hm]; exact hlen.2
            have wi1 : IntKind.i64.wrap ((i : Int) + 1) = (i : Int) + 1 := by rw [IntKind.wrap_i64]; omega
            by_cases hmn : m = n
            · have hst := q1.step hit hn1 hlt (by rw [← hm]; exact hmn)
              have hbd := q1.bound HF.out
              have hc32 := code_32 HF.out hit
              have hos := outAt_step l n i (by rw [← hm]; exact hmn)
              obtain ⟨cc, ff⟩ := own_cellI q2 i (by rw [outAt_len]; exact hit)
              obtain ⟨old, hold⟩ : ∃ old : Int, wr.cell? ⟨g, i, none⟩ = some (.int .i64 old) := ⟨_, cc⟩
              obtain ⟨cx, hcx⟩ : ∃ cx, cx = codeL l i := ⟨_, rfl⟩
              rw [← hcx] at hst hc32 hos
              have hss : Only (fun k => k = g) wr (wr.setCell ⟨g, i, none⟩ (.int .i64 (cx : Int))) := Only.setCell (S := fun k => k = g) rfl _ _
              have HE : Aside (St l n (i + 1) cx n ∧ (wr.setCell ⟨g, i, none⟩ (.int .i64 (cx : Int))).ownsRow W.heap.size 3 1 (.slice (some ⟨g, 0, none⟩) l.length l.length) l.length (iVs (outAt l n (i + 1))) ∧ Below W.heap.size W (wr.setCell ⟨g, i, none⟩ (.int .i64 (cx : Int))) ∧ W.heap.size ≤ (wr.setCell ⟨g, i, none⟩ (.int .i64 (cx : Int))).heap.size) := by
                refine ⟨hst.2.2, ?_, q3.trans (hss.below q4 (fun k hk => by rw [hk]; exact HG.out)), Nat.le_trans q4 hss.size⟩
                rw [hos]
                exact own_setI q2 i _
              subst hmn
              have hla := hbd.2
              have hcb := hbd.1
              clear cc hcx hm hos hss hlen q1 q2 q3 q4 HR hbd
              by_cases hla0 : la = 0
              · have hcd := hst.1 hla0
                subst hla0 hcd
                clear hst
                go_wp2_with fail
                go_roundg (l.length - (i + 1))
                case measure => omega
                case rel => exact ⟨i + 1, cd, m, by go_num, by go_num, by go_num, by omega, Nat.le_refl _, HE.out⟩
              · have hlap : 0 < la := by omega
                have hlaz : (0 : Int) < (la : Int) := by omega
                have hlaz2 : (la : Int) > 0 := by omega
                have hcd := hst.2.1 hlap
                obtain ⟨d, hd⟩ : ∃ d, d = m - la := ⟨_, rfl⟩
                rw [← hd] at hcd
                have zd : (m : Int) - (la : Int) = (d : Int) := by omega
                have wd : IntKind.i64.wrap ((m : Int) - (la : Int)) = (d : Int) := by rw [IntKind.wrap_i64]; omega
                have wd2 : IntKind.u64.wrap (d : Int) = (d : Int) := by rw [IntKind.wrap_u64]; omega
                have wd3 : IntKind.i64.wrap (d : Int) = (d : Int) := by rw [IntKind.wrap_i64]; omega
                have wc : IntKind.i64.wrap ((cd : Int) + 1) = (cd : Int) + 1 := by rw [IntKind.wrap_i64]; omega
                have zc : ((cd : Int) + 1) * 2 ^ d = (cx : Int) := by rw [← hcd, Int.natCast_mul, Int.natCast_pow]; rfl
                have wx : IntKind.i64.wrap (cx : Int) = (cx : Int) := by rw [IntKind.wrap_i64]; omega
                clear hst hd hcd
                go_wp2_with fail
                go_roundg (l.length - (i + 1))
                case measure => omega
                case rel => exact ⟨i + 1, cx, m, by go_num, by go_num, by go_num, by omega, Nat.le_refl _, HE.out⟩
            · have hmz : ¬ (m : Int) = (n : Int) := by omega
              have hmb : ((m : Int) != (n : Int)) = true := by rw [bne_iff_ne]; exact hmz
              have hmc : (m != n) = true := by rw [bne_iff_ne]; exact hmn
              have HE : Aside (St l n (i + 1) cd la ∧ wr.ownsRow W.heap.size 3 1 (.slice (some ⟨g, 0, none⟩) l.length l.length) l.length (iVs (outAt l n (i + 1))) ∧ Below W.heap.size W wr ∧ W.heap.size ≤ wr.heap.size) := by
                refine ⟨q1.skip hit (by rw [← hm]; exact hmn), ?_, q3, q4⟩
                rw [outAt_skip l n i (by rw [← hm]; exact hmn)]
                exact q2
              clear hm hlen q1 q2 q3 q4 HR
              go_wp2_with fail
              go_roundg (l.length - (i + 1))
              case measure => omega
              case rel => exact ⟨i + 1, cd, la, by go_num, by go_num, by go_num, by omega, Nat.le_refl _, HE.out⟩
          · obtain rfl : i = l.length := by omega
            have hitz : ¬ (l.length : Int) < (l.length : Int) := by omega
            go_wp2_with fail
            go_roundg (16 - (n + 1))
            case measure => omega
            case rel =>
              obtain ⟨q1, q2, q3, q4⟩ := HR.out
              exact ⟨n + 1, cd, la, by go_num, by go_num, by go_num, by omega, by omega, Nat.le_refl _, q1.next, by rw [outAt_next]; exact q2, q3, q4⟩
      · obtain rfl : n = 16 := by omega
        have hltz : ¬ (16 : Int) ≤ 15 := by omega
        go_wp2_with fail
        go_ret2
        obtain ⟨q1, q2, q3, q4⟩ := HR.out
        refine ⟨_, rfl, ?_, q3⟩
        rw [← outAt_all HF.out, outAt_len]
        exact q2
  · have hf2 : (weightR l).2 = false := by simpa using hf
    have hcr : codesR l = ([], 30) := by unfold codesR; rw [if_neg hf]
    rw [hcr]
    rw [hf2] at HW
    generalize (weightR l).1 = sw at HW
    go_enter Tryd.func110, Tryd.ntmps110
    go_wp2_with (first
      | (go_at_call 111; refine HW.out.mono ?_; rintro e w2 ⟨nn, rfl, -, rfl⟩))
    go_ret2
    exact ⟨_, rfl, own_nilI _ _, Below.refl _ _⟩
end Go.Proofs.YtdgfhbeofidbnaaDoor.Huf
