/- A compressed stream in numbers: what is read, symbol by symbol, block by block; no memory. Package huff's Full. A stream that gives up by a panic: must, take, next, number, room. Rows of coins and pairs in memory: a count, and a slice of symbols; those that came in, and those of the call's own. -/
import Derived.Test.YthmbbpfgbpacnaaDoorPkHDecA
import Derived.Test.YthmbbpfgbpacnaaDoorPkLzJ
import Derived.Test.YthmbbpfgbpacnaaDoorPkSrtH
import Derived.Test.YthmbbpfgbpacnaaDoorPkLzA
import Derived.Test.YthmbbpfgbpacnaaDoorPkMemG
namespace Go.Proofs.YthmbbpfgbpacnaaDoor.Inf
open Go.Lib Go.Proofs.YthmbbpfgbpacnaaDoor.Mem Go.Proofs.YthmbbpfgbpacnaaDoor.Bit Go.Proofs.YthmbbpfgbpacnaaDoor.Huf Go.Proofs.YthmbbpfgbpacnaaDoor.Lz

/-- What was read, and the bit behind it; or an error. -/
inductive Rd (α : Type) where
  | ok (a : α) (t : Nat)
  | no (e : Nat)

/-- The order in which the lengths of the symbols of lengths are told. -/
def ordL : List Nat := [16, 17, 18, 0, 8, 7, 9, 6, 10, 5, 11, 4, 12, 3, 13, 2, 14, 1, 15]
/-- A symbol's base and how many bits behind it: of lengths, of distances. -/
def lnB (x : Nat) : Nat × Nat := ((lenB (x : Int)).1.toNat, (lenB (x : Int)).2.toNat)
def dsB (x : Nat) : Nat × Nat := ((distB (x : Int)).1.toNat, (distB (x : Int)).2.toNat)
/-- The fixed lengths. -/
def fixL : List Int := List.replicate 144 8 ++ List.replicate 112 9 ++ List.replicate 24 7 ++ List.replicate 8 8
def fixD : List Int := List.replicate 32 5
/-! What is behind the bits stays within them. -/
theorem lnB_spec : ∀ x : Fin 29, lenB ((x.val + 257 : Nat) : Int) = (((lnB (x.val + 257)).1 : Int), ((lnB (x.val + 257)).2 : Int)) ∧ 3 ≤ (lnB (x.val + 257)).1 ∧ (lnB (x.val + 257)).1 ≤ 258 ∧ (lnB (x.val + 257)).2 ≤ 5 := by decide +kernel
theorem dsB_spec : ∀ x : Fin 30, distB ((x.val : Nat) : Int) = (((dsB x.val).1 : Int), ((dsB x.val).2 : Int)) ∧ 1 ≤ (dsB x.val).1 ∧ (dsB x.val).1 ≤ 24577 ∧ (dsB x.val).2 ≤ 13 := by decide +kernel
theorem lnB_at {x : Nat} (h1 : 257 ≤ x) (h2 : x ≤ 285) : lenB (x : Int) = (((lnB x).1 : Int), ((lnB x).2 : Int)) ∧ 3 ≤ (lnB x).1 ∧ (lnB x).1 ≤ 258 ∧ (lnB x).2 ≤ 5 := by
  have := lnB_spec ⟨x - 257, by omega⟩
  simp only [show x - 257 + 257 = x by omega] at this
  exact this
theorem dsB_at {x : Nat} (h2 : x ≤ 29) : distB (x : Int) = (((dsB x).1 : Int), ((dsB x).2 : Int)) ∧ 1 ≤ (dsB x).1 ∧ (dsB x).1 ≤ 24577 ∧ (dsB x).2 ≤ 13 := dsB_spec ⟨x, by omega⟩
end Go.Proofs.YthmbbpfgbpacnaaDoor.Inf
namespace Go.Proofs.YthmbbpfgbpacnaaDoor.Huf
open Go.RowKit Go.Shelf Go.Lib Go.Proofs.YthmbbpfgbpacnaaDoor.Mem

end Go.Proofs.YthmbbpfgbpacnaaDoor.Huf
namespace Go.Proofs.YthmbbpfgbpacnaaDoor.Inf
open Go.RowKit Go.Shelf Go.Lib Go.Proofs.YthmbbpfgbpacnaaDoor.Mem Go.Proofs.YthmbbpfgbpacnaaDoor.Bit Go.Proofs.YthmbbpfgbpacnaaDoor.Huf Go.Proofs.YthmbbpfgbpacnaaDoor.Lz

/-- What a stream gives up with. -/
def pan (e : Nat) : List PanicEntry := [{ v := .iface 24 (.int .i64 (e : Int)), recovered := false }]
/-- How a call ends that reads, or gives up. -/
def Fin {α : Type} (p : Rd α) (f : α → Value) (G : α → Nat → World → Prop) (H : World → Prop) (e : Ending) (w' : World) : Prop :=
  match p with
  | .ok a u => e = .returned (f a) ∧ G a u w'
  | .no c => e = .panicked (pan c) ∧ H w'
end Go.Proofs.YthmbbpfgbpacnaaDoor.Inf
namespace Go.Proofs.YthmbbpfgbpacnaaDoor.Huf
open Go.RowKit Go.Shelf Go.Lib Go.Proofs.YthmbbpfgbpacnaaDoor.Mem

/-- 'append(v, x...)' of whatever elements: the row is the old one, or a new one. -/
theorem app_gen {T e : TypeId} {size bytes : Nat} {zero : Value} (hU : Tryd.prog.underlying T = some (.slice e)) (hinfo : (Tryd.prog.info? e).map (fun i => (i.zero, i.size, i.bytes)) = some (some zero, size, bytes)) (hz : zero.cells.size = size) (hpos : 0 < size)
    (W : World) (base : Nat) (v x : Value) (ty : TypeId) (n m : Nat) (xs ys : List Value) (hown : W.ownsRow base e size v n xs) (hbase : base ≤ W.heap.size)
    (hsrc : (x = .slice none 0 0 ∧ ys = [] ∧ m = 0) ∨ ∃ a c, x = .slice (some a) m c ∧ ys.length = m * size ∧ ∀ j u, ys[j]? = some u → W.cell? (a.add j) = some u) (hone : ∀ u ∈ ys, u.oneCell' = true) (hlim : (n + m) * bytes ≤ 140737488355328) (hnm : n + m ≤ 140737488355328) :
    ∃ v' W', (Builtin.append_ #[T, T] ty #[v, x]).run Tryd.prog W = .ok v' W' ∧ W'.ownsRow base e size v' (n + m) (xs ++ ys) ∧ W.grownBy W' v.ownBlock ∧ (v'.ownBlock = v.ownBlock ∨ ∀ k, v'.ownBlock = some k → W.heap.size ≤ k) := by
  obtain ⟨i0, hi, hz0, hz1, hz2⟩ := info_parts hinfo
  rcases hsrc with ⟨rfl, rfl, rfl⟩ | ⟨a, c, rfl, hl1, hc⟩
  · rw [List.append_nil]
    exact ⟨v, W, run_append_owned_none (P := Tryd.prog) (w := W) base T ty e i0 size hU hi v _ _ hown, hown, ⟨rfl, rfl, rfl, Nat.le_refl _, fun _ _ _ => rfl⟩, .inl rfl⟩
  · have h63 : n + m ≤ maxLen := by unfold maxLen; omega
    have run : ∀ b, b ≤ W.heap.size → W.ownsRow b e size v n xs → ∃ v' W', (Builtin.append_ #[T, T] ty #[v, .slice (some a) m c]).run Tryd.prog W = .ok v' W' ∧ W'.ownsRow b e size v' (n + m) (xs ++ ys) ∧ W.grownBy W' v.ownBlock := fun b hb ho => by
      obtain ⟨v', W', q1, q2, q3, _⟩ := run_append_own (P := Tryd.prog) W b T ty e i0 zero size bytes hU hi hz0 hz1 hz2 hz hpos v _ _ ho a m c ys hl1 hc hone h63 hlim hb
      exact ⟨v', W', q1, q2, q3⟩
    obtain ⟨v', W', hr, ho, hg⟩ := run base hbase hown
    refine ⟨v', W', hr, ho, hg, ?_⟩
    rcases hown.2 with ⟨rfl, h0⟩ | ⟨g, cap, cur, rfl, hbg, hgg, hnc, hcm, hcs, htk⟩
    · obtain ⟨v2, W2, hr2, ho2, _⟩ := run W.heap.size (Nat.le_refl _) ⟨hown.1, .inl ⟨rfl, h0⟩⟩
      rw [hr] at hr2
      injection hr2 with e1 e2
      subst e1
      exact .inr fun k hk => (ho2.lt k hk).1
    · by_cases hroom : n + m ≤ cap
      · have hr2 := run_append_room (P := Tryd.prog) W T ty e i0 hU hi g n cap cur hgg a m c ys (by rw [hz1]; exact hl1) hc hone hroom (by rw [hz1, hl1, hcs, ← Nat.add_mul]; exact Nat.mul_le_mul_right _ hroom)
        rw [hr] at hr2
        injection hr2 with e1 e2
        subst e1
        exact .inl rfl
      · have hr2 := run_append_grow (P := Tryd.prog) W T ty e i0 zero hU hi hz0 ⟨g, 0, none⟩ n cap xs (by rw [hz1]; exact hown.1) (hown.cells (g := g) rfl) a m c ys (by rw [hz1]; exact hl1) hc (by omega) (by unfold maxLen at h63; omega) (by rw [hz2]; exact growslice_fits (by omega) hlim)
        rw [hr] at hr2
        injection hr2 with e1 e2
        subst e1
        exact .inr fun k hk => by simp [Value.ownBlock] at hk; omega

/-- An append whose run is known, as a step of a region that draws. -/
theorem step_append_run {P : Program} {ops : Array Oper} {o : Oper} {a : Act} {w : World} {K : Act → World → Prop} {Q : Exit → Act → World → Prop} {E : Prop}
    (hg : o.guard = none) (s x : Operand) (t tn : TypeId) (ho : o.op = .call { callee := .builtin .append, args := #[s, x], argTypes := #[t, tn] }) (vs vx : Value) (hs : a.eval s = vs) (hx : a.eval x = vx)
    (v' : Value) (w' : World) (hr : (Builtin.append_ #[t, tn] o.type #[vs, vx]).run P w = .ok v' w') (hK : K (a.put o.dst v') w') : if Region.wanted o (yielded ops a.tmps) = true then Oper.wp P o a w K Q else E := by
  have hw : Region.wanted o (yielded ops a.tmps) = true := by simp [Region.wanted, hg]
  rw [if_pos hw]
  exact Lib.wp_append_run w s x t tn ho vs vx hs hx v' w' hr hK

/-- A coin or a pair, as it lies. -/
structure ItV where
  n : Nat
  s : List Nat
  ba : Option Addr
  bc : Nat
def ItV.item (x : ItV) : Nat × List Nat := (x.n, x.s)
def ItV.sl (x : ItV) : Value := .slice x.ba x.s.length x.bc
def itCells (x : ItV) : List Value := [.int .i64 (x.n : Int), x.sl]
def itsCells (xs : List ItV) : List Value := xs.flatMap itCells
theorem itsCells_len (xs : List ItV) : (itsCells xs).length = xs.length * 2 := by
  induction xs with
  | nil => rfl
  | cons x xs ih => unfold itsCells at *; rw [List.flatMap_cons, List.length_append, ih, List.length_cons]; simp [itCells]; omega
theorem itsCells_append (xs ys : List ItV) : itsCells (xs ++ ys) = itsCells xs ++ itsCells ys := by simp [itsCells]
theorem itsCells_at (xs : List ItV) : ∀ (j : Nat) (x : ItV) (i : Nat), xs[j]? = some x → i < 2 → (itsCells xs)[j * 2 + i]? = (itCells x)[i]? := by
  induction xs with
  | nil => intro j x i h _; simp at h
  | cons y xs ih =>
    intro j x i h hi
    unfold itsCells at *
    rw [List.flatMap_cons]
    have hx : (itCells y).length = 2 := rfl
    cases j with
    | zero =>
      obtain rfl : y = x := by simpa using h
      rw [List.getElem?_append_left (by omega), Nat.zero_mul, Nat.zero_add]
    | succ j =>
      rw [List.getElem?_append_right (by omega), hx, show (j + 1) * 2 + i - 2 = j * 2 + i by omega]
      exact ih j x i (by simpa using h) hi
theorem itsCells_one (xs : List ItV) : ∀ u ∈ itsCells xs, u.oneCell' = true := by
  intro u hu
  unfold itsCells at hu
  obtain ⟨x, _, hx⟩ := List.mem_flatMap.1 hu
  simp only [itCells, ItV.sl, List.mem_cons, List.not_mem_nil, or_false] at hx
  rcases hx with rfl | rfl <;> rfl
def natI (l : List Nat) : List Int := l.map Int.ofNat
theorem natI_len (l : List Nat) : (natI l).length = l.length := List.length_map ..
theorem natI_append (l m : List Nat) : natI (l ++ m) = natI l ++ natI m := List.map_append

/-- What an item's slice holds. -/
def ItS (W : World) (x : ItV) : Prop := SrcI W x.sl (natI x.s) ∧ 0 < x.s.length
theorem ItS.below {W W' : World} {x : ItV} (h : ItS W x) (hb : Below W.heap.size W W') : ItS W' x := ⟨h.1.below hb, h.2⟩
theorem ItS.lt {W : World} {x : ItV} (h : ItS W x) {a : Addr} (ha : x.ba = some a) : a.block < W.heap.size := by
  have h1 := h.1
  unfold ItV.sl at h1
  rw [ha] at h1
  exact h1.lt (by rw [natI_len]; exact h.2)
theorem ItS.only {S : Nat → Prop} {W W' : World} {x : ItV} (h : ItS W x) (ho : Only S W W') (hx : ∀ a, x.ba = some a → ¬ S a.block) : ItS W' x :=
  ⟨h.1.only ho (fun a n c e => by
    unfold ItV.sl at e
    injection e with e1 _ _
    exact hx a e1), h.2⟩

/-- A row of items that came in. -/
structure SrcIt (W : World) (v : Value) (xs : List ItV) : Prop where
  sh : ∃ ao c, v = .slice ao xs.length c ∧ xs.length ≤ c ∧ (ao = none → c = 0) ∧ ∀ a, ao = some a → ∀ j u, (itsCells xs)[j]? = some u → W.cell? (a.add j) = some u
  its : ∀ x ∈ xs, ItS W x
theorem SrcIt.below {W W' : World} {v : Value} {xs : List ItV} (h : SrcIt W v xs) (hb : Below W.heap.size W W') : SrcIt W' v xs := by
  obtain ⟨ao, c, h1, h2, h3, h4⟩ := h.sh
  exact ⟨⟨ao, c, h1, h2, h3, fun a ha j u hu => (hb.cell (block_lt_of_cell (h4 a ha j u hu))).trans (h4 a ha j u hu)⟩, fun x hx => (h.its x hx).below hb⟩
/-- .. of the call's own. -/
structure OwnIt (e : TypeId) (W : World) (B : Nat) (v : Value) (xs : List ItV) : Prop where
  row : W.ownsRow B e 2 v xs.length (itsCells xs)
  its : ∀ x ∈ xs, ItS W x
  sep : ∀ x ∈ xs, ∀ a, x.ba = some a → v.ownBlock ≠ some a.block
theorem OwnIt.nil (e : TypeId) (W : World) (B : Nat) : OwnIt e W B (.slice none 0 0) [] := ⟨⟨rfl, .inl ⟨rfl, rfl⟩⟩, fun x hx => (by cases hx), fun x hx => (by cases hx)⟩
theorem OwnIt.src {e : TypeId} {W : World} {B : Nat} {v : Value} {xs : List ItV} (h : OwnIt e W B v xs) : SrcIt W v xs := by
  refine ⟨?_, h.its⟩
  rcases h.row.2 with ⟨hv, h0⟩ | ⟨g, cap, cur, hv, hg, hh, hnc, hcm, hcs, htk⟩
  · exact ⟨none, 0, by rw [hv, h0], by omega, fun _ => rfl, fun a ha => by cases ha⟩
  · exact ⟨some ⟨g, 0, none⟩, cap, hv, hnc, fun q => (by cases q), fun a ha j u hu => by cases ha; exact h.row.cells (g := g) (by rw [hv]; rfl) j u hu⟩
theorem OwnIt.below {e : TypeId} {W W' : World} {B : Nat} {v : Value} {xs : List ItV} (h : OwnIt e W B v xs) (hb : Below W.heap.size W W') : OwnIt e W' B v xs :=
  ⟨own_below h.row hb, fun x hx => (h.its x hx).below hb, h.sep⟩

section
variable {T e : TypeId} (hU : Tryd.prog.underlying T = some (.slice e)) (hinfo : (Tryd.prog.info? e).map (fun i => (i.zero, i.size, i.bytes)) = some (some (.agg #[.int .i64 0, .slice none 0 0]), 2, 32))
include hU hinfo
/-- 'append(row, item)': as the call lays the one item. -/
theorem OwnIt.push {W : World} {B : Nat} {v : Value} {xs : List ItV} (h : OwnIt e W B v xs) (hB : B ≤ W.heap.size) (x : ItV) (hx : ItS W x) (hsep : ∀ a, x.ba = some a → v.ownBlock ≠ some a.block) (hlim : xs.length + 1 ≤ 1048576) :
    ∃ v' W', (Builtin.append_ #[T, T] T #[v, .slice (some ⟨W.heap.size, 0, none⟩) 1 1]).run Tryd.prog (W.alloc (.cells #[.int .i64 (x.n : Int), .slice x.ba x.s.length x.bc] e)) = .ok v' W' ∧ OwnIt e W' B v' (xs ++ [x]) ∧ Below B W W' ∧ B ≤ W'.heap.size ∧ Only (fun k => v.ownBlock = some k) W W' ∧ (v'.ownBlock = v.ownBlock ∨ ∀ k, v'.ownBlock = some k → W.heap.size ≤ k) := by
  have hA := (Below.refl W.heap.size W).alloc (Nat.le_refl _) (.cells #[.int .i64 (x.n : Int), .slice x.ba x.s.length x.bc] e)
  have hrow := own_below h.row hA
  have hnews : ∀ j u, (itCells x)[j]? = some u → (W.alloc (.cells #[.int .i64 (x.n : Int), .slice x.ba x.s.length x.bc] e)).cell? ((⟨W.heap.size, 0, none⟩ : Addr).add j) = some u := fun j u hj => by
    rw [Lib.addr_add, cell_of_row _ _ _ _ _ (0, 0) (heap_alloc_new _ _), Nat.zero_add]
    simpa [itCells, ItV.sl] using hj
  obtain ⟨v', W', h1, h2, h3, h4⟩ := app_gen hU hinfo rfl (by decide) _ B v (.slice (some ⟨W.heap.size, 0, none⟩) 1 1) T xs.length 1 (itsCells xs) (itCells x) hrow (Nat.le_trans hB hA.size) (.inr ⟨_, 1, rfl, rfl, hnews⟩)
    (by intro u hu; exact itsCells_one [x] u (by unfold itsCells; rw [List.flatMap_cons]; exact List.mem_append_left _ hu)) (by omega) (by omega)
  have hbW := bel_grown hrow h3 (Nat.le_trans hB hA.size) (Nat.le_refl B)
  have ho : Only (fun k => v.ownBlock = some k) W W' := (Only.of_below hA).trans (only_grown h3 (fun k hk => hk)) (fun i hi => .inl hi)
  refine ⟨v', W', h1, ⟨?_, ?_, ?_⟩, (hA.mono hB).trans hbW, Nat.le_trans hB ho.size, ho, h4.imp id fun q k hk => Nat.le_trans hA.size (q k hk)⟩
  · rw [List.length_append, itsCells_append]
    have : itsCells [x] = itCells x := by unfold itsCells; rw [List.flatMap_cons, List.flatMap_nil, List.append_nil]
    rw [this]
    exact h2
  · intro y hy
    rcases List.mem_append.1 hy with hy | hy
    · exact (h.its y hy).only ho (fun a ha e => h.sep y hy a ha e)
    · rw [List.mem_singleton.1 hy]
      exact hx.only ho (fun a ha e => hsep a ha e)
  · intro y hy a ha hk
    have hlt : a.block < W.heap.size ∧ v.ownBlock ≠ some a.block := by
      rcases List.mem_append.1 hy with hy | hy
      · exact ⟨(h.its y hy).lt ha, h.sep y hy a ha⟩
      · rw [List.mem_singleton.1 hy] at ha
        exact ⟨hx.lt ha, hsep a ha⟩
    rcases h4 with q | q
    · exact hlt.2 (q.symm.trans hk)
    · have := Nat.le_trans hA.size (q _ hk)
      omega
/-- 'append(row, items...)'. -/
theorem OwnIt.pushAll {W : World} {B : Nat} {v y : Value} {xs ys : List ItV} (h : OwnIt e W B v xs) (hB : B ≤ W.heap.size) (hy : SrcIt W y ys) (hsep : ∀ x ∈ ys, ∀ a, x.ba = some a → v.ownBlock ≠ some a.block) (hlim : xs.length + ys.length ≤ 1048576) :
    ∃ v' W', (Builtin.append_ #[T, T] T #[v, y]).run Tryd.prog W = .ok v' W' ∧ OwnIt e W' B v' (xs ++ ys) ∧ Below B W W' ∧ B ≤ W'.heap.size := by
  obtain ⟨ao, c, rfl, hc1, hc2, hcell⟩ := hy.sh
  obtain ⟨v', W', h1, h2, h3, h4⟩ := app_gen hU hinfo rfl (by decide) W B v (.slice ao ys.length c) T xs.length ys.length (itsCells xs) (itsCells ys) h.row hB (by
    cases ao with
    | none =>
      have := hc2 rfl
      subst this
      obtain rfl : ys = [] := List.eq_nil_of_length_eq_zero (by omega)
      exact .inl ⟨rfl, rfl, rfl⟩
    | some a => exact .inr ⟨a, c, rfl, itsCells_len ys, hcell a rfl⟩) (itsCells_one ys) (by omega) (by omega)
  have ho : Only (fun k => v.ownBlock = some k) W W' := only_grown h3 (fun k hk => hk)
  refine ⟨v', W', h1, ⟨?_, ?_, ?_⟩, bel_grown h.row h3 hB (Nat.le_refl B), Nat.le_trans hB ho.size⟩
  · rw [List.length_append, itsCells_append]
    exact h2
  · intro x hx
    rcases List.mem_append.1 hx with hx | hx
    · exact (h.its x hx).only ho (fun a ha e => h.sep x hx a ha e)
    · exact (hy.its x hx).only ho (fun a ha e => hsep x hx a ha e)
  · intro x hx a ha hk
    have hlt : a.block < W.heap.size ∧ v.ownBlock ≠ some a.block := by
      rcases List.mem_append.1 hx with hx | hx
      · exact ⟨(h.its x hx).lt ha, h.sep x hx a ha⟩
      · exact ⟨(hy.its x hx).lt ha, hsep x hx a ha⟩
    rcases h4 with q | q
    · exact hlt.2 (q.symm.trans hk)
    · have := q _ hk
      omega
end
/-- The cells of the j-th item. -/
theorem SrcIt.at {W : World} {v : Value} {xs : List ItV} (h : SrcIt W v xs) (j : Nat) (hj : j < xs.length) : ∃ a c, v = .slice (some a) xs.length c ∧ xs.length ≤ c ∧ W.cell? (a.add (j * 2)) = some (.int .i64 ((xs[j]).n : Int)) ∧ W.cell? (a.add (j * 2 + 1)) = some (xs[j]).sl := by
  obtain ⟨ao, c, rfl, h1, h2, h3⟩ := h.sh
  cases ao with
  | none => have := h2 rfl; omega
  | some a =>
    refine ⟨a, c, rfl, h1, h3 a rfl _ _ ?_, h3 a rfl _ _ ?_⟩
    · have := itsCells_at xs j _ 0 (List.getElem?_eq_getElem hj) (by decide)
      exact this
    · exact itsCells_at xs j _ 1 (List.getElem?_eq_getElem hj) (by decide)
/-- The rest of a row, wherever it begins. -/
theorem SrcIt.drop {W : World} {a : Addr} {c : Nat} {xs : List ItV} (n : Nat) (h : SrcIt W (.slice (some a) xs.length c) xs) (hn : n ≤ xs.length) (q : Addr) (c2 : Nat) (hc2 : xs.length - n ≤ c2) (hq : n < xs.length → q = a.add (n * 2)) : SrcIt W (.slice (some q) (xs.length - n) c2) (xs.drop n) := by
  obtain ⟨ao, c', e, h1, h2, h3⟩ := h.sh
  cases e
  refine ⟨⟨some q, c2, by rw [List.length_drop], by rw [List.length_drop]; exact hc2, fun g => (by cases g), fun a' ha j u hu => ?_⟩, fun x hx => h.its x (List.mem_of_mem_drop hx)⟩
  cases ha
  have hsplit : itsCells xs = itsCells (xs.take n) ++ itsCells (xs.drop n) := by rw [← itsCells_append, List.take_append_drop]
  have hjl := (List.getElem?_eq_some_iff.1 hu).1
  rw [itsCells_len, List.length_drop] at hjl
  have hlt : (itsCells (xs.take n)).length = n * 2 := by rw [itsCells_len, List.length_take, Nat.min_eq_left hn]
  rw [hq (by omega), Deep.add_add]
  refine h3 a rfl (n * 2 + j) u ?_
  rw [hsplit, List.getElem?_append_right (by omega), hlt, Nat.add_sub_cancel_left]
  exact hu
end Go.Proofs.YthmbbpfgbpacnaaDoor.Huf
