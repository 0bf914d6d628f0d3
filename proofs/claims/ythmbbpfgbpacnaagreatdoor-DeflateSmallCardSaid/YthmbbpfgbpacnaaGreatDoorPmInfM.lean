/- Rows of blocks; what a stream has read so far. Block by block: read. -/
import Derived.Test.YthmbbpfgbpacnaaGreatDoorPmInfK
namespace Go.Proofs.YthmbbpfgbpacnaaGreatDoor.Inf
open Go.RowKit Go.Shelf Go.Lib Mem Bit Huf Lz
def blCells (bl : List (Nat × Nat)) : List Value := bl.flatMap (fun p => [.int .i64 (p.1 : Int), .int .i64 (p.2 : Int)])
theorem blCells_len (bl : List (Nat × Nat)) : (blCells bl).length = bl.length * 2 := by
 induction bl with
 | nil => rfl
 | cons p bl ih => unfold blCells at *; rw [List.flatMap_cons, List.length_append, ih, List.length_cons]; simp only [List.length_cons, List.length_nil]; omega
theorem blCells_append (x y : List (Nat × Nat)) : blCells (x ++ y) = blCells x ++ blCells y := List.flatMap_append
theorem blCells_one (bl : List (Nat × Nat)) : ∀ u ∈ blCells bl, u.oneCell' = true := by
 intro u hu
 unfold blCells at hu
 obtain ⟨x, _, hx⟩ := List.mem_flatMap.1 hu
 simp only [List.mem_cons, List.not_mem_nil, or_false] at hx
 rcases hx with rfl | rfl <;> rfl
theorem blCells_single (p : Nat × Nat) : blCells [p] = [.int .i64 (p.1 : Int), .int .i64 (p.2 : Int)] := by unfold blCells; rw [List.flatMap_cons, List.flatMap_nil, List.append_nil]
theorem blCells_at (xs : List (Nat × Nat)) : ∀ (j : Nat) (x : Nat × Nat) (i : Nat), xs[j]? = some x -> i < 2 -> (blCells xs)[j * 2 + i]? = ([.int .i64 (x.1 : Int), .int .i64 (x.2 : Int)] : List Value)[i]? := by
 induction xs with
 | nil => intro j x i h; simp at h
 | cons y ys ih =>
  intro j x i h hi
  unfold blCells at *
  rw [List.flatMap_cons]
  have hx : ([.int .i64 (y.1 : Int), .int .i64 (y.2 : Int)] : List Value).length = 2 := rfl
  cases j with
  | zero =>
   obtain rfl : y = x := by simpa using h
   rw [List.getElem?_append_left (by omega), Nat.zero_mul, Nat.zero_add]
  | succ j =>
   rw [List.getElem?_append_right (by omega), hx, show (j + 1) * 2 + i - 2 = j * 2 + i by omega]
   exact ih j x i (by simpa using h) hi
theorem info_bl : (Tryz.prog.info? 54).map (fun i => (i.zero, i.size, i.bytes)) = some (some (.agg #[.int .i64 0, .int .i64 0]), 2, 16) := by kernel_rfl
section
variable {T e : TypeId} (hU : Tryz.prog.underlying T = some (.slice e)) (hinfo : (Tryz.prog.info? e).map (fun i => (i.zero, i.size, i.bytes)) = some (some (.agg #[.int .i64 0, .int .i64 0]), 2, 16))
include hU hinfo
theorem push_bl (W : World) (B : Nat) (v : Value) (xs : List (Nat × Nat)) (p : Nat × Nat) (h : W.ownsRow B e 2 v xs.length (blCells xs)) (hB : B <= W.heap.size) (hlim : (xs.length + 1) * 16 <= 140737488355328) :
  ∃ v' W', (Builtin.append_ #[T, T] T #[v, .slice (some ⟨W.heap.size, 0, none⟩) 1 1]).run Tryz.prog (W.alloc (.cells #[.int .i64 (p.1 : Int), .int .i64 (p.2 : Int)] e)) = .ok v' W' /\ W'.ownsRow B e 2 v' (xs ++ [p]).length (blCells (xs ++ [p])) /\ Below B W W' /\ Only (fun k => v.ownBlock = some k) W W' /\ (v'.ownBlock = v.ownBlock \/ ∀ k, v'.ownBlock = some k -> W.heap.size <= k) := by
 have hA := (Below.refl W.heap.size W).alloc (Nat.le_refl _) (.cells #[.int .i64 (p.1 : Int), .int .i64 (p.2 : Int)] e)
 have hrow := own_below h hA
 have hnews : ∀ j u, (blCells [p])[j]? = some u -> (W.alloc (.cells #[.int .i64 (p.1 : Int), .int .i64 (p.2 : Int)] e)).cell? ((⟨W.heap.size, 0, none⟩ : Addr).add j) = some u := fun j u hj => by
  rw [Lib.addr_add, cell_of_row _ _ _ _ _ (0, 0) (heap_alloc_new _ _), Nat.zero_add]
  rw [blCells_single] at hj
  simpa using hj
 obtain ⟨v', W', h1, h2, h3, h4⟩ := app_gen hU hinfo rfl (by decide) _ B v (.slice (some ⟨W.heap.size, 0, none⟩) 1 1) T xs.length 1 (blCells xs) (blCells [p]) hrow (Nat.le_trans hB hA.size) (.inr ⟨_, 1, rfl, by rw [blCells_len]; rfl, hnews⟩)
  (blCells_one [p]) (by omega) (by omega)
 have ho : Only (fun k => v.ownBlock = some k) W W' := (Only.of_below hA).trans (only_grown h3 (fun k hk => hk)) (fun i hi => .inl hi)
 refine ⟨v', W', h1, ?_, (hA.mono hB).trans (bel_grown hrow h3 (Nat.le_trans hB hA.size) (Nat.le_refl B)), ho, h4.imp id fun q k hk => Nat.le_trans hA.size (q k hk)⟩
 rw [List.length_append, blCells_append]
 exact h2
end
theorem copyP_ok {d : List Int} {bs : List UInt8} {x t : Nat} {fn : Nat × Nat} {u : Nat} (h : copyP d bs x t = .ok fn u) (hx : 257 <= x) : t < u /\ u <= 8 * bs.length /\ 1 <= fn.1 /\ 3 <= fn.2 /\ fn.2 <= 300 /\ fn.1 <= 40000 /\ x <= 285 := by
 unfold copyP at h
 split at h
 ·cases h
 ·rename_i hx2
  obtain ⟨-, l1, l2, l3⟩ := lnB_at (x := x) hx (by omega)
  split at h
  ·cases h
  ·rename_i a t2 ha
   obtain ⟨a1, a2, -, a3⟩ := takeP_ok ha
   split at h
   ·cases h
   ·rename_i y t3 hy
    obtain ⟨-, -, -, -, y1, y2⟩ := nextP_ok hy
    split at h
    ·cases h
    ·obtain ⟨-, d1, d2, d3⟩ := dsB_at (x := y) (by omega)
     split at h
     ·cases h
     ·rename_i b t4 hb
      obtain ⟨b1, b2, -, b3⟩ := takeP_ok hb
      simp only [Rd.ok.injEq] at h
      obtain ⟨rfl, rfl⟩ := h
      have e1 : 2 ^ (lnB x).2 <= 2 ^ 5 := Nat.pow_le_pow_right (by decide) l3
      have e2 : 2 ^ (dsB y).2 <= 2 ^ 13 := Nat.pow_le_pow_right (by decide) d3
      simp only
      omega
theorem symP_ok {l d : List Int} {bs : List UInt8} {m : Nat} : ∀ (f : Nat) (out : List UInt8) (t : Nat) (o : List UInt8) (u : Nat), symP l d bs m f out t = .ok o u -> out.length <= o.length /\ t < u /\ u <= 8 * bs.length
 | 0, _, _, _, _, h => by cases h
 | f + 1, out, t, o, u, h => by
  rw [symP_succ] at h
  split at h
  ·cases h
  ·rename_i x t1 hx
   obtain ⟨-, -, -, -, x1, x2⟩ := nextP_ok hx
   split at h
   ·split at h
    ·cases h
    ·obtain ⟨q1, q2, q3⟩ := symP_ok f _ _ _ _ h
     rw [List.length_append] at q1
     exact ⟨by omega, by omega, q3⟩
   ·split at h
    ·simp only [Rd.ok.injEq] at h
     obtain ⟨rfl, rfl⟩ := h
     exact ⟨Nat.le_refl _, x1, x2⟩
    ·split at h
     ·cases h
     ·rename_i fn t4 hc
      obtain ⟨c1, c2, -⟩ := copyP_ok hc (by omega)
      split at h
      ·cases h
      ·split at h
       ·cases h
       ·obtain ⟨q1, q2, q3⟩ := symP_ok f _ _ _ _ h
        rw [cpB_len] at q1
        exact ⟨by omega, by omega, q3⟩
theorem storP_ok {bs : List UInt8} {m : Nat} {out : List UInt8} {t : Nat} {o : List UInt8} {u : Nat} (h : storP bs m out t = .ok o u) : out.length <= o.length /\ t < u /\ u <= 8 * bs.length := by
 unfold storP at h
 split at h
 ·cases h
 ·rename_i n t1 hn
  obtain ⟨n1, n2, -, -⟩ := takeP_ok hn
  split at h
  ·cases h
  ·rename_i k t2 hk
   obtain ⟨k1, k2, -, -⟩ := takeP_ok hk
   split at h
   ·cases h
   ·split at h
    ·cases h
    ·split at h
     ·cases h
     ·simp only [Rd.ok.injEq] at h
      obtain ⟨rfl, rfl⟩ := h
      rw [List.length_append]
      omega
theorem lensP_ok {bs : List UInt8} {t : Nat} {rw_ : List Int × Nat} {u : Nat} (h : lensP bs t = .ok rw_ u) : t < u /\ u <= 8 * bs.length := by
 unfold lensP at h
 split at h
 ·cases h
 ·rename_i a t1 ha
  obtain ⟨a1, a2, -, -⟩ := takeP_ok ha
  split at h
  ·cases h
  ·rename_i b t2 hb
   obtain ⟨b1, b2, -, -⟩ := takeP_ok hb
   split at h
   ·cases h
   ·rename_i c t3 hc
    obtain ⟨c1, c2, -, -⟩ := takeP_ok hc
    split at h
    ·cases h
    ·split at h
     ·cases h
     ·rename_i told t4 ht
      obtain ⟨g1, g2, g3, g4⟩ := toldP_ok _ _ _ _ _ _ ht (fun z hz => by obtain ⟨_, rfl⟩ := List.mem_replicate.1 hz; omega) c2
      rw [List.length_replicate] at g1
      split at h
      ·cases h
      ·split at h
       ·cases h
       ·rename_i row t5 hr
        obtain ⟨r1, r2, r3, r4⟩ := rowP_ok (by omega) _ _ _ _ _ hr (fun z hz => by cases hz) (Nat.zero_le _) g4
        split at h
        ·cases h
        ·simp only [Rd.ok.injEq] at h
         obtain ⟨rfl, rfl⟩ := h
         omega
theorem bodyP_ok {F : Nat} {bs : List UInt8} {m k : Nat} {out : List UInt8} {t : Nat} {o : List UInt8} {u : Nat} (h : bodyP F bs m k out t = .ok o u) : out.length <= o.length /\ t < u /\ u <= 8 * bs.length := by
 unfold bodyP at h
 split at h
 ·exact storP_ok h
 ·split at h
  ·exact symP_ok _ _ _ _ _ h
  ·split at h
   ·split at h
    ·cases h
    ·rename_i rw_ v hl
     obtain ⟨l1, l2⟩ := lensP_ok hl
     obtain ⟨q1, q2, q3⟩ := symP_ok _ _ _ _ _ h
     exact ⟨q1, by omega, q3⟩
   ·cases h
end Go.Proofs.YthmbbpfgbpacnaaGreatDoor.Inf
namespace Go.Proofs.YthmbbpfgbpacnaaGreatDoor.Inf
open Go.RowKit Go.Shelf Go.Lib Mem Bit Huf Lz
def RSt (W : World) (B s r g x : Nat) (v vb kn : Value) (bs out : List UInt8) (bl : List (Nat × Nat)) (t m : Nat) : Prop :=
 ST W B s r g v vb kn bs out t m /\ KN W B s r g x kn /\ W.ownsRow B 54 2 vb bl.length (blCells bl) /\ (vb.ownBlock = none /\ x = s \/ vb.ownBlock = some x /\ x ≠ s /\ x ≠ r /\ x ≠ g /\ v.ownBlock ≠ some x)
theorem RSt.ltx {W : World} {B s r g x : Nat} {v vb kn : Value} {bs out : List UInt8} {bl : List (Nat × Nat)} {t m : Nat} (h : RSt W B s r g x v vb kn bs out bl t m) : x < W.heap.size := by
 obtain ⟨h1, _, h3, ⟨_, rfl⟩ | ⟨h4, _⟩⟩ := h
 ·exact h1.lt
 ·exact (h3.lt _ h4).2
theorem RSt.read {W W' : World} {B s r g x : Nat} {v vb kn : Value} {bs out : List UInt8} {bl : List (Nat × Nat)} {t u m : Nat} (h : RSt W B s r g x v vb kn bs out bl t m) (hr : RB W' B r v bs u) (o : Only (fun k => k = r) W W') : RSt W' B s r g x v vb kn bs out bl u m := by
 obtain ⟨h1, h2, h3, h4⟩ := h
 refine ⟨h1.read hr o, h2.step (.inl rfl) (.inl rfl) (o.mono (fun _ q => .inl (.inr (.inl q)))), own_only h3 o (fun k hk e => ?_), h4⟩
 rcases h4 with ⟨h4, _⟩ | ⟨h4, _, h5, _⟩
 ·rw [h4] at hk; cases hk
 ·rw [h4] at hk
  obtain rfl : x = k := by simpa using hk
  exact h5 e
theorem RSt.body {W W' : World} {B s r g x : Nat} {v vb kn : Value} {bs out o : List UInt8} {bl : List (Nat × Nat)} {t u m : Nat} (h : RSt W B s r g x v vb kn bs out bl t m) (hf : FStep W W' B s r g x v vb bs o u m) : ∃ g' kn', RSt W' B s r g' x v vb kn' bs o bl u m /\ (g' = g \/ W.heap.size <= g') /\ Only (fun k => k = s \/ k = r \/ k = g) W W' := by
 have hx := h.ltx
 obtain ⟨h1, h2, h3, h4⟩ := h
 obtain ⟨g', kn', q1, q2, q3, q4⟩ := hf
 refine ⟨g', kn', ⟨q1, q2, own_only h3 q4 (fun k hk e => ?_), ?_⟩, q3, q4⟩
 ·rcases h4 with ⟨h4, _⟩ | ⟨h4, h5, h6, h7, _⟩
  ·rw [h4] at hk; cases hk
  ·rw [h4] at hk
   obtain rfl : x = k := by simpa using hk
   rcases e with e | e | e
   ·exact h5 e
   ·exact h6 e
   ·exact h7 e
 ·rcases h4 with h4 | ⟨h4, h5, h6, h7, h8⟩
  ·exact .inl h4
  ·exact .inr ⟨h4, h5, h6, by rcases q3 with rfl | q3; exact h7; omega, h8⟩
theorem FStep.below {W W' : World} {B s r g x : Nat} {v vb kn : Value} {bs out o : List UInt8} {t u m : Nat} (h : ST W B s r g v vb kn bs out t m) (hf : FStep W W' B s r g x v vb bs o u m) : Below B W W' := by
 obtain ⟨g', kn', q1, q2, q3, q4⟩ := hf
 exact q4.below (Nat.le_trans h.les (Nat.le_of_lt h.lt)) h.zone
theorem rst_push {V U : World} {B s r g x : Nat} {v vb kn : Value} {bs o : List UInt8} {bl : List (Nat × Nat)} {u m : Nat} (h : RSt V B s r g x v vb kn bs o bl u m) (d : Drew V U) (p : Nat × Nat) (hl : bl.length <= 8388608) :
  ∃ ao cap ao' n' cap' W1, vb = .slice ao bl.length cap /\ (Builtin.append_ #[50, 50] 50 #[.slice ao bl.length cap, .slice (some ⟨U.heap.size, 0, none⟩) 1 1]).run Tryz.prog (U.alloc (.cells #[.int .i64 (p.1 : Int), .int .i64 (p.2 : Int)] 54)) = .ok (.slice ao' n' cap') W1 /\
   (U.alloc (.cells #[.int .i64 (p.1 : Int), .int .i64 (p.2 : Int)] 54)).cell? ⟨s, 4, none⟩ = some (.slice ao bl.length cap) /\ W1.cell? ⟨s, 4, none⟩ = some (.slice ao bl.length cap) /\ W1.frozen? ⟨s, 4, none⟩ = false /\
   ∃ x', RSt (W1.setCell ⟨s, 4, none⟩ (.slice ao' n' cap')) B s r g x' v (.slice ao' n' cap') kn bs o (bl ++ [p]) u m /\ Below B V (W1.setCell ⟨s, 4, none⟩ (.slice ao' n' cap')) /\ (x' = x \/ V.heap.size <= x') /\ Only (fun k => k = s \/ k = r \/ k = g \/ k = x) V (W1.setCell ⟨s, 4, none⟩ (.slice ao' n' cap')) := by
 have hx := h.ltx
 obtain ⟨h1, h2, h3, h4⟩ := h
 have hls := h1.lt
 have hlg := h1.ltg
 have hlB := h1.les
 have hBV : B <= V.heap.size := Nat.le_trans hlB (Nat.le_of_lt hls)
 have hUs : U.heap.size = V.heap.size := by rw [d.heap]
 obtain ⟨v', W1, q1, q2, q3, q4, q5⟩ := push_bl Tryz.underlying50 info_bl U B vb bl p (own_drew h3 d) (by rw [hUs]; exact hBV) (by omega)
 obtain ⟨ao, cap, hvb, -, -, -⟩ := own_shape h3
 obtain ⟨ao', cap', hv', -, -, -⟩ := own_shape q2
 have hA := (Below.refl U.heap.size U).alloc (Nat.le_refl _) (.cells #[.int .i64 (p.1 : Int), .int .i64 (p.2 : Int)] 54)
 have hbA : Below V.heap.size V (U.alloc (.cells #[.int .i64 (p.1 : Int), .int .i64 (p.2 : Int)] 54)) := (d.below _).trans (hA.mono (by rw [hUs]; exact Nat.le_refl _))
 have hSA := h1.below hbA
 have hxr : ∀ k, vb.ownBlock = some k -> k = x /\ x ≠ s /\ x ≠ r /\ x ≠ g /\ v.ownBlock ≠ some x := fun k hk => by
  rcases h4 with ⟨h4, _⟩ | ⟨h4, h5⟩
  ·rw [h4] at hk; cases hk
  ·rw [h4] at hk
   exact ⟨by simpa using hk.symm, h5⟩
 have oW : Only (fun k => vb.ownBlock = some k) V W1 := d.only.trans q4 (fun i q => .inl q)
 have hS1 : ST W1 B s r g v vb kn bs o u m := by
  have hr1 : ¬ vb.ownBlock = some r := fun e => by obtain ⟨e1, _, e3, _⟩ := hxr r e; exact e3 e1.symm
  have hs1 : ¬ vb.ownBlock = some s := fun e => by obtain ⟨e1, e2, _⟩ := hxr s e; exact e2 e1.symm
  have hg1 : ¬ vb.ownBlock = some g := fun e => by obtain ⟨e1, _, _, e4, _⟩ := hxr g e; exact e4 e1.symm
  exact h1.same (oW.block s hls hs1) (oW.block r h1.rb.lt hr1) (oW.block g hlg hg1) (fun k hk => oW.block k (h1.rb.2.1.lt k hk).2 (fun e => by obtain ⟨e1, _, _, _, e5⟩ := hxr k e; exact e5 (by rw [<- e1]; exact hk)))
 have hS2 : ST (W1.setCell ⟨s, 4, none⟩ v') B s r g v v' kn bs o u m := by
  have oV : Only (fun k => k = s) W1 (W1.setCell ⟨s, 4, none⟩ v') := Only.setCell (S := fun k => k = s) rfl _ _
  obtain ⟨vo, hc, hr, ho, hg, e1, e2, e3, e4, e5⟩ := hS1
  refine ⟨vo, (Lib.heap_setCell_same (i := 4) hc _).trans rfl, hr.only oV (fun e => e2 e.symm) (fun k hk e => e3 (by rw [hk, e])), own_only ho oV (fun k hk e => ?_), hg, e1, e2, e3, e4, e5⟩
  rcases hg with ⟨hn, _⟩ | ⟨hn, hne⟩
  ·rw [hn] at hk; cases hk
  ·rw [hn] at hk
   obtain rfl : g = k := by simpa using hk
   exact hne e
 have hnew : ∀ k, v'.ownBlock = some k -> (k = x /\ x ≠ s /\ x ≠ r /\ x ≠ g /\ v.ownBlock ≠ some x) \/ V.heap.size <= k := fun k hk => by
  rcases q5 with q | q
  ·rw [q] at hk; exact .inl (hxr k hk)
  ·exact .inr (by rw [<- hUs]; exact q k hk)
 have hown2 : (W1.setCell ⟨s, 4, none⟩ v').ownsRow B 54 2 v' (bl ++ [p]).length (blCells (bl ++ [p])) := own_same q2 (fun k hk => Below.heap_setCell _ _ _ _ (fun e => by
  subst e
  rcases hnew _ hk with ⟨e1, e2, _⟩ | e1
  ·exact e2 e1.symm
  ·omega))
 have oAll : Only (fun k => k = s \/ k = r \/ k = g \/ k = x) V (W1.setCell ⟨s, 4, none⟩ v') := (oW.mono (S' := fun k => k = s \/ k = r \/ k = g \/ k = x) (fun i q => .inl (.inr (.inr (.inr (hxr i q).1))))).trans (S' := fun k => k = s) (Only.setCell (S := fun k => k = s) rfl _ _) (fun i q => .inl (.inl q))
 have hbel : Below B V (W1.setCell ⟨s, 4, none⟩ v') := ((d.below B).trans q3).trans (Below.setCell (Below.refl _ _) hlB _)
 subst hvb
 subst hv'
 refine ⟨ao, cap, ao', _, cap', W1, rfl, q1, hSA.c4, hS1.c4, hS1.fr 4, ?_⟩
 rcases hvk : (Value.slice ao' (bl ++ [p]).length cap').ownBlock with _ | k
 ·exfalso
  rcases q2.2 with ⟨_, e0⟩ | ⟨k, cp, cu, e0, _⟩
  ·rw [List.length_append] at e0; simp at e0
  ·rw [e0] at hvk; cases hvk
 ·have hxx : k = x \/ V.heap.size <= k := by
   rcases hnew k hvk with ⟨e1, _⟩ | e1
   ·exact .inl e1
   ·exact .inr e1
  refine ⟨k, ⟨hS2, h2.step (.inl rfl) hxx oAll, hown2, .inr ?_⟩, hbel, hxx, oAll⟩
  ·rcases hnew k hvk with ⟨e1, e2⟩ | e1
   ·subst e1; exact ⟨hvk, e2⟩
   ·refine ⟨hvk, by omega, by have := h1.rb.lt; omega, by omega, fun e => by have := (h1.rb.2.1.lt k e).2; omega⟩
theorem readP_succ (F : Nat) (bs : List UInt8) (m f : Nat) (o : List UInt8) (bl : List (Nat × Nat)) (t : Nat) : readP F bs m (f + 1) o bl t = match takeP bs 1 t with
  | .no e => .no e
  | .ok last t1 => match takeP bs 2 t1 with
   | .no e => .no e
   | .ok kind t2 => match bodyP F bs m kind o t2 with
    | .no e => .no e
    | .ok out' t3 => if last = 0 then readP F bs m f out' (bl ++ [(kind, out'.length - o.length)]) t3 else .ok (out', bl ++ [(kind, out'.length - o.length)]) t3 := rfl
theorem store_fn (w : World) (a : Addr) (n : FuncId) (x : Value) (hc : w.cell? a = some x) (hf : w.frozen? a = false) : (store a (.func (.func n) #[] #[])).run Tryz.prog w = .ok () (w.setCell a (.func (.func n) #[] #[])) := by
 rw [run_store _ _ _ _ _ rfl, hc]
 simp [hf]
def kindF (k : Nat) : Value := .func (.func (if k = 0 then 69 else if k = 1 then 70 else 71)) #[] #[]
theorem kinds_laid (W : World) : ∃ W0 W1 W2 W3, W0 = W.alloc (.cells #[.nilFunc, .nilFunc, .nilFunc] 125) /\ (store ⟨W.heap.size, 0, none⟩ (.func (.func 69) #[] #[])).run Tryz.prog W0 = .ok () W1 /\ (store ⟨W.heap.size, 1, none⟩ (.func (.func 70) #[] #[])).run Tryz.prog W1 = .ok () W2 /\ (store ⟨W.heap.size, 2, none⟩ (.func (.func 71) #[] #[])).run Tryz.prog W2 = .ok () W3 /\
  Below W.heap.size W W3 /\ (∀ k, k < 3 -> W3.cell? ⟨W.heap.size, k, none⟩ = some (kindF k)) /\ W.heap.size < W3.heap.size := by
 have h0 : (W.alloc (.cells #[.nilFunc, .nilFunc, .nilFunc] 125)).heap[W.heap.size]? = some (.cells #[.nilFunc, .nilFunc, .nilFunc] 125 (0, 0)) := heap_alloc_new _ _
 have h1 := Lib.heap_setCell_same (i := 0) h0 (.func (.func 69) #[] #[])
 have h2 := Lib.heap_setCell_same (i := 1) h1 (.func (.func 70) #[] #[])
 have h3 := Lib.heap_setCell_same (i := 2) h2 (.func (.func 71) #[] #[])
 refine ⟨_, _, _, _, rfl, store_fn _ _ _ .nilFunc (by rw [Lib.cell_of_heap h0]; rfl) (Lib.frozen_of_heap h0 0), store_fn _ _ _ .nilFunc (by rw [Lib.cell_of_heap h1]; rfl) (Lib.frozen_of_heap h1 1), store_fn _ _ _ .nilFunc (by rw [Lib.cell_of_heap h2]; rfl) (Lib.frozen_of_heap h2 2), ?_, ?_, (Array.getElem?_eq_some_iff.1 h3).1⟩
 ·exact Below.setCell (Below.setCell (Below.setCell ((Below.refl _ _).alloc (Nat.le_refl _) _) (Nat.le_refl _) _) (Nat.le_refl _) _) (Nat.le_refl _) _
 ·intro k hk
  have : k = 0 \/ k = 1 \/ k = 2 := by omega
  rcases this with rfl | rfl | rfl <;> exact (Lib.cell_of_heap h3 _).trans rfl
set_option maxRecDepth 100000 in
set_option maxHeartbeats 4000000 in
theorem read_any (W : World) (B s r F : Nat) (v : Value) (bs : List UInt8) (m : Nat) (h : RSt W B s r s s v (.slice none 0 0) (.pointer none) bs [] [] 0 m) (hk : Masks W B) (hod : Ords W B) (hm : m <= 1048576) (hF : 8 * bs.length < F) (hbl : bs.length <= 1048576) (hB : B <= W.heap.size) :
  Calls Tryz.prog 54 #[.pointer (some ⟨s, 0, none⟩)] W (Fin (readP F bs m F [] [] 0) (fun _ => .tuple #[]) (fun ob u w' => ∃ g x vb kn, RSt w' B s r g x v vb kn bs ob.1 ob.2 u m /\ Below B W w') (fun w' => Below B W w')) := by
 obtain ⟨rs, hrs⟩ : ∃ rs, rs = readP F bs m F [] [] 0 := ⟨_, rfl⟩
 rw [<- hrs]
 obtain ⟨W0, W1, W2, W3, rfl, e1, e2, e3, hb3, hc3, hl3⟩ := kinds_laid W
 go_enter Tryz.func54, Tryz.ntmps54
 go_upto_region 2 with fail
 clear e1 e2 e3
 obtain ⟨q, hq⟩ : ∃ q, q = W.heap.size := ⟨_, rfl⟩
 rw [<- hq] at hc3 ⊢
 have hBq : B <= q := by omega
 have hlt0 : s < W.heap.size /\ r < W.heap.size := ⟨h.1.lt, h.1.rb.lt⟩
 have hsr : s ≠ r := by obtain ⟨vo, _, _, _, _, _, h2, _⟩ := h.1; exact h2
 have hz : ∀ k, (k = s \/ k = r \/ k = s \/ k = s) -> B <= k := by
  rintro k (rfl | rfl | rfl | rfl)
  ·exact h.1.les
  ·exact h.1.ler
  ·exact h.1.les
  ·exact h.1.les
 have hb3B := hb3.mono hB
 -- what holds at a round's beginning: a stream, its kinds, the rest as it was
 have HBase : Aside (∀ w, Below B W w -> Masks w B /\ Ords w B) := fun w hb => ⟨hk.below hb, hod.below hb⟩
 have H0 : Aside (∃ g x vb kn, RSt W3 B s r g x v vb kn bs [] [] 0 m /\ s ≠ q /\ r ≠ q /\ g ≠ q /\ x ≠ q /\ q < W3.heap.size /\ (∀ k, k < 3 -> W3.cell? ⟨q, k, none⟩ = some (kindF k)) /\ Below B W W3 /\ ([] : List UInt8).length <= m /\ 8 * bs.length - 0 < F /\ ([] : List (Nat × Nat)).length <= 0 /\ readP F bs m F [] [] 0 = rs) := by
  obtain ⟨h1, h2, h3, h4⟩ := h
  exact ⟨s, s, _, _, ⟨h1.below hb3, .inl rfl, own_below h3 hb3, .inl ⟨rfl, rfl⟩⟩, by omega, by omega, by omega, by omega, by omega, hc3, hb3B, Nat.zero_le _, by omega, Nat.le_refl _, hrs.symm⟩
 clear h hk hod hb3 hb3B hc3 hl3 hrs hz hq hlt0
 go_loopg [3, 4, 5] F (fun kx s3 s4 s5 wr => ∃ (f : Nat) (o : List UInt8) (bl : List (Nat × Nat)) (u last : Nat), f <= kx /\ s3 = .int .i64 (last : Int) /\ Aside (∃ g x vb kn, RSt wr B s r g x v vb kn bs o bl u m /\ s ≠ q /\ r ≠ q /\ g ≠ q /\ x ≠ q /\ q < wr.heap.size /\ (∀ k, k < 3 -> wr.cell? ⟨q, k, none⟩ = some (kindF k)) /\ Below B W wr /\ o.length <= m /\ 8 * bs.length - u < f /\ bl.length <= u /\ (if last = 0 then readP F bs m f o bl u else .ok (o, bl) u) = rs))
 case atStart => exact ⟨F, [], [], 0, 0, Nat.le_refl _, rfl, H0.out⟩
 case round =>
  clear H0
  obtain ⟨f, o, bl, u, last, hfk, rfl, HX⟩ := hrel
  by_cases hlast : last = 0
  ·subst hlast
   obtain ⟨g, x, vb, kn, p1, n1, n2, n3, n4, n5, n6, n7, n8, n9, n10, n11⟩ := HX.out
   rw [if_pos rfl] at n11
   obtain ⟨f, rfl⟩ : ∃ f', f = f' + 1 := ⟨f - 1, by omega⟩
   rw [readP_succ] at n11
   have hu8 : u <= 8 * bs.length := p1.1.rb.2.2.2.2.1
   have HT1 := stake_any wr B s r v bs u 1 p1.1.c0 p1.1.rb (HBase.out wr n7).1 (by decide)
   have HST : Aside (∀ (w : World) (u' : Nat), RB w B r v bs u' -> Only (fun k => k = r) wr w -> RSt w B s r g x v vb kn bs o bl u' m /\ Below B W w /\ (∀ k, k < 3 -> w.cell? ⟨q, k, none⟩ = some (kindF k)) /\ q < w.heap.size) := fun w u' q1 o1 =>
    ⟨p1.read q1 o1, n7.trans (o1.below (Nat.le_trans hB n7.size) (fun k hk => by rw [hk]; exact p1.1.ler)), fun k hk => o1.cell (n6 k hk) (fun e => n2 e.symm), Nat.lt_of_lt_of_le n5 o1.size⟩
   have HN : Aside (s ≠ q /\ r ≠ q /\ g ≠ q /\ x ≠ q /\ o.length <= m /\ 8 * bs.length - u < f + 1 /\ bl.length <= u /\ u <= 8 * bs.length) := ⟨n1, n2, n3, n4, n8, n9, n10, hu8⟩
   have HO : Aside (∀ w w', Only (fun k => k = r) wr w -> Only (fun k => k = r) w w' -> Only (fun k => k = r) wr w') := fun w w' o1 o2 => o1.trans o2 (fun i q => .inl q)
   have HX0 : Aside (∃ g x vb kn, RSt wr B s r g x v vb kn bs o bl u m /\ True /\ True /\ True /\ True /\ True /\ True /\ Below B W wr /\ True) := ⟨g, x, vb, kn, p1, trivial, trivial, trivial, trivial, trivial, trivial, n7, trivial⟩
   clear p1 n1 n2 n3 n4 n5 n6 n7 n8 n9 n10 hu8 HX
   cases hp1 : takeP bs 1 u with
   | no c =>
    rw [hp1] at n11
    have HT := Lib.hid (fin_no HT1 hp1)
    have HE : Aside (rs = .no c /\ ∀ w, Only (fun k => k = r) wr w -> Below B W w) := ⟨n11.symm, fun w o1 => by
     obtain ⟨g2, x2, vb2, kn2, y1, -, -, -, -, -, -, y2, -⟩ := HX0.out
     exact y2.trans (o1.below (Nat.le_trans hB y2.size) (fun k hk => by rw [hk]; exact y1.1.ler))⟩
    clear hp1 HT1 n11 HST
    go_wp2_with (go_at_call 72; refine HT.out.mono ?_; rintro e w1 ⟨rfl, q1⟩)
    exact ⟨rfl, Fin.mk_no HE.out.1 rfl (HE.out.2 _ q1)⟩
   | ok l1 u1 =>
   rw [hp1] at n11
   simp only at n11
   obtain ⟨hu1, -, -, hl1⟩ := takeP_ok hp1
   have HT := Lib.hid (fin_ok HT1 hp1)
   clear hp1 HT1
   go_upto_region 4 with (go_at_call 72; refine HT.out.mono ?_; rintro e w1 ⟨rfl, q1, q2⟩)
   obtain ⟨s1, s2, -, -⟩ := HST.out _ _ q1 q2
   have HT2 := stake_any w1 B s r v bs u1 2 s1.1.c0 s1.1.rb (HBase.out w1 s2).1 (by decide)
   clear HT
   cases hp2 : takeP bs 2 u1 with
   | no c =>
    rw [hp2] at n11
    have HT := Lib.hid (fin_no HT2 hp2)
    have HE : Aside (rs = .no c /\ ∀ w, Only (fun k => k = r) w1 w -> Below B W w) := ⟨n11.symm, fun w o1 => s2.trans (o1.below (Nat.le_trans hB s2.size) (fun k hk => by rw [hk]; exact s1.1.ler))⟩
    clear hp2 HT2 n11 HST s1 s2 q1 q2
    go_wp2_with (go_at_call 72; refine HT.out.mono ?_; rintro e w2 ⟨rfl, q3⟩)
    exact ⟨rfl, Fin.mk_no HE.out.1 rfl (HE.out.2 _ q3)⟩
   | ok kd u2 =>
   rw [hp2] at n11
   simp only at n11
   obtain ⟨hu2, -, -, hkd⟩ := takeP_ok hp2
   have HT := Lib.hid (fin_ok HT2 hp2)
   have hkd4 : kd < 4 := hkd
   have HQ2 : Aside (Only (fun k => k = r) wr w1) := q2
   clear hp2 HT2 s1 s2 q1 q2 hkd
   go_upto_region 5 with (go_at_call 72; refine HT.out.mono ?_; rintro e w2 ⟨rfl, q3, q4⟩)
   have q5 := HO.out _ _ HQ2.out q4
   obtain ⟨s1, s2, s3, s4⟩ := HST.out _ _ q3 q5
   clear HT HST HO q3 q4 q5 HQ2
   have hk3 : kd = 0 \/ kd = 1 \/ kd = 2 \/ kd = 3 := by omega
   rcases hk3 with rfl | rfl | rfl | rfl
   ·obtain ⟨hmk, hodd⟩ := HBase.out w2 s2
    have HBD : Calls Tryz.prog 69 #[.pointer (some ⟨s, 0, none⟩)] w2 (Fin (bodyP F bs m 0 o u2) (fun _ => .tuple #[]) (fun o u w' => FStep w2 w' B s r g x v vb bs o u m /\ o.length <= m) (fun w' => Only (fun k => k = s \/ k = r \/ k = g) w2 w')) := by
      have := stored_any w2 B s r g v vb kn bs o u2 m s1.1 hmk hm HN.out.2.2.2.2.1
      refine this.mono ?_
      intro e w' hf
      rw [show bodyP F bs m 0 o u2 = storP bs m o u2 from rfl]
      cases hb : storP bs m o u2 with
      | ok o3 u3 => rw [hb] at hf; exact ⟨hf.1, FStep.of_s hf.2.1 s1.2.1, hf.2.2⟩
      | no c => rw [hb] at hf; exact hf
    have ck : w2.cell? ⟨q, 0, none⟩ = some (.func (.func 69) #[] #[]) := s3 0 (by decide)
    obtain ⟨ao, cap, c3, -, -, -, -⟩ := s1.1.c3
    cases hb : bodyP F bs m 0 o u2 with
    | no c =>
     rw [hb] at n11
     have HT := Lib.hid (fin_no HBD hb)
     have HE : Aside (rs = .no c /\ ∀ w, Only (fun k => k = s \/ k = r \/ k = g) w2 w -> Below B W w) := ⟨n11.symm, fun w o1 => s2.trans (o1.below (Nat.le_trans hB s2.size) s1.1.zone)⟩
     clear s1 s2 s3 s4 n11 hb HBD hmk hodd
     go_wp2_with (go_at_call 69; refine HT.out.mono ?_; rintro e w3 ⟨rfl, q6⟩)
     exact ⟨rfl, Fin.mk_no HE.out.1 rfl (HE.out.2 _ q6)⟩
    | ok o3 u3 =>
     rw [hb] at n11
     simp only at n11
     obtain ⟨b1, b2, b3⟩ := bodyP_ok hb
     have HT := Lib.hid (fin_ok HBD hb)
     have H3 : Aside (∀ w3, FStep w2 w3 B s r g x v vb bs o3 u3 m -> ∃ g' kn', RSt w3 B s r g' x v vb kn' bs o3 bl u3 m /\ (g' = g \/ w2.heap.size <= g') /\ g' ≠ q /\ q < w3.heap.size /\ (∀ k, k < 3 -> w3.cell? ⟨q, k, none⟩ = some (kindF k)) /\ Below B W w3) := fun w3 hf => by
      obtain ⟨g', kn', y1, y2, y3⟩ := s1.body hf
      obtain ⟨m1, m2, m3, m4, -⟩ := HN.out
      exact ⟨g', kn', y1, y2, by omega, Nat.lt_of_lt_of_le s4 y3.size, fun k hk => y3.cell (s3 k hk) (fun e => by
       have e' : q = s \/ q = r \/ q = g := e
       omega), s2.trans (FStep.below s1.1 hf)⟩
     clear s1 s2 s3 s4 hb HBD hmk hodd
     go_upto_region 9 with (go_at_call 69; refine HT.out.mono ?_; rintro e w3 ⟨rfl, hf, hom⟩)
     obtain ⟨g', kn', y1, y2, y3, y4, y5, y6⟩ := H3.out _ hf
     obtain ⟨m1, m2, m3, m4, m5, m6, m7, m8⟩ := HN.out
     obtain ⟨dl, hdl⟩ : ∃ z, z = o3.length - o.length := ⟨_, rfl⟩
     rw [<- hdl] at n11
     obtain ⟨bo, bcap, bo', bn', bcap', W5, t1, t2, t3, t4, t5, x', t6, t7, t8, t9⟩ := rst_push y1 (U := w3.drew) ⟨rfl, rfl, rfl, rfl⟩ (0, dl) (by omega)
     subst t1
     have hxl := y1.ltx
     obtain ⟨eo, ecap, e3, -, -, -, -⟩ := y1.1.c3
     have e4 := y1.1.c4
     have E3 : w3.drew.cell? ⟨s, 3, none⟩ = some (.slice eo o3.length ecap) := e3
     have E4 : w3.drew.cell? ⟨s, 4, none⟩ = some (.slice bo bl.length bcap) := e4
     have E4' : (w3.alloc (.cells #[.int .i64 0, .int .i64 (dl : Int)] 54)).cell? ⟨s, 4, none⟩ = some (.slice bo bl.length bcap) := t3
     have q4' : (Builtin.append_ #[50, 50] 50 #[.slice bo bl.length bcap, .slice (some ⟨w3.heap.size, 0, none⟩) 1 1]).run Tryz.prog ((w3.alloc (.cells #[.int .i64 0, .int .i64 (dl : Int)] 54)).drew) = .ok (.slice bo' bn' bcap') W5 := t2
     have hd1 : (o3.length : Int) - (o.length : Int) = (dl : Int) := by omega
     have hd2 : IntKind.i64.wrap ((o3.length : Int) - (o.length : Int)) = (dl : Int) := by rw [IntKind.wrap_i64]; omega
     have wdl : IntKind.i64.wrap (dl : Int) = (dl : Int) := by rw [IntKind.wrap_i64]; omega
     have HE : Aside (∃ g x vb kn, RSt (W5.setCell ⟨s, 4, none⟩ (.slice bo' bn' bcap')) B s r g x v vb kn bs o3 (bl ++ [(0, dl)]) u3 m /\ s ≠ q /\ r ≠ q /\ g ≠ q /\ x ≠ q /\ q < (W5.setCell ⟨s, 4, none⟩ (.slice bo' bn' bcap')).heap.size /\ (∀ k, k < 3 -> (W5.setCell ⟨s, 4, none⟩ (.slice bo' bn' bcap')).cell? ⟨q, k, none⟩ = some (kindF k)) /\ Below B W (W5.setCell ⟨s, 4, none⟩ (.slice bo' bn' bcap')) /\ o3.length <= m /\ 8 * bs.length - u3 < f /\ (bl ++ [(0, dl)]).length <= u3 /\ (if l1 = 0 then readP F bs m f o3 (bl ++ [(0, dl)]) u3 else .ok (o3, bl ++ [(0, dl)]) u3) = rs) := by
      refine ⟨g', x', _, kn', t6, m1, m2, y3, by omega, Nat.lt_of_lt_of_le y4 t9.size, fun k hk => t9.cell (y5 k hk) (fun e => ?_), y6.trans t7, hom, by omega, by rw [List.length_append]; simp only [List.length_cons, List.length_nil]; omega, n11⟩
      have e' : q = s \/ q = r \/ q = g' \/ q = x := e
      omega
     clear y1 y2 y3 y5 y6 m1 m2 m3 m4 m5 m6 m7 m8 t2 t3 t6 t7 t8 t9 e3 e4 hf hdl n11 H3 HT c3 ck
     go_region_law (refine step_append_run rfl _ _ _ _ rfl _ _ rfl rfl _ _ q4' ?_)
     all_goals
      go_wp2_with fail
      go_roundg f
      case measure => omega
      case rel => exact ⟨f, o3, _, u3, l1, Nat.le_refl _, rfl, HE.out⟩
   ·obtain ⟨hmk, hodd⟩ := HBase.out w2 s2
    have HBD : Calls Tryz.prog 70 #[.pointer (some ⟨s, 0, none⟩)] w2 (Fin (bodyP F bs m 1 o u2) (fun _ => .tuple #[]) (fun o u w' => FStep w2 w' B s r g x v vb bs o u m /\ o.length <= m) (fun w' => Only (fun k => k = s \/ k = r \/ k = g) w2 w')) := fixed_any w2 B s r g x F v vb kn bs o u2 m s1.1 s1.2.1 s1.ltx hmk hm HN.out.2.2.2.2.1 (by omega)
    have ck : w2.cell? ⟨q, 1, none⟩ = some (.func (.func 70) #[] #[]) := s3 1 (by decide)
    obtain ⟨ao, cap, c3, -, -, -, -⟩ := s1.1.c3
    cases hb : bodyP F bs m 1 o u2 with
    | no c =>
     rw [hb] at n11
     have HT := Lib.hid (fin_no HBD hb)
     have HE : Aside (rs = .no c /\ ∀ w, Only (fun k => k = s \/ k = r \/ k = g) w2 w -> Below B W w) := ⟨n11.symm, fun w o1 => s2.trans (o1.below (Nat.le_trans hB s2.size) s1.1.zone)⟩
     clear s1 s2 s3 s4 n11 hb HBD hmk hodd
     go_wp2_with (go_at_call 70; refine HT.out.mono ?_; rintro e w3 ⟨rfl, q6⟩)
     exact ⟨rfl, Fin.mk_no HE.out.1 rfl (HE.out.2 _ q6)⟩
    | ok o3 u3 =>
     rw [hb] at n11
     simp only at n11
     obtain ⟨b1, b2, b3⟩ := bodyP_ok hb
     have HT := Lib.hid (fin_ok HBD hb)
     have H3 : Aside (∀ w3, FStep w2 w3 B s r g x v vb bs o3 u3 m -> ∃ g' kn', RSt w3 B s r g' x v vb kn' bs o3 bl u3 m /\ (g' = g \/ w2.heap.size <= g') /\ g' ≠ q /\ q < w3.heap.size /\ (∀ k, k < 3 -> w3.cell? ⟨q, k, none⟩ = some (kindF k)) /\ Below B W w3) := fun w3 hf => by
      obtain ⟨g', kn', y1, y2, y3⟩ := s1.body hf
      obtain ⟨m1, m2, m3, m4, -⟩ := HN.out
      exact ⟨g', kn', y1, y2, by omega, Nat.lt_of_lt_of_le s4 y3.size, fun k hk => y3.cell (s3 k hk) (fun e => by
       have e' : q = s \/ q = r \/ q = g := e
       omega), s2.trans (FStep.below s1.1 hf)⟩
     clear s1 s2 s3 s4 hb HBD hmk hodd
     go_upto_region 9 with (go_at_call 70; refine HT.out.mono ?_; rintro e w3 ⟨rfl, hf, hom⟩)
     obtain ⟨g', kn', y1, y2, y3, y4, y5, y6⟩ := H3.out _ hf
     obtain ⟨m1, m2, m3, m4, m5, m6, m7, m8⟩ := HN.out
     obtain ⟨dl, hdl⟩ : ∃ z, z = o3.length - o.length := ⟨_, rfl⟩
     rw [<- hdl] at n11
     obtain ⟨bo, bcap, bo', bn', bcap', W5, t1, t2, t3, t4, t5, x', t6, t7, t8, t9⟩ := rst_push y1 (U := w3.drew) ⟨rfl, rfl, rfl, rfl⟩ (1, dl) (by omega)
     subst t1
     have hxl := y1.ltx
     obtain ⟨eo, ecap, e3, -, -, -, -⟩ := y1.1.c3
     have e4 := y1.1.c4
     have E3 : w3.drew.cell? ⟨s, 3, none⟩ = some (.slice eo o3.length ecap) := e3
     have E4 : w3.drew.cell? ⟨s, 4, none⟩ = some (.slice bo bl.length bcap) := e4
     have E4' : (w3.alloc (.cells #[.int .i64 1, .int .i64 (dl : Int)] 54)).cell? ⟨s, 4, none⟩ = some (.slice bo bl.length bcap) := t3
     have q4' : (Builtin.append_ #[50, 50] 50 #[.slice bo bl.length bcap, .slice (some ⟨w3.heap.size, 0, none⟩) 1 1]).run Tryz.prog ((w3.alloc (.cells #[.int .i64 1, .int .i64 (dl : Int)] 54)).drew) = .ok (.slice bo' bn' bcap') W5 := t2
     have hd1 : (o3.length : Int) - (o.length : Int) = (dl : Int) := by omega
     have hd2 : IntKind.i64.wrap ((o3.length : Int) - (o.length : Int)) = (dl : Int) := by rw [IntKind.wrap_i64]; omega
     have wdl : IntKind.i64.wrap (dl : Int) = (dl : Int) := by rw [IntKind.wrap_i64]; omega
     have HE : Aside (∃ g x vb kn, RSt (W5.setCell ⟨s, 4, none⟩ (.slice bo' bn' bcap')) B s r g x v vb kn bs o3 (bl ++ [(1, dl)]) u3 m /\ s ≠ q /\ r ≠ q /\ g ≠ q /\ x ≠ q /\ q < (W5.setCell ⟨s, 4, none⟩ (.slice bo' bn' bcap')).heap.size /\ (∀ k, k < 3 -> (W5.setCell ⟨s, 4, none⟩ (.slice bo' bn' bcap')).cell? ⟨q, k, none⟩ = some (kindF k)) /\ Below B W (W5.setCell ⟨s, 4, none⟩ (.slice bo' bn' bcap')) /\ o3.length <= m /\ 8 * bs.length - u3 < f /\ (bl ++ [(1, dl)]).length <= u3 /\ (if l1 = 0 then readP F bs m f o3 (bl ++ [(1, dl)]) u3 else .ok (o3, bl ++ [(1, dl)]) u3) = rs) := by
      refine ⟨g', x', _, kn', t6, m1, m2, y3, by omega, Nat.lt_of_lt_of_le y4 t9.size, fun k hk => t9.cell (y5 k hk) (fun e => ?_), y6.trans t7, hom, by omega, by rw [List.length_append]; simp only [List.length_cons, List.length_nil]; omega, n11⟩
      have e' : q = s \/ q = r \/ q = g' \/ q = x := e
      omega
     clear y1 y2 y3 y5 y6 m1 m2 m3 m4 m5 m6 m7 m8 t2 t3 t6 t7 t8 t9 e3 e4 hf hdl n11 H3 HT c3 ck
     go_region_law (refine step_append_run rfl _ _ _ _ rfl _ _ rfl rfl _ _ q4' ?_)
     all_goals
      go_wp2_with fail
      go_roundg f
      case measure => omega
      case rel => exact ⟨f, o3, _, u3, l1, Nat.le_refl _, rfl, HE.out⟩
   ·obtain ⟨hmk, hodd⟩ := HBase.out w2 s2
    have HBD : Calls Tryz.prog 71 #[.pointer (some ⟨s, 0, none⟩)] w2 (Fin (bodyP F bs m 2 o u2) (fun _ => .tuple #[]) (fun o u w' => FStep w2 w' B s r g x v vb bs o u m /\ o.length <= m) (fun w' => Only (fun k => k = s \/ k = r \/ k = g) w2 w')) := dynamic_any w2 B s r g x F v vb kn bs o u2 m s1.1 s1.2.1 hmk hodd hm HN.out.2.2.2.2.1 hF
    have ck : w2.cell? ⟨q, 2, none⟩ = some (.func (.func 71) #[] #[]) := s3 2 (by decide)
    obtain ⟨ao, cap, c3, -, -, -, -⟩ := s1.1.c3
    cases hb : bodyP F bs m 2 o u2 with
    | no c =>
     rw [hb] at n11
     have HT := Lib.hid (fin_no HBD hb)
     have HE : Aside (rs = .no c /\ ∀ w, Only (fun k => k = s \/ k = r \/ k = g) w2 w -> Below B W w) := ⟨n11.symm, fun w o1 => s2.trans (o1.below (Nat.le_trans hB s2.size) s1.1.zone)⟩
     clear s1 s2 s3 s4 n11 hb HBD hmk hodd
     go_wp2_with (go_at_call 71; refine HT.out.mono ?_; rintro e w3 ⟨rfl, q6⟩)
     exact ⟨rfl, Fin.mk_no HE.out.1 rfl (HE.out.2 _ q6)⟩
    | ok o3 u3 =>
     rw [hb] at n11
     simp only at n11
     obtain ⟨b1, b2, b3⟩ := bodyP_ok hb
     have HT := Lib.hid (fin_ok HBD hb)
     have H3 : Aside (∀ w3, FStep w2 w3 B s r g x v vb bs o3 u3 m -> ∃ g' kn', RSt w3 B s r g' x v vb kn' bs o3 bl u3 m /\ (g' = g \/ w2.heap.size <= g') /\ g' ≠ q /\ q < w3.heap.size /\ (∀ k, k < 3 -> w3.cell? ⟨q, k, none⟩ = some (kindF k)) /\ Below B W w3) := fun w3 hf => by
      obtain ⟨g', kn', y1, y2, y3⟩ := s1.body hf
      obtain ⟨m1, m2, m3, m4, -⟩ := HN.out
      exact ⟨g', kn', y1, y2, by omega, Nat.lt_of_lt_of_le s4 y3.size, fun k hk => y3.cell (s3 k hk) (fun e => by
       have e' : q = s \/ q = r \/ q = g := e
       omega), s2.trans (FStep.below s1.1 hf)⟩
     clear s1 s2 s3 s4 hb HBD hmk hodd
     go_upto_region 9 with (go_at_call 71; refine HT.out.mono ?_; rintro e w3 ⟨rfl, hf, hom⟩)
     obtain ⟨g', kn', y1, y2, y3, y4, y5, y6⟩ := H3.out _ hf
     obtain ⟨m1, m2, m3, m4, m5, m6, m7, m8⟩ := HN.out
     obtain ⟨dl, hdl⟩ : ∃ z, z = o3.length - o.length := ⟨_, rfl⟩
     rw [<- hdl] at n11
     obtain ⟨bo, bcap, bo', bn', bcap', W5, t1, t2, t3, t4, t5, x', t6, t7, t8, t9⟩ := rst_push y1 (U := w3.drew) ⟨rfl, rfl, rfl, rfl⟩ (2, dl) (by omega)
     subst t1
     have hxl := y1.ltx
     obtain ⟨eo, ecap, e3, -, -, -, -⟩ := y1.1.c3
     have e4 := y1.1.c4
     have E3 : w3.drew.cell? ⟨s, 3, none⟩ = some (.slice eo o3.length ecap) := e3
     have E4 : w3.drew.cell? ⟨s, 4, none⟩ = some (.slice bo bl.length bcap) := e4
     have E4' : (w3.alloc (.cells #[.int .i64 2, .int .i64 (dl : Int)] 54)).cell? ⟨s, 4, none⟩ = some (.slice bo bl.length bcap) := t3
     have q4' : (Builtin.append_ #[50, 50] 50 #[.slice bo bl.length bcap, .slice (some ⟨w3.heap.size, 0, none⟩) 1 1]).run Tryz.prog ((w3.alloc (.cells #[.int .i64 2, .int .i64 (dl : Int)] 54)).drew) = .ok (.slice bo' bn' bcap') W5 := t2
     have hd1 : (o3.length : Int) - (o.length : Int) = (dl : Int) := by omega
     have hd2 : IntKind.i64.wrap ((o3.length : Int) - (o.length : Int)) = (dl : Int) := by rw [IntKind.wrap_i64]; omega
     have wdl : IntKind.i64.wrap (dl : Int) = (dl : Int) := by rw [IntKind.wrap_i64]; omega
     have HE : Aside (∃ g x vb kn, RSt (W5.setCell ⟨s, 4, none⟩ (.slice bo' bn' bcap')) B s r g x v vb kn bs o3 (bl ++ [(2, dl)]) u3 m /\ s ≠ q /\ r ≠ q /\ g ≠ q /\ x ≠ q /\ q < (W5.setCell ⟨s, 4, none⟩ (.slice bo' bn' bcap')).heap.size /\ (∀ k, k < 3 -> (W5.setCell ⟨s, 4, none⟩ (.slice bo' bn' bcap')).cell? ⟨q, k, none⟩ = some (kindF k)) /\ Below B W (W5.setCell ⟨s, 4, none⟩ (.slice bo' bn' bcap')) /\ o3.length <= m /\ 8 * bs.length - u3 < f /\ (bl ++ [(2, dl)]).length <= u3 /\ (if l1 = 0 then readP F bs m f o3 (bl ++ [(2, dl)]) u3 else .ok (o3, bl ++ [(2, dl)]) u3) = rs) := by
      refine ⟨g', x', _, kn', t6, m1, m2, y3, by omega, Nat.lt_of_lt_of_le y4 t9.size, fun k hk => t9.cell (y5 k hk) (fun e => ?_), y6.trans t7, hom, by omega, by rw [List.length_append]; simp only [List.length_cons, List.length_nil]; omega, n11⟩
      have e' : q = s \/ q = r \/ q = g' \/ q = x := e
      omega
     clear y1 y2 y3 y5 y6 m1 m2 m3 m4 m5 m6 m7 m8 t2 t3 t6 t7 t8 t9 e3 e4 hf hdl n11 H3 HT c3 ck
     go_region_law (refine step_append_run rfl _ _ _ _ rfl _ _ rfl rfl _ _ q4' ?_)
     all_goals
      go_wp2_with fail
      go_roundg f
      case measure => omega
      case rel => exact ⟨f, o3, _, u3, l1, Nat.le_refl _, rfl, HE.out⟩
   ·have HE : Aside (rs = .no 31 /\ Below B W w2) := ⟨n11.symm, s2⟩
    clear s1 s2 s3 s4 n11
    go_wp2_with fail
    exact ⟨rfl, Fin.mk_no HE.out.1 rfl HE.out.2⟩
  ·have hlb : ((last : Int) == 0) = false := by rw [beq_eq_false_iff_ne]; omega
   have hlc : (last == 0) = false := by rw [beq_eq_false_iff_ne]; exact hlast
   have HE : Aside (rs = .ok (o, bl) u /\ ∃ g x vb kn, RSt wr B s r g x v vb kn bs o bl u m /\ Below B W wr) := by
    obtain ⟨g, x, vb, kn, p1, -, -, -, -, -, -, p2, -, -, -, p3⟩ := HX.out
    rw [if_neg hlast] at p3
    exact ⟨p3.symm, g, x, vb, kn, p1, p2⟩
   clear HX
   go_wp2_with fail
   go_end0
   exact Fin.mk_ok HE.out.1 rfl HE.out.2
end Go.Proofs.YthmbbpfgbpacnaaGreatDoor.Inf
