/- A compressed stream in numbers: what is read, symbol by symbol, block by block; no memory. -/
import Derived.Test.YtdgfhbeofidbnaaDoorPkHDecA
import Derived.Test.YtdgfhbeofidbnaaDoorPkLzS
namespace Go.Proofs.YtdgfhbeofidbnaaDoor.Inf
open Go.Lib Go.Proofs.YtdgfhbeofidbnaaDoor.Mem Go.Proofs.YtdgfhbeofidbnaaDoor.Bit Go.Proofs.YtdgfhbeofidbnaaDoor.Huf Go.Proofs.YtdgfhbeofidbnaaDoor.Lz

/-- What was read, and the bit behind it; or an error. -/
inductive Rd (α : Type) where
  | ok (a : α) (t : Nat)
  | no (e : Nat)

/-- n bits. -/
def takeP (bs : List UInt8) (n t : Nat) : Rd Nat := if t + n ≤ 8 * bs.length then .ok (takeN bs t n) (t + n) else .no 20
/-- A symbol of the lengths l. -/
noncomputable def nextP (l : List Int) (bs : List UInt8) (t : Nat) : Rd Nat := if (nextR l bs t).2.1 = 0 then .ok (nextR l bs t).1 (nextR l bs t).2.2 else .no (nextR l bs t).2.1

/-- The order in which the lengths of the symbols of lengths are told. -/
def ordL : List Nat := [16, 17, 18, 0, 8, 7, 9, 6, 10, 5, 11, 4, 12, 3, 13, 2, 14, 1, 15]
/-- The lengths of the symbols of lengths: n more from place k on. -/
def toldP (bs : List UInt8) : Nat → Nat → List Int → Nat → Rd (List Int)
  | 0, _, a, t => .ok a t
  | n + 1, k, a, t => match takeP bs 3 t with
    | .ok x u => toldP bs n (k + 1) (a.set (ordL.getD k 0) (x : Int)) u
    | .no e => .no e
/-- The next length of a row, and how many times it stands there. -/
noncomputable def runP (d : List Int) (bs : List UInt8) (row : List Int) (t : Nat) : Rd (Int × Nat) :=
  match nextP d bs t with
  | .no e => .no e
  | .ok x t1 =>
    if x = 16 then match takeP bs 2 t1 with
      | .no e => .no e
      | .ok y t2 => if row.length = 0 then .no 30 else .ok (row.getD (row.length - 1) 0, 3 + y) t2
    else if x = 17 then match takeP bs 3 t1 with
      | .no e => .no e
      | .ok y t2 => .ok (0, 3 + y) t2
    else if x = 18 then match takeP bs 7 t1 with
      | .no e => .no e
      | .ok y t2 => .ok (0, 11 + y) t2
    else .ok ((x : Int), 1) t1
/-- A row of so many lengths. -/
noncomputable def rowP (d : List Int) (bs : List UInt8) (size : Nat) : Nat → List Int → Nat → Rd (List Int)
  | 0, _, _ => .no 0
  | f + 1, row, t => if size ≤ row.length then .ok row t else
    match runP d bs row t with
    | .no e => .no e
    | .ok vn u => if size < row.length + vn.2 then .no 30 else rowP d bs size f (row ++ List.replicate vn.2 vn.1) u
/-- They leave nothing. -/
def fullB (l : List Int) : Bool := (weightR l).2 && decide ((weightR l).1 = 32768)
/-- How many lengths are not 0, and their sum. -/
def cntN : List Int → Nat
  | [] => 0
  | z :: l => if z = 0 then cntN l else cntN l + 1
def sumZ : List Int → Int
  | [] => 0
  | z :: l => z + sumZ l
/-- May a block have codes of these lengths? -/
def enB (l : List Int) : Bool := fullB l || (decide (cntN l = 0) || (decide (cntN l = 1) && decide (sumZ l = 1)))
/-- The lengths of a dynamic block: all in one row, and how many of them are literals'. -/
noncomputable def lensP (bs : List UInt8) (t : Nat) : Rd (List Int × Nat) :=
  match takeP bs 5 t with
  | .no e => .no e
  | .ok h t1 => match takeP bs 5 t1 with
    | .no e => .no e
    | .ok d t2 => match takeP bs 4 t2 with
      | .no e => .no e
      | .ok c t3 => if 29 < h ∨ 29 < d then .no 31 else
        match toldP bs (c + 4) 0 (List.replicate 19 0) t3 with
        | .no e => .no e
        | .ok told t4 => if fullB told = false then .no 30 else
          match rowP told bs (h + 257 + d + 1) (h + 257 + d + 2) [] t4 with
          | .no e => .no e
          | .ok row t5 => if row.getD 256 0 = 0 ∨ enB (row.take (h + 257)) = false ∨ enB (row.drop (h + 257)) = false then .no 30 else .ok (row, h + 257) t5
/-- A symbol's base and how many bits behind it: of lengths, of distances. -/
def lnB (x : Nat) : Nat × Nat := ((lenB (x : Int)).1.toNat, (lenB (x : Int)).2.toNat)
def dsB (x : Nat) : Nat × Nat := ((distB (x : Int)).1.toNat, (distB (x : Int)).2.toNat)
/-- A copy, byte by byte. -/
def cpB : Nat → Nat → List UInt8 → List UInt8
  | 0, _, out => out
  | n + 1, d, out => cpB n d (out ++ [out.getD (out.length - d) 0])
/-- What stands behind a symbol of a length: how far, how much. -/
noncomputable def copyP (d : List Int) (bs : List UInt8) (x t : Nat) : Rd (Nat × Nat) :=
  if 285 < x then .no 30 else
  match takeP bs (lnB x).2 t with
  | .no e => .no e
  | .ok a t2 => match nextP d bs t2 with
    | .no e => .no e
    | .ok y t3 => if 29 < y then .no 30 else
      match takeP bs (dsB y).2 t3 with
      | .no e => .no e
      | .ok b t4 => .ok ((dsB y).1 + b, (lnB x).1 + a) t4
/-- The symbols of a block. -/
noncomputable def symP (l d : List Int) (bs : List UInt8) (most : Nat) : Nat → List UInt8 → Nat → Rd (List UInt8)
  | 0, _, _ => .no 0
  | f + 1, out, t => match nextP l bs t with
    | .no e => .no e
    | .ok x t1 =>
      if x < 256 then (if most < out.length + 1 then .no 6 else symP l d bs most f (out ++ [UInt8.ofNat x]) t1)
      else if x = 256 then .ok out t1
      else match copyP d bs x t1 with
        | .no e => .no e
        | .ok fn t4 => if out.length < fn.1 then .no 31 else if most < out.length + fn.2 then .no 6 else symP l d bs most f (cpB fn.2 fn.1 out) t4
/-- A stored block. -/
def storP (bs : List UInt8) (most : Nat) (out : List UInt8) (t : Nat) : Rd (List UInt8) :=
  match takeP bs 16 (8 * ((t + 7) / 8)) with
  | .no e => .no e
  | .ok n t1 => match takeP bs 16 t1 with
    | .no e => .no e
    | .ok m t2 => if n + m ≠ 65535 then .no 31 else if most < out.length + n then .no 6 else
      if bs.length < (t2 + 7) / 8 + n then .no 20 else .ok (out ++ (bs.drop ((t2 + 7) / 8)).take n) (8 * ((t2 + 7) / 8 + n))
/-- The fixed lengths. -/
def fixL : List Int := List.replicate 144 8 ++ List.replicate 112 9 ++ List.replicate 24 7 ++ List.replicate 8 8
def fixD : List Int := List.replicate 32 5
/-- A block of a kind. -/
noncomputable def bodyP (F : Nat) (bs : List UInt8) (most kind : Nat) (out : List UInt8) (t : Nat) : Rd (List UInt8) :=
  if kind = 0 then storP bs most out t
  else if kind = 1 then symP fixL fixD bs most F out t
  else if kind = 2 then match lensP bs t with
    | .no e => .no e
    | .ok rw u => symP (rw.1.take rw.2) (rw.1.drop rw.2) bs most F out u
  else .no 31
/-- Block by block. -/
noncomputable def readP (F : Nat) (bs : List UInt8) (most : Nat) : Nat → List UInt8 → List (Nat × Nat) → Nat → Rd (List UInt8 × List (Nat × Nat))
  | 0, _, _, _ => .no 0
  | f + 1, out, bl, t => match takeP bs 1 t with
    | .no e => .no e
    | .ok last t1 => match takeP bs 2 t1 with
      | .no e => .no e
      | .ok kind t2 => match bodyP F bs most kind out t2 with
        | .no e => .no e
        | .ok out' t3 => if last = 0 then readP F bs most f out' (bl ++ [(kind, out'.length - out.length)]) t3 else .ok (out', bl ++ [(kind, out'.length - out.length)]) t3

/-! What is behind the bits stays within them. -/
theorem takeP_ok {bs : List UInt8} {n t x u : Nat} (h : takeP bs n t = .ok x u) : u = t + n ∧ u ≤ 8 * bs.length ∧ x = takeN bs t n ∧ x < 2 ^ n := by
  unfold takeP at h
  split at h
  · simp only [Rd.ok.injEq] at h
    obtain ⟨rfl, rfl⟩ := h
    exact ⟨rfl, by assumption, rfl, takeN_lt bs t n⟩
  · cases h
theorem takeP_no {bs : List UInt8} {n t e : Nat} (h : takeP bs n t = .no e) : e = 20 ∧ 8 * bs.length < t + n := by
  unfold takeP at h
  split at h
  · cases h
  · simp only [Rd.no.injEq] at h
    exact ⟨h.symm, by omega⟩
theorem nextN_err (l : List Int) (bs : List UInt8) (t : Nat) : ∀ f k c, (nextN l bs t f k c).2.1 = 0 ∨ (nextN l bs t f k c).2.1 = 20 ∨ (nextN l bs t f k c).2.1 = 30
  | 0, _, _ => .inr (.inr rfl)
  | f + 1, k, c => by
    unfold nextN
    split
    · exact .inr (.inl rfl)
    · split
      · exact .inl rfl
      · exact nextN_err l bs t f (k + 1) _
theorem nextN_sym (l : List Int) (bs : List UInt8) (t : Nat) : ∀ f k c, (nextN l bs t f k c).2.1 = 0 → (nextN l bs t f k c).1 < l.length ∧ t + k < (nextN l bs t f k c).2.2 ∧ (nextN l bs t f k c).2.2 ≤ 8 * bs.length
  | 0, _, _ => fun h => by cases h
  | f + 1, k, c => by
    unfold nextN
    split
    · intro h; cases h
    · rename_i h0
      split
      · rename_i s hs
        intro _
        have := (symOf_some hs).1
        exact ⟨this, by show t + k < t + k + 1; omega, by show t + k + 1 ≤ _; omega⟩
      · intro h
        have := nextN_sym l bs t f (k + 1) _ h
        exact ⟨this.1, by omega, this.2.2⟩
theorem nextP_ok {l : List Int} {bs : List UInt8} {t x u : Nat} (h : nextP l bs t = .ok x u) : x = (nextR l bs t).1 ∧ (nextR l bs t).2.1 = 0 ∧ u = (nextR l bs t).2.2 ∧ x < l.length ∧ t < u ∧ u ≤ 8 * bs.length := by
  unfold nextP at h
  split at h
  · rename_i h0
    simp only [Rd.ok.injEq] at h
    obtain ⟨rfl, rfl⟩ := h
    refine ⟨rfl, h0, rfl, ?_⟩
    unfold nextR at h0 ⊢
    split at h0
    · cases h0
    · rename_i hn
      rw [if_neg hn]
      have := nextN_sym l bs t 15 0 0 h0
      exact ⟨this.1, by omega, this.2.2⟩
  · cases h
theorem nextP_no {l : List Int} {bs : List UInt8} {t e : Nat} (h : nextP l bs t = .no e) : e = (nextR l bs t).2.1 ∧ e ≠ 0 ∧ (e = 20 ∨ e = 30) := by
  unfold nextP at h
  split at h
  · cases h
  · rename_i h0
    simp only [Rd.no.injEq] at h
    subst h
    refine ⟨rfl, h0, ?_⟩
    unfold nextR at h0 ⊢
    split at h0
    · rename_i hn; rw [if_pos hn]; exact .inr rfl
    · rename_i hn
      rw [if_neg hn]
      rcases nextN_err l bs t 15 0 0 with q | q | q
      · exact absurd q h0
      · exact .inl q
      · exact .inr q
theorem lnB_spec : ∀ x : Fin 29, lenB ((x.val + 257 : Nat) : Int) = (((lnB (x.val + 257)).1 : Int), ((lnB (x.val + 257)).2 : Int)) ∧ 3 ≤ (lnB (x.val + 257)).1 ∧ (lnB (x.val + 257)).1 ≤ 258 ∧ (lnB (x.val + 257)).2 ≤ 5 := by decide +kernel
theorem dsB_spec : ∀ x : Fin 30, distB ((x.val : Nat) : Int) = (((dsB x.val).1 : Int), ((dsB x.val).2 : Int)) ∧ 1 ≤ (dsB x.val).1 ∧ (dsB x.val).1 ≤ 24577 ∧ (dsB x.val).2 ≤ 13 := by decide +kernel
theorem lnB_at {x : Nat} (h1 : 257 ≤ x) (h2 : x ≤ 285) : lenB (x : Int) = (((lnB x).1 : Int), ((lnB x).2 : Int)) ∧ 3 ≤ (lnB x).1 ∧ (lnB x).1 ≤ 258 ∧ (lnB x).2 ≤ 5 := by
  have := lnB_spec ⟨x - 257, by omega⟩
  simp only [show x - 257 + 257 = x by omega] at this
  exact this
theorem dsB_at {x : Nat} (h2 : x ≤ 29) : distB (x : Int) = (((dsB x).1 : Int), ((dsB x).2 : Int)) ∧ 1 ≤ (dsB x).1 ∧ (dsB x).1 ≤ 24577 ∧ (dsB x).2 ≤ 13 := dsB_spec ⟨x, by omega⟩
theorem lenB_out {x : Nat} (h : 285 < x) : lenB (x : Int) = (0, 0) := if_pos (.inr (by omega))
theorem distB_out {x : Nat} (h : 29 < x) : distB (x : Int) = (0, 0) := if_pos (.inr (by omega))
theorem cpB_len (n d : Nat) : ∀ out, (cpB n d out).length = out.length + n := by
  induction n with
  | zero => intro out; rfl
  | succ n ih => intro out; rw [show cpB (n + 1) d out = cpB n d (out ++ [out.getD (out.length - d) 0]) from rfl, ih, List.length_append]; simp; omega
theorem toldP_ok {bs : List UInt8} : ∀ (n k : Nat) (a : List Int) (t : Nat) (r : List Int) (u : Nat), toldP bs n k a t = .ok r u → (∀ z ∈ a, 0 ≤ z ∧ z ≤ 15) → t ≤ 8 * bs.length → r.length = a.length ∧ (∀ z ∈ r, 0 ≤ z ∧ z ≤ 15) ∧ t ≤ u ∧ u ≤ 8 * bs.length
  | 0, k, a, t, r, u, h, ha, ht => by
    simp only [toldP, Rd.ok.injEq] at h
    obtain ⟨rfl, rfl⟩ := h
    exact ⟨rfl, ha, Nat.le_refl _, ht⟩
  | n + 1, k, a, t, r, u, h, ha, ht => by
    unfold toldP at h
    split at h
    · rename_i x v hx
      obtain ⟨h1, h2, h3, h4⟩ := takeP_ok hx
      obtain ⟨q1, q2, q3, q4⟩ := toldP_ok n (k + 1) _ v r u h (fun z hz => by
        rcases List.mem_or_eq_of_mem_set hz with q | q
        · exact ha z q
        · subst q; omega) h2
      exact ⟨by rw [q1, List.length_set], q2, by omega, q4⟩
    · cases h
theorem runP_ok {d : List Int} {bs : List UInt8} {row : List Int} {t : Nat} {vn : Int × Nat} {u : Nat} (h : runP d bs row t = .ok vn u) (hd : d.length ≤ 19) (hr : ∀ z ∈ row, 0 ≤ z ∧ z ≤ 15) : 0 ≤ vn.1 ∧ vn.1 ≤ 15 ∧ 1 ≤ vn.2 ∧ vn.2 ≤ 138 ∧ t < u ∧ u ≤ 8 * bs.length := by
  unfold runP at h
  split at h
  · cases h
  · rename_i x t1 hx
    obtain ⟨h1, h2, h3, h4, h5, h6⟩ := nextP_ok hx
    split at h
    · split at h
      · cases h
      · rename_i y t2 hy
        obtain ⟨g1, g2, g3, g4⟩ := takeP_ok hy
        split at h
        · cases h
        · rename_i hz
          simp only [Rd.ok.injEq] at h
          obtain ⟨rfl, rfl⟩ := h
          have := hr _ (List.getElem_mem (show row.length - 1 < row.length by omega))
          simp only
          rw [List.getD_eq_getElem?_getD, List.getElem?_eq_getElem (show row.length - 1 < row.length by omega), Option.getD_some]
          exact ⟨this.1, this.2, by omega, by omega, by omega, by omega⟩
    · split at h
      · split at h
        · cases h
        · rename_i y t2 hy
          obtain ⟨g1, g2, g3, g4⟩ := takeP_ok hy
          simp only [Rd.ok.injEq] at h
          obtain ⟨rfl, rfl⟩ := h
          simp only
          refine ⟨by omega, by omega, by omega, by omega, by omega, by omega⟩
      · split at h
        · split at h
          · cases h
          · rename_i y t2 hy
            obtain ⟨g1, g2, g3, g4⟩ := takeP_ok hy
            simp only [Rd.ok.injEq] at h
            obtain ⟨rfl, rfl⟩ := h
            simp only
            refine ⟨by omega, by omega, by omega, by omega, by omega, by omega⟩
        · simp only [Rd.ok.injEq] at h
          obtain ⟨rfl, rfl⟩ := h
          simp only
          refine ⟨by omega, by omega, by omega, by omega, by omega, by omega⟩
theorem rowP_ok {d : List Int} {bs : List UInt8} {size : Nat} (hd : d.length ≤ 19) : ∀ (f : Nat) (row : List Int) (t : Nat) (r : List Int) (u : Nat), rowP d bs size f row t = .ok r u → (∀ z ∈ row, 0 ≤ z ∧ z ≤ 15) → row.length ≤ size → t ≤ 8 * bs.length → r.length = size ∧ (∀ z ∈ r, 0 ≤ z ∧ z ≤ 15) ∧ t ≤ u ∧ u ≤ 8 * bs.length
  | 0, row, t, r, u, h, _, _, _ => by cases h
  | f + 1, row, t, r, u, h, hr, hl, ht => by
    unfold rowP at h
    split at h
    · simp only [Rd.ok.injEq] at h
      obtain ⟨rfl, rfl⟩ := h
      exact ⟨by omega, hr, Nat.le_refl _, ht⟩
    · split at h
      · cases h
      · rename_i vn v hv
        split at h
        · cases h
        · obtain ⟨g1, g2, g3, g4, g5, g6⟩ := runP_ok hv hd hr
          obtain ⟨q1, q2, q3, q4⟩ := rowP_ok hd f _ v r u h (fun z hz => by
            rcases List.mem_append.1 hz with q | q
            · exact hr z q
            · obtain ⟨_, rfl⟩ := List.mem_replicate.1 q
              exact ⟨g1, g2⟩) (by rw [List.length_append, List.length_replicate]; omega) g6
          exact ⟨q1, q2, by omega, q4⟩
end Go.Proofs.YtdgfhbeofidbnaaDoor.Inf
