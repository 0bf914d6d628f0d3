/- A compressed stream in numbers: what is read, symbol by symbol, block by block; no memory. Package huff's Full. A stream that gives up by a panic: must, take, next, number, room. Rows of coins and pairs in memory: a count, and a slice of symbols; those that came in, and those of the call's own. -/
import Derived.Test.YthmbbpfgbpacnaaGreatDoorPmHDecA
import Derived.Test.YthmbbpfgbpacnaaGreatDoorPmLzJ
import Derived.Test.YthmbbpfgbpacnaaGreatDoorPmSrtH
import Derived.Test.YthmbbpfgbpacnaaGreatDoorPmLzA
import Derived.Test.YthmbbpfgbpacnaaGreatDoorPmMemG
namespace Go.Proofs.YthmbbpfgbpacnaaGreatDoor.Inf
open Go.Lib Mem Bit Huf Lz
inductive Rd (α : Type) where
 | ok (a : α) (t : Nat)
 | no (e : Nat)
def takeP (bs : List UInt8) (n t : Nat) : Rd Nat := if t + n <= 8 * bs.length then .ok (takeN bs t n) (t + n) else .no 20
noncomputable def nextP (l : List Int) (bs : List UInt8) (t : Nat) : Rd Nat := if (nextR l bs t).2.1 = 0 then .ok (nextR l bs t).1 (nextR l bs t).2.2 else .no (nextR l bs t).2.1
def ordL : List Nat := [16, 17, 18, 0, 8, 7, 9, 6, 10, 5, 11, 4, 12, 3, 13, 2, 14, 1, 15]
def toldP (bs : List UInt8) : Nat -> Nat -> List Int -> Nat -> Rd (List Int)
 | 0, _, a, t => .ok a t
 | n + 1, k, a, t => match takeP bs 3 t with
  | .ok x u => toldP bs n (k + 1) (a.set (ordL.getD k 0) (x : Int)) u
  | .no e => .no e
noncomputable def runP (d : List Int) (bs : List UInt8) (row : List Int) (t : Nat) : Rd (Int × Nat) :=
 match nextP d bs t with
 | .no e => .no e
 | .ok x t1 =>
  if x = 16 then match takeP bs 2 t1 with
   | .no e => .no e
   | .ok y t2 => if row.length = 0 then .no 30 else .ok (row.getD (row.length - 1) 0, 3 + y) t2
  else if x = 17 then match takeP bs 3 t1 with
   | .no e => .no e
   | .ok y t2 => .ok (0, 3 + y) t2
  else if x = 18 then match takeP bs 7 t1 with
   | .no e => .no e
   | .ok y t2 => .ok (0, 11 + y) t2
  else .ok ((x : Int), 1) t1
noncomputable def rowP (d : List Int) (bs : List UInt8) (size : Nat) : Nat -> List Int -> Nat -> Rd (List Int)
 | 0, _, _ => .no 0
 | f + 1, row, t => if size <= row.length then .ok row t else
  match runP d bs row t with
  | .no e => .no e
  | .ok vn u => if size < row.length + vn.2 then .no 30 else rowP d bs size f (row ++ List.replicate vn.2 vn.1) u
def fullB (l : List Int) : Bool := (weightR l).2 && decide ((weightR l).1 = 32768)
def cntN : List Int -> Nat
 | [] => 0
 | z :: l => if z = 0 then cntN l else cntN l + 1
def sumZ : List Int -> Int
 | [] => 0
 | z :: l => z + sumZ l
def enB (l : List Int) : Bool := fullB l || (decide (cntN l = 0) || (decide (cntN l = 1) && decide (sumZ l = 1)))
noncomputable def lensP (bs : List UInt8) (t : Nat) : Rd (List Int × Nat) :=
 match takeP bs 5 t with
 | .no e => .no e
 | .ok h t1 => match takeP bs 5 t1 with
  | .no e => .no e
  | .ok d t2 => match takeP bs 4 t2 with
   | .no e => .no e
   | .ok c t3 => if 29 < h \/ 29 < d then .no 31 else
    match toldP bs (c + 4) 0 (List.replicate 19 0) t3 with
    | .no e => .no e
    | .ok told t4 => if fullB told = false then .no 30 else
     match rowP told bs (h + 257 + d + 1) (h + 257 + d + 2) [] t4 with
     | .no e => .no e
     | .ok row t5 => if row.getD 256 0 = 0 \/ enB (row.take (h + 257)) = false \/ enB (row.drop (h + 257)) = false then .no 30 else .ok (row, h + 257) t5
def lnB (x : Nat) : Nat × Nat := ((lenB (x : Int)).1.toNat, (lenB (x : Int)).2.toNat)
def dsB (x : Nat) : Nat × Nat := ((distB (x : Int)).1.toNat, (distB (x : Int)).2.toNat)
def cpB : Nat -> Nat -> List UInt8 -> List UInt8
 | 0, _, out => out
 | n + 1, d, out => cpB n d (out ++ [out.getD (out.length - d) 0])
noncomputable def copyP (d : List Int) (bs : List UInt8) (x t : Nat) : Rd (Nat × Nat) :=
 if 285 < x then .no 30 else
 match takeP bs (lnB x).2 t with
 | .no e => .no e
 | .ok a t2 => match nextP d bs t2 with
  | .no e => .no e
  | .ok y t3 => if 29 < y then .no 30 else
   match takeP bs (dsB y).2 t3 with
   | .no e => .no e
   | .ok b t4 => .ok ((dsB y).1 + b, (lnB x).1 + a) t4
noncomputable def symP (l d : List Int) (bs : List UInt8) (most : Nat) : Nat -> List UInt8 -> Nat -> Rd (List UInt8)
 | 0, _, _ => .no 0
 | f + 1, out, t => match nextP l bs t with
  | .no e => .no e
  | .ok x t1 =>
   if x < 256 then (if most < out.length + 1 then .no 6 else symP l d bs most f (out ++ [UInt8.ofNat x]) t1)
   else if x = 256 then .ok out t1
   else match copyP d bs x t1 with
    | .no e => .no e
    | .ok fn t4 => if out.length < fn.1 then .no 31 else if most < out.length + fn.2 then .no 6 else symP l d bs most f (cpB fn.2 fn.1 out) t4
def storP (bs : List UInt8) (most : Nat) (out : List UInt8) (t : Nat) : Rd (List UInt8) :=
 match takeP bs 16 (8 * ((t + 7) / 8)) with
 | .no e => .no e
 | .ok n t1 => match takeP bs 16 t1 with
  | .no e => .no e
  | .ok m t2 => if n + m ≠ 65535 then .no 31 else if most < out.length + n then .no 6 else
   if bs.length < (t2 + 7) / 8 + n then .no 20 else .ok (out ++ (bs.drop ((t2 + 7) / 8)).take n) (8 * ((t2 + 7) / 8 + n))
def fixL : List Int := List.replicate 144 8 ++ List.replicate 112 9 ++ List.replicate 24 7 ++ List.replicate 8 8
def fixD : List Int := List.replicate 32 5
noncomputable def bodyP (F : Nat) (bs : List UInt8) (most kind : Nat) (out : List UInt8) (t : Nat) : Rd (List UInt8) :=
 if kind = 0 then storP bs most out t
 else if kind = 1 then symP fixL fixD bs most F out t
 else if kind = 2 then match lensP bs t with
  | .no e => .no e
  | .ok rw u => symP (rw.1.take rw.2) (rw.1.drop rw.2) bs most F out u
 else .no 31
noncomputable def readP (F : Nat) (bs : List UInt8) (most : Nat) : Nat -> List UInt8 -> List (Nat × Nat) -> Nat -> Rd (List UInt8 × List (Nat × Nat))
 | 0, _, _, _ => .no 0
 | f + 1, out, bl, t => match takeP bs 1 t with
  | .no e => .no e
  | .ok last t1 => match takeP bs 2 t1 with
   | .no e => .no e
   | .ok kind t2 => match bodyP F bs most kind out t2 with
    | .no e => .no e
    | .ok out' t3 => if last = 0 then readP F bs most f out' (bl ++ [(kind, out'.length - out.length)]) t3 else .ok (out', bl ++ [(kind, out'.length - out.length)]) t3
theorem takeP_ok {bs : List UInt8} {n t x u : Nat} (h : takeP bs n t = .ok x u) : u = t + n /\ u <= 8 * bs.length /\ x = takeN bs t n /\ x < 2 ^ n := by
 unfold takeP at h
 split at h
 ·simp only [Rd.ok.injEq] at h
  obtain ⟨rfl, rfl⟩ := h
  exact ⟨rfl, by assumption, rfl, takeN_lt bs t n⟩
 ·cases h
theorem takeP_no {bs : List UInt8} {n t e : Nat} (h : takeP bs n t = .no e) : e = 20 /\ 8 * bs.length < t + n := by
 unfold takeP at h
 split at h
 ·cases h
 ·simp only [Rd.no.injEq] at h
  exact ⟨h.symm, by omega⟩
theorem nextN_err (l : List Int) (bs : List UInt8) (t : Nat) : ∀ f k c, (nextN l bs t f k c).2.1 = 0 \/ (nextN l bs t f k c).2.1 = 20 \/ (nextN l bs t f k c).2.1 = 30
 | 0, _, _ => .inr (.inr rfl)
 | f + 1, k, c => by
  unfold nextN
  split
  ·exact .inr (.inl rfl)
  ·split
   ·exact .inl rfl
   ·exact nextN_err l bs t f (k + 1) _
theorem nextN_sym (l : List Int) (bs : List UInt8) (t : Nat) : ∀ f k c, (nextN l bs t f k c).2.1 = 0 -> (nextN l bs t f k c).1 < l.length /\ t + k < (nextN l bs t f k c).2.2 /\ (nextN l bs t f k c).2.2 <= 8 * bs.length
 | 0, _, _ => fun h => by cases h
 | f + 1, k, c => by
  unfold nextN
  split
  ·intro h; cases h
  ·rename_i h0
   split
   ·rename_i s hs
    intro _
    have := (symOf_some hs).1
    exact ⟨this, by show t + k < t + k + 1; omega, by show t + k + 1 <= _; omega⟩
   ·intro h
    have := nextN_sym l bs t f (k + 1) _ h
    exact ⟨this.1, by omega, this.2.2⟩
theorem nextP_ok {l : List Int} {bs : List UInt8} {t x u : Nat} (h : nextP l bs t = .ok x u) : x = (nextR l bs t).1 /\ (nextR l bs t).2.1 = 0 /\ u = (nextR l bs t).2.2 /\ x < l.length /\ t < u /\ u <= 8 * bs.length := by
 unfold nextP at h
 split at h
 ·rename_i h0
  simp only [Rd.ok.injEq] at h
  obtain ⟨rfl, rfl⟩ := h
  refine ⟨rfl, h0, rfl, ?_⟩
  unfold nextR at h0 ⊢
  split at h0
  ·cases h0
  ·rename_i hn
   rw [if_neg hn]
   have := nextN_sym l bs t 15 0 0 h0
   exact ⟨this.1, by omega, this.2.2⟩
 ·cases h
theorem nextP_no {l : List Int} {bs : List UInt8} {t e : Nat} (h : nextP l bs t = .no e) : e = (nextR l bs t).2.1 /\ e ≠ 0 /\ (e = 20 \/ e = 30) := by
 unfold nextP at h
 split at h
 ·cases h
 ·rename_i h0
  simp only [Rd.no.injEq] at h
  subst h
  refine ⟨rfl, h0, ?_⟩
  unfold nextR at h0 ⊢
  split at h0
  ·rename_i hn; rw [if_pos hn]; exact .inr rfl
  ·rename_i hn
   rw [if_neg hn]
   rcases nextN_err l bs t 15 0 0 with q | q | q
   ·exact absurd q h0
   ·exact .inl q
   ·exact .inr q
theorem lnB_spec : ∀ x : Fin 29, lenB ((x.val + 257 : Nat) : Int) = (((lnB (x.val + 257)).1 : Int), ((lnB (x.val + 257)).2 : Int)) /\ 3 <= (lnB (x.val + 257)).1 /\ (lnB (x.val + 257)).1 <= 258 /\ (lnB (x.val + 257)).2 <= 5 := by decide +kernel
theorem dsB_spec : ∀ x : Fin 30, distB ((x.val : Nat) : Int) = (((dsB x.val).1 : Int), ((dsB x.val).2 : Int)) /\ 1 <= (dsB x.val).1 /\ (dsB x.val).1 <= 24577 /\ (dsB x.val).2 <= 13 := by decide +kernel
theorem lnB_at {x : Nat} (h1 : 257 <= x) (h2 : x <= 285) : lenB (x : Int) = (((lnB x).1 : Int), ((lnB x).2 : Int)) /\ 3 <= (lnB x).1 /\ (lnB x).1 <= 258 /\ (lnB x).2 <= 5 := by
 have := lnB_spec ⟨x - 257, by omega⟩
 simp only [show x - 257 + 257 = x by omega] at this
 exact this
theorem dsB_at {x : Nat} (h2 : x <= 29) : distB (x : Int) = (((dsB x).1 : Int), ((dsB x).2 : Int)) /\ 1 <= (dsB x).1 /\ (dsB x).1 <= 24577 /\ (dsB x).2 <= 13 := dsB_spec ⟨x, by omega⟩
theorem lenB_out {x : Nat} (h : 285 < x) : lenB (x : Int) = (0, 0) := if_pos (.inr (by omega))
theorem distB_out {x : Nat} (h : 29 < x) : distB (x : Int) = (0, 0) := if_pos (.inr (by omega))
theorem cpB_len (n d : Nat) : ∀ out, (cpB n d out).length = out.length + n := by
 induction n with
 | zero => intro out; rfl
 | succ n ih => intro out; rw [show cpB (n + 1) d out = cpB n d (out ++ [out.getD (out.length - d) 0]) from rfl, ih, List.length_append]; simp; omega
theorem toldP_ok {bs : List UInt8} : ∀ (n k : Nat) (a : List Int) (t : Nat) (r : List Int) (u : Nat), toldP bs n k a t = .ok r u -> (∀ z ∈ a, 0 <= z /\ z <= 15) -> t <= 8 * bs.length -> r.length = a.length /\ (∀ z ∈ r, 0 <= z /\ z <= 15) /\ t <= u /\ u <= 8 * bs.length
 | 0, k, a, t, r, u, h, ha, ht => by
  simp only [toldP, Rd.ok.injEq] at h
  obtain ⟨rfl, rfl⟩ := h
  exact ⟨rfl, ha, Nat.le_refl _, ht⟩
 | n + 1, k, a, t, r, u, h, ha, ht => by
  unfold toldP at h
  split at h
  ·rename_i x v hx
   obtain ⟨h1, h2, h3, h4⟩ := takeP_ok hx
   obtain ⟨q1, q2, q3, q4⟩ := toldP_ok n (k + 1) _ v r u h (fun z hz => by
    rcases List.mem_or_eq_of_mem_set hz with q | q
    ·exact ha z q
    ·subst q; omega) h2
   exact ⟨by rw [q1, List.length_set], q2, by omega, q4⟩
  ·cases h
theorem runP_ok {d : List Int} {bs : List UInt8} {row : List Int} {t : Nat} {vn : Int × Nat} {u : Nat} (h : runP d bs row t = .ok vn u) (hd : d.length <= 19) (hr : ∀ z ∈ row, 0 <= z /\ z <= 15) : 0 <= vn.1 /\ vn.1 <= 15 /\ 1 <= vn.2 /\ vn.2 <= 138 /\ t < u /\ u <= 8 * bs.length := by
 unfold runP at h
 split at h
 ·cases h
 ·rename_i x t1 hx
  obtain ⟨h1, h2, h3, h4, h5, h6⟩ := nextP_ok hx
  split at h
  ·split at h
   ·cases h
   ·rename_i y t2 hy
    obtain ⟨g1, g2, g3, g4⟩ := takeP_ok hy
    split at h
    ·cases h
    ·rename_i hz
     simp only [Rd.ok.injEq] at h
     obtain ⟨rfl, rfl⟩ := h
     have := hr _ (List.getElem_mem (show row.length - 1 < row.length by omega))
     simp only
     rw [List.getD_eq_getElem?_getD, List.getElem?_eq_getElem (show row.length - 1 < row.length by omega), Option.getD_some]
     exact ⟨this.1, this.2, by omega, by omega, by omega, by omega⟩
  ·split at h
   ·split at h
    ·cases h
    ·rename_i y t2 hy
     obtain ⟨g1, g2, g3, g4⟩ := takeP_ok hy
     simp only [Rd.ok.injEq] at h
     obtain ⟨rfl, rfl⟩ := h
     simp only
     refine ⟨by omega, by omega, by omega, by omega, by omega, by omega⟩
   ·split at h
    ·split at h
     ·cases h
     ·rename_i y t2 hy
      obtain ⟨g1, g2, g3, g4⟩ := takeP_ok hy
      simp only [Rd.ok.injEq] at h
      obtain ⟨rfl, rfl⟩ := h
      simp only
      refine ⟨by omega, by omega, by omega, by omega, by omega, by omega⟩
    ·simp only [Rd.ok.injEq] at h
     obtain ⟨rfl, rfl⟩ := h
     simp only
     refine ⟨by omega, by omega, by omega, by omega, by omega, by omega⟩
theorem rowP_ok {d : List Int} {bs : List UInt8} {size : Nat} (hd : d.length <= 19) : ∀ (f : Nat) (row : List Int) (t : Nat) (r : List Int) (u : Nat), rowP d bs size f row t = .ok r u -> (∀ z ∈ row, 0 <= z /\ z <= 15) -> row.length <= size -> t <= 8 * bs.length -> r.length = size /\ (∀ z ∈ r, 0 <= z /\ z <= 15) /\ t <= u /\ u <= 8 * bs.length
 | 0, row, t, r, u, h, _, _, _ => by cases h
 | f + 1, row, t, r, u, h, hr, hl, ht => by
  unfold rowP at h
  split at h
  ·simp only [Rd.ok.injEq] at h
   obtain ⟨rfl, rfl⟩ := h
   exact ⟨by omega, hr, Nat.le_refl _, ht⟩
  ·split at h
   ·cases h
   ·rename_i vn v hv
    split at h
    ·cases h
    ·obtain ⟨g1, g2, g3, g4, g5, g6⟩ := runP_ok hv hd hr
     obtain ⟨q1, q2, q3, q4⟩ := rowP_ok hd f _ v r u h (fun z hz => by
      rcases List.mem_append.1 hz with q | q
      ·exact hr z q
      ·obtain ⟨_, rfl⟩ := List.mem_replicate.1 q
       exact ⟨g1, g2⟩) (by rw [List.length_append, List.length_replicate]; omega) g6
     exact ⟨q1, q2, by omega, q4⟩
end Go.Proofs.YthmbbpfgbpacnaaGreatDoor.Inf
namespace Go.Proofs.YthmbbpfgbpacnaaGreatDoor.Huf
open Go.RowKit Go.Shelf Go.Lib Mem
set_option maxHeartbeats 1000000 in
theorem full_any (W : World) (v : Value) (l : List Int) (hs : SrcI W v l) (hl : l.length <= 17592186044416) :
  Calls Tryz.prog 126 #[v] W fun e w' => e = .returned (.bool ((weightR l).2 && decide ((weightR l).1 = 32768))) /\ w' = W := by
 have HC := Lib.hid (weight_any W v l hs hl)
 clear hs
 generalize weightR l = r at HC ⊢
 obtain ⟨s, b⟩ := r
 go_enter Tryz.func126, Tryz.ntmps126
 cases b with
 | false =>
  go_wp2_with (first | (go_at_call 146; refine HC.out.mono ?_; rintro e w2 ⟨rfl, rfl⟩))
  go_ret
  exact ⟨rfl, rfl⟩
 | true =>
  by_cases h : s = 32768
  ·go_wp2_with (first | (go_at_call 146; refine HC.out.mono ?_; rintro e w2 ⟨rfl, rfl⟩))
   go_ret
   exact ⟨by simp [h], rfl⟩
  ·go_wp2_with (first | (go_at_call 146; refine HC.out.mono ?_; rintro e w2 ⟨rfl, rfl⟩))
   go_ret
   exact ⟨by simp [h], rfl⟩
end Go.Proofs.YthmbbpfgbpacnaaGreatDoor.Huf
namespace Go.Proofs.YthmbbpfgbpacnaaGreatDoor.Inf
open Go.RowKit Go.Shelf Go.Lib Mem Bit Huf Lz
def pan (e : Nat) : List PanicEntry := [{ v := .iface 24 (.int .i64 (e : Int)), recovered := false }]
def Fin {α : Type} (p : Rd α) (f : α -> Value) (G : α -> Nat -> World -> Prop) (H : World -> Prop) (e : Ending) (w' : World) : Prop :=
 match p with
 | .ok a u => e = .returned (f a) /\ G a u w'
 | .no c => e = .panicked (pan c) /\ H w'
theorem fin_ok {α : Type} {p : Rd α} {f : α -> Value} {G : α -> Nat -> World -> Prop} {H : World -> Prop} {n : Nat} {args : Array Value} {W : World} (h : Calls Tryz.prog n args W (Fin p f G H)) {a : α} {u : Nat} (hp : p = .ok a u) :
  Calls Tryz.prog n args W fun e w' => e = .returned (f a) /\ G a u w' := by subst hp; exact h
theorem fin_no {α : Type} {p : Rd α} {f : α -> Value} {G : α -> Nat -> World -> Prop} {H : World -> Prop} {n : Nat} {args : Array Value} {W : World} (h : Calls Tryz.prog n args W (Fin p f G H)) {c : Nat} (hp : p = .no c) :
  Calls Tryz.prog n args W fun e w' => e = .panicked (pan c) /\ H w' := by subst hp; exact h
set_option maxHeartbeats 400000 in
theorem must_ok (W : World) : Calls Tryz.prog 95 #[.int .i64 0] W fun e w' => e = .returned (.tuple #[]) /\ W = w' := by
 go_enter Tryz.func95, Tryz.ntmps95
 go_wp2
 go_end0
 exact ⟨rfl, rfl⟩
set_option maxHeartbeats 400000 in
theorem must_no (W : World) (c : Nat) (hc : c ≠ 0) : Calls Tryz.prog 95 #[.int .i64 (c : Int)] W fun e w' => e = .panicked (pan c) /\ W = w' := by
 have h1 : ((c : Int) != 0) = true := by simp; exact hc
 have h2 : ((c : Int) == 0) = false := by simp; exact hc
 unfold pan
 clear hc
 go_enter Tryz.func95, Tryz.ntmps95
 go_wp2
 exact ⟨rfl, rfl, rfl⟩
set_option maxHeartbeats 1000000 in
theorem stake_any (W : World) (B s r : Nat) (v : Value) (bs : List UInt8) (t n : Nat) (hc : W.cell? ⟨s, 0, none⟩ = some (.pointer (some ⟨r, 0, none⟩))) (hr : RB W B r v bs t) (hm : Masks W B) (hn : n <= 32) :
  Calls Tryz.prog 72 #[.pointer (some ⟨s, 0, none⟩), .int .i64 (n : Int)] W (Fin (takeP bs n t) (fun x => .int .i64 (x : Int)) (fun _ u w' => RB w' B r v bs u /\ Only (fun k => k = r) W w') (fun w' => Only (fun k => k = r) W w')) := by
 unfold takeP
 split
 ·rename_i hs
  have HT := Lib.hid (take_ok W B r v bs t n hr hm hn hs)
  have hx := takeN_bd
  clear hr hm hx hs
  show Calls _ _ _ _ fun e w' => _ /\ _
  go_enter Tryz.func72, Tryz.ntmps72
  go_wp2_with (first
   | (go_at_call 99; refine HT.out.mono ?_; rintro e w1 ⟨rfl, q1, q2⟩)
   | (go_at_call 95; refine (must_ok _).mono ?_; rintro e w2 ⟨rfl, rfl⟩))
  go_ret
  exact ⟨rfl, q1, q2⟩
 ·rename_i hs
  have HT := Lib.hid (take_end W B r v bs t n hr hn (by omega))
  clear hr hm hs
  show Calls _ _ _ _ fun e w' => _ /\ _
  go_enter Tryz.func72, Tryz.ntmps72
  go_wp2_with (first
   | (go_at_call 99; refine HT.out.mono ?_; rintro e w1 ⟨rfl, q1⟩)
   | (go_at_call 95; refine (must_no _ 20 (by decide)).mono ?_; rintro e w2 ⟨rfl, rfl⟩))
  exact ⟨rfl, rfl, q1.only⟩
set_option maxHeartbeats 1000000 in
theorem snext_any (W : World) (B s r b m : Nat) (v : Value) (l : List Int) (bs : List UInt8) (t : Nat) (hc : W.cell? ⟨s, 0, none⟩ = some (.pointer (some ⟨r, 0, none⟩))) (hd : DecAt W B b m l) (hr : RB W B r v bs t) (hm : Masks W B) (hbr : b ≠ r) (hmr : m ≠ r) :
  Calls Tryz.prog 120 #[.pointer (some ⟨s, 0, none⟩), .pointer (some ⟨b, 0, none⟩)] W (Fin (nextP l bs t) (fun x => .int .i64 (x : Int)) (fun _ u w' => RB w' B r v bs u /\ Only (fun k => k = r) W w') (fun w' => Only (fun k => k = r) W w')) := by
 have HT := next_any W B b m r v l bs t hd hr hm hbr hmr
 clear hd hr hm hbr hmr
 unfold nextP
 generalize nextR l bs t = q at HT
 obtain ⟨x, e, u⟩ := q
 by_cases he : e = 0
 ·subst he
  have HT := Lib.hid HT
  show Calls _ _ _ _ fun e w' => _ /\ _
  go_enter Tryz.func120, Tryz.ntmps120
  go_wp2_with (first
   | (go_at_call 144; refine HT.out.mono ?_; rintro e w1 ⟨rfl, q1, q2⟩)
   | (go_at_call 95; refine (must_ok _).mono ?_; rintro e w2 ⟨rfl, rfl⟩))
  go_ret
  exact ⟨rfl, q1, q2⟩
 ·simp only [he, if_false]
  have HT := Lib.hid HT
  have HE : Aside (e ≠ 0) := he
  clear he
  show Calls _ _ _ _ fun e w' => _ /\ _
  go_enter Tryz.func120, Tryz.ntmps120
  go_wp2_with (first
   | (go_at_call 144; refine HT.out.mono ?_; rintro e w1 ⟨rfl, q1, q2⟩)
   | (go_at_call 95; refine (must_no _ e HE.out).mono ?_; rintro e w2 ⟨rfl, rfl⟩))
  exact ⟨rfl, rfl, q2⟩
set_option maxHeartbeats 1000000 in
theorem snum_zero (W : World) (s : Nat) (x : Int) : Calls Tryz.prog 121 #[.pointer (some ⟨s, 0, none⟩), .int .i64 0, .int .i64 x] W fun e w' => e = .panicked (pan 30) /\ W = w' := by
 unfold pan
 go_enter Tryz.func121, Tryz.ntmps121
 go_wp2
 exact ⟨rfl, rfl, rfl⟩
set_option maxHeartbeats 1000000 in
theorem snum_any (W : World) (B s r : Nat) (v : Value) (bs : List UInt8) (t n base : Nat) (hc : W.cell? ⟨s, 0, none⟩ = some (.pointer (some ⟨r, 0, none⟩))) (hr : RB W B r v bs t) (hm : Masks W B) (hn : n <= 16) (hb : 1 <= base) (hb2 : base <= 65536) :
  Calls Tryz.prog 121 #[.pointer (some ⟨s, 0, none⟩), .int .i64 (base : Int), .int .i64 (n : Int)] W (Fin (takeP bs n t) (fun x => .int .i64 ((base + x : Nat) : Int)) (fun _ u w' => RB w' B r v bs u /\ Only (fun k => k = r) W w') (fun w' => Only (fun k => k = r) W w')) := by
 have HT := stake_any W B s r v bs t n hc hr hm (by omega)
 have hz1 : ((base : Int) == 0) = false := by rw [beq_eq_false_iff_ne]; omega
 have hz2 : (base == 0) = false := by rw [beq_eq_false_iff_ne]; omega
 have hz3 : ¬ (base : Int) = 0 := by omega
 cases hp : takeP bs n t with
 | ok x u =>
  have hx := (takeP_ok hp).2.2.2
  have hx2 : 2 ^ n <= 2 ^ 16 := Nat.pow_le_pow_right (by decide) hn
  have hw : IntKind.i64.wrap ((base : Int) + (x : Int)) = ((base + x : Nat) : Int) := by rw [IntKind.wrap_i64]; omega
  have hxb : x <= 65536 := by omega
  have HT := Lib.hid (fin_ok HT hp)
  clear hx hx2 hp hr hm hb
  show Calls _ _ _ _ fun e w' => _ /\ _
  go_enter Tryz.func121, Tryz.ntmps121
  go_wp2_with (go_at_call 72; refine HT.out.mono ?_; rintro e w1 ⟨rfl, q1, q2⟩)
  go_ret
  exact ⟨by first | rfl | (congr 1), q1, q2⟩
 | no c =>
  have HT := Lib.hid (fin_no HT hp)
  clear hp hr hm hb
  show Calls _ _ _ _ fun e w' => _ /\ _
  go_enter Tryz.func121, Tryz.ntmps121
  go_wp2_with (go_at_call 72; refine HT.out.mono ?_; rintro e w1 ⟨rfl, q1⟩)
  exact ⟨rfl, rfl, q1⟩
set_option maxHeartbeats 1000000 in
theorem room_any (W : World) (s n m x cap : Nat) (ao : Option Addr) (h2 : W.cell? ⟨s, 2, none⟩ = some (.int .i64 (m : Int))) (h3 : W.cell? ⟨s, 3, none⟩ = some (.slice ao x cap)) (hm : m <= 1048576) (hx : x <= 1048576) (hn : n <= 1048576) :
  Calls Tryz.prog 93 #[.pointer (some ⟨s, 0, none⟩), .int .i64 (n : Int)] W fun e w' => (if m < x + n then e = .panicked (pan 6) else e = .returned (.tuple #[])) /\ ∃ k, w' = W.drewN k := by
 by_cases h : m < x + n
 ·have h' : (n : Int) > (m : Int) - (x : Int) := by omega
  simp only [if_pos h]
  unfold pan
  clear h
  go_enter Tryz.func93, Tryz.ntmps93
  go_wp2
  go_quiet (fail)
  go_wp2
  exact ⟨rfl, rfl, _, rfl⟩
 ·have h' : ¬ (n : Int) > (m : Int) - (x : Int) := by omega
  simp only [if_neg h]
  clear h
  go_enter Tryz.func93, Tryz.ntmps93
  go_wp2
  go_quiet (fail)
  go_wp2
  go_end0
  exact ⟨rfl, _, rfl⟩
end Go.Proofs.YthmbbpfgbpacnaaGreatDoor.Inf
namespace Go.Proofs.YthmbbpfgbpacnaaGreatDoor.Huf
open Go.RowKit Go.Shelf Go.Lib Mem
theorem app_gen {T e : TypeId} {size bytes : Nat} {zero : Value} (hU : Tryz.prog.underlying T = some (.slice e)) (hinfo : (Tryz.prog.info? e).map (fun i => (i.zero, i.size, i.bytes)) = some (some zero, size, bytes)) (hz : zero.cells.size = size) (hpos : 0 < size)
  (W : World) (base : Nat) (v x : Value) (ty : TypeId) (n m : Nat) (xs ys : List Value) (hown : W.ownsRow base e size v n xs) (hbase : base <= W.heap.size)
  (hsrc : (x = .slice none 0 0 /\ ys = [] /\ m = 0) \/ ∃ a c, x = .slice (some a) m c /\ ys.length = m * size /\ ∀ j u, ys[j]? = some u -> W.cell? (a.add j) = some u) (hone : ∀ u ∈ ys, u.oneCell' = true) (hlim : (n + m) * bytes <= 140737488355328) (hnm : n + m <= 140737488355328) :
  ∃ v' W', (Builtin.append_ #[T, T] ty #[v, x]).run Tryz.prog W = .ok v' W' /\ W'.ownsRow base e size v' (n + m) (xs ++ ys) /\ W.grownBy W' v.ownBlock /\ (v'.ownBlock = v.ownBlock \/ ∀ k, v'.ownBlock = some k -> W.heap.size <= k) := by
 obtain ⟨i0, hi, hz0, hz1, hz2⟩ := info_parts hinfo
 rcases hsrc with ⟨rfl, rfl, rfl⟩ | ⟨a, c, rfl, hl1, hc⟩
 ·rw [List.append_nil]
  exact ⟨v, W, run_append_owned_none (P := Tryz.prog) (w := W) base T ty e i0 size hU hi v _ _ hown, hown, ⟨rfl, rfl, rfl, Nat.le_refl _, fun _ _ _ => rfl⟩, .inl rfl⟩
 ·have h63 : n + m <= maxLen := by unfold maxLen; omega
  have run : ∀ b, b <= W.heap.size -> W.ownsRow b e size v n xs -> ∃ v' W', (Builtin.append_ #[T, T] ty #[v, .slice (some a) m c]).run Tryz.prog W = .ok v' W' /\ W'.ownsRow b e size v' (n + m) (xs ++ ys) /\ W.grownBy W' v.ownBlock := fun b hb ho => by
   obtain ⟨v', W', q1, q2, q3, _⟩ := run_append_own (P := Tryz.prog) W b T ty e i0 zero size bytes hU hi hz0 hz1 hz2 hz hpos v _ _ ho a m c ys hl1 hc hone h63 hlim hb
   exact ⟨v', W', q1, q2, q3⟩
  obtain ⟨v', W', hr, ho, hg⟩ := run base hbase hown
  refine ⟨v', W', hr, ho, hg, ?_⟩
  rcases hown.2 with ⟨rfl, h0⟩ | ⟨g, cap, cur, rfl, hbg, hgg, hnc, hcm, hcs, htk⟩
  ·obtain ⟨v2, W2, hr2, ho2, _⟩ := run W.heap.size (Nat.le_refl _) ⟨hown.1, .inl ⟨rfl, h0⟩⟩
   rw [hr] at hr2
   injection hr2 with e1 e2
   subst e1
   exact .inr fun k hk => (ho2.lt k hk).1
  ·by_cases hroom : n + m <= cap
   ·have hr2 := run_append_room (P := Tryz.prog) W T ty e i0 hU hi g n cap cur hgg a m c ys (by rw [hz1]; exact hl1) hc hone hroom (by rw [hz1, hl1, hcs, <- Nat.add_mul]; exact Nat.mul_le_mul_right _ hroom)
    rw [hr] at hr2
    injection hr2 with e1 e2
    subst e1
    exact .inl rfl
   ·have hr2 := run_append_grow (P := Tryz.prog) W T ty e i0 zero hU hi hz0 ⟨g, 0, none⟩ n cap xs (by rw [hz1]; exact hown.1) (hown.cells (g := g) rfl) a m c ys (by rw [hz1]; exact hl1) hc (by omega) (by unfold maxLen at h63; omega) (by rw [hz2]; exact growslice_fits (by omega) hlim)
    rw [hr] at hr2
    injection hr2 with e1 e2
    subst e1
    exact .inr fun k hk => by simp [Value.ownBlock] at hk; omega
theorem step_append_run {P : Program} {ops : Array Oper} {o : Oper} {a : Act} {w : World} {K : Act -> World -> Prop} {Q : Exit -> Act -> World -> Prop} {E : Prop}
  (hg : o.guard = none) (s x : Operand) (t tn : TypeId) (ho : o.op = .call { callee := .builtin .append, args := #[s, x], argTypes := #[t, tn] }) (vs vx : Value) (hs : a.eval s = vs) (hx : a.eval x = vx)
  (v' : Value) (w' : World) (hr : (Builtin.append_ #[t, tn] o.type #[vs, vx]).run P w = .ok v' w') (hK : K (a.put o.dst v') w') : if Region.wanted o (yielded ops a.tmps) = true then Oper.wp P o a w K Q else E := by
 have hw : Region.wanted o (yielded ops a.tmps) = true := by simp [Region.wanted, hg]
 rw [if_pos hw]
 exact Lib.wp_append_run w s x t tn ho vs vx hs hx v' w' hr hK
structure ItV where
 n : Nat
 s : List Nat
 ba : Option Addr
 bc : Nat
def ItV.item (x : ItV) : Nat × List Nat := (x.n, x.s)
def ItV.sl (x : ItV) : Value := .slice x.ba x.s.length x.bc
def itCells (x : ItV) : List Value := [.int .i64 (x.n : Int), x.sl]
def itsCells (xs : List ItV) : List Value := xs.flatMap itCells
theorem itsCells_len (xs : List ItV) : (itsCells xs).length = xs.length * 2 := by
 induction xs with
 | nil => rfl
 | cons x xs ih => unfold itsCells at *; rw [List.flatMap_cons, List.length_append, ih, List.length_cons]; simp [itCells]; omega
theorem itsCells_append (xs ys : List ItV) : itsCells (xs ++ ys) = itsCells xs ++ itsCells ys := by simp [itsCells]
theorem itsCells_at (xs : List ItV) : ∀ (j : Nat) (x : ItV) (i : Nat), xs[j]? = some x -> i < 2 -> (itsCells xs)[j * 2 + i]? = (itCells x)[i]? := by
 induction xs with
 | nil => intro j x i h _; simp at h
 | cons y xs ih =>
  intro j x i h hi
  unfold itsCells at *
  rw [List.flatMap_cons]
  have hx : (itCells y).length = 2 := rfl
  cases j with
  | zero =>
   obtain rfl : y = x := by simpa using h
   rw [List.getElem?_append_left (by omega), Nat.zero_mul, Nat.zero_add]
  | succ j =>
   rw [List.getElem?_append_right (by omega), hx, show (j + 1) * 2 + i - 2 = j * 2 + i by omega]
   exact ih j x i (by simpa using h) hi
theorem itsCells_one (xs : List ItV) : ∀ u ∈ itsCells xs, u.oneCell' = true := by
 intro u hu
 unfold itsCells at hu
 obtain ⟨x, _, hx⟩ := List.mem_flatMap.1 hu
 simp only [itCells, ItV.sl, List.mem_cons, List.not_mem_nil, or_false] at hx
 rcases hx with rfl | rfl <;> rfl
def natI (l : List Nat) : List Int := l.map Int.ofNat
theorem natI_len (l : List Nat) : (natI l).length = l.length := List.length_map ..
theorem natI_append (l m : List Nat) : natI (l ++ m) = natI l ++ natI m := List.map_append
def ItS (W : World) (x : ItV) : Prop := SrcI W x.sl (natI x.s) /\ 0 < x.s.length
theorem ItS.below {W W' : World} {x : ItV} (h : ItS W x) (hb : Below W.heap.size W W') : ItS W' x := ⟨h.1.below hb, h.2⟩
theorem ItS.lt {W : World} {x : ItV} (h : ItS W x) {a : Addr} (ha : x.ba = some a) : a.block < W.heap.size := by
 have h1 := h.1
 unfold ItV.sl at h1
 rw [ha] at h1
 exact h1.lt (by rw [natI_len]; exact h.2)
theorem ItS.only {S : Nat -> Prop} {W W' : World} {x : ItV} (h : ItS W x) (ho : Only S W W') (hx : ∀ a, x.ba = some a -> ¬ S a.block) : ItS W' x :=
 ⟨h.1.only ho (fun a n c e => by
  unfold ItV.sl at e
  injection e with e1 _ _
  exact hx a e1), h.2⟩
structure SrcIt (W : World) (v : Value) (xs : List ItV) : Prop where
 sh : ∃ ao c, v = .slice ao xs.length c /\ xs.length <= c /\ (ao = none -> c = 0) /\ ∀ a, ao = some a -> ∀ j u, (itsCells xs)[j]? = some u -> W.cell? (a.add j) = some u
 its : ∀ x ∈ xs, ItS W x
theorem SrcIt.below {W W' : World} {v : Value} {xs : List ItV} (h : SrcIt W v xs) (hb : Below W.heap.size W W') : SrcIt W' v xs := by
 obtain ⟨ao, c, h1, h2, h3, h4⟩ := h.sh
 exact ⟨⟨ao, c, h1, h2, h3, fun a ha j u hu => (hb.cell (block_lt_of_cell (h4 a ha j u hu))).trans (h4 a ha j u hu)⟩, fun x hx => (h.its x hx).below hb⟩
structure OwnIt (e : TypeId) (W : World) (B : Nat) (v : Value) (xs : List ItV) : Prop where
 row : W.ownsRow B e 2 v xs.length (itsCells xs)
 its : ∀ x ∈ xs, ItS W x
 sep : ∀ x ∈ xs, ∀ a, x.ba = some a -> v.ownBlock ≠ some a.block
theorem OwnIt.nil (e : TypeId) (W : World) (B : Nat) : OwnIt e W B (.slice none 0 0) [] := ⟨⟨rfl, .inl ⟨rfl, rfl⟩⟩, fun x hx => (by cases hx), fun x hx => (by cases hx)⟩
theorem OwnIt.src {e : TypeId} {W : World} {B : Nat} {v : Value} {xs : List ItV} (h : OwnIt e W B v xs) : SrcIt W v xs := by
 refine ⟨?_, h.its⟩
 rcases h.row.2 with ⟨hv, h0⟩ | ⟨g, cap, cur, hv, hg, hh, hnc, hcm, hcs, htk⟩
 ·exact ⟨none, 0, by rw [hv, h0], by omega, fun _ => rfl, fun a ha => by cases ha⟩
 ·exact ⟨some ⟨g, 0, none⟩, cap, hv, hnc, fun q => (by cases q), fun a ha j u hu => by cases ha; exact h.row.cells (g := g) (by rw [hv]; rfl) j u hu⟩
theorem OwnIt.below {e : TypeId} {W W' : World} {B : Nat} {v : Value} {xs : List ItV} (h : OwnIt e W B v xs) (hb : Below W.heap.size W W') : OwnIt e W' B v xs :=
 ⟨own_below h.row hb, fun x hx => (h.its x hx).below hb, h.sep⟩
section
variable {T e : TypeId} (hU : Tryz.prog.underlying T = some (.slice e)) (hinfo : (Tryz.prog.info? e).map (fun i => (i.zero, i.size, i.bytes)) = some (some (.agg #[.int .i64 0, .slice none 0 0]), 2, 32))
include hU hinfo
theorem OwnIt.push {W : World} {B : Nat} {v : Value} {xs : List ItV} (h : OwnIt e W B v xs) (hB : B <= W.heap.size) (x : ItV) (hx : ItS W x) (hsep : ∀ a, x.ba = some a -> v.ownBlock ≠ some a.block) (hlim : xs.length + 1 <= 1048576) :
  ∃ v' W', (Builtin.append_ #[T, T] T #[v, .slice (some ⟨W.heap.size, 0, none⟩) 1 1]).run Tryz.prog (W.alloc (.cells #[.int .i64 (x.n : Int), .slice x.ba x.s.length x.bc] e)) = .ok v' W' /\ OwnIt e W' B v' (xs ++ [x]) /\ Below B W W' /\ B <= W'.heap.size /\ Only (fun k => v.ownBlock = some k) W W' /\ (v'.ownBlock = v.ownBlock \/ ∀ k, v'.ownBlock = some k -> W.heap.size <= k) := by
 have hA := (Below.refl W.heap.size W).alloc (Nat.le_refl _) (.cells #[.int .i64 (x.n : Int), .slice x.ba x.s.length x.bc] e)
 have hrow := own_below h.row hA
 have hnews : ∀ j u, (itCells x)[j]? = some u -> (W.alloc (.cells #[.int .i64 (x.n : Int), .slice x.ba x.s.length x.bc] e)).cell? ((⟨W.heap.size, 0, none⟩ : Addr).add j) = some u := fun j u hj => by
  rw [Lib.addr_add, cell_of_row _ _ _ _ _ (0, 0) (heap_alloc_new _ _), Nat.zero_add]
  simpa [itCells, ItV.sl] using hj
 obtain ⟨v', W', h1, h2, h3, h4⟩ := app_gen hU hinfo rfl (by decide) _ B v (.slice (some ⟨W.heap.size, 0, none⟩) 1 1) T xs.length 1 (itsCells xs) (itCells x) hrow (Nat.le_trans hB hA.size) (.inr ⟨_, 1, rfl, rfl, hnews⟩)
  (by intro u hu; exact itsCells_one [x] u (by unfold itsCells; rw [List.flatMap_cons]; exact List.mem_append_left _ hu)) (by omega) (by omega)
 have hbW := bel_grown hrow h3 (Nat.le_trans hB hA.size) (Nat.le_refl B)
 have ho : Only (fun k => v.ownBlock = some k) W W' := (Only.of_below hA).trans (only_grown h3 (fun k hk => hk)) (fun i hi => .inl hi)
 refine ⟨v', W', h1, ⟨?_, ?_, ?_⟩, (hA.mono hB).trans hbW, Nat.le_trans hB ho.size, ho, h4.imp id fun q k hk => Nat.le_trans hA.size (q k hk)⟩
 ·rw [List.length_append, itsCells_append]
  have : itsCells [x] = itCells x := by unfold itsCells; rw [List.flatMap_cons, List.flatMap_nil, List.append_nil]
  rw [this]
  exact h2
 ·intro y hy
  rcases List.mem_append.1 hy with hy | hy
  ·exact (h.its y hy).only ho (fun a ha e => h.sep y hy a ha e)
  ·rw [List.mem_singleton.1 hy]
   exact hx.only ho (fun a ha e => hsep a ha e)
 ·intro y hy a ha hk
  have hlt : a.block < W.heap.size /\ v.ownBlock ≠ some a.block := by
   rcases List.mem_append.1 hy with hy | hy
   ·exact ⟨(h.its y hy).lt ha, h.sep y hy a ha⟩
   ·rw [List.mem_singleton.1 hy] at ha
    exact ⟨hx.lt ha, hsep a ha⟩
  rcases h4 with q | q
  ·exact hlt.2 (q.symm.trans hk)
  ·have := Nat.le_trans hA.size (q _ hk)
   omega
theorem OwnIt.pushAll {W : World} {B : Nat} {v y : Value} {xs ys : List ItV} (h : OwnIt e W B v xs) (hB : B <= W.heap.size) (hy : SrcIt W y ys) (hsep : ∀ x ∈ ys, ∀ a, x.ba = some a -> v.ownBlock ≠ some a.block) (hlim : xs.length + ys.length <= 1048576) :
  ∃ v' W', (Builtin.append_ #[T, T] T #[v, y]).run Tryz.prog W = .ok v' W' /\ OwnIt e W' B v' (xs ++ ys) /\ Below B W W' /\ B <= W'.heap.size := by
 obtain ⟨ao, c, rfl, hc1, hc2, hcell⟩ := hy.sh
 obtain ⟨v', W', h1, h2, h3, h4⟩ := app_gen hU hinfo rfl (by decide) W B v (.slice ao ys.length c) T xs.length ys.length (itsCells xs) (itsCells ys) h.row hB (by
  cases ao with
  | none =>
   have := hc2 rfl
   subst this
   obtain rfl : ys = [] := List.eq_nil_of_length_eq_zero (by omega)
   exact .inl ⟨rfl, rfl, rfl⟩
  | some a => exact .inr ⟨a, c, rfl, itsCells_len ys, hcell a rfl⟩) (itsCells_one ys) (by omega) (by omega)
 have ho : Only (fun k => v.ownBlock = some k) W W' := only_grown h3 (fun k hk => hk)
 refine ⟨v', W', h1, ⟨?_, ?_, ?_⟩, bel_grown h.row h3 hB (Nat.le_refl B), Nat.le_trans hB ho.size⟩
 ·rw [List.length_append, itsCells_append]
  exact h2
 ·intro x hx
  rcases List.mem_append.1 hx with hx | hx
  ·exact (h.its x hx).only ho (fun a ha e => h.sep x hx a ha e)
  ·exact (hy.its x hx).only ho (fun a ha e => hsep x hx a ha e)
 ·intro x hx a ha hk
  have hlt : a.block < W.heap.size /\ v.ownBlock ≠ some a.block := by
   rcases List.mem_append.1 hx with hx | hx
   ·exact ⟨(h.its x hx).lt ha, h.sep x hx a ha⟩
   ·exact ⟨(hy.its x hx).lt ha, hsep x hx a ha⟩
  rcases h4 with q | q
  ·exact hlt.2 (q.symm.trans hk)
  ·have := q _ hk
   omega
end
theorem SrcIt.at {W : World} {v : Value} {xs : List ItV} (h : SrcIt W v xs) (j : Nat) (hj : j < xs.length) : ∃ a c, v = .slice (some a) xs.length c /\ xs.length <= c /\ W.cell? (a.add (j * 2)) = some (.int .i64 ((xs[j]).n : Int)) /\ W.cell? (a.add (j * 2 + 1)) = some (xs[j]).sl := by
 obtain ⟨ao, c, rfl, h1, h2, h3⟩ := h.sh
 cases ao with
 | none => have := h2 rfl; omega
 | some a =>
  refine ⟨a, c, rfl, h1, h3 a rfl _ _ ?_, h3 a rfl _ _ ?_⟩
  ·have := itsCells_at xs j _ 0 (List.getElem?_eq_getElem hj) (by decide)
   exact this
  ·exact itsCells_at xs j _ 1 (List.getElem?_eq_getElem hj) (by decide)
theorem SrcIt.drop {W : World} {a : Addr} {c : Nat} {xs : List ItV} (n : Nat) (h : SrcIt W (.slice (some a) xs.length c) xs) (hn : n <= xs.length) (q : Addr) (c2 : Nat) (hc2 : xs.length - n <= c2) (hq : n < xs.length -> q = a.add (n * 2)) : SrcIt W (.slice (some q) (xs.length - n) c2) (xs.drop n) := by
 obtain ⟨ao, c', e, h1, h2, h3⟩ := h.sh
 cases e
 refine ⟨⟨some q, c2, by rw [List.length_drop], by rw [List.length_drop]; exact hc2, fun g => (by cases g), fun a' ha j u hu => ?_⟩, fun x hx => h.its x (List.mem_of_mem_drop hx)⟩
 cases ha
 have hsplit : itsCells xs = itsCells (xs.take n) ++ itsCells (xs.drop n) := by rw [<- itsCells_append, List.take_append_drop]
 have hjl := (List.getElem?_eq_some_iff.1 hu).1
 rw [itsCells_len, List.length_drop] at hjl
 have hlt : (itsCells (xs.take n)).length = n * 2 := by rw [itsCells_len, List.length_take, Nat.min_eq_left hn]
 rw [hq (by omega), Deep.add_add]
 refine h3 a rfl (n * 2 + j) u ?_
 rw [hsplit, List.getElem?_append_right (by omega), hlt, Nat.add_sub_cancel_left]
 exact hu
end Go.Proofs.YthmbbpfgbpacnaaGreatDoor.Huf
