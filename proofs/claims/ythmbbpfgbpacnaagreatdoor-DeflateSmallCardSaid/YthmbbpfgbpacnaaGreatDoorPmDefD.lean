/- Package deflate: numbers that are put, by whom ever; what counts their bits, what writes them. Package deflate: a block's bytes, stored. Package deflate: a symbol by its code, and its extra bits. -/
import Derived.Test.YthmbbpfgbpacnaaGreatDoorPmDefA
import Derived.Test.YthmbbpfgbpacnaaGreatDoorPmHPutB
namespace Go.Proofs.YthmbbpfgbpacnaaGreatDoor.Def
open Go.RowKit Go.Shelf Go.Lib Mem Bit Huf Lz Inf
def opsB (l : List (Nat × Nat)) : List Bool := l.flatMap fun p => bitsOf (p.1 : Int) p.2
def opsW : List (Nat × Nat) -> Nat
 | [] => 0
 | p :: l => p.2 + opsW l
theorem opsW_append (l m : List (Nat × Nat)) : opsW (l ++ m) = opsW l + opsW m := by
 induction l with
 | nil => show opsW m = 0 + _; omega
 | cons p l ih => show p.2 + opsW (l ++ m) = p.2 + opsW l + _; rw [ih]; omega
theorem opsB_append (l m : List (Nat × Nat)) : opsB (l ++ m) = opsB l ++ opsB m := List.flatMap_append
theorem opsB_one (n k : Nat) : opsB [(n, k)] = bitsOf (n : Int) k := by unfold opsB; rw [List.flatMap_cons, List.flatMap_nil, List.append_nil]
theorem opsB_len (l : List (Nat × Nat)) : (opsB l).length = opsW l := by
 induction l with
 | nil => rfl
 | cons p l ih =>
  have e : opsB (p :: l) = bitsOf (p.1 : Int) p.2 ++ opsB l := by unfold opsB; rw [List.flatMap_cons]
  rw [e, List.length_append, bitsOf_len, ih]
  rfl
structure StOk {σ : Type} (St : World -> Nat -> σ -> Prop) (S0 : Nat -> Prop) (Z : Nat) : Prop where
 lt : ∀ w g st, St w g st -> Z <= w.heap.size /\ g < w.heap.size
 low : ∀ j, S0 j -> j < Z
 same : ∀ w w' g st, St w g st -> Below Z w w' -> w'.heap[g]? = w.heap[g]? -> St w' g st
def PS {σ : Type} (St : World -> Nat -> σ -> Prop) (S0 : Nat -> Prop) (U : World) (g0 : Nat) (w : World) (st : σ) : Prop :=
 ∃ g, St w g st /\ (g = g0 \/ U.heap.size <= g) /\ Only (fun j => S0 j \/ j = g0) U w
section
variable {σ : Type} {St : World -> Nat -> σ -> Prop} {S0 : Nat -> Prop} {Z : Nat}
theorem PS.refl {w : World} {g : Nat} {st : σ} (h : St w g st) : PS St S0 w g w st := ⟨g, h, .inl rfl, Only.refl _ _⟩
theorem PS.trans {U V w : World} {g0 g1 : Nat} {st : σ} (h2 : g1 = g0 \/ U.heap.size <= g1) (h3 : Only (fun j => S0 j \/ j = g0) U V) (h : PS St S0 V g1 w st) : PS St S0 U g0 w st := by
 obtain ⟨g, q1, q2, q3⟩ := h
 refine ⟨g, q1, ?_, h3.trans q3 ?_⟩
 ·rcases q2 with rfl | q2
  ·exact h2
  ·exact .inr (Nat.le_trans h3.size q2)
 ·rintro i (q | rfl)
  ·exact .inl (.inl q)
  ·rcases h2 with rfl | h2
   ·exact .inl (.inr rfl)
   ·exact .inr h2
theorem PS.only {U w : World} {g0 : Nat} {st : σ} (h : PS St S0 U g0 w st) : Only (fun j => S0 j \/ j = g0) U w := by obtain ⟨_, _, _, o⟩ := h; exact o
theorem PS.grow (ok : StOk St S0 Z) {U w w' : World} {g0 : Nat} {st : σ} (h : PS St S0 U g0 w st) (hb : Below w.heap.size w w') : PS St S0 U g0 w' st := by
 obtain ⟨g, q1, q2, q3⟩ := h
 obtain ⟨z1, z2⟩ := ok.lt _ _ _ q1
 exact ⟨g, ok.same _ _ _ _ q1 (hb.mono z1) (hb.block g z2), q2, q3.trans (S' := fun _ => False) (Only.of_below hb) (fun i q => q.elim)⟩
theorem PS.call {U w : World} {g0 f : Nat} {args : Array Value} {st st' : σ} {P : Ending -> Prop} (h : PS St S0 U g0 w st) (hc : ∀ g, St w g st -> Calls Tryz.prog f args w fun e w' => P e /\ PS St S0 w g w' st') :
  Calls Tryz.prog f args w fun e w' => P e /\ PS St S0 U g0 w' st' := by
 obtain ⟨g, q1, q2, q3⟩ := h
 exact (hc g q1).mono fun e w' z => ⟨z.1, PS.trans q2 q3 z.2⟩
theorem PS.fresh (ok : StOk St S0 Z) {U w w1 : World} {g0 f : Nat} {args : Array Value} {st st' : σ} {P : Ending -> Prop} (h : PS St S0 U g0 w st) (hb : Below w.heap.size w w1) (hc : ∀ g, St w1 g st -> Calls Tryz.prog f args w1 fun e w' => P e /\ PS St S0 w1 g w' st') :
  Calls Tryz.prog f args w1 fun e w' => P e /\ PS St S0 U g0 w' st' /\ w1.heap.size <= w'.heap.size /\ ∀ j, w.heap.size <= j -> j < w1.heap.size -> w'.heap[j]? = w1.heap[j]? := by
 obtain ⟨g, q1, q2, q3⟩ := h
 obtain ⟨z1, z2⟩ := ok.lt _ _ _ q1
 have h1 := ok.same _ _ _ _ q1 (hb.mono z1) (hb.block g z2)
 have o1 : Only (fun j => S0 j \/ j = g0) U w1 := q3.trans (S' := fun _ => False) (Only.of_below hb) (fun i q => q.elim)
 refine (hc g h1).mono fun e w' z => ⟨z.1, PS.trans q2 o1 z.2, z.2.only.size, fun j j1 j2 => z.2.only.block j j2 ?_⟩
 rintro (q | rfl)
 ·have := ok.low j q; omega
 ·omega
end
def Put (St : World -> Nat -> List (Nat × Nat) -> Prop) (S0 : Nat -> Prop) (M pf : Nat) (pc : Value) : Prop :=
 ∀ (w : World) (g : Nat) (l : List (Nat × Nat)) (n k : Nat), St w g l -> n < 2 ^ k -> k <= 32 -> opsW l + k <= M -> Calls Tryz.prog pf #[.int .i64 (n : Int), .int .i64 (k : Int), pc] w fun e w' => e = .returned (.tuple #[]) /\ PS St S0 w g w' (l ++ [(n, k)])
def SumSt (q : Nat) (w : World) (g : Nat) (l : List (Nat × Nat)) : Prop := g = q /\ w.heap[q]? = some (.cells #[.int .i64 (opsW l : Int)] 3 (0, 0))
theorem sum_ok (q : Nat) : StOk (SumSt q) (fun j => j = q) (q + 1) where
 lt := fun w g l h => by
  obtain ⟨rfl, h⟩ := h
  have := (Array.getElem?_eq_some_iff.1 h).1
  exact ⟨this, this⟩
 low := fun j h => by omega
 same := fun w w' g l h hb hg => ⟨h.1, by obtain ⟨rfl, h⟩ := h; exact hg.trans h⟩
set_option maxHeartbeats 1000000 in
theorem sum_put (q : Nat) : Put (SumSt q) (fun j => j = q) 8388608 91 (.pointer (some ⟨q, 0, none⟩)) := by
 intro w g l n k h hn hk hM
 obtain ⟨rfl, h⟩ := h
 have c0 : w.cell? ⟨g, 0, none⟩ = some (.int .i64 (opsW l : Int)) := by rw [Lib.cell_of_heap h]; rfl
 have f0 : w.frozen? ⟨g, 0, none⟩ = false := Lib.frozen_of_heap h 0
 have ws : IntKind.i64.wrap ((opsW l : Int) + (k : Int)) = ((opsW l + k : Nat) : Int) := by rw [IntKind.wrap_i64]; omega
 have HE : Aside (PS (SumSt g) (fun j => j = g) w g (w.setCell ⟨g, 0, none⟩ (.int .i64 ((opsW l + k : Nat) : Int))) (l ++ [(n, k)])) :=
  ⟨g, ⟨rfl, by rw [opsW_append]; exact (Lib.heap_setCell_same (i := 0) h _).trans rfl⟩, .inl rfl, (Only.setCell (S := fun j => j = g) rfl _ _).mono (fun i q => .inl (.inl q))⟩
 clear h hn hk hM
 generalize opsW l = s at *
 generalize s + k = sk at *
 go_enter Tryz.func91, Tryz.ntmps91
 go_wp2
 go_end0
 exact ⟨rfl, HE.out⟩
def WrSt (B b x : Nat) (L : List Bool) (w : World) (g : Nat) (l : List (Nat × Nat)) : Prop :=
 WB w B b g (L ++ opsB l) /\ w.cell? ⟨x, 0, none⟩ = some (.pointer (some ⟨b, 0, none⟩)) /\ Masks w B /\ b < x /\ g ≠ x
theorem wr_ok (B b x : Nat) (L : List Bool) : StOk (WrSt B b x L) (fun j => j = b /\ b < x) (x + 1) where
 lt := fun w g l h => by
  obtain ⟨h1, h2, h3, h4, h5⟩ := h
  have := block_lt_of_cell h2
  exact ⟨this, h1.ltg⟩
 low := fun j h => by omega
 same := fun w w' g l h hb hg => by
  obtain ⟨h1, h2, h3, h4, h5⟩ := h
  have := block_lt_of_cell h2
  exact ⟨h1.same (hb.block b (by omega)) hg, (cell_same (hb.block x (by omega))).trans h2, ⟨h3.1, fun i hi => (cell_same (hb.block _ (by have := h3.1; have := h1.leb; show 0 < x + 1; omega))).trans (h3.2 i hi)⟩, h4, h5⟩
set_option maxHeartbeats 1000000 in
theorem wr_put (B b x M : Nat) (L : List Bool) (hM0 : L.length + M <= 8388608) : Put (WrSt B b x L) (fun j => j = b /\ b < x) M 48 (.pointer (some ⟨x, 0, none⟩)) := by
 intro w g l n k h hn hk hM
 obtain ⟨h1, h2, h3, h4, h5⟩ := h
 have hP := wput_any w B b g (n : Int) (k : Int) (L ++ opsB l) h1 h3 (by rw [List.length_append, opsB_len]; omega)
 have e : putL (L ++ opsB l) (n : Int) (k : Int) = (0, L ++ opsB (l ++ [(n, k)])) := by
  unfold putL
  rw [if_pos ⟨by omega, by omega, by omega, by rw [Int.toNat_natCast]; have := Int.ofNat_lt.2 hn; rw [Int.natCast_pow] at this; exact this⟩, Int.toNat_natCast, if_neg (by rw [List.length_append, opsB_len]; omega), opsB_append, opsB_one, List.append_assoc]
 rw [e] at hP
 have HP : Aside (Calls Tryz.prog 49 #[.pointer (some ⟨b, 0, none⟩), .int .i64 (n : Int), .int .i64 (k : Int)] w fun e w' => e = .returned (.int .i64 0) /\ PS (WrSt B b x L) (fun j => j = b /\ b < x) w g w' (l ++ [(n, k)])) := hP.mono fun e w' z => by
  refine ⟨z.1, ?_⟩
  obtain ⟨g', q1, q2, q3⟩ := z.2
  have hgx := q3
  have hbl : Below B w w' := q3.below (Nat.le_trans h1.leb (Nat.le_of_lt h1.lt)) (by rintro i (rfl | rfl); exact h1.leb; exact h1.leg)
  have hx := block_lt_of_cell h2
  refine ⟨g', ⟨q1, (q3.cell h2 (by rintro (e | e); have : x = b := e; omega; exact h5 e.symm)), h3.only q3 (by rintro i (rfl | rfl); exact h1.leb; exact h1.leg), h4, ?_⟩, q2, q3.mono (fun i q => .inl (q.elim (fun q => .inl ⟨q, h4⟩) .inr))⟩
  rcases q2 with rfl | q2
  ·exact h5
  ·have hx' : x < w.heap.size := hx
   omega
 clear h1 h3 h4 h5 hP e hn hM
 go_enter Tryz.func48, Tryz.ntmps48
 go_wp2_with (go_at_call 49; refine HP.out.mono ?_; rintro e w1 ⟨rfl, q1⟩)
 go_end0
 exact ⟨rfl, q1⟩
end Go.Proofs.YthmbbpfgbpacnaaGreatDoor.Def
namespace Go.Proofs.YthmbbpfgbpacnaaGreatDoor.Def
open Go.RowKit Go.Shelf Go.Lib Mem Bit Huf Lz Inf
section
variable {σ : Type} {St : World -> Nat -> σ -> Prop} {S0 : Nat -> Prop} {Z : Nat}
theorem PS.base {W U w : World} {g0 : Nat} {st : σ} (hb : Below W.heap.size W U) (h : PS St S0 U g0 w st) : PS St S0 W g0 w st := by
 obtain ⟨g, q1, q2, q3⟩ := h
 refine ⟨g, q1, q2.imp id (fun q => Nat.le_trans hb.size q), (Only.of_below (S := fun j => S0 j \/ j = g0) hb).trans q3 (fun i q => .inl q)⟩
theorem PS.keep {U w : World} {g0 : Nat} {st : σ} (h : PS St S0 U g0 w st) (j : Nat) (hj : j < U.heap.size) (h0 : ¬ S0 j) (h1 : j ≠ g0) : w.heap[j]? = U.heap[j]? := h.only.block j hj (by rintro (q | q); exact h0 q; exact h1 q)
theorem PS.start (ok : StOk St S0 Z) {W U : World} {g : Nat} {st : σ} (h : St W g st) (hb : Below W.heap.size W U) : PS St S0 U g U st := by
 obtain ⟨z1, z2⟩ := ok.lt _ _ _ h
 exact PS.refl (ok.same _ _ _ _ h (hb.mono z1) (hb.block g z2))
end
theorem Put.at {St : World -> Nat -> List (Nat × Nat) -> Prop} {S0 : Nat -> Prop} {M pf : Nat} {pc : Value} (hp : Put St S0 M pf pc) {U w : World} {g : Nat} {l : List (Nat × Nat)} (h : PS St S0 U g w l) (N K : Int) (n k : Nat) (e1 : N = (n : Int)) (e2 : K = (k : Int)) (hn : n < 2 ^ k) (hk : k <= 32) (hM : opsW l + k <= M) :
  Calls Tryz.prog pf #[.int .i64 N, .int .i64 K, pc] w fun e w' => e = .returned (.tuple #[]) /\ PS St S0 U g w' (l ++ [(n, k)]) := by
 subst e1 e2
 exact PS.call h fun g1 h1 => hp w g1 l n k h1 hn hk hM
def blkV (pv tv : Value) (last ways begin : Int) : Value := .agg #[pv, tv, .int .i64 last, .int .i64 ways, .int .i64 begin]
def blkC (pv tv : Value) (last ways begin : Int) : Obj := .cells #[pv, tv, .int .i64 last, .int .i64 ways, .int .i64 begin] 79
def blkH (pv tv : Value) (last ways begin : Int) : Obj := .cells #[pv, tv, .int .i64 last, .int .i64 ways, .int .i64 begin] 79 (0, 0)
def Stays (S0 : Nat -> Prop) (g : Nat) (v : Value) : Prop := ∀ a n c, v = .slice (some a) n c -> ¬ S0 a.block /\ a.block ≠ g
theorem Stays.src {S0 : Nat -> Prop} {g : Nat} {v : Value} {W w : World} {l : List UInt8} (h : Stays S0 g v) (hs : Mem.Src W v l) (o : Only (fun j => S0 j \/ j = g) W w) : Mem.Src w v l :=
 hs.only o (fun a n c e => by obtain ⟨q1, q2⟩ := h a n c e; rintro (q | q); exact q1 q; exact q2 q)
theorem srcB_shape {W : World} {v : Value} {l : List UInt8} (h : Mem.Src W v l) : ∃ ao c, v = .slice ao l.length c /\ (0 < l.length -> ∃ a, ao = some a) := by
 rcases h with ⟨rfl, rfl⟩ | ⟨a, c, rfl, _⟩
 ·exact ⟨none, 0, rfl, fun q => absurd q (Nat.lt_irrefl 0)⟩
 ·exact ⟨some a, c, rfl, fun _ => ⟨a, rfl⟩⟩
def padN (n : Nat) : Nat := (8 - n % 8) % 8
theorem padN_lt (n : Nat) : padN n < 8 := Nat.mod_lt _ (by decide)
theorem opsW_snoc (l : List (Nat × Nat)) (n k : Nat) : opsW (l ++ [(n, k)]) = opsW l + k := by rw [opsW_append]; rfl
def bytO (b : List UInt8) : List (Nat × Nat) := b.map fun c => (c.toNat, 8)
def storO (begin : Nat) (b : List UInt8) : List (Nat × Nat) := [(0, padN (begin + 3)), (b.length, 16), (65535 - b.length, 16)] ++ bytO b
theorem bytO_w (b : List UInt8) : opsW (bytO b) = 8 * b.length := by
 induction b with
 | nil => rfl
 | cons c b ih =>
  show 8 + opsW (bytO b) = _
  rw [ih, List.length_cons]; omega
theorem bytO_snoc (b : List UInt8) (i : Nat) (h : i < b.length) : bytO (b.take (i + 1)) = bytO (b.take i) ++ [((b[i]).toNat, 8)] := by
 unfold bytO
 rw [List.take_add_one, List.getElem?_eq_getElem h, List.map_append]
 rfl
theorem storO_w (begin : Nat) (b : List UInt8) : opsW (storO begin b) = padN (begin + 3) + 32 + 8 * b.length := by
 unfold storO
 rw [opsW_append, bytO_w]
 show padN (begin + 3) + (16 + (16 + 0)) + _ = _
 omega
set_option maxRecDepth 100000 in
set_option maxHeartbeats 4000000 in
theorem stored_S {St : World -> Nat -> List (Nat × Nat) -> Prop} {S0 : Nat -> Prop} {Z M : Nat} {pc : Value} (ok : StOk St S0 Z) (hp : Put St S0 M 91 pc)
  (W : World) (g : Nat) (l : List (Nat × Nat)) (pv tv : Value) (b : List UInt8) (last ways : Int) (begin : Nat) (h : St W g l) (ht : Mem.Src W tv b) (hst : Stays S0 g tv) (hb : b.length <= 65535) (hg : begin <= 8388608) (hM : opsW l + 39 + 8 * b.length <= M) :
  Calls Tryz.prog 63 #[blkV pv tv last ways begin, .func (.func 91) #[] #[pc]] W fun e w' => e = .returned (.tuple #[]) /\ PS St S0 W g w' (l ++ storO begin b) := by
 obtain ⟨ao, cap, rfl, hao⟩ := srcB_shape ht
 have HT : Aside (Mem.Src W (.slice ao b.length cap) b /\ Stays S0 g (.slice ao b.length cap)) := ⟨ht, hst⟩
 have HA : Aside (0 < b.length -> ∃ a, ao = some a) := hao
 obtain ⟨T, hT⟩ : ∃ T, T = W.heap.size := ⟨_, rfl⟩
 obtain ⟨W0, hW0⟩ : ∃ W0, W0 = W.alloc (blkC pv (.slice ao b.length cap) last ways begin) := ⟨_, rfl⟩
 have hb0 : Below W.heap.size W W0 := by rw [hW0]; exact (Below.refl _ W).alloc (Nat.le_refl _) _
 have g0 : W0.heap[T]? = some (blkH pv (.slice ao b.length cap) last ways begin) := by rw [hW0, hT]; exact heap_alloc_new _ _
 have hs0 := PS.start ok h hb0
 obtain ⟨z1, z2⟩ := ok.lt _ _ _ h
 have hTS : ¬ S0 T := fun q => by have := ok.low _ q; omega
 have hTg : T ≠ g := by omega
 have KB : Aside (∀ w l', PS St S0 W0 g w l' -> w.heap[T]? = some (blkH pv (.slice ao b.length cap) last ways begin)) := fun w l' q => (q.keep T (Array.getElem?_eq_some_iff.1 g0).1 hTS hTg).trans g0
 have KT : Aside (∀ w l', PS St S0 W0 g w l' -> w.cell? ⟨T, 1, none⟩ = some (.slice ao b.length cap)) := fun w l' q => by rw [Lib.cell_of_heap (KB.out w l' q)]; rfl
 have KS : Aside (∀ w l', PS St S0 W0 g w l' -> Mem.Src w (.slice ao b.length cap) b) := fun w l' q => HT.out.2.src HT.out.1 (PS.base hb0 q).only
 have HB0 : Aside (Below W.heap.size W W0) := hb0
 have HS0 : Aside (PS St S0 W0 g W0 l) := hs0
 have c4 : W0.cell? ⟨T, 4, none⟩ = some (.int .i64 (begin : Int)) := by rw [Lib.cell_of_heap g0]; rfl
 have k1 := KT.out W0 l hs0
 have PP := fun {w : World} {l' : List (Nat × Nat)} (q : PS St S0 W0 g w l') (N K : Int) (n k : Nat) e1 e2 hn hk hM => Lib.hid (Put.at hp q N K n k e1 e2 hn hk hM)
 have wb : IntKind.i64.wrap ((begin : Int) + 3) = ((begin + 3 : Nat) : Int) := by rw [IntKind.wrap_i64]; omega
 obtain ⟨a3, ha3⟩ : ∃ a3, a3 = begin + 3 := ⟨_, rfl⟩
 rw [<- ha3] at wb
 have t1 : (a3 : Int).tmod 8 = ((a3 % 8 : Nat) : Int) := by rw [Int.tmod_eq_emod_of_nonneg (by omega)]; rfl
 obtain ⟨a8, ha8⟩ : ∃ a8, a8 = a3 % 8 := ⟨_, rfl⟩
 rw [<- ha8] at t1
 have l8 : a8 < 8 := by rw [ha8]; exact Nat.mod_lt _ (by decide)
 have w8 : IntKind.i64.wrap (8 - (a8 : Int)) = ((8 - a8 : Nat) : Int) := by rw [IntKind.wrap_i64]; omega
 obtain ⟨s8, hs8⟩ : ∃ s8, s8 = 8 - a8 := ⟨_, rfl⟩
 rw [<- hs8] at w8
 have t2 : (s8 : Int).tmod 8 = ((s8 % 8 : Nat) : Int) := by rw [Int.tmod_eq_emod_of_nonneg (by omega)]; rfl
 have hpad : s8 % 8 = padN (begin + 3) := by rw [hs8, ha8, ha3]; rfl
 rw [hpad] at t2
 have hpl := padN_lt (begin + 3)
 obtain ⟨pd, hpd⟩ : ∃ pd, pd = padN (begin + 3) := ⟨_, rfl⟩
 have hO : storO begin b = [(0, pd), (b.length, 16), (65535 - b.length, 16)] ++ bytO b := by rw [hpd]; rfl
 rw [hO]
 rw [<- hpd] at t2 hpl
 have wl : IntKind.i64.wrap (65535 - (b.length : Int)) = ((65535 - b.length : Nat) : Int) := by rw [IntKind.wrap_i64]; omega
 obtain ⟨n5, hn5⟩ : ∃ n5, n5 = 65535 - b.length := ⟨_, rfl⟩
 rw [<- hn5] at wl ⊢
 have n5l : n5 < 65536 := by omega
 have i8 : (0 : Int) <= (a3 : Int).tmod 8 /\ (a3 : Int).tmod 8 < 8 := by rw [t1]; omega
 have HN : Aside (a8 = a3 % 8 /\ s8 = 8 - a8) := ⟨ha8, hs8⟩
 clear h ht hst hao hb0 g0 hs0 z1 z2 hTS hTg hpad hpd hO hn5 ha3 ha8 hs8 i8
 unfold blkV
 unfold blkC at hW0
 go_enter Tryz.func63, Tryz.ntmps63
 go_upto_region 1 with fail
 rw [<- hW0, <- hT]
 clear hW0 hT
 go_upto_region 2 with fail
 go_upto_region 3 with (go_at_call 91; refine (PP HS0.out _ _ 0 pd (by rfl) (by rfl) (Nat.two_pow_pos _) (by omega) (by omega)).out.mono ?_; rintro e w1 ⟨rfl, q1⟩; have HS1 := Lib.hid q1; have k2 := KT.out _ _ q1; clear q1)
 go_upto_region 4 with (go_at_call 91; refine (PP HS1.out _ _ b.length 16 rfl rfl (by omega) (by omega) (by rw [opsW_snoc]; omega)).out.mono ?_; rintro e w2 ⟨rfl, q1⟩; have HS2 := Lib.hid q1; have k3 := KT.out _ _ q1; clear q1 HS1 k2)
 go_upto_region 5 with (go_at_call 91; refine (PP HS2.out _ _ n5 16 rfl rfl (by omega) (by omega) (by rw [opsW_snoc, opsW_snoc]; omega)).out.mono ?_; rintro e w3 ⟨rfl, q1⟩; have HS3 := Lib.hid q1; have k4 := KT.out _ _ q1; clear q1 HS2 k3)
 obtain ⟨l3, hl3⟩ : ∃ l3, l3 = l ++ [(0, pd)] ++ [(b.length, 16)] ++ [(n5, 16)] := ⟨_, rfl⟩
 have hw3 : opsW l3 = opsW l + pd + 32 := by rw [hl3, opsW_snoc, opsW_snoc, opsW_snoc]
 have HL : Aside (l ++ ([(0, pd), (b.length, 16), (n5, 16)] ++ bytO b) = l3 ++ bytO b) := by rw [hl3]; show _ = _; simp
 rw [<- hl3] at HS3
 clear hl3
 go_upto_region 6 with fail
 go_loopg [6, 30] b.length (fun kx s6 s30 wr => ∃ (i : Nat), s30 = .int .i64 (i : Int) /\ i <= b.length /\ b.length - i <= kx /\ Aside (PS St S0 W0 g wr (l3 ++ bytO (b.take i))))
 case atStart => exact ⟨0, rfl, Nat.zero_le _, Nat.le_refl _, by rw [List.take_zero]; show PS St S0 W0 g w3 (l3 ++ []); rw [List.append_nil]; exact HS3.out⟩
 case round =>
  obtain ⟨i, rfl, hi, hkx, HR⟩ := hrel
  by_cases hlt : i < b.length
  ·have hltz : (i : Int) < (b.length : Int) := by omega
   have i0 : (0 : Int) <= (i : Int) := by omega
   have wi : IntKind.i64.wrap ((i : Int) + 1) = (i : Int) + 1 := by rw [IntKind.wrap_i64]; omega
   obtain ⟨a, rfl⟩ := HA.out (by omega)
   have hc := src_cell (KS.out _ _ HR.out) i hlt
   have ci := (b[i]).toNat_lt
   have HQ : Aside (bytO (b.take (i + 1)) = bytO (b.take i) ++ [((b[i]).toNat, 8)] /\ opsW (bytO (b.take i)) = 8 * i) := ⟨bytO_snoc b i hlt, by rw [bytO_w, List.length_take, Nat.min_eq_left hi]⟩
   generalize (b[i]).toNat = c at *
   have wc : IntKind.i64.wrap (c : Int) = (c : Int) := by rw [IntKind.wrap_i64]; omega
   go_wp2_with (go_at_call 91; refine (PP HR.out _ _ c 8 rfl rfl (by omega) (by omega) (by rw [opsW_append, HQ.out.2]; omega)).out.mono ?_; rintro e w4 ⟨rfl, q1⟩; have HS4 := Lib.hid q1; clear q1)
   go_roundg (b.length - (i + 1))
   case measure => omega
   case rel => exact ⟨i + 1, by go_num, by omega, Nat.le_refl _, by rw [HQ.out.1, <- List.append_assoc]; exact HS4.out⟩
  ·obtain rfl : i = b.length := by omega
   have hltz : ¬ (b.length : Int) < (b.length : Int) := by omega
   rw [List.take_length] at HR
   go_wp2_with fail
   go_end0
   have hz := PS.base HB0.out HR.out
   rw [<- HL.out] at hz
   exact ⟨rfl, hz⟩
set_option maxRecDepth 100000 in
set_option maxHeartbeats 4000000 in
theorem stored_W {St : World -> Nat -> List (Nat × Nat) -> Prop} {S0 : Nat -> Prop} {Z M : Nat} {pc : Value} (ok : StOk St S0 Z) (hp : Put St S0 M 48 pc)
  (W : World) (g : Nat) (l : List (Nat × Nat)) (pv tv : Value) (b : List UInt8) (last ways : Int) (begin : Nat) (h : St W g l) (ht : Mem.Src W tv b) (hst : Stays S0 g tv) (hb : b.length <= 65535) (hg : begin <= 8388608) (hM : opsW l + 39 + 8 * b.length <= M) :
  Calls Tryz.prog 63 #[blkV pv tv last ways begin, .func (.func 48) #[] #[pc]] W fun e w' => e = .returned (.tuple #[]) /\ PS St S0 W g w' (l ++ storO begin b) := by
 obtain ⟨ao, cap, rfl, hao⟩ := srcB_shape ht
 have HT : Aside (Mem.Src W (.slice ao b.length cap) b /\ Stays S0 g (.slice ao b.length cap)) := ⟨ht, hst⟩
 have HA : Aside (0 < b.length -> ∃ a, ao = some a) := hao
 obtain ⟨T, hT⟩ : ∃ T, T = W.heap.size := ⟨_, rfl⟩
 obtain ⟨W0, hW0⟩ : ∃ W0, W0 = W.alloc (blkC pv (.slice ao b.length cap) last ways begin) := ⟨_, rfl⟩
 have hb0 : Below W.heap.size W W0 := by rw [hW0]; exact (Below.refl _ W).alloc (Nat.le_refl _) _
 have g0 : W0.heap[T]? = some (blkH pv (.slice ao b.length cap) last ways begin) := by rw [hW0, hT]; exact heap_alloc_new _ _
 have hs0 := PS.start ok h hb0
 obtain ⟨z1, z2⟩ := ok.lt _ _ _ h
 have hTS : ¬ S0 T := fun q => by have := ok.low _ q; omega
 have hTg : T ≠ g := by omega
 have KB : Aside (∀ w l', PS St S0 W0 g w l' -> w.heap[T]? = some (blkH pv (.slice ao b.length cap) last ways begin)) := fun w l' q => (q.keep T (Array.getElem?_eq_some_iff.1 g0).1 hTS hTg).trans g0
 have KT : Aside (∀ w l', PS St S0 W0 g w l' -> w.cell? ⟨T, 1, none⟩ = some (.slice ao b.length cap)) := fun w l' q => by rw [Lib.cell_of_heap (KB.out w l' q)]; rfl
 have KS : Aside (∀ w l', PS St S0 W0 g w l' -> Mem.Src w (.slice ao b.length cap) b) := fun w l' q => HT.out.2.src HT.out.1 (PS.base hb0 q).only
 have HB0 : Aside (Below W.heap.size W W0) := hb0
 have HS0 : Aside (PS St S0 W0 g W0 l) := hs0
 have c4 : W0.cell? ⟨T, 4, none⟩ = some (.int .i64 (begin : Int)) := by rw [Lib.cell_of_heap g0]; rfl
 have k1 := KT.out W0 l hs0
 have PP := fun {w : World} {l' : List (Nat × Nat)} (q : PS St S0 W0 g w l') (N K : Int) (n k : Nat) e1 e2 hn hk hM => Lib.hid (Put.at hp q N K n k e1 e2 hn hk hM)
 have wb : IntKind.i64.wrap ((begin : Int) + 3) = ((begin + 3 : Nat) : Int) := by rw [IntKind.wrap_i64]; omega
 obtain ⟨a3, ha3⟩ : ∃ a3, a3 = begin + 3 := ⟨_, rfl⟩
 rw [<- ha3] at wb
 have t1 : (a3 : Int).tmod 8 = ((a3 % 8 : Nat) : Int) := by rw [Int.tmod_eq_emod_of_nonneg (by omega)]; rfl
 obtain ⟨a8, ha8⟩ : ∃ a8, a8 = a3 % 8 := ⟨_, rfl⟩
 rw [<- ha8] at t1
 have l8 : a8 < 8 := by rw [ha8]; exact Nat.mod_lt _ (by decide)
 have w8 : IntKind.i64.wrap (8 - (a8 : Int)) = ((8 - a8 : Nat) : Int) := by rw [IntKind.wrap_i64]; omega
 obtain ⟨s8, hs8⟩ : ∃ s8, s8 = 8 - a8 := ⟨_, rfl⟩
 rw [<- hs8] at w8
 have t2 : (s8 : Int).tmod 8 = ((s8 % 8 : Nat) : Int) := by rw [Int.tmod_eq_emod_of_nonneg (by omega)]; rfl
 have hpad : s8 % 8 = padN (begin + 3) := by rw [hs8, ha8, ha3]; rfl
 rw [hpad] at t2
 have hpl := padN_lt (begin + 3)
 obtain ⟨pd, hpd⟩ : ∃ pd, pd = padN (begin + 3) := ⟨_, rfl⟩
 have hO : storO begin b = [(0, pd), (b.length, 16), (65535 - b.length, 16)] ++ bytO b := by rw [hpd]; rfl
 rw [hO]
 rw [<- hpd] at t2 hpl
 have wl : IntKind.i64.wrap (65535 - (b.length : Int)) = ((65535 - b.length : Nat) : Int) := by rw [IntKind.wrap_i64]; omega
 obtain ⟨n5, hn5⟩ : ∃ n5, n5 = 65535 - b.length := ⟨_, rfl⟩
 rw [<- hn5] at wl ⊢
 have n5l : n5 < 65536 := by omega
 have i8 : (0 : Int) <= (a3 : Int).tmod 8 /\ (a3 : Int).tmod 8 < 8 := by rw [t1]; omega
 have HN : Aside (a8 = a3 % 8 /\ s8 = 8 - a8) := ⟨ha8, hs8⟩
 clear h ht hst hao hb0 g0 hs0 z1 z2 hTS hTg hpad hpd hO hn5 ha3 ha8 hs8 i8
 unfold blkV
 unfold blkC at hW0
 go_enter Tryz.func63, Tryz.ntmps63
 go_upto_region 1 with fail
 rw [<- hW0, <- hT]
 clear hW0 hT
 go_upto_region 2 with fail
 go_upto_region 3 with (go_at_call 48; refine (PP HS0.out _ _ 0 pd (by rfl) (by rfl) (Nat.two_pow_pos _) (by omega) (by omega)).out.mono ?_; rintro e w1 ⟨rfl, q1⟩; have HS1 := Lib.hid q1; have k2 := KT.out _ _ q1; clear q1)
 go_upto_region 4 with (go_at_call 48; refine (PP HS1.out _ _ b.length 16 rfl rfl (by omega) (by omega) (by rw [opsW_snoc]; omega)).out.mono ?_; rintro e w2 ⟨rfl, q1⟩; have HS2 := Lib.hid q1; have k3 := KT.out _ _ q1; clear q1 HS1 k2)
 go_upto_region 5 with (go_at_call 48; refine (PP HS2.out _ _ n5 16 rfl rfl (by omega) (by omega) (by rw [opsW_snoc, opsW_snoc]; omega)).out.mono ?_; rintro e w3 ⟨rfl, q1⟩; have HS3 := Lib.hid q1; have k4 := KT.out _ _ q1; clear q1 HS2 k3)
 obtain ⟨l3, hl3⟩ : ∃ l3, l3 = l ++ [(0, pd)] ++ [(b.length, 16)] ++ [(n5, 16)] := ⟨_, rfl⟩
 have hw3 : opsW l3 = opsW l + pd + 32 := by rw [hl3, opsW_snoc, opsW_snoc, opsW_snoc]
 have HL : Aside (l ++ ([(0, pd), (b.length, 16), (n5, 16)] ++ bytO b) = l3 ++ bytO b) := by rw [hl3]; show _ = _; simp
 rw [<- hl3] at HS3
 clear hl3
 go_upto_region 6 with fail
 go_loopg [6, 30] b.length (fun kx s6 s30 wr => ∃ (i : Nat), s30 = .int .i64 (i : Int) /\ i <= b.length /\ b.length - i <= kx /\ Aside (PS St S0 W0 g wr (l3 ++ bytO (b.take i))))
 case atStart => exact ⟨0, rfl, Nat.zero_le _, Nat.le_refl _, by rw [List.take_zero]; show PS St S0 W0 g w3 (l3 ++ []); rw [List.append_nil]; exact HS3.out⟩
 case round =>
  obtain ⟨i, rfl, hi, hkx, HR⟩ := hrel
  by_cases hlt : i < b.length
  ·have hltz : (i : Int) < (b.length : Int) := by omega
   have i0 : (0 : Int) <= (i : Int) := by omega
   have wi : IntKind.i64.wrap ((i : Int) + 1) = (i : Int) + 1 := by rw [IntKind.wrap_i64]; omega
   obtain ⟨a, rfl⟩ := HA.out (by omega)
   have hc := src_cell (KS.out _ _ HR.out) i hlt
   have ci := (b[i]).toNat_lt
   have HQ : Aside (bytO (b.take (i + 1)) = bytO (b.take i) ++ [((b[i]).toNat, 8)] /\ opsW (bytO (b.take i)) = 8 * i) := ⟨bytO_snoc b i hlt, by rw [bytO_w, List.length_take, Nat.min_eq_left hi]⟩
   generalize (b[i]).toNat = c at *
   have wc : IntKind.i64.wrap (c : Int) = (c : Int) := by rw [IntKind.wrap_i64]; omega
   go_wp2_with (go_at_call 48; refine (PP HR.out _ _ c 8 rfl rfl (by omega) (by omega) (by rw [opsW_append, HQ.out.2]; omega)).out.mono ?_; rintro e w4 ⟨rfl, q1⟩; have HS4 := Lib.hid q1; clear q1)
   go_roundg (b.length - (i + 1))
   case measure => omega
   case rel => exact ⟨i + 1, by go_num, by omega, Nat.le_refl _, by rw [HQ.out.1, <- List.append_assoc]; exact HS4.out⟩
  ·obtain rfl : i = b.length := by omega
   have hltz : ¬ (b.length : Int) < (b.length : Int) := by omega
   rw [List.take_length] at HR
   go_wp2_with fail
   go_end0
   have hz := PS.base HB0.out HR.out
   rw [<- HL.out] at hz
   exact ⟨rfl, hz⟩
end Go.Proofs.YthmbbpfgbpacnaaGreatDoor.Def
namespace Go.Proofs.YthmbbpfgbpacnaaGreatDoor.Def
open Go.RowKit Go.Shelf Go.Lib Mem Bit Huf Lz Inf
structure CF (w : World) (pf : Nat) (pc : Value) (p1 p2 p3 : Nat) (cl ll : Value) (cs l : List Int) : Prop where
 c1 : w.cell? ⟨p1, 0, none⟩ = some (.func (.func pf) #[] #[pc])
 c2 : w.cell? ⟨p2, 0, none⟩ = some cl
 c3 : w.cell? ⟨p3, 0, none⟩ = some ll
 s2 : SrcI w cl cs
 s3 : SrcI w ll l
structure CStays (S0 : Nat -> Prop) (g : Nat) (p1 p2 p3 : Nat) (cl ll : Value) : Prop where
 n1 : ¬ S0 p1 /\ p1 ≠ g
 n2 : ¬ S0 p2 /\ p2 ≠ g
 n3 : ¬ S0 p3 /\ p3 ≠ g
 m2 : Stays S0 g cl
 m3 : Stays S0 g ll
theorem CF.only {S0 : Nat → Prop} {g pf p1 p2 p3 : Nat} {w w' : World} {pc cl ll : Value} {cs l : List Int} (h : CF w pf pc p1 p2 p3 cl ll cs l) (hs : CStays S0 g p1 p2 p3 cl ll) (o : Only (fun j => S0 j ∨ j = g) w w') : CF w' pf pc p1 p2 p3 cl ll cs l :=
  ⟨o.cell h.c1 (by rintro (q | q); exact hs.n1.1 q; exact hs.n1.2 q), o.cell h.c2 (by rintro (q | q); exact hs.n2.1 q; exact hs.n2.2 q), o.cell h.c3 (by rintro (q | q); exact hs.n3.1 q; exact hs.n3.2 q),
   h.s2.only o (fun a n c e => by obtain ⟨q1, q2⟩ := hs.m2 a n c e; rintro (q | q); exact q1 q; exact q2 q), h.s3.only o (fun a n c e => by obtain ⟨q1, q2⟩ := hs.m3 a n c e; rintro (q | q); exact q1 q; exact q2 q)⟩

set_option maxRecDepth 100000 in
set_option maxHeartbeats 4000000 in
theorem coder1_S {St : World → Nat → List (Nat × Nat) → Prop} {S0 : Nat → Prop} {Z M : Nat} {pc : Value} (ok : StOk St S0 Z) (hp : Put St S0 M 91 pc)
    (W : World) (g p1 p2 p3 : Nat) (ops : List (Nat × Nat)) (cl ll : Value) (cs l : List Int) (h : St W g ops) (hc : CF W 91 pc p1 p2 p3 cl ll cs l) (hs : CStays S0 g p1 p2 p3 cl ll)
    (s c k n kx : Nat) (h1 : s < cs.length) (h2 : s < l.length) (e1 : numAt cs s = (c : Int)) (e2 : numAt l s = (k : Int)) (hck : c < 2 ^ k) (hk : k ≤ 32) (hn : n < 2 ^ kx) (hkx : kx ≤ 32) (hM : opsW ops + k + kx ≤ M) (hsm : s ≤ 1048576) :
    Calls Tryz.prog 137 #[.int .i64 (s : Int), .int .i64 (kx : Int), .int .i64 (n : Int), .pointer (some ⟨p1, 0, none⟩), .pointer (some ⟨p2, 0, none⟩), .pointer (some ⟨p3, 0, none⟩)] W fun e w' => e = .returned (.tuple #[]) ∧ PS St S0 W g w' (ops ++ [(c, k), (n, kx)]) := by
  obtain ⟨ac, cc, rfl, hac⟩ := hc.s2.shape
  obtain ⟨al, lc, rfl, hal⟩ := hc.s3.shape
  obtain ⟨ac, rfl⟩ := hac (by omega)
  obtain ⟨al, rfl⟩ := hal (by omega)
  have z1 := hc.c1
  have z2 := hc.c2
  have z3 := hc.c3
  have z4 : W.cell? (ac.add s) = some (.int .i64 (c : Int)) := by rw [← e1, numAt_eq cs s h1]; exact srci_cell hc.s2 s h1
  have z5 : W.cell? (al.add s) = some (.int .i64 (k : Int)) := by rw [← e2, numAt_eq l s h2]; exact srci_cell hc.s3 s h2
  have HC : Aside (∀ w, Only (fun j => S0 j ∨ j = g) W w → w.cell? ⟨p1, 0, none⟩ = some (.func (.func 91) #[] #[pc]) ∧ w.cell? ⟨p2, 0, none⟩ = some (.slice (some ac) cs.length cc) ∧ w.cell? ⟨p3, 0, none⟩ = some (.slice (some al) l.length lc) ∧ w.cell? (ac.add s) = some (.int .i64 (c : Int)) ∧ w.cell? (al.add s) = some (.int .i64 (k : Int))) := fun w o => by
    have q := hc.only hs o
    exact ⟨q.c1, q.c2, q.c3, by rw [← e1, numAt_eq cs s h1]; exact srci_cell q.s2 s h1, by rw [← e2, numAt_eq l s h2]; exact srci_cell q.s3 s h2⟩
  have PP := fun {w : World} {l' : List (Nat × Nat)} (q : PS St S0 W g w l') (N K : Int) (n k : Nat) e1 e2 hn hk hM => Lib.hid (Put.at hp q N K n k e1 e2 hn hk hM)
  have HS0 : Aside (∀ w, Drew W w → PS St S0 W g w ops) := fun w d => PS.base (d.below _) (PS.start ok h (d.below _))
  have s0 : (0 : Int) ≤ (s : Int) := by omega
  have s1 : (s : Int) < (cs.length : Int) := by omega
  have s2 : (s : Int) < (l.length : Int) := by omega
  clear h hc hs hac hal e1 e2
  generalize hcl : cs.length = csn at *
  generalize hll : l.length = lsn at *
  clear hcl hll
  go_enter Tryz.func137, Tryz.ntmps137
  go_wp2_with fail
  go_region_held3 (fun w' => w'.cell? ⟨p1, 0, none⟩ = some (.func (.func 91) #[] #[pc]) ∧ w'.cell? ⟨p2, 0, none⟩ = some (.slice (some ac) csn cc) ∧ w'.cell? ⟨p3, 0, none⟩ = some (.slice (some al) lsn lc) ∧ w'.cell? (ac.add s) = some (.int .i64 (c : Int)) ∧ w'.cell? (al.add s) = some (.int .i64 (k : Int))) (first | go_keep | exact ⟨z1, z2, z3, z4, z5⟩ | exact KK1)
    (first | (go_at_call 91
              refine (PP (HS0.out W.drew ⟨rfl, rfl, rfl, rfl⟩) _ _ c k rfl rfl hck (by omega) (by omega)).out.mono ?_
              rintro e w1 ⟨rfl, q1⟩
              have KK1 := HC.out w1 q1.only
              have HS1 := Lib.hid q1
              clear q1))
  have y1 := KK1.1
  clear KK1 z1 z4 z5
  go_wp2_with (go_at_call 91; refine (PP HS1.out _ _ n kx rfl rfl hn hkx (by rw [opsW_snoc]; omega)).out.mono ?_; rintro e w2 ⟨rfl, q1⟩; have HS2 := Lib.hid q1; clear q1)
  go_end0
  have hz := HS2.out
  rw [List.append_assoc] at hz
  exact ⟨rfl, hz⟩

set_option maxRecDepth 100000 in
set_option maxHeartbeats 4000000 in
theorem coder1_W {St : World → Nat → List (Nat × Nat) → Prop} {S0 : Nat → Prop} {Z M : Nat} {pc : Value} (ok : StOk St S0 Z) (hp : Put St S0 M 48 pc)
    (W : World) (g p1 p2 p3 : Nat) (ops : List (Nat × Nat)) (cl ll : Value) (cs l : List Int) (h : St W g ops) (hc : CF W 48 pc p1 p2 p3 cl ll cs l) (hs : CStays S0 g p1 p2 p3 cl ll)
    (s c k n kx : Nat) (h1 : s < cs.length) (h2 : s < l.length) (e1 : numAt cs s = (c : Int)) (e2 : numAt l s = (k : Int)) (hck : c < 2 ^ k) (hk : k ≤ 32) (hn : n < 2 ^ kx) (hkx : kx ≤ 32) (hM : opsW ops + k + kx ≤ M) (hsm : s ≤ 1048576) :
    Calls Tryz.prog 137 #[.int .i64 (s : Int), .int .i64 (kx : Int), .int .i64 (n : Int), .pointer (some ⟨p1, 0, none⟩), .pointer (some ⟨p2, 0, none⟩), .pointer (some ⟨p3, 0, none⟩)] W fun e w' => e = .returned (.tuple #[]) ∧ PS St S0 W g w' (ops ++ [(c, k), (n, kx)]) := by
  obtain ⟨ac, cc, rfl, hac⟩ := hc.s2.shape
  obtain ⟨al, lc, rfl, hal⟩ := hc.s3.shape
  obtain ⟨ac, rfl⟩ := hac (by omega)
  obtain ⟨al, rfl⟩ := hal (by omega)
  have z1 := hc.c1
  have z2 := hc.c2
  have z3 := hc.c3
  have z4 : W.cell? (ac.add s) = some (.int .i64 (c : Int)) := by rw [← e1, numAt_eq cs s h1]; exact srci_cell hc.s2 s h1
  have z5 : W.cell? (al.add s) = some (.int .i64 (k : Int)) := by rw [← e2, numAt_eq l s h2]; exact srci_cell hc.s3 s h2
  have HC : Aside (∀ w, Only (fun j => S0 j ∨ j = g) W w → w.cell? ⟨p1, 0, none⟩ = some (.func (.func 48) #[] #[pc]) ∧ w.cell? ⟨p2, 0, none⟩ = some (.slice (some ac) cs.length cc) ∧ w.cell? ⟨p3, 0, none⟩ = some (.slice (some al) l.length lc) ∧ w.cell? (ac.add s) = some (.int .i64 (c : Int)) ∧ w.cell? (al.add s) = some (.int .i64 (k : Int))) := fun w o => by
    have q := hc.only hs o
    exact ⟨q.c1, q.c2, q.c3, by rw [← e1, numAt_eq cs s h1]; exact srci_cell q.s2 s h1, by rw [← e2, numAt_eq l s h2]; exact srci_cell q.s3 s h2⟩
  have PP := fun {w : World} {l' : List (Nat × Nat)} (q : PS St S0 W g w l') (N K : Int) (n k : Nat) e1 e2 hn hk hM => Lib.hid (Put.at hp q N K n k e1 e2 hn hk hM)
  have HS0 : Aside (∀ w, Drew W w → PS St S0 W g w ops) := fun w d => PS.base (d.below _) (PS.start ok h (d.below _))
  have s0 : (0 : Int) ≤ (s : Int) := by omega
  have s1 : (s : Int) < (cs.length : Int) := by omega
  have s2 : (s : Int) < (l.length : Int) := by omega
  clear h hc hs hac hal e1 e2
  generalize hcl : cs.length = csn at *
  generalize hll : l.length = lsn at *
  clear hcl hll
  go_enter Tryz.func137, Tryz.ntmps137
  go_wp2_with fail
  go_region_held3 (fun w' => w'.cell? ⟨p1, 0, none⟩ = some (.func (.func 48) #[] #[pc]) ∧ w'.cell? ⟨p2, 0, none⟩ = some (.slice (some ac) csn cc) ∧ w'.cell? ⟨p3, 0, none⟩ = some (.slice (some al) lsn lc) ∧ w'.cell? (ac.add s) = some (.int .i64 (c : Int)) ∧ w'.cell? (al.add s) = some (.int .i64 (k : Int))) (first | go_keep | exact ⟨z1, z2, z3, z4, z5⟩ | exact KK1)
    (first | (go_at_call 48
              refine (PP (HS0.out W.drew ⟨rfl, rfl, rfl, rfl⟩) _ _ c k rfl rfl hck (by omega) (by omega)).out.mono ?_
              rintro e w1 ⟨rfl, q1⟩
              have KK1 := HC.out w1 q1.only
              have HS1 := Lib.hid q1
              clear q1))
  have y1 := KK1.1
  clear KK1 z1 z4 z5
  go_wp2_with (go_at_call 48; refine (PP HS1.out _ _ n kx rfl rfl hn hkx (by rw [opsW_snoc]; omega)).out.mono ?_; rintro e w2 ⟨rfl, q1⟩; have HS2 := Lib.hid q1; clear q1)
  go_end0
  have hz := HS2.out
  rw [List.append_assoc] at hz
  exact ⟨rfl, hz⟩
end Go.Proofs.YthmbbpfgbpacnaaGreatDoor.Def
