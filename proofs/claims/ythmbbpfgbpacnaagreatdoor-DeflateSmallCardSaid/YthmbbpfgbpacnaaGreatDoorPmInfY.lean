/- Symbols that were written by codes are read back: numbers, symbols, pieces; no memory. -/
import Derived.Test.YthmbbpfgbpacnaaGreatDoorPmInfO
import Derived.Test.YthmbbpfgbpacnaaGreatDoorPmHPutB
import Derived.Test.YthmbbpfgbpacnaaGreatDoorPmLzH
namespace Go.Proofs.YthmbbpfgbpacnaaGreatDoor.Inf
open Go.Lib Mem Bit Huf Lz
def symB (l : List Int) (s : Nat) : List Bool := bitsOf (rev (codeL l s : Int) (lenN l s)) (lenN l s)
theorem symB_len (l : List Int) (s : Nat) : (symB l s).length = lenN l s := bitsOf_len _ _
def Known (l : List Int) (s : Nat) : Prop := s < l.length /\ lenN l s ≠ 0
theorem nextP_back {l : List Int} (hf : Fine l) {s : Nat} (h : Known l s) (P Q : List Bool) : nextP l (pk (P ++ symB l s ++ Q)) P.length = .ok s (P ++ symB l s).length := by
 unfold nextP symB
 rw [decode_one hf h.1 h.2 P Q, if_pos rfl, List.length_append, bitsOf_len]
theorem takeP_back (P Q : List Bool) (v k : Nat) (h : v < 2 ^ k) : takeP (pk (P ++ bitsOf (v : Int) k ++ Q)) k P.length = .ok v (P ++ bitsOf (v : Int) k).length := by
 have hr := pk_room (P ++ bitsOf (v : Int) k ++ Q)
 simp only [List.length_append, bitsOf_len] at hr
 have ht := take_back P Q (v : Int) k (by omega) (by have := Int.ofNat_lt.2 h; rw [Int.natCast_pow] at this; exact this)
 unfold takeP
 rw [if_pos (by omega), List.length_append, bitsOf_len]
 congr 1
 omega
def pS (p : Pc) : Nat × Nat × Nat := ((lenS p.len).1.toNat, (lenS p.len).2.1.toNat, (lenS p.len).2.2.toNat)
def pT (p : Pc) : Nat × Nat × Nat := ((distS p.dist).1.toNat, (distS p.dist).2.1.toNat, (distS p.dist).2.2.toNat)
def pcB (l d : List Int) (p : Pc) : List Bool :=
 if p.len = 0 then symB l p.byte.toNat else symB l (pS p).1 ++ bitsOf ((pS p).2.2 : Int) (pS p).2.1 ++ symB d (pT p).1 ++ bitsOf ((pT p).2.2 : Int) (pT p).2.1
def pcK (l d : List Int) (p : Pc) : Prop := if p.len = 0 then Known l p.byte.toNat else Known l (pS p).1 /\ Known d (pT p).1
theorem cpN_cpB : ∀ (n d : Nat) (out : List UInt8), cpN n d out = cpB n d out
 | 0, _, _ => rfl
 | n + 1, d, out => by rw [cpN_succ, cpN_cpB n]; rfl
theorem lenS_spec (n : Nat) (h1 : 3 <= n) (h2 : n <= 258) : (lenS (n : Int)).1.toNat < 286 /\ 257 <= (lenS (n : Int)).1.toNat /\ (lenS (n : Int)).2.1.toNat = (lnB (lenS (n : Int)).1.toNat).2 /\ (lnB (lenS (n : Int)).1.toNat).1 + (lenS (n : Int)).2.2.toNat = n /\ (lenS (n : Int)).2.2.toNat < 2 ^ (lenS (n : Int)).2.1.toNat := by
 have : ∀ k : _root_.Fin 256, (lenS ((k.val + 3 : Nat) : Int)).1.toNat < 286 /\ 257 <= (lenS ((k.val + 3 : Nat) : Int)).1.toNat /\ (lenS ((k.val + 3 : Nat) : Int)).2.1.toNat = (lnB (lenS ((k.val + 3 : Nat) : Int)).1.toNat).2 /\ (lnB (lenS ((k.val + 3 : Nat) : Int)).1.toNat).1 + (lenS ((k.val + 3 : Nat) : Int)).2.2.toNat = k.val + 3 /\ (lenS ((k.val + 3 : Nat) : Int)).2.2.toNat < 2 ^ (lenS ((k.val + 3 : Nat) : Int)).2.1.toNat := by decide +kernel
 have h := this ⟨n - 3, by omega⟩
 simp only [show n - 3 + 3 = n by omega] at h
 exact h
theorem distS_spec (n : Nat) (h1 : 1 <= n) (h2 : n <= 32768) : (distS (n : Int)).1.toNat <= 29 /\ (distS (n : Int)).2.1.toNat = (dsB (distS (n : Int)).1.toNat).2 /\ (dsB (distS (n : Int)).1.toNat).1 + (distS (n : Int)).2.2.toNat = n /\ (distS (n : Int)).2.2.toNat < 2 ^ (distS (n : Int)).2.1.toNat := by
 have e : distS (n : Int) = (((symN (n - 1) 2).1 : Int), ((symN (n - 1) 2).2.1 : Int), ((symN (n - 1) 2).2.2 : Int)) := by
  unfold distS
  rw [if_neg (by omega), show ((n : Int) - 1).toNat = n - 1 by omega]
 obtain ⟨q1, q2, q3, -⟩ := spec2 (n - 1) (by omega)
 have q4 := sym29 (n - 1) (by omega)
 have ed : dsB (symN (n - 1) 2).1 = (1 + (baseN (symN (n - 1) 2).1 2).1, (baseN (symN (n - 1) 2).1 2).2) := by
  unfold dsB distB
  rw [if_neg (by omega), Int.toNat_natCast]
  simp only [Prod.mk.injEq]
  omega
 rw [e]
 simp only [Int.toNat_natCast]
 rw [ed]
 exact ⟨q4, q1.symm, by show 1 + _ + _ = n; omega, q2⟩
theorem may_len {p : Pc} (h : mayB p = true) (h0 : p.len ≠ 0) : ∃ n k : Nat, p.len = (n : Int) /\ p.dist = (k : Int) /\ 3 <= n /\ n <= 258 /\ 1 <= k /\ k <= 32768 := by
 unfold mayB at h
 rw [if_neg h0, decide_eq_true_eq] at h
 exact ⟨p.len.toNat, p.dist.toNat, by omega, by omega, by omega, by omega, by omega, by omega⟩
theorem piece_back {l d : List Int} (hl : Fine l) (hd : Fine d) (p : Pc) (hk : pcK l d p) (hm : mayB p = true) (P Q : List Bool) (m f : Nat) (out : List UInt8) (hdist : p.dist <= (out.length : Int)) (hroom : (out.length : Int) + max p.len 1 <= m) :
  symP l d (pk (P ++ pcB l d p ++ Q)) m (f + 1) out P.length = symP l d (pk (P ++ pcB l d p ++ Q)) m f (ontoN p out) (P ++ pcB l d p).length := by
 rw [symP_succ]
 by_cases h0 : p.len = 0
 ·have eb : pcB l d p = symB l p.byte.toNat := by unfold pcB; rw [if_pos h0]
  have ek : Known l p.byte.toNat := by unfold pcK at hk; rw [if_pos h0] at hk; exact hk
  rw [eb, nextP_back hl ek]
  simp only
  have hb := p.byte.toNat_lt
  rw [if_pos (by omega), if_neg (by omega)]
  unfold ontoN
  rw [if_pos h0]
  congr 2
  rw [UInt8.ofNat_toNat]
 ·have eb : pcB l d p = symB l (pS p).1 ++ bitsOf ((pS p).2.2 : Int) (pS p).2.1 ++ symB d (pT p).1 ++ bitsOf ((pT p).2.2 : Int) (pT p).2.1 := by unfold pcB; rw [if_neg h0]
  have ek : Known l (pS p).1 /\ Known d (pT p).1 := by unfold pcK at hk; rw [if_neg h0] at hk; exact hk
  obtain ⟨n, k, en, ekk, n1, n2, k1, k2⟩ := may_len hm h0
  have hS := lenS_spec n n1 n2
  have hT := distS_spec k k1 k2
  have eo : ontoN p out = cpB n k out := by unfold ontoN; rw [if_neg h0, cpN_cpB, en, ekk]; rfl
  have hS : (pS p).1 < 286 /\ 257 <= (pS p).1 /\ (pS p).2.1 = (lnB (pS p).1).2 /\ (lnB (pS p).1).1 + (pS p).2.2 = n /\ (pS p).2.2 < 2 ^ (pS p).2.1 := by unfold pS; rw [en]; exact hS
  have hT : (pT p).1 <= 29 /\ (pT p).2.1 = (dsB (pT p).1).2 /\ (dsB (pT p).1).1 + (pT p).2.2 = k /\ (pT p).2.2 < 2 ^ (pT p).2.1 := by unfold pT; rw [ekk]; exact hT
  obtain ⟨s1, s2, s3, s4, s5⟩ := hS
  obtain ⟨t1, t2, t3, t4⟩ := hT
  obtain ⟨ek1, ek2⟩ := ek
  generalize (pS p).1 = x at *
  generalize (pS p).2.1 = xe at *
  generalize (pS p).2.2 = xv at *
  generalize (pT p).1 = y at *
  generalize (pT p).2.1 = ye at *
  generalize (pT p).2.2 = yv at *
  rw [eb, eo]
  have e1 : P ++ (symB l x ++ bitsOf (xv : Int) xe ++ symB d y ++ bitsOf (yv : Int) ye) ++ Q = P ++ symB l x ++ (bitsOf (xv : Int) xe ++ symB d y ++ bitsOf (yv : Int) ye ++ Q) := by simp only [List.append_assoc]
  have e2 : P ++ (symB l x ++ bitsOf (xv : Int) xe ++ symB d y ++ bitsOf (yv : Int) ye) ++ Q = (P ++ symB l x) ++ bitsOf (xv : Int) xe ++ (symB d y ++ bitsOf (yv : Int) ye ++ Q) := by simp only [List.append_assoc]
  have e3 : P ++ (symB l x ++ bitsOf (xv : Int) xe ++ symB d y ++ bitsOf (yv : Int) ye) ++ Q = (P ++ symB l x ++ bitsOf (xv : Int) xe) ++ symB d y ++ (bitsOf (yv : Int) ye ++ Q) := by simp only [List.append_assoc]
  have e4 : P ++ (symB l x ++ bitsOf (xv : Int) xe ++ symB d y ++ bitsOf (yv : Int) ye) ++ Q = (P ++ symB l x ++ bitsOf (xv : Int) xe ++ symB d y) ++ bitsOf (yv : Int) ye ++ Q := by simp only [List.append_assoc]
  have f1 := nextP_back hl ek1 P (bitsOf (xv : Int) xe ++ symB d y ++ bitsOf (yv : Int) ye ++ Q)
  rw [<- e1] at f1
  have f2 := takeP_back (P ++ symB l x) (symB d y ++ bitsOf (yv : Int) ye ++ Q) xv xe s5
  rw [<- e2] at f2
  have f3 := nextP_back hd ek2 (P ++ symB l x ++ bitsOf (xv : Int) xe) (bitsOf (yv : Int) ye ++ Q)
  rw [<- e3] at f3
  have f4 := takeP_back (P ++ symB l x ++ bitsOf (xv : Int) xe ++ symB d y) Q yv ye t4
  rw [<- e4] at f4
  generalize pk (P ++ (symB l x ++ bitsOf (xv : Int) xe ++ symB d y ++ bitsOf (yv : Int) ye) ++ Q) = bs at *
  rw [f1]
  simp only
  rw [if_neg (by omega), if_neg (by omega)]
  have hc : copyP d bs x (P ++ symB l x).length = .ok (k, n) (P ++ symB l x ++ bitsOf (xv : Int) xe ++ symB d y ++ bitsOf (yv : Int) ye).length := by
   unfold copyP
   rw [if_neg (by omega), <- s3, f2]
   simp only
   rw [f3]
   simp only
   rw [if_neg (by omega), <- t2, f4]
   simp only
   rw [t3, s4]
  rw [hc]
  simp only
  rw [if_neg (by omega), if_neg (by omega), <- List.append_assoc, <- List.append_assoc, <- List.append_assoc]
theorem syms_back {l d : List Int} (hl : Fine l) (hd : Fine d) (h256 : Known l 256) (M m : Nat) (hM : M <= m) (w : List UInt8) (Q : List Bool) (f : Nat) : ∀ (ps : List Pc) (P : List Bool) (out : List UInt8), (∀ p ∈ ps, mayB p = true -> pcK l d p) -> expR ps M out = (w, 0) ->
  symP l d (pk (P ++ ps.flatMap (pcB l d) ++ symB l 256 ++ Q)) m (ps.length + 1 + f) out P.length = .ok w (P ++ ps.flatMap (pcB l d) ++ symB l 256).length
 | [], P, out, _, he => by
  obtain rfl : out = w := congrArg Prod.fst he
  rw [List.flatMap_nil, List.append_nil, List.length_nil, show 0 + 1 + f = f + 1 by omega, symP_succ, nextP_back hl h256]
  simp only
  rw [if_neg (by omega), if_pos trivial]
 | p :: ps, P, out, hk, he => by
  rw [expR_cons] at he
  by_cases h1 : mayB p = false \/ (out.length : Int) < p.dist
  ·rw [if_pos h1] at he; cases congrArg Prod.snd he
  ·rw [if_neg h1] at he
   by_cases h2 : max p.len 1 > (M : Int) - out.length
   ·rw [if_pos h2] at he; cases congrArg Prod.snd he
   ·rw [if_neg h2] at he
    have hm : mayB p = true := by simpa using fun q => h1 (.inl q)
    have ih := syms_back hl hd h256 M m hM w Q f ps (P ++ pcB l d p) (ontoN p out) (fun q hq => hk q (List.mem_cons_of_mem _ hq)) he
    have e1 : P ++ (p :: ps).flatMap (pcB l d) ++ symB l 256 ++ Q = P ++ pcB l d p ++ (ps.flatMap (pcB l d) ++ symB l 256 ++ Q) := by rw [List.flatMap_cons]; simp only [List.append_assoc]
    have e2 : P ++ pcB l d p ++ ps.flatMap (pcB l d) ++ symB l 256 ++ Q = P ++ pcB l d p ++ (ps.flatMap (pcB l d) ++ symB l 256 ++ Q) := by simp only [List.append_assoc]
    have e3 : P ++ (p :: ps).flatMap (pcB l d) ++ symB l 256 = P ++ pcB l d p ++ ps.flatMap (pcB l d) ++ symB l 256 := by rw [List.flatMap_cons]; simp only [List.append_assoc]
    rw [e2] at ih
    rw [e1, e3, List.length_cons, show ps.length + 1 + 1 + f = (ps.length + 1 + f) + 1 by omega, piece_back hl hd p (hk p List.mem_cons_self hm) hm P _ m _ out (by omega) (by omega)]
    exact ih
theorem pcB_len {l d : List Int} (hl : Fine l) (hd : Fine d) (p : Pc) (hk : pcK l d p) (hm : mayB p = true) : (pcB l d p).length <= 48 := by
 unfold pcB
 unfold pcK at hk
 split
 ·rename_i h0
  rw [if_pos h0] at hk
  rw [symB_len]
  have := (hl.len hk.1).2
  omega
 ·rename_i h0
  rw [if_neg h0] at hk
  simp only [List.length_append, symB_len, bitsOf_len]
  have h1 := (hl.len hk.1.1).2
  have h2 := (hd.len hk.2.1).2
  obtain ⟨n, k, en, ekk, n1, n2, k1, k2⟩ := may_len hm h0
  have hS := lenS_spec n n1 n2
  have hT := distS_spec k k1 k2
  have hS : (pS p).1 < 286 /\ 257 <= (pS p).1 /\ (pS p).2.1 = (lnB (pS p).1).2 := by unfold pS; rw [en]; exact ⟨hS.1, hS.2.1, hS.2.2.1⟩
  have hT : (pT p).1 <= 29 /\ (pT p).2.1 = (dsB (pT p).1).2 := by unfold pT; rw [ekk]; exact ⟨hT.1, hT.2.1⟩
  have a1 := (lnB_at hS.2.1 (by omega)).2.2.2
  have a2 := (dsB_at hT.1).2.2.2
  omega
theorem fix_known (s : Nat) (h : s < 288) : Known fixL s := ⟨by rw [fixL_len]; exact h, by
 have : ∀ s : _root_.Fin 288, lenN fixL s.val ≠ 0 := by decide +kernel
 exact this ⟨s, h⟩⟩
theorem fixd_known (s : Nat) (h : s < 32) : Known fixD s := ⟨by rw [fixD_len]; exact h, by
 have : ∀ s : _root_.Fin 32, lenN fixD s.val ≠ 0 := by decide +kernel
 exact this ⟨s, h⟩⟩
theorem fix_pcK (p : Pc) (hm : mayB p = true) : pcK fixL fixD p := by
 unfold pcK
 split
 ·exact fix_known _ (by have := p.byte.toNat_lt; omega)
 ·rename_i h0
  obtain ⟨n, k, en, ekk, n1, n2, k1, k2⟩ := may_len hm h0
  have hS := lenS_spec n n1 n2
  have hT := distS_spec k k1 k2
  refine ⟨fix_known _ ?_, fixd_known _ ?_⟩
  ·unfold pS; rw [en]; exact (by have := hS.1; show _ < 288; omega)
  ·unfold pT; rw [ekk]; exact (by have := hT.1; show _ < 32; omega)
theorem expR_may : ∀ (ps : List Pc) (m : Int) (out w : List UInt8), expR ps m out = (w, 0) -> ∀ p ∈ ps, mayB p = true
 | [], _, _, _, _, p, hp => by cases hp
 | q :: ps, m, out, w, he, p, hp => by
  rw [expR_cons] at he
  by_cases h1 : mayB q = false \/ (out.length : Int) < q.dist
  ·rw [if_pos h1] at he; cases congrArg Prod.snd he
  ·rw [if_neg h1] at he
   by_cases h2 : max q.len 1 > m - out.length
   ·rw [if_pos h2] at he; cases congrArg Prod.snd he
   ·rw [if_neg h2] at he
    rcases List.mem_cons.1 hp with rfl | hp
    ·simpa using fun z => h1 (.inl z)
    ·exact expR_may ps m _ w he p hp
end Go.Proofs.YthmbbpfgbpacnaaGreatDoor.Inf
