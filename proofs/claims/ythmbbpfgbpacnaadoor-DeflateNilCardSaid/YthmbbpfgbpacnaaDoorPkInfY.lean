/- Symbols that were written by codes are read back: numbers, symbols, pieces; no memory. -/
import Derived.Test.YthmbbpfgbpacnaaDoorPkInfO
import Derived.Test.YthmbbpfgbpacnaaDoorPkHPutB
import Derived.Test.YthmbbpfgbpacnaaDoorPkLzH
namespace Go.Proofs.YthmbbpfgbpacnaaDoor.Inf
open Go.Lib Go.Proofs.YthmbbpfgbpacnaaDoor.Mem Go.Proofs.YthmbbpfgbpacnaaDoor.Bit Go.Proofs.YthmbbpfgbpacnaaDoor.Huf Go.Proofs.YthmbbpfgbpacnaaDoor.Lz

/-- A symbol's bits. -/
def symB (l : List Int) (s : Nat) : List Bool := bitsOf (rev (codeL l s : Int) (lenN l s)) (lenN l s)
theorem symB_len (l : List Int) (s : Nat) : (symB l s).length = lenN l s := bitsOf_len _ _
/-- A symbol that has a code. -/
def Known (l : List Int) (s : Nat) : Prop := s < l.length ∧ lenN l s ≠ 0
/-- A piece's numbers: the length's symbol, how many bits behind it, and which; the distance's. -/
def pS (p : Pc) : Nat × Nat × Nat := ((lenS p.len).1.toNat, (lenS p.len).2.1.toNat, (lenS p.len).2.2.toNat)
def pT (p : Pc) : Nat × Nat × Nat := ((distS p.dist).1.toNat, (distS p.dist).2.1.toNat, (distS p.dist).2.2.toNat)
/-- A piece's bits. -/
def pcB (l d : List Int) (p : Pc) : List Bool :=
  if p.len = 0 then symB l p.byte.toNat else symB l (pS p).1 ++ bitsOf ((pS p).2.2 : Int) (pS p).2.1 ++ symB d (pT p).1 ++ bitsOf ((pT p).2.2 : Int) (pT p).2.1
/-- A piece whose symbols have codes. -/
def pcK (l d : List Int) (p : Pc) : Prop := if p.len = 0 then Known l p.byte.toNat else Known l (pS p).1 ∧ Known d (pT p).1
theorem lenS_spec (n : Nat) (h1 : 3 ≤ n) (h2 : n ≤ 258) : (lenS (n : Int)).1.toNat < 286 ∧ 257 ≤ (lenS (n : Int)).1.toNat ∧ (lenS (n : Int)).2.1.toNat = (lnB (lenS (n : Int)).1.toNat).2 ∧ (lnB (lenS (n : Int)).1.toNat).1 + (lenS (n : Int)).2.2.toNat = n ∧ (lenS (n : Int)).2.2.toNat < 2 ^ (lenS (n : Int)).2.1.toNat := by
  have : ∀ k : _root_.Fin 256, (lenS ((k.val + 3 : Nat) : Int)).1.toNat < 286 ∧ 257 ≤ (lenS ((k.val + 3 : Nat) : Int)).1.toNat ∧ (lenS ((k.val + 3 : Nat) : Int)).2.1.toNat = (lnB (lenS ((k.val + 3 : Nat) : Int)).1.toNat).2 ∧ (lnB (lenS ((k.val + 3 : Nat) : Int)).1.toNat).1 + (lenS ((k.val + 3 : Nat) : Int)).2.2.toNat = k.val + 3 ∧ (lenS ((k.val + 3 : Nat) : Int)).2.2.toNat < 2 ^ (lenS ((k.val + 3 : Nat) : Int)).2.1.toNat := by decide +kernel
  have h := this ⟨n - 3, by omega⟩
  simp only [show n - 3 + 3 = n by omega] at h
  exact h
theorem distS_spec (n : Nat) (h1 : 1 ≤ n) (h2 : n ≤ 32768) : (distS (n : Int)).1.toNat ≤ 29 ∧ (distS (n : Int)).2.1.toNat = (dsB (distS (n : Int)).1.toNat).2 ∧ (dsB (distS (n : Int)).1.toNat).1 + (distS (n : Int)).2.2.toNat = n ∧ (distS (n : Int)).2.2.toNat < 2 ^ (distS (n : Int)).2.1.toNat := by
  have e : distS (n : Int) = (((symN (n - 1) 2).1 : Int), ((symN (n - 1) 2).2.1 : Int), ((symN (n - 1) 2).2.2 : Int)) := by
    unfold distS
    rw [if_neg (by omega), show ((n : Int) - 1).toNat = n - 1 by omega]
  obtain ⟨q1, q2, q3, -⟩ := spec2 (n - 1) (by omega)
  have q4 := sym29 (n - 1) (by omega)
  have ed : dsB (symN (n - 1) 2).1 = (1 + (baseN (symN (n - 1) 2).1 2).1, (baseN (symN (n - 1) 2).1 2).2) := by
    unfold dsB distB
    rw [if_neg (by omega), Int.toNat_natCast]
    simp only [Prod.mk.injEq]
    omega
  rw [e]
  simp only [Int.toNat_natCast]
  rw [ed]
  exact ⟨q4, q1.symm, by show 1 + _ + _ = n; omega, q2⟩
theorem may_len {p : Pc} (h : mayB p = true) (h0 : p.len ≠ 0) : ∃ n k : Nat, p.len = (n : Int) ∧ p.dist = (k : Int) ∧ 3 ≤ n ∧ n ≤ 258 ∧ 1 ≤ k ∧ k ≤ 32768 := by
  unfold mayB at h
  rw [if_neg h0, decide_eq_true_eq] at h
  exact ⟨p.len.toNat, p.dist.toNat, by omega, by omega, by omega, by omega, by omega, by omega⟩
/-- How many bits a piece takes. -/
theorem pcB_len {l d : List Int} (hl : Fine l) (hd : Fine d) (p : Pc) (hk : pcK l d p) (hm : mayB p = true) : (pcB l d p).length ≤ 48 := by
  unfold pcB
  unfold pcK at hk
  split
  · rename_i h0
    rw [if_pos h0] at hk
    rw [symB_len]
    have := (hl.len hk.1).2
    omega
  · rename_i h0
    rw [if_neg h0] at hk
    simp only [List.length_append, symB_len, bitsOf_len]
    have h1 := (hl.len hk.1.1).2
    have h2 := (hd.len hk.2.1).2
    obtain ⟨n, k, en, ekk, n1, n2, k1, k2⟩ := may_len hm h0
    have hS := lenS_spec n n1 n2
    have hT := distS_spec k k1 k2
    have hS : (pS p).1 < 286 ∧ 257 ≤ (pS p).1 ∧ (pS p).2.1 = (lnB (pS p).1).2 := by unfold pS; rw [en]; exact ⟨hS.1, hS.2.1, hS.2.2.1⟩
    have hT : (pT p).1 ≤ 29 ∧ (pT p).2.1 = (dsB (pT p).1).2 := by unfold pT; rw [ekk]; exact ⟨hT.1, hT.2.1⟩
    have a1 := (lnB_at hS.2.1 (by omega)).2.2.2
    have a2 := (dsB_at hT.1).2.2.2
    omega
theorem fix_known (s : Nat) (h : s < 288) : Known fixL s := ⟨by rw [fixL_len]; exact h, by
  have : ∀ s : _root_.Fin 288, lenN fixL s.val ≠ 0 := by decide +kernel
  exact this ⟨s, h⟩⟩
theorem fixd_known (s : Nat) (h : s < 32) : Known fixD s := ⟨by rw [fixD_len]; exact h, by
  have : ∀ s : _root_.Fin 32, lenN fixD s.val ≠ 0 := by decide +kernel
  exact this ⟨s, h⟩⟩
theorem fix_pcK (p : Pc) (hm : mayB p = true) : pcK fixL fixD p := by
  unfold pcK
  split
  · exact fix_known _ (by have := p.byte.toNat_lt; omega)
  · rename_i h0
    obtain ⟨n, k, en, ekk, n1, n2, k1, k2⟩ := may_len hm h0
    have hS := lenS_spec n n1 n2
    have hT := distS_spec k k1 k2
    refine ⟨fix_known _ ?_, fixd_known _ ?_⟩
    · unfold pS; rw [en]; exact (by have := hS.1; show _ < 288; omega)
    · unfold pT; rw [ekk]; exact (by have := hT.1; show _ < 32; omega)
theorem expR_may : ∀ (ps : List Pc) (m : Int) (out w : List UInt8), expR ps m out = (w, 0) → ∀ p ∈ ps, mayB p = true
  | [], _, _, _, _, p, hp => by cases hp
  | q :: ps, m, out, w, he, p, hp => by
    rw [expR_cons] at he
    by_cases h1 : mayB q = false ∨ (out.length : Int) < q.dist
    · rw [if_pos h1] at he; cases congrArg Prod.snd he
    · rw [if_neg h1] at he
      by_cases h2 : max q.len 1 > m - out.length
      · rw [if_pos h2] at he; cases congrArg Prod.snd he
      · rw [if_neg h2] at he
        rcases List.mem_cons.1 hp with rfl | hp
        · simpa using fun z => h1 (.inl z)
        · exact expR_may ps m _ w he p hp
end Go.Proofs.YthmbbpfgbpacnaaDoor.Inf
