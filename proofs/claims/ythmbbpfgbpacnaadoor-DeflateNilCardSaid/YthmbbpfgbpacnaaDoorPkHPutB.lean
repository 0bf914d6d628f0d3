/- Put of package huff, without the document's own; what was put is decoded (HuffDecoded's numbers). -/
import Derived.Test.YthmbbpfgbpacnaaDoorPkBitM
import Derived.Test.YthmbbpfgbpacnaaDoorPkHDecA
namespace Go.Proofs.YthmbbpfgbpacnaaDoor.Huf
open Go.RowKit Go.Shelf Go.Lib Go.Proofs.YthmbbpfgbpacnaaDoor.Mem Go.Proofs.YthmbbpfgbpacnaaDoor.Bit

open Classical in
/-- P202: the error of a Put, and the bits behind it. -/
noncomputable def putL (l : List Bool) (n x : Int) : Int × List Bool :=
  if okPut n x then if 8388608 < l.length + x.toNat then (6, l) else (0, l ++ bitsOf n x.toNat) else (1, l)
theorem WStep.refl {W : World} {B b g : Nat} {l : List Bool} (h : WB W B b g l) : WStep W W B b g l := ⟨g, h, .inl rfl, Only.refl _ _⟩

theorem wput_any (W : World) (B b g : Nat) (n x : Int) (l : List Bool) (h : WB W B b g l) (hm : Masks W B) (hl : l.length ≤ 8388608) :
    Calls Tryd.prog 21 #[.pointer (some ⟨b, 0, none⟩), .int .i64 n, .int .i64 x] W fun e w' => e = .returned (.int .i64 (putL l n x).1) ∧ WStep W w' B b g (putL l n x).2 := by
  unfold putL
  by_cases h1 : okPut n x
  · rw [if_pos h1]
    obtain ⟨h0, h2, h3, h4⟩ := h1
    obtain ⟨m, rfl⟩ := Int.eq_ofNat_of_zero_le h0
    rw [Int.toNat_natCast] at h4 ⊢
    by_cases hs : 8388608 < l.length + m
    · rw [if_pos hs]
      refine (put_size W B b g m n l h hl (by omega) h3 h4 hs).mono ?_
      rintro e w' ⟨rfl, rfl⟩
      exact ⟨rfl, WStep.refl h⟩
    · rw [if_neg hs]
      exact put_ok W B b g m n l h hm (by omega) h3 h4 (by omega)
  · rw [if_neg h1]
    refine (put_bad W B b g n x l h h1).mono ?_
    rintro e w' ⟨rfl, rfl⟩
    exact ⟨rfl, WStep.refl h⟩

theorem clampN_nat (m : Nat) (h : m ≤ 32) : clampN (m : Int) = m := by unfold clampN; omega
end Go.Proofs.YthmbbpfgbpacnaaDoor.Huf
