/- Both writers of bits: a number, whole bytes, Align: what each call answers and leaves. -/
import Derived.Test.YtmmbadkkkjkgnaaDoorBitT
import Derived.Test.YtmmbadkkkjkgnaaDoorBitI
import Derived.Test.YtmmbadkkkjkgnaaDoorBitP
namespace Go.Proofs.YtmmbadkkkjkgnaaDoor.Bit
open Go.RowKit Go.Shelf Go.Proofs.YtmmbadkkkjkgnaaDoor.Mem

open Classical in
/-- P202: the error of a Put, and the bits behind it. -/
noncomputable def putL (l : List Bool) (n x : Int) : Int × List Bool :=
  if okPut n x then if 8388608 < l.length + x.toNat then (6, l) else (0, l ++ bitsOf n x.toNat) else (1, l)
/-- P202: the error of a Raw, and the bits behind it. -/
def rawW (l : List Bool) (cs : List UInt8) : Int × List Bool :=
  if 1048576 < (l.length + 7) / 8 + cs.length then (6, l) else (0, alignL l ++ rawL cs)
theorem putL_le (l : List Bool) (n x : Int) (hl : l.length ≤ 8388608) : (putL l n x).2.length ≤ 8388608 := by
  unfold putL
  split
  · split
    · exact hl
    · rw [List.length_append, bitsOf_len]; omega
  · exact hl
theorem rawW_le (l : List Bool) (cs : List UInt8) (hl : l.length ≤ 8388608) : (rawW l cs).2.length ≤ 8388608 := by
  unfold rawW
  split
  · exact hl
  · rw [List.length_append, alignL_len, rawL_len]; omega

theorem WStep.refl {W : World} {B b g : Nat} {l : List Bool} (h : WB W B b g l) : WStep W W B b g l := ⟨g, h, .inl rfl, Only.refl _ _⟩

theorem WStep.of_drew {U V W : World} {B b g : Nat} {l : List Bool} (d : Drew U V) (s : WStep V W B b g l) : WStep U W B b g l := by
  obtain ⟨g', q1, q2, q3⟩ := s
  rw [d.heap] at q2
  exact ⟨g', q1, q2, d.only.trans q3 (fun i q => .inl q)⟩
theorem RStep.of_drew {U V W : World} {B c k : Nat} {l : List Bool} (d : Drew U V) (s : RStep V W B c k l) : RStep U W B c k l := by
  obtain ⟨g', q1, q2, q3⟩ := s
  rw [d.heap] at q2
  exact ⟨g', q1, q2, d.only.trans q3 (fun i q => .inl q)⟩

theorem wput_any (W : World) (B b g : Nat) (n x : Int) (l : List Bool) (h : WB W B b g l) (hm : Masks W B) (hl : l.length ≤ 8388608) :
    Calls Tryd.prog 33 #[.pointer (some ⟨b, 0, none⟩), .int .i64 n, .int .i64 x] W fun e w' => e = .returned (.int .i64 (putL l n x).1) ∧ WStep W w' B b g (putL l n x).2 := by
  unfold putL
  by_cases h1 : okPut n x
  · rw [if_pos h1]
    obtain ⟨h0, h2, h3, h4⟩ := h1
    obtain ⟨m, rfl⟩ := Int.eq_ofNat_of_zero_le h0
    rw [Int.toNat_natCast] at h4 ⊢
    by_cases hs : 8388608 < l.length + m
    · rw [if_pos hs]
      refine (put_size W B b g m n l h hl (by omega) h3 h4 hs).mono ?_
      rintro e w' ⟨rfl, rfl⟩
      exact ⟨rfl, WStep.refl h⟩
    · rw [if_neg hs]
      exact put_ok W B b g m n l h hm (by omega) h3 h4 (by omega)
  · rw [if_neg h1]
    refine (put_bad W B b g n x l h h1).mono ?_
    rintro e w' ⟨rfl, rfl⟩
    exact ⟨rfl, WStep.refl h⟩

theorem rput_any (W : World) (B c k : Nat) (n x : Int) (l : List Bool) (h : RW W B c k l) (hl : l.length ≤ 8388608) :
    Calls Tryd.prog 35 #[.pointer (some ⟨c, 0, none⟩), .int .i64 n, .int .i64 x] W fun e w' => e = .returned (.int .i64 (putL l n x).1) ∧ RStep W w' B c k (putL l n x).2 := by
  unfold putL
  by_cases h1 : okPut n x
  · rw [if_pos h1]
    obtain ⟨h0, h2, h3, h4⟩ := h1
    obtain ⟨m, rfl⟩ := Int.eq_ofNat_of_zero_le h0
    rw [Int.toNat_natCast] at h4 ⊢
    by_cases hs : 8388608 < l.length + m
    · rw [if_pos hs]
      refine (refPut_size W B c k m n l h hl (by omega) h3 h4 hs).mono ?_
      rintro e w' ⟨rfl, rfl⟩
      exact ⟨rfl, RStep.refl h⟩
    · rw [if_neg hs]
      exact refPut_ok W B c k m n l h (by omega) h3 h4 (by omega)
  · rw [if_neg h1]
    refine (refPut_bad W c n x h1).mono ?_
    rintro e w' ⟨rfl, rfl⟩
    exact ⟨rfl, RStep.refl h⟩

/-- Both writers hold the same bits. -/
structure PrW (W : World) (B b g c k : Nat) (l : List Bool) : Prop where
  q : WB W B b g l
  r : RW W B c k l
  hl : l.length ≤ 8388608
  cb : c ≠ b
  cg : c ≠ g
  kb : k ≠ b
  kg : k ≠ g
/-- What a call on both leaves. -/
def PStep (W W' : World) (B b g c k : Nat) : Prop :=
  ∃ g' k' l', PrW W' B b g' c k' l' ∧ (g' = g ∨ W.heap.size ≤ g') ∧ (k' = k ∨ W.heap.size ≤ k') ∧ Only (fun i => i = b ∨ i = g ∨ i = c ∨ i = k) W W'
section
variable {W W' : World} {B b g c k : Nat} {l : List Bool}
theorem PrW.below (h : PrW W B b g c k l) (hb : Below W.heap.size W W') : PrW W' B b g c k l := { h with q := h.q.below hb, r := h.r.below hb }
theorem PrW.drew (h : PrW W B b g c k l) (d : Drew W W') : PrW W' B b g c k l := { h with q := h.q.drew d, r := h.r.drew d }
theorem PrW.only {S : Nat → Prop} (h : PrW W B b g c k l) (o : Only S W W') (h1 : ¬ S b) (h2 : ¬ S g) (h3 : ¬ S c) (h4 : ¬ S k) : PrW W' B b g c k l := { h with q := h.q.only o h1 h2, r := h.r.only o h3 h4 }
/-- The first writer was called: the second one is as it was. -/
theorem PrW.one {l' : List Bool} (h : PrW W B b g c k l) (s : WStep W W' B b g l') : RW W' B c k l := by
  obtain ⟨g', q1, q2, q3⟩ := s
  refine h.r.only q3 ?_ ?_
  · rintro (e | e)
    · exact h.cb e
    · exact h.cg e
  · rintro (e | e)
    · exact h.kb e
    · exact h.kg e
/-- The second one was called, too. -/
theorem PrW.two {V w2 : World} {l' : List Bool} (h : PrW W B b g c k l) (hv : Below V.heap.size V W) (hl' : l'.length ≤ 8388608) (hV : PrW V B b g c k l) (s : WStep W W' B b g l') (t : RStep W' w2 B c k l') :
    ∃ g' k', PrW w2 B b g' c k' l' ∧ (g' = g ∨ V.heap.size ≤ g') ∧ (k' = k ∨ V.heap.size ≤ k') ∧ Only (fun i => i = b ∨ i = g ∨ i = c ∨ i = k) V w2 := by
  obtain ⟨g', q1, q2, q3⟩ := s
  obtain ⟨k', r1, r2, r3⟩ := t
  have hc := hV.r.lt
  have hk := hV.r.ltk
  have hb := hV.q.lt
  have hg := hV.q.ltg
  have hb' := q1.lt
  have hg' := q1.ltg
  have h1 := hv.size
  have h2 := q3.size
  have cb := h.cb
  have cg := h.cg
  have kb := h.kb
  have kg := h.kg
  refine ⟨g', k', ⟨q1.only r3 ?_ ?_, r1, hl', cb, by omega, by omega, by omega⟩, by omega, by omega, ?_⟩
  · rintro (e | e) <;> omega
  · rintro (e | e) <;> omega
  · refine ((Only.of_below hv (S := fun i => i = b ∨ i = g ∨ i = c ∨ i = k)).trans q3 ?_).trans r3 ?_
    · rintro i (e | e)
      · exact .inl (.inl e)
      · exact .inl (.inr (.inl e))
    · rintro i (e | e)
      · exact .inl (.inr (.inr (.inl e)))
      · exact .inl (.inr (.inr (.inr e)))
end

end Go.Proofs.YtmmbadkkkjkgnaaDoor.Bit
