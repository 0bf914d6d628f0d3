/- Put of package huff, without the document's own; what was put is decoded (HuffDecoded's numbers). -/
import Derived.Test.YthmbbpfgbpacnaaGreatDoorPmBitM
import Derived.Test.YthmbbpfgbpacnaaGreatDoorPmHDecA
namespace Go.Proofs.YthmbbpfgbpacnaaGreatDoor.Huf
open Go.RowKit Go.Shelf Go.Lib Mem Bit
open Classical in
noncomputable def putL (l : List Bool) (n x : Int) : Int × List Bool :=
 if okPut n x then if 8388608 < l.length + x.toNat then (6, l) else (0, l ++ bitsOf n x.toNat) else (1, l)
theorem WStep.refl {W : World} {B b g : Nat} {l : List Bool} (h : WB W B b g l) : WStep W W B b g l := ⟨g, h, .inl rfl, Only.refl _ _⟩
theorem wput_any (W : World) (B b g : Nat) (n x : Int) (l : List Bool) (h : WB W B b g l) (hm : Masks W B) (hl : l.length <= 8388608) :
  Calls Tryz.prog 49 #[.pointer (some ⟨b, 0, none⟩), .int .i64 n, .int .i64 x] W fun e w' => e = .returned (.int .i64 (putL l n x).1) /\ WStep W w' B b g (putL l n x).2 := by
 unfold putL
 by_cases h1 : okPut n x
 ·rw [if_pos h1]
  obtain ⟨h0, h2, h3, h4⟩ := h1
  obtain ⟨m, rfl⟩ := Int.eq_ofNat_of_zero_le h0
  rw [Int.toNat_natCast] at h4 ⊢
  by_cases hs : 8388608 < l.length + m
  ·rw [if_pos hs]
   refine (put_size W B b g m n l h hl (by omega) h3 h4 hs).mono ?_
   rintro e w' ⟨rfl, rfl⟩
   exact ⟨rfl, WStep.refl h⟩
  ·rw [if_neg hs]
   exact put_ok W B b g m n l h hm (by omega) h3 h4 (by omega)
 ·rw [if_neg h1]
  refine (put_bad W B b g n x l h h1).mono ?_
  rintro e w' ⟨rfl, rfl⟩
  exact ⟨rfl, WStep.refl h⟩
theorem clampN_nat (m : Nat) (h : m <= 32) : clampN (m : Int) = m := by unfold clampN; omega
theorem rev_bit (c : Int) : ∀ n k : Nat, k < n -> rev c n / 2 ^ k % 2 = c / 2 ^ (n - 1 - k) % 2
 | 0, k, h => by omega
 | n + 1, 0, _ => by
  have e : rev c (n + 1) = 2 * rev c n + c / 2 ^ n % 2 := rfl
  rw [e, Int.pow_zero, Int.ediv_one]
  simp only [Nat.add_sub_cancel, Nat.sub_zero]
  omega
 | n + 1, k + 1, h => by
  have ih := rev_bit c n k (by omega)
  have e : rev c (n + 1) = 2 * rev c n + c / 2 ^ n % 2 := rfl
  have e2 : rev c (n + 1) / 2 ^ (k + 1) = rev c n / 2 ^ k := by
   rw [div_pow_succ]
   congr 1
   rw [e]
   omega
  rw [e2, ih]
  congr 3
  omega
theorem bit_at (P Q : List Bool) (c n k : Nat) (h : k < n) : bitN (pk (P ++ bitsOf (rev (c : Int) n) n ++ Q)) (P.length + k) = c / 2 ^ (n - 1 - k) % 2 := by
 rw [pk_bit, List.getD_eq_getElem?_getD, List.append_assoc, List.getElem?_append_right (by omega), List.getElem?_append_left (by rw [bitsOf_len]; omega)]
 have e : P.length + k - P.length = k := by omega
 rw [e]
 have hb := rev_bit (c : Int) n k h
 unfold bitsOf
 rw [List.getElem?_map, List.getElem?_range h]
 simp only [Option.map_some, Option.getD_some]
 rw [hb]
 have hc : ((c : Int) / 2 ^ (n - 1 - k) % 2) = ((c / 2 ^ (n - 1 - k) % 2 : Nat) : Int) := by
  rw [Int.natCast_emod, Int.natCast_ediv, Int.natCast_pow]; rfl
 rw [hc]
 generalize c / 2 ^ (n - 1 - k) = y
 rcases Nat.mod_two_eq_zero_or_one y with z | z <;> rw [z] <;> rfl
theorem symOf_one {l : List Int} (hf : Fine l) {n c i : Nat} (hn : n ≠ 0) (hi : i < l.length) (h : lenN l i = n /\ codeL l i = c) : symOf l n c = some i := by
 cases hs : symOf l n c with
 | none => exact absurd h (symOf_none hs i hi)
 | some s =>
  obtain ⟨s1, s2, s3⟩ := symOf_some hs
  by_cases e : s = i
  ·rw [e]
  ·exact absurd (s3.trans h.2.symm) (code_apart hf s1 hi e (by omega) (by omega))
theorem decode_from {l : List Int} (hf : Fine l) {s : Nat} (hs : s < l.length) (bs : List UInt8) (at_ : Nat) (hb : at_ + lenN l s <= 8 * bs.length) (hbit : ∀ k, k < lenN l s -> bitN bs (at_ + k) = codeL l s / 2 ^ (lenN l s - 1 - k) % 2) :
  ∀ d k, k + d + 1 = lenN l s -> nextN l bs at_ (15 - k) k (codeL l s / 2 ^ (lenN l s - k)) = (s, 0, at_ + lenN l s) := by
 have h15 := (hf.len hs).2
 intro d
 induction d with
 | zero =>
  intro k hk
  obtain ⟨f, hff⟩ : ∃ f, 15 - k = f + 1 := ⟨15 - k - 1, by omega⟩
  have hc : 2 * (codeL l s / 2 ^ (lenN l s - k)) + bitN bs (at_ + k) = codeL l s := by
   rw [hbit k (by omega), show lenN l s - k = 1 by omega, show lenN l s - 1 - k = 0 by omega, Nat.pow_one, Nat.pow_zero, Nat.div_one]
   omega
  rw [hff]
  unfold nextN
  rw [if_neg (by omega), hc, symOf_one hf (by omega) hs ⟨by omega, rfl⟩]
  show (s, 0, at_ + k + 1) = _
  rw [show at_ + k + 1 = at_ + lenN l s by omega]
 | succ d ih =>
  intro k hk
  obtain ⟨f, hff⟩ : ∃ f, 15 - k = f + 1 := ⟨15 - k - 1, by omega⟩
  have hc : 2 * (codeL l s / 2 ^ (lenN l s - k)) + bitN bs (at_ + k) = codeL l s / 2 ^ (lenN l s - (k + 1)) := by
   rw [hbit k (by omega), show lenN l s - k = (lenN l s - (k + 1)) + 1 by omega, show lenN l s - 1 - k = lenN l s - (k + 1) by omega, Nat.pow_succ, <- Nat.div_div_eq_div_mul]
   omega
  have hno : symOf l (k + 1) (codeL l s / 2 ^ (lenN l s - (k + 1))) = none := by
   cases hsy : symOf l (k + 1) (codeL l s / 2 ^ (lenN l s - (k + 1))) with
   | none => rfl
   | some t =>
    obtain ⟨t1, t2, t3⟩ := symOf_some hsy
    refine absurd t3.symm ?_
    have := codeN_prefix (lenN l) l.length t s t1 hs (fun e => by rw [e] at t2; omega) (by omega) (by omega) h15
    rw [t2] at this
    exact this
  rw [hff]
  unfold nextN
  rw [if_neg (by omega), hc, hno]
  show nextN l bs at_ f (k + 1) _ = _
  have := ih (k + 1) (by omega)
  rw [show 15 - (k + 1) = f by omega] at this
  exact this
theorem pk_room (L : List Bool) : L.length <= 8 * (pk L).length /\ 8 * (pk L).length < L.length + 8 := by
 have := pk_len L
 omega
theorem decode_one {l : List Int} (hf : Fine l) {s : Nat} (hs : s < l.length) (h0 : lenN l s ≠ 0) (P Q : List Bool) :
  nextR l (pk (P ++ bitsOf (rev (codeL l s : Int) (lenN l s)) (lenN l s) ++ Q)) P.length = (s, 0, P.length + lenN l s) := by
 have hr := pk_room (P ++ bitsOf (rev (codeL l s : Int) (lenN l s)) (lenN l s) ++ Q)
 simp only [List.length_append, bitsOf_len] at hr
 have hlt := codeN_lt (lenN l) l.length s hs (by omega) (hf.len hs).2 hf.w
 have hz : codeL l s / 2 ^ (lenN l s - 0) = 0 := Nat.div_eq_of_lt (by rw [Nat.sub_zero]; exact hlt)
 have h := decode_from hf hs (pk (P ++ bitsOf (rev (codeL l s : Int) (lenN l s)) (lenN l s) ++ Q)) P.length (by omega) (fun k hk => bit_at P Q (codeL l s) (lenN l s) k hk) (lenN l s - 1) 0 (by omega)
 rw [hz] at h
 unfold nextR
 rw [if_neg (fun z => h0 (z s hs))]
 exact h
end Go.Proofs.YthmbbpfgbpacnaaGreatDoor.Huf
