/- Put of package huff, without the document's own; what was put is decoded (HuffDecoded's numbers). -/
import Derived.Test.YtdgfhbeofidbnaaDoorPkBitA
import Derived.Test.YtdgfhbeofidbnaaDoorPkHDecA
namespace Go.Proofs.YtdgfhbeofidbnaaDoor.Huf
open Go.RowKit Go.Shelf Go.Lib Go.Proofs.YtdgfhbeofidbnaaDoor.Mem Go.Proofs.YtdgfhbeofidbnaaDoor.Bit

open Classical in
/-- P202: the error of a Put, and the bits behind it. -/
noncomputable def putL (l : List Bool) (n x : Int) : Int × List Bool :=
  if okPut n x then if 8388608 < l.length + x.toNat then (6, l) else (0, l ++ bitsOf n x.toNat) else (1, l)
theorem putL_le (l : List Bool) (n x : Int) (hl : l.length ≤ 8388608) : (putL l n x).2.length ≤ 8388608 := by
  unfold putL
  split
  · split
    · exact hl
    · rw [List.length_append, bitsOf_len]; omega
  · exact hl
theorem WStep.refl {W : World} {B b g : Nat} {l : List Bool} (h : WB W B b g l) : WStep W W B b g l := ⟨g, h, .inl rfl, Only.refl _ _⟩

theorem WStep.of_drew {U V W : World} {B b g : Nat} {l : List Bool} (d : Drew U V) (s : WStep V W B b g l) : WStep U W B b g l := by
  obtain ⟨g', q1, q2, q3⟩ := s
  rw [d.heap] at q2
  exact ⟨g', q1, q2, d.only.trans q3 (fun i q => .inl q)⟩
theorem wput_any (W : World) (B b g : Nat) (n x : Int) (l : List Bool) (h : WB W B b g l) (hm : Masks W B) (hl : l.length ≤ 8388608) :
    Calls Tryd.prog 21 #[.pointer (some ⟨b, 0, none⟩), .int .i64 n, .int .i64 x] W fun e w' => e = .returned (.int .i64 (putL l n x).1) ∧ WStep W w' B b g (putL l n x).2 := by
  unfold putL
  by_cases h1 : okPut n x
  · rw [if_pos h1]
    obtain ⟨h0, h2, h3, h4⟩ := h1
    obtain ⟨m, rfl⟩ := Int.eq_ofNat_of_zero_le h0
    rw [Int.toNat_natCast] at h4 ⊢
    by_cases hs : 8388608 < l.length + m
    · rw [if_pos hs]
      refine (put_size W B b g m n l h hl (by omega) h3 h4 hs).mono ?_
      rintro e w' ⟨rfl, rfl⟩
      exact ⟨rfl, WStep.refl h⟩
    · rw [if_neg hs]
      exact put_ok W B b g m n l h hm (by omega) h3 h4 (by omega)
  · rw [if_neg h1]
    refine (put_bad W B b g n x l h h1).mono ?_
    rintro e w' ⟨rfl, rfl⟩
    exact ⟨rfl, WStep.refl h⟩

def okSym (cs ls : List Int) (s : Int) : Prop := 0 ≤ s ∧ s < cs.length ∧ s < ls.length
def okCode (c n : Int) : Prop := 1 ≤ n ∧ n ≤ 15 ∧ 0 ≤ c ∧ c < 2 ^ n.toNat
open Classical in
/-- P305: the error of a Put, and the bits behind it. -/
noncomputable def putH (cs ls : List Int) (s : Int) (l : List Bool) : Int × List Bool :=
  if okSym cs ls s then
    if okCode (numAt cs s.toNat) (numAt ls s.toNat) then putL l (rev (numAt cs s.toNat) (numAt ls s.toNat).toNat) (numAt ls s.toNat) else (1, l)
  else (1, l)
theorem putH_le (cs ls : List Int) (s : Int) (l : List Bool) (hl : l.length ≤ 8388608) : (putH cs ls s l).2.length ≤ 8388608 := by
  unfold putH
  split
  · split
    · exact putL_le _ _ _ hl
    · exact hl
  · exact hl
theorem clampN_nat (m : Nat) (h : m ≤ 32) : clampN (m : Int) = m := by unfold clampN; omega
theorem pow15 (m : Nat) (h : m ≤ 15) : ∃ p : Nat, (2 : Int) ^ m = (p : Int) ∧ p ≤ 32768 := by
  refine ⟨2 ^ m, by rw [Int.natCast_pow]; rfl, ?_⟩
  exact Nat.le_trans (Nat.pow_le_pow_right (by decide) h) (by decide)

set_option maxHeartbeats 4000000 in
set_option maxRecDepth 100000 in
theorem hput_any (W : World) (B b g : Nat) (v1 v2 : Value) (cs ls : List Int) (s : Int) (l : List Bool) (h : WB W B b g l) (hm : Masks W B) (hl : l.length ≤ 8388608) (h1 : SrcI W v1 cs) (h2 : SrcI W v2 ls) :
    Calls Tryd.prog 42 #[.pointer (some ⟨b, 0, none⟩), v1, v2, .int .i64 s] W fun e w' => e = .returned (.int .i64 (putH cs ls s l).1) ∧ WStep W w' B b g (putH cs ls s l).2 := by
  obtain ⟨a1, c1, rfl, g1⟩ := h1.shape
  obtain ⟨a2, c2, rfl, g2⟩ := h2.shape
  unfold putH
  by_cases hs : okSym cs ls s
  · rw [if_pos hs]
    obtain ⟨s0, s1, s2⟩ := hs
    obtain ⟨k, rfl⟩ := Int.eq_ofNat_of_zero_le s0
    rw [Int.toNat_natCast]
    have k1 : k < cs.length := by omega
    have k2 : k < ls.length := by omega
    obtain ⟨p1, rfl⟩ := g1 (by omega)
    obtain ⟨p2, rfl⟩ := g2 (by omega)
    have K1 : ∀ q, (W.drewN q).cell? (p1.add k) = some (.int .i64 (numAt cs k)) := fun q => by
      rw [numAt_eq cs k k1]
      exact ((Drew.drewN W q).cell).trans (srci_cell h1 k k1)
    have K1a : W.cell? (p1.add k) = some (.int .i64 (numAt cs k)) := K1 0
    have K2 : ∀ q, (W.drewN q).cell? (p2.add k) = some (.int .i64 (numAt ls k)) := fun q => by
      rw [numAt_eq ls k k2]
      exact ((Drew.drewN W q).cell).trans (srci_cell h2 k k2)
    have K2a : W.cell? (p2.add k) = some (.int .i64 (numAt ls k)) := K2 0
    generalize numAt cs k = c at *
    generalize numAt ls k = n at *
    have hk0 : ¬ (k : Int) < 0 := by omega
    have hge1 : ¬ (cs.length : Int) ≤ (k : Int) := by omega
    have hge2 : ¬ (ls.length : Int) ≤ (k : Int) := by omega
    by_cases hc : okCode c n
    · rw [if_pos hc]
      obtain ⟨n1, n2, c0, c1'⟩ := hc
      obtain ⟨m, rfl⟩ := Int.eq_ofNat_of_zero_le (show 0 ≤ n by omega)
      rw [Int.toNat_natCast] at c1' ⊢
      have hz : c / 2 ^ m = 0 := (okPut_div c m).2 ⟨c0, c1'⟩
      have HR := fun w => Lib.hid (rev_any c m w)
      rw [clampN_nat m (by omega)] at HR
      obtain ⟨r, hr⟩ : ∃ r, r = rev c m := ⟨_, rfl⟩
      rw [← hr] at HR ⊢
      have HP : Aside (∀ w, Drew W w → Calls Tryd.prog 21 #[.pointer (some ⟨b, 0, none⟩), .int .i64 r, .int .i64 (m : Int)] w fun e w' => e = .returned (.int .i64 (putL l r m).1) ∧ Aside (WStep W w' B b g (putL l r m).2)) := fun w d =>
        (wput_any w B b g r m l (h.drew d) (hm.drew d) hl).mono fun e w' ⟨q1, q2⟩ => ⟨q1, WStep.of_drew d q2⟩
      have HD : Aside (∀ q, Drew W (W.drewN q)) := fun q => Drew.drewN W q
      have hm1 : ¬ (m : Int) < 1 := by omega
      have hm2 : ¬ (15 : Int) < (m : Int) := by omega
      have hm3 : m ≤ 15 := by omega
      have hm4 : 1 ≤ m := by omega
      clear h hm h1 h2 g1 g2 c1' hr
      go_enter Tryd.func42, Tryd.ntmps42
      go_wp2_with fail
      go_quiet (fail)
      go_wp2_with (first
        | (go_at_call 64; refine (HR _).out.mono ?_; rintro e w1 ⟨rfl, rfl⟩)
        | (go_at_call 21; refine (HP.out _ (HD.out _)).mono ?_; rintro e w2 ⟨rfl, hst⟩))
      go_ret
      exact ⟨rfl, hst.out⟩
    · rw [if_neg hc]
      have HS : Aside (∀ q, WStep W (W.drewN q) B b g l) := fun q => WStep.of_drew (Drew.drewN W q) (WStep.refl (h.drew (Drew.drewN W q)))
      by_cases n1 : n < 1
      · clear hc h hm h1 h2 g1 g2
        go_enter Tryd.func42, Tryd.ntmps42
        go_wp2_with fail
        go_quiet (fail)
        go_wp2_with fail
        go_ret
        exact ⟨rfl, HS.out _⟩
      · by_cases n2 : 15 < n
        · clear hc h hm h1 h2 g1 g2
          go_enter Tryd.func42, Tryd.ntmps42
          go_wp2_with fail
          go_quiet (fail)
          go_wp2_with fail
          go_ret
          exact ⟨rfl, HS.out _⟩
        · obtain ⟨m, rfl⟩ := Int.eq_ofNat_of_zero_le (show 0 ≤ n by omega)
          have hz : ¬ c / 2 ^ m = 0 := fun e => by
            obtain ⟨e0, e1⟩ := (okPut_div c m).1 e
            exact hc ⟨by omega, by omega, e0, by rw [Int.toNat_natCast]; exact e1⟩
          have hz1 : (c / 2 ^ m == 0) = false := by simpa using hz
          have hz2 : (c / 2 ^ m != 0) = true := by simpa using hz
          have hm3 : m ≤ 15 := by omega
          have hm4 : 1 ≤ m := by omega
          clear hc h hm h1 h2 g1 g2
          go_enter Tryd.func42, Tryd.ntmps42
          go_wp2_with fail
          go_quiet (fail)
          go_wp2_with fail
          go_ret
          exact ⟨rfl, HS.out _⟩
  · rw [if_neg hs]
    have HS : Aside (WStep W W B b g l) := WStep.refl h
    by_cases s0 : s < 0
    · clear hs h hm h1 h2 g1 g2
      go_enter Tryd.func42, Tryd.ntmps42
      go_wp2_with fail
      go_ret
      exact ⟨rfl, HS.out⟩
    · have hor : (cs.length : Int) ≤ s ∨ (ls.length : Int) ≤ s := by
        unfold okSym at hs
        omega
      clear hs h hm h1 h2 g1 g2
      rcases hor with q | q
      · go_enter Tryd.func42, Tryd.ntmps42
        go_wp2_with fail
        all_goals (go_ret; exact ⟨rfl, HS.out⟩)
      · go_enter Tryd.func42, Tryd.ntmps42
        go_wp2_with fail
        all_goals (go_ret; exact ⟨rfl, HS.out⟩)


theorem rev_bit (c : Int) : ∀ n k : Nat, k < n → rev c n / 2 ^ k % 2 = c / 2 ^ (n - 1 - k) % 2
  | 0, k, h => by omega
  | n + 1, 0, _ => by
    have e : rev c (n + 1) = 2 * rev c n + c / 2 ^ n % 2 := rfl
    rw [e, Int.pow_zero, Int.ediv_one]
    simp only [Nat.add_sub_cancel, Nat.sub_zero]
    omega
  | n + 1, k + 1, h => by
    have ih := rev_bit c n k (by omega)
    have e : rev c (n + 1) = 2 * rev c n + c / 2 ^ n % 2 := rfl
    have e2 : rev c (n + 1) / 2 ^ (k + 1) = rev c n / 2 ^ k := by
      rw [div_pow_succ]
      congr 1
      rw [e]
      omega
    rw [e2, ih]
    congr 3
    omega
theorem bit_at (P Q : List Bool) (c n k : Nat) (h : k < n) : bitN (pk (P ++ bitsOf (rev (c : Int) n) n ++ Q)) (P.length + k) = c / 2 ^ (n - 1 - k) % 2 := by
  rw [pk_bit, List.getD_eq_getElem?_getD, List.append_assoc, List.getElem?_append_right (by omega), List.getElem?_append_left (by rw [bitsOf_len]; omega)]
  have e : P.length + k - P.length = k := by omega
  rw [e]
  have hb := rev_bit (c : Int) n k h
  unfold bitsOf
  rw [List.getElem?_map, List.getElem?_range h]
  simp only [Option.map_some, Option.getD_some]
  rw [hb]
  have hc : ((c : Int) / 2 ^ (n - 1 - k) % 2) = ((c / 2 ^ (n - 1 - k) % 2 : Nat) : Int) := by
    rw [Int.natCast_emod, Int.natCast_ediv, Int.natCast_pow]; rfl
  rw [hc]
  generalize c / 2 ^ (n - 1 - k) = y
  rcases Nat.mod_two_eq_zero_or_one y with z | z <;> rw [z] <;> rfl

theorem symOf_one {l : List Int} (hf : Fine l) {n c i : Nat} (hn : n ≠ 0) (hi : i < l.length) (h : lenN l i = n ∧ codeL l i = c) : symOf l n c = some i := by
  cases hs : symOf l n c with
  | none => exact absurd h (symOf_none hs i hi)
  | some s =>
    obtain ⟨s1, s2, s3⟩ := symOf_some hs
    by_cases e : s = i
    · rw [e]
    · exact absurd (s3.trans h.2.symm) (code_apart hf s1 hi e (by omega) (by omega))
/-- A code is read, bit by bit. -/
theorem decode_from {l : List Int} (hf : Fine l) {s : Nat} (hs : s < l.length) (bs : List UInt8) (at_ : Nat) (hb : at_ + lenN l s ≤ 8 * bs.length) (hbit : ∀ k, k < lenN l s → bitN bs (at_ + k) = codeL l s / 2 ^ (lenN l s - 1 - k) % 2) :
    ∀ d k, k + d + 1 = lenN l s → nextN l bs at_ (15 - k) k (codeL l s / 2 ^ (lenN l s - k)) = (s, 0, at_ + lenN l s) := by
  have h15 := (hf.len hs).2
  intro d
  induction d with
  | zero =>
    intro k hk
    obtain ⟨f, hff⟩ : ∃ f, 15 - k = f + 1 := ⟨15 - k - 1, by omega⟩
    have hc : 2 * (codeL l s / 2 ^ (lenN l s - k)) + bitN bs (at_ + k) = codeL l s := by
      rw [hbit k (by omega), show lenN l s - k = 1 by omega, show lenN l s - 1 - k = 0 by omega, Nat.pow_one, Nat.pow_zero, Nat.div_one]
      omega
    rw [hff]
    unfold nextN
    rw [if_neg (by omega), hc, symOf_one hf (by omega) hs ⟨by omega, rfl⟩]
    show (s, 0, at_ + k + 1) = _
    rw [show at_ + k + 1 = at_ + lenN l s by omega]
  | succ d ih =>
    intro k hk
    obtain ⟨f, hff⟩ : ∃ f, 15 - k = f + 1 := ⟨15 - k - 1, by omega⟩
    have hc : 2 * (codeL l s / 2 ^ (lenN l s - k)) + bitN bs (at_ + k) = codeL l s / 2 ^ (lenN l s - (k + 1)) := by
      rw [hbit k (by omega), show lenN l s - k = (lenN l s - (k + 1)) + 1 by omega, show lenN l s - 1 - k = lenN l s - (k + 1) by omega, Nat.pow_succ, ← Nat.div_div_eq_div_mul]
      omega
    have hno : symOf l (k + 1) (codeL l s / 2 ^ (lenN l s - (k + 1))) = none := by
      cases hsy : symOf l (k + 1) (codeL l s / 2 ^ (lenN l s - (k + 1))) with
      | none => rfl
      | some t =>
        obtain ⟨t1, t2, t3⟩ := symOf_some hsy
        refine absurd t3.symm ?_
        have := codeN_prefix (lenN l) l.length t s t1 hs (fun e => by rw [e] at t2; omega) (by omega) (by omega) h15
        rw [t2] at this
        exact this
    rw [hff]
    unfold nextN
    rw [if_neg (by omega), hc, hno]
    show nextN l bs at_ f (k + 1) _ = _
    have := ih (k + 1) (by omega)
    rw [show 15 - (k + 1) = f by omega] at this
    exact this
theorem pk_room (L : List Bool) : L.length ≤ 8 * (pk L).length ∧ 8 * (pk L).length < L.length + 8 := by
  have := pk_len L
  omega
theorem decode_one {l : List Int} (hf : Fine l) {s : Nat} (hs : s < l.length) (h0 : lenN l s ≠ 0) (P Q : List Bool) :
    nextR l (pk (P ++ bitsOf (rev (codeL l s : Int) (lenN l s)) (lenN l s) ++ Q)) P.length = (s, 0, P.length + lenN l s) := by
  have hr := pk_room (P ++ bitsOf (rev (codeL l s : Int) (lenN l s)) (lenN l s) ++ Q)
  simp only [List.length_append, bitsOf_len] at hr
  have hlt := codeN_lt (lenN l) l.length s hs (by omega) (hf.len hs).2 hf.w
  have hz : codeL l s / 2 ^ (lenN l s - 0) = 0 := Nat.div_eq_of_lt (by rw [Nat.sub_zero]; exact hlt)
  have h := decode_from hf hs (pk (P ++ bitsOf (rev (codeL l s : Int) (lenN l s)) (lenN l s) ++ Q)) P.length (by omega) (fun k hk => bit_at P Q (codeL l s) (lenN l s) k hk) (lenN l s - 1) 0 (by omega)
  rw [hz] at h
  unfold nextR
  rw [if_neg (fun z => h0 (z s hs))]
  exact h
/-- The bits of symbols. -/
def encL (l : List Int) (d : List Nat) : List Bool := d.flatMap fun s => bitsOf (rev (codeL l s : Int) (lenN l s)) (lenN l s)
theorem encL_snoc (l : List Int) (d : List Nat) (s : Nat) : encL l (d ++ [s]) = encL l d ++ bitsOf (rev (codeL l s : Int) (lenN l s)) (lenN l s) := by simp [encL]
theorem encL_split (l : List Int) (d : List Nat) (j : Nat) (h : j < d.length) : encL l d = encL l (d.take j) ++ bitsOf (rev (codeL l d[j] : Int) (lenN l d[j])) (lenN l d[j]) ++ encL l (d.drop (j + 1)) := by
  have e : d = d.take j ++ (d[j] :: d.drop (j + 1)) := by rw [← List.drop_eq_getElem_cons h, List.take_append_drop]
  refine (congrArg (encL l) e).trans ?_
  unfold encL
  rw [List.flatMap_append, List.flatMap_cons, List.append_assoc]
theorem decode_nth {l : List Int} (hf : Fine l) (d : List Nat) (hd : ∀ s ∈ d, s < l.length ∧ lenN l s ≠ 0) (j : Nat) (h : j < d.length) :
    nextR l (pk (encL l d)) (encL l (d.take j)).length = (d[j], 0, (encL l (d.take (j + 1))).length) := by
  obtain ⟨h1, h2⟩ := hd _ (List.getElem_mem h)
  rw [encL_split l d j h, decode_one hf h1 h2, List.take_succ_eq_append_getElem h, encL_snoc, List.length_append, bitsOf_len]
theorem put_known {l : List Int} (hf : Fine l) (L : List Bool) (hL : L.length ≤ 100000) (z : Int) :
    (∃ s : Nat, z = (s : Int) ∧ s < l.length ∧ lenN l s ≠ 0 ∧ putH (codesR l).1 l z L = (0, L ++ bitsOf (rev (codeL l s : Int) (lenN l s)) (lenN l s))) ∨ putH (codesR l).1 l z L = (1, L) := by
  have hcl : (codesR l).1.length = l.length := by unfold codesR; rw [if_pos ((fine_iff l).2 hf)]; simp
  by_cases h1 : okSym (codesR l).1 l z
  · obtain ⟨s0, s1, s2⟩ := h1
    obtain ⟨s, rfl⟩ := Int.eq_ofNat_of_zero_le s0
    have hs : s < l.length := by omega
    have hlen := hf.len hs
    have hnum : numAt (codesR l).1 s = (codeL l s : Int) := by
      rw [numAt_eq _ s (by omega)]
      unfold codesR at *
      simp only [(fine_iff l).2 hf, if_true]
      rw [List.getElem_map, List.getElem_range]
    by_cases h2 : lenN l s = 0
    · refine .inr ?_
      unfold putH
      rw [if_pos ⟨s0, s1, s2⟩, Int.toNat_natCast, ← hlen.1, h2]
      rw [if_neg (fun q => by have := q.1; omega)]
    · refine .inl ⟨s, rfl, hs, h2, ?_⟩
      have hlt := codeN_lt (lenN l) l.length s hs (by omega) hlen.2 hf.w
      unfold putH
      rw [if_pos ⟨s0, s1, s2⟩, Int.toNat_natCast, ← hlen.1, hnum, Int.toNat_natCast]
      have hlt2 : (codeL l s : Int) < 2 ^ lenN l s := by
        have := Int.ofNat_lt.2 hlt
        rw [Int.natCast_pow] at this
        exact this
      rw [if_pos ⟨by omega, by omega, by omega, by rw [Int.toNat_natCast]; exact hlt2⟩]
      unfold putL
      have hb := rev_bd (codeL l s : Int) (lenN l s)
      rw [if_pos ⟨by omega, by omega, hb.1, by rw [Int.toNat_natCast]; exact hb.2⟩, Int.toNat_natCast, if_neg (by omega)]
  · refine .inr ?_
    unfold putH
    rw [if_neg h1]
end Go.Proofs.YtdgfhbeofidbnaaDoor.Huf
