/- Plain facts on bits: numbers as rows of bits, bits in the other order, bytes that bits are packed into. -/
import Derived.Laws.BitsAllLaws
import Derived.Laws.Bits128
namespace Go.Proofs.YtdgfhbeofidbnaaDoor.Bit

/-! The k low bits of n, in the other order. -/
def rev (n : Int) : Nat → Int
  | 0 => 0
  | k + 1 => 2 * rev n k + n / 2 ^ k % 2
theorem two_pos (k : Nat) : (0 : Int) < 2 ^ k := Int.pow_pos (by decide)
theorem rev_bd (n : Int) : ∀ k, 0 ≤ rev n k ∧ rev n k < 2 ^ k
  | 0 => ⟨Int.le_refl _, Int.zero_lt_one⟩
  | k + 1 => by
    have h := rev_bd n k
    rw [Int.pow_succ]
    unfold rev
    omega
theorem div_pow_succ (n : Int) (k : Nat) : n / 2 ^ (k + 1) = n / 2 / 2 ^ k := by
  rw [Int.ediv_ediv_of_nonneg (by decide), Int.pow_succ, Int.mul_comm]
theorem div_pow_two (n : Int) (k : Nat) : n / 2 ^ (k + 1) = n / 2 ^ k / 2 := by
  rw [Int.ediv_ediv_of_nonneg (Int.le_of_lt (two_pos k)), Int.pow_succ]
theorem rev_low (n : Int) : ∀ k, rev n (k + 1) = n % 2 * 2 ^ k + rev (n / 2) k
  | 0 => by simp [rev]
  | k + 1 => by
    have h := rev_low n k
    rw [rev, h, rev, ← div_pow_succ, Int.pow_succ]
    rcases (by omega : n % 2 = 0 ∨ n % 2 = 1) with e | e <;> rw [e] <;> omega
theorem mod_pow_succ (n : Int) (k : Nat) : n % 2 ^ (k + 1) = n / 2 ^ k % 2 * 2 ^ k + n % 2 ^ k := by
  have h1 := Int.mul_ediv_add_emod n (2 ^ k)
  have h2 := Int.mul_ediv_add_emod (n / 2 ^ k) 2
  have h3 := Int.mul_ediv_add_emod n (2 ^ (k + 1))
  rw [div_pow_two, Int.pow_succ] at h3
  have e : (2 : Int) ^ k * (n / 2 ^ k) = 2 ^ k * 2 * (n / 2 ^ k / 2) + n / 2 ^ k % 2 * 2 ^ k := by
    conv => lhs; rw [← h2]
    rw [Int.mul_add, ← Int.mul_assoc, Int.mul_comm (n / 2 ^ k % 2)]
  rw [e] at h1
  rw [Int.pow_succ]
  omega
theorem rev_rev (n : Int) : ∀ k, rev (rev n k) k = n % 2 ^ k
  | 0 => by simp [rev, Int.emod_one]
  | k + 1 => by
    have h := rev_rev n k
    rw [rev_low, mod_pow_succ]
    have e1 : rev n (k + 1) % 2 = n / 2 ^ k % 2 := by rw [rev]; omega
    have e2 : rev n (k + 1) / 2 = rev n k := by rw [rev]; omega
    rw [e1, e2, h]

/-! Bits of Go's numbers. -/
theorem ofInt_i64 (a : Nat) (ha : a < 18446744073709551616) : (BitVec.ofInt 64 (a : Int)).toNat = a := by
  rw [BitVec.ofInt_natCast, BitVec.toNat_ofNat]; exact Nat.mod_eq_of_lt (by omega)
theorem i64_mask (n : Int) (m : Nat) (h : m ≤ 62) : bits .and .i64 n (2 ^ m - 1) = n % 2 ^ m := by
  have hp : 2 ^ m ≤ 2 ^ 62 := Nat.pow_le_pow_right (by decide) h
  have h1 : 0 < 2 ^ m := Nat.pow_pos (by decide)
  have hc : ((2 : Int) ^ m - 1) = ((2 ^ m - 1 : Nat) : Int) := by
    rw [Int.natCast_sub h1, Int.natCast_pow]; rfl
  have hm : (BitVec.ofInt 64 ((2 : Int) ^ m - 1)).toNat = 2 ^ m - 1 := by rw [hc, ofInt_i64 _ (by omega)]
  have hd : ((2 ^ m : Nat) : Int) ∣ ((2 ^ 64 : Nat) : Int) := Int.natCast_dvd_natCast.2 (Nat.pow_dvd_pow 2 (by omega))
  show IntKind.i64.wrap ((BitVec.ofInt 64 n &&& BitVec.ofInt 64 (2 ^ m - 1)).toNat : Nat) = n % 2 ^ m
  rw [BitVec.toNat_and, hm, Nat.and_two_pow_sub_one_eq_mod, BitVec.toNat_ofInt]
  have e : (((n % ((2 ^ 64 : Nat) : Int)).toNat % 2 ^ m : Nat) : Int) = n % 2 ^ m := by
    rw [Int.natCast_emod, Int.toNat_of_nonneg (Int.emod_nonneg _ (by decide)), Int.emod_emod_of_dvd _ hd, Int.natCast_pow]; rfl
  rw [e, IntKind.wrap_i64]
  have b0 := Int.emod_nonneg n (Int.ne_of_gt (two_pos m))
  have b1 := Int.emod_lt_of_pos n (two_pos m)
  have b2 : (2 : Int) ^ m ≤ 4611686018427387904 := by
    have := Int.ofNat_le.2 hp
    rw [Int.natCast_pow] at this
    exact this
  omega
theorem i64_and1 (n : Int) : bits .and .i64 n 1 = n % 2 := i64_mask n 1 (by decide)
theorem i64_or_nat (a b : Nat) (ha : a < 4611686018427387904) (hb : b < 4611686018427387904) : bits .or .i64 (a : Int) (b : Int) = ((a ||| b : Nat) : Int) := by
  have hx : a ||| b < 2 ^ 62 := Nat.or_lt_two_pow (by omega) (by omega)
  show IntKind.i64.wrap ((BitVec.ofInt 64 (a : Int) ||| BitVec.ofInt 64 (b : Int)).toNat : Int) = _
  rw [BitVec.toNat_or, ofInt_i64 a (by omega), ofInt_i64 b (by omega), IntKind.wrap_i64]
  omega
/-- Bits above those that are there. -/
theorem i64_or_up (a b k : Nat) (ha : a < 2 ^ k) (hs : 2 ^ k * b + a < 4611686018427387904) : bits .or .i64 (a : Int) ((b : Int) * 2 ^ k) = ((a + b * 2 ^ k : Nat) : Int) := by
  have e : ((b : Int) * 2 ^ k) = ((b * 2 ^ k : Nat) : Int) := by rw [Int.natCast_mul, Int.natCast_pow]; rfl
  have hb : b * 2 ^ k < 4611686018427387904 := by rw [Nat.mul_comm]; omega
  rw [e, i64_or_nat a (b * 2 ^ k) (by omega) hb, Nat.or_comm, Nat.mul_comm b, ← Nat.two_pow_add_eq_or_of_lt ha, Nat.add_comm]
/-- A bit below those that are there. -/
theorem i64_or_low (a b : Int) (h0 : 0 ≤ a) (h1 : a < 1152921504606846976) (hb : b = 0 ∨ b = 1) : bits .or .i64 (2 * a) b = 2 * a + b := by
  obtain ⟨A, rfl⟩ := Int.eq_ofNat_of_zero_le h0
  obtain ⟨B, rfl, hB⟩ : ∃ B : Nat, b = (B : Int) ∧ B < 2 ^ 1 := by rcases hb with rfl | rfl <;> exact ⟨_, rfl, by decide⟩
  have := i64_or_nat (2 * A) B (by omega) (by omega)
  rw [show ((2 : Int) * (A : Int)) = ((2 * A : Nat) : Int) by omega, this]
  have h2 := Nat.two_pow_add_eq_or_of_lt hB A
  rw [show (2 * A ||| B) = 2 * A + B from h2.symm]
  omega

/-! Bits packed into bytes, the lowest one first. -/
def orB (x : UInt8) (i : Nat) : UInt8 := x ||| UInt8.ofNat (2 ^ i)
def put1 (r : List UInt8) (n : Nat) (b : Bool) : List UInt8 :=
  if b then (if n = 8 * r.length then r ++ [0] else r).set (n / 8) (orB ((if n = 8 * r.length then r ++ [0] else r).getD (n / 8) 0) (n % 8)) else if n = 8 * r.length then r ++ [0] else r
def pkGo (r : List UInt8) (n : Nat) : List Bool → List UInt8
  | [] => r
  | b :: l => pkGo (put1 r n b) (n + 1) l
def pk (l : List Bool) : List UInt8 := pkGo [] 0 l
theorem pkGo_app (l m : List Bool) : ∀ r n, pkGo r n (l ++ m) = pkGo (pkGo r n l) (n + l.length) m := by
  induction l with
  | nil => intro r n; rfl
  | cons b l ih => intro r n; rw [List.cons_append, pkGo, ih, pkGo, List.length_cons, Nat.add_right_comm, Nat.add_assoc]
theorem pk_app (l m : List Bool) : pk (l ++ m) = pkGo (pk l) l.length m := by unfold pk; rw [pkGo_app, Nat.zero_add]
theorem pk_snoc (l : List Bool) (b : Bool) : pk (l ++ [b]) = put1 (pk l) l.length b := by rw [pk_app]; rfl
theorem put1_len (r : List UInt8) (n : Nat) (b : Bool) (h : r.length = (n + 7) / 8) : (put1 r n b).length = (n + 1 + 7) / 8 := by
  unfold put1
  split <;> split <;> (try simp only [List.length_set, List.length_append, List.length_cons, List.length_nil]) <;> omega
theorem pkGo_len (l : List Bool) : ∀ r n, r.length = (n + 7) / 8 → (pkGo r n l).length = (n + l.length + 7) / 8 := by
  induction l with
  | nil => intro r n h; exact h
  | cons b l ih => intro r n h; rw [pkGo, ih _ _ (put1_len r n b h), List.length_cons]; congr 1; omega
theorem pk_len (l : List Bool) : (pk l).length = (l.length + 7) / 8 := by
  have := pkGo_len l [] 0 rfl
  rw [Nat.zero_add] at this
  exact this
theorem pk_nil : pk [] = [] := rfl

/-- As many bits 0 as a whole number of bytes wants. -/
def padN (n : Nat) : Nat := (n + 7) / 8 * 8 - n
def alignL (l : List Bool) : List Bool := l ++ List.replicate (padN l.length) false
theorem alignL_len (l : List Bool) : (alignL l).length = (l.length + 7) / 8 * 8 := by
  unfold alignL padN; rw [List.length_append, List.length_replicate]; omega
theorem pkGo_zeros (m : Nat) : ∀ r n, r.length = (n + 7) / 8 → m ≤ padN n → pkGo r n (List.replicate m false) = r := by
  induction m with
  | zero => intro r n _ _; rfl
  | succ m ih =>
    intro r n h hm
    unfold padN at hm
    rw [List.replicate_succ, pkGo]
    have : put1 r n false = r := by unfold put1; rw [if_neg (by decide), if_neg (by omega)]
    rw [this, ih r (n + 1) (by omega) (by unfold padN; omega)]
theorem pk_align (l : List Bool) : pk (alignL l) = pk l := by
  unfold alignL; rw [pk_app, pkGo_zeros _ _ _ (pk_len l) (Nat.le_refl _)]

def bitsOf (v : Int) (n : Nat) : List Bool := (List.range n).map fun k => decide (v / 2 ^ k % 2 = 1)
theorem bitsOf_len (v : Int) (n : Nat) : (bitsOf v n).length = n := by simp [bitsOf]
theorem bitsOf_succ (v : Int) (n : Nat) : bitsOf v (n + 1) = bitsOf v n ++ [decide (v / 2 ^ n % 2 = 1)] := by
  unfold bitsOf; rw [List.range_succ, List.map_append]; rfl
theorem put1_first (r : List UInt8) (b : Bool) : put1 r (8 * r.length) b = r ++ [if b then orB 0 0 else 0] := by
  unfold put1
  rw [if_pos rfl]
  have e : 8 * r.length / 8 = r.length := by omega
  have e2 : 8 * r.length % 8 = 0 := by omega
  cases b
  · simp
  · simp [e, e2, List.set_append_right]
theorem put1_next (r : List UInt8) (x : UInt8) (i : Nat) (b : Bool) (h0 : 0 < i) (h8 : i < 8) : put1 (r ++ [x]) (8 * r.length + i) b = r ++ [if b then orB x i else x] := by
  unfold put1
  have e : (8 * r.length + i) / 8 = r.length := by omega
  have e2 : (8 * r.length + i) % 8 = i := by omega
  have hn : ¬ 8 * r.length + i = 8 * (r ++ [x]).length := by rw [List.length_append, List.length_cons, List.length_nil]; omega
  rw [if_neg hn]
  cases b
  · rfl
  · simp only [if_true, e, e2]
    simp [List.set_append_right]
def byte8 (b0 b1 b2 b3 b4 b5 b6 b7 : Bool) : UInt8 :=
  let x0 : UInt8 := if b0 then orB 0 0 else 0
  let x1 := if b1 then orB x0 1 else x0
  let x2 := if b2 then orB x1 2 else x1
  let x3 := if b3 then orB x2 3 else x2
  let x4 := if b4 then orB x3 4 else x3
  let x5 := if b5 then orB x4 5 else x4
  let x6 := if b6 then orB x5 6 else x5
  if b7 then orB x6 7 else x6
theorem pkGo_byte (r : List UInt8) (b0 b1 b2 b3 b4 b5 b6 b7 : Bool) : pkGo r (8 * r.length) [b0, b1, b2, b3, b4, b5, b6, b7] = r ++ [byte8 b0 b1 b2 b3 b4 b5 b6 b7] := by
  simp only [pkGo, put1_first]
  rw [show 8 * r.length + 1 + 1 + 1 + 1 + 1 + 1 = 8 * r.length + 6 from rfl, show 8 * r.length + 1 + 1 + 1 + 1 + 1 = 8 * r.length + 5 from rfl, show 8 * r.length + 1 + 1 + 1 + 1 = 8 * r.length + 4 from rfl,
    show 8 * r.length + 1 + 1 + 1 = 8 * r.length + 3 from rfl, show 8 * r.length + 1 + 1 = 8 * r.length + 2 from rfl, show 8 * r.length + 6 + 1 = 8 * r.length + 7 from rfl]
  simp only [put1_next _ _ _ _ (by decide : 0 < 1) (by decide), put1_next _ _ _ _ (by decide : 0 < 2) (by decide), put1_next _ _ _ _ (by decide : 0 < 3) (by decide), put1_next _ _ _ _ (by decide : 0 < 4) (by decide),
    put1_next _ _ _ _ (by decide : 0 < 5) (by decide), put1_next _ _ _ _ (by decide : 0 < 6) (by decide), put1_next _ _ _ _ (by decide : 0 < 7) (by decide)]
  rfl
theorem byte8_all : ∀ n : Fin 256, byte8 (decide ((n.val : Int) / 2 ^ 0 % 2 = 1)) (decide ((n.val : Int) / 2 ^ 1 % 2 = 1)) (decide ((n.val : Int) / 2 ^ 2 % 2 = 1)) (decide ((n.val : Int) / 2 ^ 3 % 2 = 1)) (decide ((n.val : Int) / 2 ^ 4 % 2 = 1))
    (decide ((n.val : Int) / 2 ^ 5 % 2 = 1)) (decide ((n.val : Int) / 2 ^ 6 % 2 = 1)) (decide ((n.val : Int) / 2 ^ 7 % 2 = 1)) = UInt8.ofNat n.val := by decide +kernel
theorem pk_byte (l : List Bool) (x : UInt8) (h : l.length % 8 = 0) : pk (l ++ bitsOf (x.toNat : Int) 8) = pk l ++ [x] := by
  have hl := pk_len l
  have e : l.length = 8 * (pk l).length := by omega
  rw [pk_app, e]
  show pkGo (pk l) _ [_, _, _, _, _, _, _, _] = _
  rw [pkGo_byte]
  have := byte8_all ⟨x.toNat, UInt8.toNat_lt x⟩
  simp only at this
  rw [this]
  simp
def rawL (b : List UInt8) : List Bool := b.flatMap fun x => bitsOf (x.toNat : Int) 8
theorem rawL_len (b : List UInt8) : (rawL b).length = 8 * b.length := by
  induction b with
  | nil => rfl
  | cons x b ih => unfold rawL at *; rw [List.flatMap_cons, List.length_append, ih, bitsOf_len, List.length_cons]; omega
theorem pk_raw (b : List UInt8) : ∀ l : List Bool, l.length % 8 = 0 → pk (l ++ rawL b) = pk l ++ b := by
  induction b with
  | nil => intro l _; simp [rawL]
  | cons x b ih =>
    intro l h
    unfold rawL at *
    rw [List.flatMap_cons, ← List.append_assoc, ih _ (by rw [List.length_append, bitsOf_len]; omega), pk_byte l x h, List.append_assoc]
    rfl
theorem rawL_snoc (b : List UInt8) (x : UInt8) : rawL (b ++ [x]) = rawL b ++ bitsOf (x.toNat : Int) 8 := by simp [rawL]

/-! Bits read again. -/
def bitN (bs : List UInt8) (i : Nat) : Nat := (bs.getD (i / 8) 0).toNat / 2 ^ (i % 8) % 2
def takeN (bs : List UInt8) (i : Nat) : Nat → Nat
  | 0 => 0
  | k + 1 => takeN bs i k + bitN bs (i + k) * 2 ^ k
theorem bitN_lt (bs : List UInt8) (i : Nat) : bitN bs i < 2 := Nat.mod_lt _ (by decide)
theorem takeN_lt (bs : List UInt8) (i : Nat) : ∀ k, takeN bs i k < 2 ^ k
  | 0 => Nat.zero_lt_one
  | k + 1 => by
    have h := takeN_lt bs i k
    have hb := bitN_lt bs (i + k)
    rw [takeN, Nat.pow_succ]
    rcases (by omega : bitN bs (i + k) = 0 ∨ bitN bs (i + k) = 1) with e | e <;> rw [e] <;> omega
theorem orB_bit : ∀ n : Fin 256, ∀ i : Fin 8, ∀ j : Fin 8, (orB (UInt8.ofNat n.val) i.val).toNat / 2 ^ j.val % 2 = if j = i then 1 else n.val / 2 ^ j.val % 2 := by decide +kernel
theorem orB_at (x : UInt8) (i j : Nat) (hi : i < 8) (hj : j < 8) : (orB x i).toNat / 2 ^ j % 2 = if j = i then 1 else x.toNat / 2 ^ j % 2 := by
  have := orB_bit ⟨x.toNat, UInt8.toNat_lt x⟩ ⟨i, hi⟩ ⟨j, hj⟩
  simp only [Fin.mk.injEq] at this
  simpa using this

theorem bitN_past (r : List UInt8) (i : Nat) (h : r.length ≤ i / 8) : bitN r i = 0 := by
  unfold bitN
  rw [List.getD_eq_getElem?_getD, List.getElem?_eq_none h]
  simp
theorem bitN_zero (r : List UInt8) (i : Nat) : bitN (r ++ [0]) i = bitN r i := by
  unfold bitN
  rcases Nat.lt_trichotomy (i / 8) r.length with h | h | h
  · rw [List.getD_eq_getElem?_getD, List.getD_eq_getElem?_getD, List.getElem?_append_left h]
  · rw [List.getD_eq_getElem?_getD, List.getD_eq_getElem?_getD, h, List.getElem?_append_right (Nat.le_refl _), List.getElem?_eq_none (Nat.le_refl _)]
    simp
  · rw [List.getD_eq_getElem?_getD, List.getD_eq_getElem?_getD, List.getElem?_eq_none (by rw [List.length_append, List.length_cons, List.length_nil]; omega), List.getElem?_eq_none (by omega)]
theorem bitN_or (r : List UInt8) (n i : Nat) (h : n / 8 < r.length) : bitN (r.set (n / 8) (orB (r.getD (n / 8) 0) (n % 8))) i = if i = n then 1 else bitN r i := by
  unfold bitN
  rw [List.getD_eq_getElem?_getD (l := r.set _ _)]
  by_cases e : i / 8 = n / 8
  · rw [e, List.getElem?_set_self h, Option.getD_some, orB_at _ _ _ (Nat.mod_lt _ (by decide)) (Nat.mod_lt _ (by decide))]
    by_cases e2 : i % 8 = n % 8
    · rw [if_pos e2, if_pos (by omega)]
    · rw [if_neg e2, if_neg (fun q => e2 (by rw [q]))]
  · rw [List.getElem?_set_ne (fun q => e q.symm), ← List.getD_eq_getElem?_getD, if_neg (fun q => e (by rw [q]))]
def Clear (r : List UInt8) (n : Nat) : Prop := ∀ i, n ≤ i → bitN r i = 0
theorem put1_bit (r : List UInt8) (n : Nat) (b : Bool) (h : r.length = (n + 7) / 8) (z : Clear r n) (i : Nat) : bitN (put1 r n b) i = if i = n then b.toNat else bitN r i := by
  have hr : ∀ j, bitN (if n = 8 * r.length then r ++ [0] else r) j = bitN r j := fun j => by split; exact bitN_zero r j; rfl
  unfold put1
  cases b
  · rw [if_neg (by decide), hr]
    split
    · rename_i e; rw [e, z n (Nat.le_refl _)]; rfl
    · rfl
  · rw [if_pos rfl, bitN_or _ _ _ (by split <;> (try rw [List.length_append, List.length_cons, List.length_nil]) <;> omega), hr]
    rfl
theorem put1_clear (r : List UInt8) (n : Nat) (b : Bool) (h : r.length = (n + 7) / 8) (z : Clear r n) : Clear (put1 r n b) (n + 1) := fun i hi => by
  rw [put1_bit r n b h z, if_neg (by omega)]; exact z i (by omega)
theorem pkGo_bit (m : List Bool) : ∀ r n, r.length = (n + 7) / 8 → Clear r n → ∀ i, bitN (pkGo r n m) i = if i < n then bitN r i else (m.getD (i - n) false).toNat := by
  induction m with
  | nil =>
    intro r n _ z i
    rw [pkGo]
    split
    · rfl
    · rw [z i (by omega)]; rfl
  | cons b m ih =>
    intro r n h z i
    rw [pkGo, ih _ _ (put1_len r n b h) (put1_clear r n b h z), put1_bit r n b h z]
    by_cases h1 : i < n
    · rw [if_pos (by omega), if_neg (by omega), if_pos h1]
    · rw [if_neg h1]
      by_cases h2 : i = n
      · subst h2; rw [if_pos (by omega), if_pos rfl, Nat.sub_self]; rfl
      · rw [if_neg (by omega), show i - n = (i - (n + 1)) + 1 by omega]; rfl
theorem pk_bit (l : List Bool) (i : Nat) : bitN (pk l) i = (l.getD i false).toNat := by
  have := pkGo_bit l [] 0 rfl (fun i _ => bitN_past [] i (Nat.zero_le _)) i
  rw [if_neg (by omega)] at this
  exact this
/-- Bits that are a number's are taken as that number. -/
theorem takeN_of (bs : List UInt8) (i : Nat) (v : Int) : ∀ k, (∀ j, j < k → (bitN bs (i + j) : Int) = v / 2 ^ j % 2) → (takeN bs i k : Int) = v % 2 ^ k
  | 0, _ => by simp [takeN, Int.emod_one]
  | k + 1, h => by
    have h1 := takeN_of bs i v k (fun j hj => h j (by omega))
    have h2 := h k (by omega)
    rw [takeN, mod_pow_succ, Int.natCast_add, Int.natCast_mul, Int.natCast_pow, h1, h2]
    show _ + v / 2 ^ k % 2 * (2 : Int) ^ k = _
    omega
theorem take_back (l m : List Bool) (v : Int) (k : Nat) (h0 : 0 ≤ v) (h1 : v < 2 ^ k) : (takeN (pk (l ++ bitsOf v k ++ m)) l.length k : Int) = v := by
  rw [takeN_of _ _ v k]
  · exact Int.emod_eq_of_lt h0 h1
  · intro j hj
    rw [pk_bit, List.getD_eq_getElem?_getD, List.getElem?_append_left (by rw [List.length_append, bitsOf_len]; omega), List.getElem?_append_right (by omega), Nat.add_sub_cancel_left]
    unfold bitsOf
    rw [List.getElem?_map, List.getElem?_range hj]
    simp only [Option.map_some, Option.getD_some]
    rcases (by omega : v / 2 ^ j % 2 = 0 ∨ v / 2 ^ j % 2 = 1) with e | e <;> rw [e] <;> rfl
/-- Bytes ahead are as they were. -/
theorem put1_ahead (r s : List UInt8) (n : Nat) (b : Bool) (h : s.length = (n + 7) / 8) : put1 (r ++ s) (8 * r.length + n) b = r ++ put1 s n b := by
  unfold put1
  have e1 : (8 * r.length + n) / 8 = r.length + n / 8 := by omega
  have e2 : (8 * r.length + n) % 8 = n % 8 := by omega
  have e3 : (if 8 * r.length + n = 8 * (r ++ s).length then (r ++ s) ++ [0] else r ++ s) = r ++ if n = 8 * s.length then s ++ [0] else s := by
    by_cases h : n = 8 * s.length
    · rw [if_pos h, if_pos (by rw [List.length_append]; omega), List.append_assoc]
    · rw [if_neg h, if_neg (by rw [List.length_append]; omega)]
  rw [e1, e2, e3]
  generalize (if n = 8 * s.length then s ++ [0] else s) = t
  cases b
  · rfl
  · rw [if_pos rfl, if_pos rfl, List.getD_eq_getElem?_getD, List.getD_eq_getElem?_getD, List.getElem?_append_right (Nat.le_add_right _ _), Nat.add_sub_cancel_left, List.set_append_right _ _ (Nat.le_add_right _ _), Nat.add_sub_cancel_left]
theorem pkGo_ahead (r : List UInt8) (m : List Bool) : ∀ s n, s.length = (n + 7) / 8 → pkGo (r ++ s) (8 * r.length + n) m = r ++ pkGo s n m := by
  induction m with
  | nil => intro s n _; rfl
  | cons b m ih => intro s n h; rw [pkGo, pkGo, put1_ahead r s n b h, Nat.add_assoc, ih _ _ (put1_len s n b h)]
theorem pk_whole (l m : List Bool) (h : l.length % 8 = 0) : pk (l ++ m) = pk l ++ pk m := by
  have hl := pk_len l
  have := pkGo_ahead (pk l) m [] 0 rfl
  rw [List.append_nil, Nat.add_zero, show 8 * (pk l).length = l.length by omega] at this
  rw [pk_app, this]
  rfl
theorem raw_back (l m : List Bool) (b : List UInt8) (h : l.length % 8 = 0) : ((pk (l ++ rawL b ++ m)).drop (l.length / 8)).take b.length = b := by
  have hl := pk_len l
  have hw : (l ++ rawL b).length % 8 = 0 := by rw [List.length_append, rawL_len]; omega
  rw [pk_whole (l ++ rawL b) m hw, pk_raw b l h, List.append_assoc, List.drop_append_of_le_length (by omega), List.drop_of_length_le (by omega), List.nil_append, List.take_append_of_le_length (Nat.le_refl _), List.take_length]

end Go.Proofs.YtdgfhbeofidbnaaDoor.Bit
