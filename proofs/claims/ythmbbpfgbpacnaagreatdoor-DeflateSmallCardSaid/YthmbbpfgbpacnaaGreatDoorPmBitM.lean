/- Plain facts on bits: numbers as rows of bits, bits in the other order, bytes that bits are packed into. Contracts of Reverse of package bits and of the document's answer for it. A writer of package bits that NewWriter made: what it holds, and a bit more. A writer of package bits gets a bit more, and a byte more for it. A writer of package bits that NewWriter made: numbers, whole bytes, what is there. -/
import Derived.Laws.BitsAllLaws
import Derived.Laws.Bits128
import Derived.Test.YthmbbpfgbpacnaaGreatDoorProg
import Derived.WalkKit
import Derived.WalkLawsBesides
import Derived.WalkSpells
import Derived.Lib.Hide
import Derived.Test.YthmbbpfgbpacnaaGreatDoorPmMem
namespace Go.Proofs.YthmbbpfgbpacnaaGreatDoor.Bit
def rev (n : Int) : Nat -> Int
 | 0 => 0
 | k + 1 => 2 * rev n k + n / 2 ^ k % 2
theorem two_pos (k : Nat) : (0 : Int) < 2 ^ k := Int.pow_pos (by decide)
theorem rev_bd (n : Int) : ∀ k, 0 <= rev n k /\ rev n k < 2 ^ k
 | 0 => ⟨Int.le_refl _, Int.zero_lt_one⟩
 | k + 1 => by
  have h := rev_bd n k
  rw [Int.pow_succ]
  unfold rev
  omega
theorem div_pow_succ (n : Int) (k : Nat) : n / 2 ^ (k + 1) = n / 2 / 2 ^ k := by
 rw [Int.ediv_ediv_of_nonneg (by decide), Int.pow_succ, Int.mul_comm]
theorem div_pow_two (n : Int) (k : Nat) : n / 2 ^ (k + 1) = n / 2 ^ k / 2 := by
 rw [Int.ediv_ediv_of_nonneg (Int.le_of_lt (two_pos k)), Int.pow_succ]
theorem mod_pow_succ (n : Int) (k : Nat) : n % 2 ^ (k + 1) = n / 2 ^ k % 2 * 2 ^ k + n % 2 ^ k := by
 have h1 := Int.mul_ediv_add_emod n (2 ^ k)
 have h2 := Int.mul_ediv_add_emod (n / 2 ^ k) 2
 have h3 := Int.mul_ediv_add_emod n (2 ^ (k + 1))
 rw [div_pow_two, Int.pow_succ] at h3
 have e : (2 : Int) ^ k * (n / 2 ^ k) = 2 ^ k * 2 * (n / 2 ^ k / 2) + n / 2 ^ k % 2 * 2 ^ k := by
  conv => lhs; rw [<- h2]
  rw [Int.mul_add, <- Int.mul_assoc, Int.mul_comm (n / 2 ^ k % 2)]
 rw [e] at h1
 rw [Int.pow_succ]
 omega
theorem ofInt_i64 (a : Nat) (ha : a < 18446744073709551616) : (BitVec.ofInt 64 (a : Int)).toNat = a := by
 rw [BitVec.ofInt_natCast, BitVec.toNat_ofNat]; exact Nat.mod_eq_of_lt (by omega)
theorem i64_mask (n : Int) (m : Nat) (h : m <= 62) : bits .and .i64 n (2 ^ m - 1) = n % 2 ^ m := by
 have hp : 2 ^ m <= 2 ^ 62 := Nat.pow_le_pow_right (by decide) h
 have h1 : 0 < 2 ^ m := Nat.pow_pos (by decide)
 have hc : ((2 : Int) ^ m - 1) = ((2 ^ m - 1 : Nat) : Int) := by
  rw [Int.natCast_sub h1, Int.natCast_pow]; rfl
 have hm : (BitVec.ofInt 64 ((2 : Int) ^ m - 1)).toNat = 2 ^ m - 1 := by rw [hc, ofInt_i64 _ (by omega)]
 have hd : ((2 ^ m : Nat) : Int) ∣ ((2 ^ 64 : Nat) : Int) := Int.natCast_dvd_natCast.2 (Nat.pow_dvd_pow 2 (by omega))
 show IntKind.i64.wrap ((BitVec.ofInt 64 n &&& BitVec.ofInt 64 (2 ^ m - 1)).toNat : Nat) = n % 2 ^ m
 rw [BitVec.toNat_and, hm, Nat.and_two_pow_sub_one_eq_mod, BitVec.toNat_ofInt]
 have e : (((n % ((2 ^ 64 : Nat) : Int)).toNat % 2 ^ m : Nat) : Int) = n % 2 ^ m := by
  rw [Int.natCast_emod, Int.toNat_of_nonneg (Int.emod_nonneg _ (by decide)), Int.emod_emod_of_dvd _ hd, Int.natCast_pow]; rfl
 rw [e, IntKind.wrap_i64]
 have b0 := Int.emod_nonneg n (Int.ne_of_gt (two_pos m))
 have b1 := Int.emod_lt_of_pos n (two_pos m)
 have b2 : (2 : Int) ^ m <= 4611686018427387904 := by
  have := Int.ofNat_le.2 hp
  rw [Int.natCast_pow] at this
  exact this
 omega
theorem i64_and1 (n : Int) : bits .and .i64 n 1 = n % 2 := i64_mask n 1 (by decide)
theorem i64_or_nat (a b : Nat) (ha : a < 4611686018427387904) (hb : b < 4611686018427387904) : bits .or .i64 (a : Int) (b : Int) = ((a ||| b : Nat) : Int) := by
 have hx : a ||| b < 2 ^ 62 := Nat.or_lt_two_pow (by omega) (by omega)
 show IntKind.i64.wrap ((BitVec.ofInt 64 (a : Int) ||| BitVec.ofInt 64 (b : Int)).toNat : Int) = _
 rw [BitVec.toNat_or, ofInt_i64 a (by omega), ofInt_i64 b (by omega), IntKind.wrap_i64]
 omega
theorem i64_or_up (a b k : Nat) (ha : a < 2 ^ k) (hs : 2 ^ k * b + a < 4611686018427387904) : bits .or .i64 (a : Int) ((b : Int) * 2 ^ k) = ((a + b * 2 ^ k : Nat) : Int) := by
 have e : ((b : Int) * 2 ^ k) = ((b * 2 ^ k : Nat) : Int) := by rw [Int.natCast_mul, Int.natCast_pow]; rfl
 have hb : b * 2 ^ k < 4611686018427387904 := by rw [Nat.mul_comm]; omega
 rw [e, i64_or_nat a (b * 2 ^ k) (by omega) hb, Nat.or_comm, Nat.mul_comm b, <- Nat.two_pow_add_eq_or_of_lt ha, Nat.add_comm]
theorem i64_or_low (a b : Int) (h0 : 0 <= a) (h1 : a < 1152921504606846976) (hb : b = 0 \/ b = 1) : bits .or .i64 (2 * a) b = 2 * a + b := by
 obtain ⟨A, rfl⟩ := Int.eq_ofNat_of_zero_le h0
 obtain ⟨B, rfl, hB⟩ : ∃ B : Nat, b = (B : Int) /\ B < 2 ^ 1 := by rcases hb with rfl | rfl <;> exact ⟨_, rfl, by decide⟩
 have := i64_or_nat (2 * A) B (by omega) (by omega)
 rw [show ((2 : Int) * (A : Int)) = ((2 * A : Nat) : Int) by omega, this]
 have h2 := Nat.two_pow_add_eq_or_of_lt hB A
 rw [show (2 * A ||| B) = 2 * A + B from h2.symm]
 omega
def orB (x : UInt8) (i : Nat) : UInt8 := x ||| UInt8.ofNat (2 ^ i)
def put1 (r : List UInt8) (n : Nat) (b : Bool) : List UInt8 :=
 if b then (if n = 8 * r.length then r ++ [0] else r).set (n / 8) (orB ((if n = 8 * r.length then r ++ [0] else r).getD (n / 8) 0) (n % 8)) else if n = 8 * r.length then r ++ [0] else r
def pkGo (r : List UInt8) (n : Nat) : List Bool -> List UInt8
 | [] => r
 | b :: l => pkGo (put1 r n b) (n + 1) l
def pk (l : List Bool) : List UInt8 := pkGo [] 0 l
theorem pkGo_app (l m : List Bool) : ∀ r n, pkGo r n (l ++ m) = pkGo (pkGo r n l) (n + l.length) m := by
 induction l with
 | nil => intro r n; rfl
 | cons b l ih => intro r n; rw [List.cons_append, pkGo, ih, pkGo, List.length_cons, Nat.add_right_comm, Nat.add_assoc]
theorem pk_app (l m : List Bool) : pk (l ++ m) = pkGo (pk l) l.length m := by unfold pk; rw [pkGo_app, Nat.zero_add]
theorem pk_snoc (l : List Bool) (b : Bool) : pk (l ++ [b]) = put1 (pk l) l.length b := by rw [pk_app]; rfl
theorem put1_len (r : List UInt8) (n : Nat) (b : Bool) (h : r.length = (n + 7) / 8) : (put1 r n b).length = (n + 1 + 7) / 8 := by
 unfold put1
 split <;> split <;> (try simp only [List.length_set, List.length_append, List.length_cons, List.length_nil]) <;> omega
theorem pkGo_len (l : List Bool) : ∀ r n, r.length = (n + 7) / 8 -> (pkGo r n l).length = (n + l.length + 7) / 8 := by
 induction l with
 | nil => intro r n h; exact h
 | cons b l ih => intro r n h; rw [pkGo, ih _ _ (put1_len r n b h), List.length_cons]; congr 1; omega
theorem pk_len (l : List Bool) : (pk l).length = (l.length + 7) / 8 := by
 have := pkGo_len l [] 0 rfl
 rw [Nat.zero_add] at this
 exact this
def padN (n : Nat) : Nat := (n + 7) / 8 * 8 - n
def bitsOf (v : Int) (n : Nat) : List Bool := (List.range n).map fun k => decide (v / 2 ^ k % 2 = 1)
theorem bitsOf_len (v : Int) (n : Nat) : (bitsOf v n).length = n := by simp [bitsOf]
theorem bitsOf_succ (v : Int) (n : Nat) : bitsOf v (n + 1) = bitsOf v n ++ [decide (v / 2 ^ n % 2 = 1)] := by
 unfold bitsOf; rw [List.range_succ, List.map_append]; rfl
theorem put1_first (r : List UInt8) (b : Bool) : put1 r (8 * r.length) b = r ++ [if b then orB 0 0 else 0] := by
 unfold put1
 rw [if_pos rfl]
 have e : 8 * r.length / 8 = r.length := by omega
 have e2 : 8 * r.length % 8 = 0 := by omega
 cases b
 ·simp
 ·simp [e, e2, List.set_append_right]
theorem put1_next (r : List UInt8) (x : UInt8) (i : Nat) (b : Bool) (h0 : 0 < i) (h8 : i < 8) : put1 (r ++ [x]) (8 * r.length + i) b = r ++ [if b then orB x i else x] := by
 unfold put1
 have e : (8 * r.length + i) / 8 = r.length := by omega
 have e2 : (8 * r.length + i) % 8 = i := by omega
 have hn : ¬ 8 * r.length + i = 8 * (r ++ [x]).length := by rw [List.length_append, List.length_cons, List.length_nil]; omega
 rw [if_neg hn]
 cases b
 ·rfl
 ·simp only [if_true, e, e2]
  simp [List.set_append_right]
def byte8 (b0 b1 b2 b3 b4 b5 b6 b7 : Bool) : UInt8 :=
 let x0 : UInt8 := if b0 then orB 0 0 else 0
 let x1 := if b1 then orB x0 1 else x0
 let x2 := if b2 then orB x1 2 else x1
 let x3 := if b3 then orB x2 3 else x2
 let x4 := if b4 then orB x3 4 else x3
 let x5 := if b5 then orB x4 5 else x4
 let x6 := if b6 then orB x5 6 else x5
 if b7 then orB x6 7 else x6
theorem pkGo_byte (r : List UInt8) (b0 b1 b2 b3 b4 b5 b6 b7 : Bool) : pkGo r (8 * r.length) [b0, b1, b2, b3, b4, b5, b6, b7] = r ++ [byte8 b0 b1 b2 b3 b4 b5 b6 b7] := by
 simp only [pkGo, put1_first]
 rw [show 8 * r.length + 1 + 1 + 1 + 1 + 1 + 1 = 8 * r.length + 6 from rfl, show 8 * r.length + 1 + 1 + 1 + 1 + 1 = 8 * r.length + 5 from rfl, show 8 * r.length + 1 + 1 + 1 + 1 = 8 * r.length + 4 from rfl,
  show 8 * r.length + 1 + 1 + 1 = 8 * r.length + 3 from rfl, show 8 * r.length + 1 + 1 = 8 * r.length + 2 from rfl, show 8 * r.length + 6 + 1 = 8 * r.length + 7 from rfl]
 simp only [put1_next _ _ _ _ (by decide : 0 < 1) (by decide), put1_next _ _ _ _ (by decide : 0 < 2) (by decide), put1_next _ _ _ _ (by decide : 0 < 3) (by decide), put1_next _ _ _ _ (by decide : 0 < 4) (by decide),
  put1_next _ _ _ _ (by decide : 0 < 5) (by decide), put1_next _ _ _ _ (by decide : 0 < 6) (by decide), put1_next _ _ _ _ (by decide : 0 < 7) (by decide)]
 rfl
theorem byte8_all : ∀ n : Fin 256, byte8 (decide ((n.val : Int) / 2 ^ 0 % 2 = 1)) (decide ((n.val : Int) / 2 ^ 1 % 2 = 1)) (decide ((n.val : Int) / 2 ^ 2 % 2 = 1)) (decide ((n.val : Int) / 2 ^ 3 % 2 = 1)) (decide ((n.val : Int) / 2 ^ 4 % 2 = 1))
  (decide ((n.val : Int) / 2 ^ 5 % 2 = 1)) (decide ((n.val : Int) / 2 ^ 6 % 2 = 1)) (decide ((n.val : Int) / 2 ^ 7 % 2 = 1)) = UInt8.ofNat n.val := by decide +kernel
theorem pk_byte (l : List Bool) (x : UInt8) (h : l.length % 8 = 0) : pk (l ++ bitsOf (x.toNat : Int) 8) = pk l ++ [x] := by
 have hl := pk_len l
 have e : l.length = 8 * (pk l).length := by omega
 rw [pk_app, e]
 show pkGo (pk l) _ [_, _, _, _, _, _, _, _] = _
 rw [pkGo_byte]
 have := byte8_all ⟨x.toNat, UInt8.toNat_lt x⟩
 simp only at this
 rw [this]
 simp
def rawL (b : List UInt8) : List Bool := b.flatMap fun x => bitsOf (x.toNat : Int) 8
theorem rawL_len (b : List UInt8) : (rawL b).length = 8 * b.length := by
 induction b with
 | nil => rfl
 | cons x b ih => unfold rawL at *; rw [List.flatMap_cons, List.length_append, ih, bitsOf_len, List.length_cons]; omega
theorem pk_raw (b : List UInt8) : ∀ l : List Bool, l.length % 8 = 0 -> pk (l ++ rawL b) = pk l ++ b := by
 induction b with
 | nil => intro l _; simp [rawL]
 | cons x b ih =>
  intro l h
  unfold rawL at *
  rw [List.flatMap_cons, <- List.append_assoc, ih _ (by rw [List.length_append, bitsOf_len]; omega), pk_byte l x h, List.append_assoc]
  rfl
def bitN (bs : List UInt8) (i : Nat) : Nat := (bs.getD (i / 8) 0).toNat / 2 ^ (i % 8) % 2
def takeN (bs : List UInt8) (i : Nat) : Nat -> Nat
 | 0 => 0
 | k + 1 => takeN bs i k + bitN bs (i + k) * 2 ^ k
theorem bitN_lt (bs : List UInt8) (i : Nat) : bitN bs i < 2 := Nat.mod_lt _ (by decide)
theorem takeN_lt (bs : List UInt8) (i : Nat) : ∀ k, takeN bs i k < 2 ^ k
 | 0 => Nat.zero_lt_one
 | k + 1 => by
  have h := takeN_lt bs i k
  have hb := bitN_lt bs (i + k)
  rw [takeN, Nat.pow_succ]
  rcases (by omega : bitN bs (i + k) = 0 \/ bitN bs (i + k) = 1) with e | e <;> rw [e] <;> omega
theorem orB_bit : ∀ n : Fin 256, ∀ i : Fin 8, ∀ j : Fin 8, (orB (UInt8.ofNat n.val) i.val).toNat / 2 ^ j.val % 2 = if j = i then 1 else n.val / 2 ^ j.val % 2 := by decide +kernel
theorem orB_at (x : UInt8) (i j : Nat) (hi : i < 8) (hj : j < 8) : (orB x i).toNat / 2 ^ j % 2 = if j = i then 1 else x.toNat / 2 ^ j % 2 := by
 have := orB_bit ⟨x.toNat, UInt8.toNat_lt x⟩ ⟨i, hi⟩ ⟨j, hj⟩
 simp only [Fin.mk.injEq] at this
 simpa using this
theorem bitN_past (r : List UInt8) (i : Nat) (h : r.length <= i / 8) : bitN r i = 0 := by
 unfold bitN
 rw [List.getD_eq_getElem?_getD, List.getElem?_eq_none h]
 simp
theorem bitN_zero (r : List UInt8) (i : Nat) : bitN (r ++ [0]) i = bitN r i := by
 unfold bitN
 rcases Nat.lt_trichotomy (i / 8) r.length with h | h | h
 ·rw [List.getD_eq_getElem?_getD, List.getD_eq_getElem?_getD, List.getElem?_append_left h]
 ·rw [List.getD_eq_getElem?_getD, List.getD_eq_getElem?_getD, h, List.getElem?_append_right (Nat.le_refl _), List.getElem?_eq_none (Nat.le_refl _)]
  simp
 ·rw [List.getD_eq_getElem?_getD, List.getD_eq_getElem?_getD, List.getElem?_eq_none (by rw [List.length_append, List.length_cons, List.length_nil]; omega), List.getElem?_eq_none (by omega)]
theorem bitN_or (r : List UInt8) (n i : Nat) (h : n / 8 < r.length) : bitN (r.set (n / 8) (orB (r.getD (n / 8) 0) (n % 8))) i = if i = n then 1 else bitN r i := by
 unfold bitN
 rw [List.getD_eq_getElem?_getD (l := r.set _ _)]
 by_cases e : i / 8 = n / 8
 ·rw [e, List.getElem?_set_self h, Option.getD_some, orB_at _ _ _ (Nat.mod_lt _ (by decide)) (Nat.mod_lt _ (by decide))]
  by_cases e2 : i % 8 = n % 8
  ·rw [if_pos e2, if_pos (by omega)]
  ·rw [if_neg e2, if_neg (fun q => e2 (by rw [q]))]
 ·rw [List.getElem?_set_ne (fun q => e q.symm), <- List.getD_eq_getElem?_getD, if_neg (fun q => e (by rw [q]))]
def Clear (r : List UInt8) (n : Nat) : Prop := ∀ i, n <= i -> bitN r i = 0
theorem put1_bit (r : List UInt8) (n : Nat) (b : Bool) (h : r.length = (n + 7) / 8) (z : Clear r n) (i : Nat) : bitN (put1 r n b) i = if i = n then b.toNat else bitN r i := by
 have hr : ∀ j, bitN (if n = 8 * r.length then r ++ [0] else r) j = bitN r j := fun j => by split; exact bitN_zero r j; rfl
 unfold put1
 cases b
 ·rw [if_neg (by decide), hr]
  split
  ·rename_i e; rw [e, z n (Nat.le_refl _)]; rfl
  ·rfl
 ·rw [if_pos rfl, bitN_or _ _ _ (by split <;> (try rw [List.length_append, List.length_cons, List.length_nil]) <;> omega), hr]
  rfl
theorem put1_clear (r : List UInt8) (n : Nat) (b : Bool) (h : r.length = (n + 7) / 8) (z : Clear r n) : Clear (put1 r n b) (n + 1) := fun i hi => by
 rw [put1_bit r n b h z, if_neg (by omega)]; exact z i (by omega)
theorem pkGo_bit (m : List Bool) : ∀ r n, r.length = (n + 7) / 8 -> Clear r n -> ∀ i, bitN (pkGo r n m) i = if i < n then bitN r i else (m.getD (i - n) false).toNat := by
 induction m with
 | nil =>
  intro r n _ z i
  rw [pkGo]
  split
  ·rfl
  ·rw [z i (by omega)]; rfl
 | cons b m ih =>
  intro r n h z i
  rw [pkGo, ih _ _ (put1_len r n b h) (put1_clear r n b h z), put1_bit r n b h z]
  by_cases h1 : i < n
  ·rw [if_pos (by omega), if_neg (by omega), if_pos h1]
  ·rw [if_neg h1]
   by_cases h2 : i = n
   ·subst h2; rw [if_pos (by omega), if_pos rfl, Nat.sub_self]; rfl
   ·rw [if_neg (by omega), show i - n = (i - (n + 1)) + 1 by omega]; rfl
theorem pk_bit (l : List Bool) (i : Nat) : bitN (pk l) i = (l.getD i false).toNat := by
 have := pkGo_bit l [] 0 rfl (fun i _ => bitN_past [] i (Nat.zero_le _)) i
 rw [if_neg (by omega)] at this
 exact this
theorem takeN_of (bs : List UInt8) (i : Nat) (v : Int) : ∀ k, (∀ j, j < k -> (bitN bs (i + j) : Int) = v / 2 ^ j % 2) -> (takeN bs i k : Int) = v % 2 ^ k
 | 0, _ => by simp [takeN, Int.emod_one]
 | k + 1, h => by
  have h1 := takeN_of bs i v k (fun j hj => h j (by omega))
  have h2 := h k (by omega)
  rw [takeN, mod_pow_succ, Int.natCast_add, Int.natCast_mul, Int.natCast_pow, h1, h2]
  show _ + v / 2 ^ k % 2 * (2 : Int) ^ k = _
  omega
theorem take_back (l m : List Bool) (v : Int) (k : Nat) (h0 : 0 <= v) (h1 : v < 2 ^ k) : (takeN (pk (l ++ bitsOf v k ++ m)) l.length k : Int) = v := by
 rw [takeN_of _ _ v k]
 ·exact Int.emod_eq_of_lt h0 h1
 ·intro j hj
  rw [pk_bit, List.getD_eq_getElem?_getD, List.getElem?_append_left (by rw [List.length_append, bitsOf_len]; omega), List.getElem?_append_right (by omega), Nat.add_sub_cancel_left]
  unfold bitsOf
  rw [List.getElem?_map, List.getElem?_range hj]
  simp only [Option.map_some, Option.getD_some]
  rcases (by omega : v / 2 ^ j % 2 = 0 \/ v / 2 ^ j % 2 = 1) with e | e <;> rw [e] <;> rfl
theorem put1_ahead (r s : List UInt8) (n : Nat) (b : Bool) (h : s.length = (n + 7) / 8) : put1 (r ++ s) (8 * r.length + n) b = r ++ put1 s n b := by
 unfold put1
 have e1 : (8 * r.length + n) / 8 = r.length + n / 8 := by omega
 have e2 : (8 * r.length + n) % 8 = n % 8 := by omega
 have e3 : (if 8 * r.length + n = 8 * (r ++ s).length then (r ++ s) ++ [0] else r ++ s) = r ++ if n = 8 * s.length then s ++ [0] else s := by
  by_cases h : n = 8 * s.length
  ·rw [if_pos h, if_pos (by rw [List.length_append]; omega), List.append_assoc]
  ·rw [if_neg h, if_neg (by rw [List.length_append]; omega)]
 rw [e1, e2, e3]
 generalize (if n = 8 * s.length then s ++ [0] else s) = t
 cases b
 ·rfl
 ·rw [if_pos rfl, if_pos rfl, List.getD_eq_getElem?_getD, List.getD_eq_getElem?_getD, List.getElem?_append_right (Nat.le_add_right _ _), Nat.add_sub_cancel_left, List.set_append_right _ _ (Nat.le_add_right _ _), Nat.add_sub_cancel_left]
theorem pkGo_ahead (r : List UInt8) (m : List Bool) : ∀ s n, s.length = (n + 7) / 8 -> pkGo (r ++ s) (8 * r.length + n) m = r ++ pkGo s n m := by
 induction m with
 | nil => intro s n _; rfl
 | cons b m ih => intro s n h; rw [pkGo, pkGo, put1_ahead r s n b h, Nat.add_assoc, ih _ _ (put1_len s n b h)]
theorem pk_whole (l m : List Bool) (h : l.length % 8 = 0) : pk (l ++ m) = pk l ++ pk m := by
 have hl := pk_len l
 have := pkGo_ahead (pk l) m [] 0 rfl
 rw [List.append_nil, Nat.add_zero, show 8 * (pk l).length = l.length by omega] at this
 rw [pk_app, this]
 rfl
theorem raw_back (l m : List Bool) (b : List UInt8) (h : l.length % 8 = 0) : ((pk (l ++ rawL b ++ m)).drop (l.length / 8)).take b.length = b := by
 have hl := pk_len l
 have hw : (l ++ rawL b).length % 8 = 0 := by rw [List.length_append, rawL_len]; omega
 rw [pk_whole (l ++ rawL b) m hw, pk_raw b l h, List.append_assoc, List.drop_append_of_le_length (by omega), List.drop_of_length_le (by omega), List.nil_append, List.take_append_of_le_length (Nat.le_refl _), List.take_length]
end Go.Proofs.YthmbbpfgbpacnaaGreatDoor.Bit
namespace Go.Proofs.YthmbbpfgbpacnaaGreatDoor.Bit
open Go.RowKit
theorem ret_int {k : IntKind} {a b : Int} (h : a = b) : Ending.returned (.int k a) = .returned (.int k b) := by rw [h]
def clampN (k : Int) : Nat := (max 0 (min k 32)).toNat
theorem clamp_cases (x : Int) : (x <= 0 /\ clampN x = 0) \/ (∃ m : Nat, 0 < m /\ m <= 32 /\ x = m /\ clampN x = m) \/ (32 < x /\ clampN x = 32) := by
 unfold clampN
 rcases (by omega : x <= 0 \/ (0 < x /\ x <= 32) \/ 32 < x) with h | h | h
 ·exact .inl ⟨h, by omega⟩
 ·exact .inr (.inl ⟨x.toNat, by omega, by omega, by omega, by omega⟩)
 ·exact .inr (.inr ⟨h, by omega⟩)
theorem rev_lt (n : Int) (k : Nat) (h : k < 32) : 0 <= rev n k /\ rev n k < 4294967296 := by
 have hb := rev_bd n k
 have hp : (2 : Int) ^ k <= 2 ^ 32 := by
  have := Int.ofNat_le.2 (Nat.pow_le_pow_right (n := 2) (by decide) (Nat.le_of_lt h))
  rw [Int.natCast_pow, Int.natCast_pow] at this
  exact this
 have e : (2 : Int) ^ 32 = 4294967296 := by decide
 omega
theorem rev_or (n : Int) (k : Nat) (h : k < 32) : bits BinOp.or IntKind.i64 (rev n k * 2) (n / 2 ^ k % 2) = rev n (k + 1) := by
 have hb := rev_lt n k h
 rw [Int.mul_comm]
 exact i64_or_low _ _ hb.1 (by omega) (by omega)
set_option maxHeartbeats 1000000 in
theorem rev_any (n x : Int) (w : World) : Calls Tryz.prog 136 #[.int .i64 n, .int .i64 x] w fun e w' => e = .returned (.int .i64 (rev n (clampN x))) /\ w = w' := by
 have ha := fun y : Int => i64_and1 y
 rcases clamp_cases x with ⟨h, hc⟩ | ⟨m, h0, h1, rfl, hc⟩ | ⟨h, hc⟩
 ·rw [hc]
  clear hc
  go_enter Tryz.func136, Tryz.ntmps136
  go_wp2
  go_loop [0, 5, 9] (fun v t i => ∃ k : Nat, k <= 0 /\ i = .int .i64 k /\ v = .int .i64 (n / 2 ^ k) /\ t = .int .i64 (rev n k)) (fun _ _ i => 0 - (intOf i).toNat)
  case atStart => exact ⟨0, Nat.zero_le _, rfl, by simp, rfl⟩
  case round =>
   obtain ⟨k, hk, rfl, rfl, rfl⟩ := hrel
   by_cases hlt : k < 0
   ·exact absurd hlt (by omega)
   ·obtain rfl : k = 0 := by omega
    go_wp2
    go_ret
    exact ⟨rfl, rfl⟩
 ·rw [hc]
  clear hc
  go_enter Tryz.func136, Tryz.ntmps136
  go_wp2
  go_loop [0, 5, 9] (fun v t i => ∃ k : Nat, k <= m /\ i = .int .i64 k /\ v = .int .i64 (n / 2 ^ k) /\ t = .int .i64 (rev n k)) (fun _ _ i => m - (intOf i).toNat)
  case atStart => exact ⟨0, Nat.zero_le _, rfl, by simp, rfl⟩
  case round =>
   obtain ⟨k, hk, rfl, rfl, rfl⟩ := hrel
   by_cases hlt : k < m
   ·have hor := rev_or n k (by omega)
    obtain ⟨hb0, hb1⟩ := rev_lt n k (by omega)
    have hdv := (div_pow_two n k).symm
    go_wp2
    go_round
    case rel => exact ⟨k + 1, by omega, by go_num, rfl, rfl⟩
    case measure => simp [intOf]; omega
   ·obtain rfl : k = m := by omega
    go_wp2
    go_ret
    exact ⟨rfl, rfl⟩
 ·rw [hc]
  clear hc
  go_enter Tryz.func136, Tryz.ntmps136
  go_wp2
  go_loop [0, 5, 9] (fun v t i => ∃ k : Nat, k <= 32 /\ i = .int .i64 k /\ v = .int .i64 (n / 2 ^ k) /\ t = .int .i64 (rev n k)) (fun _ _ i => 32 - (intOf i).toNat)
  case atStart => exact ⟨0, Nat.zero_le _, rfl, by simp, rfl⟩
  case round =>
   obtain ⟨k, hk, rfl, rfl, rfl⟩ := hrel
   by_cases hlt : k < 32
   ·have hor := rev_or n k (by omega)
    obtain ⟨hb0, hb1⟩ := rev_lt n k (by omega)
    have hdv := (div_pow_two n k).symm
    go_wp2
    go_round
    case rel => exact ⟨k + 1, by omega, by go_num, rfl, rfl⟩
    case measure => simp [intOf]; omega
   ·obtain rfl : k = 32 := by omega
    go_wp2
    go_ret
    exact ⟨rfl, rfl⟩
end Go.Proofs.YthmbbpfgbpacnaaGreatDoor.Bit
namespace Go.Proofs.YthmbbpfgbpacnaaGreatDoor.Bit
open Go.RowKit Go.Shelf Mem
def Masks (W : World) (B : Nat) : Prop := 0 < B /\ ∀ i : Nat, i < 8 -> W.cell? ⟨0, i, none⟩ = some (.int .u8 (2 ^ i))
theorem Masks.only {S : Nat -> Prop} {W W' : World} {B : Nat} (h : Masks W B) (o : Only S W W') (hs : ∀ k, S k -> B <= k) : Masks W' B :=
 ⟨h.1, fun i hi => o.cell (h.2 i hi) (fun q => Nat.not_le.2 h.1 (hs _ q))⟩
theorem Masks.drew {W W' : World} {B : Nat} (h : Masks W B) (d : Drew W W') : Masks W' B := h.only (S := fun _ => False) d.only (fun _ q => q.elim)
theorem Masks.below {W W' : World} {B : Nat} (h : Masks W B) (o : Below B W W') : Masks W' B :=
 ⟨h.1, fun i hi => (o.cell (p := ⟨0, i, none⟩) h.1).trans (h.2 i hi)⟩
def WB (W : World) (B b g : Nat) (l : List Bool) : Prop :=
 ∃ v, W.heap[b]? = some (.cells #[.pointer (some ⟨b, 0, none⟩), v, .int .i64 l.length] 92 (0, 0)) /\ W.ownsRow B 5 1 v (pk l).length (bVs (pk l)) /\ (v.ownBlock = none /\ g = b \/ v.ownBlock = some g /\ g ≠ b) /\ B <= b
section
variable {W W' : World} {B b g : Nat} {l : List Bool}
theorem WB.lt (h : WB W B b g l) : b < W.heap.size := by obtain ⟨v, hc, _⟩ := h; exact (Array.getElem?_eq_some_iff.1 hc).1
theorem WB.ltg (h : WB W B b g l) : g < W.heap.size := by
 obtain ⟨v, hc, ho, ⟨_, rfl⟩ | ⟨hk, _⟩, _⟩ := h
 ·exact (Array.getElem?_eq_some_iff.1 hc).1
 ·exact (ho.lt g hk).2
theorem WB.leg (h : WB W B b g l) : B <= g := by
 obtain ⟨v, hc, ho, ⟨_, rfl⟩ | ⟨hk, _⟩, hb⟩ := h
 ·exact hb
 ·exact (ho.lt g hk).1
theorem WB.leb (h : WB W B b g l) : B <= b := by obtain ⟨v, hc, ho, _, hb⟩ := h; exact hb
theorem WB.same (h : WB W B b g l) (hc : W'.heap[b]? = W.heap[b]?) (hk : W'.heap[g]? = W.heap[g]?) : WB W' B b g l := by
 obtain ⟨v, q, ho, hv, hB⟩ := h
 refine ⟨v, hc.trans q, own_same ho fun k e => ?_, hv, hB⟩
 rcases hv with ⟨hn, _⟩ | ⟨hs, _⟩
 ·rw [e] at hn; cases hn
 ·rw [e] at hs
  obtain rfl : k = g := by simpa using hs
  exact hk
theorem WB.below (h : WB W B b g l) (hb : Below W.heap.size W W') : WB W' B b g l := h.same (hb.block b h.lt) (hb.block g h.ltg)
theorem WB.drew (h : WB W B b g l) (d : Drew W W') : WB W' B b g l := h.same (by rw [d.heap]) (by rw [d.heap])
theorem WB.only {S : Nat -> Prop} (h : WB W B b g l) (o : Only S W W') (hb : ¬ S b) (hg : ¬ S g) : WB W' B b g l := h.same (o.block b h.lt hb) (o.block g h.ltg hg)
end
def WStep (W W' : World) (B b g : Nat) (l' : List Bool) : Prop := ∃ g', WB W' B b g' l' /\ (g' = g \/ W.heap.size <= g') /\ Only (fun k => k = b \/ k = g) W W'
theorem WStep.trans {U V W : World} {B b g g' : Nat} {l m : List Bool} (h1 : WB V B b g' l) (h2 : g' = g \/ U.heap.size <= g') (h3 : Only (fun k => k = b \/ k = g) U V) (h : WStep V W B b g' m) : WStep U W B b g m := by
 obtain ⟨g2, q1, q2, q3⟩ := h
 refine ⟨g2, q1, ?_, h3.trans q3 ?_⟩
 ·rcases q2 with rfl | q2
  ·exact h2
  ·exact .inr (Nat.le_trans h3.size q2)
 ·rintro i (rfl | rfl)
  ·exact .inl (.inl rfl)
  ·rcases h2 with rfl | h2
   ·exact .inl (.inr rfl)
   ·exact .inr h2
set_option maxHeartbeats 400000 in
theorem made_yes (W : World) (B b g : Nat) (l : List Bool) (h : WB W B b g l) : Calls Tryz.prog 41 #[.pointer (some ⟨b, 0, none⟩)] W fun e w' => e = .returned (.bool true) /\ W = w' := by
 obtain ⟨v, hc, -⟩ := h
 have c0 : W.cell? ⟨b, 0, none⟩ = some (.pointer (some ⟨b, 0, none⟩)) := by rw [Lib.cell_of_heap hc]; rfl
 have hn : ∀ w, (binOp .neq 56 (.pointer (some ⟨b, 0, none⟩)) (.pointer none)).run Tryz.prog w = .ok (.bool true) w := fun _ => by kernel_rfl
 obtain ⟨j, hte⟩ : ∃ j, Tryz.prog.info? 92 = some j := Option.isSome_iff_exists.1 (by kernel_rfl)
 have he : ∀ w, (binOp .eql 56 (.pointer (some ⟨b, 0, none⟩)) (.pointer (some ⟨b, 0, none⟩))).run Tryz.prog w = .ok (.bool true) w := fun w => run_eql_ptr_same (w := w) _ Tryz.underlying56 hte
 clear hc
 go_enter Tryz.func41, Tryz.ntmps41
 go_wp2
 go_ret
 exact ⟨rfl, rfl⟩
set_option maxHeartbeats 400000 in
theorem newWriter_any (W : World) (B : Nat) (hB : B <= W.heap.size) : Calls Tryz.prog 25 #[] W fun e w' => e = .returned (.pointer (some ⟨W.heap.size, 0, none⟩)) /\ WB w' B W.heap.size W.heap.size [] /\ Below W.heap.size W w' := by
 go_enter Tryz.func25, Tryz.ntmps25
 go_wp2
 go_ret
 refine ⟨rfl, ⟨.slice none 0 0, ?_, World.ownsRow_nil _ _ _ _, .inl ⟨rfl, rfl⟩, hB⟩, ?_⟩
 ·exact heap_alloc_new _ _
 ·exact (Below.refl _ _).alloc (Nat.le_refl _) _
theorem or_byte (x : UInt8) (i : Nat) (h : i < 8) : bits BinOp.or IntKind.u8 (x.toNat : Int) (2 ^ i) = ((orB x i).toNat : Int) := by
 have hp : 2 ^ i < 256 := Nat.lt_of_lt_of_le (Nat.pow_lt_pow_right (by decide) h) (by decide)
 have e : ((2 : Int) ^ i) = ((2 ^ i : Nat) : Int) := by rw [Int.natCast_pow]; rfl
 rw [e, u8_or_nat _ _ (UInt8.toNat_lt x) hp]
 unfold orB
 rw [UInt8.toNat_or, UInt8.toNat_ofNat', Nat.mod_eq_of_lt hp]
theorem bit_end {W V : World} {B b g g0 cap : Nat} {l : List Bool} {r : List UInt8} {x : Bool} (hc : V.heap[b]? = some (.cells #[.pointer (some ⟨b, 0, none⟩), .slice (some ⟨g, 0, none⟩) r.length cap, .int .i64 l.length] 92 (0, 0)))
  (ho : V.ownsRow B 5 1 (.slice (some ⟨g, 0, none⟩) r.length cap) r.length (bVs r)) (hB : B <= b) (hgb : g ≠ b) (hr : pk (l ++ [x]) = if x then r.set (l.length / 8) (orB (r.getD (l.length / 8) 0) (l.length % 8)) else r)
  (hg : g = g0 \/ W.heap.size <= g) (hW : Only (fun k => k = b \/ k = g0) W V) :
  WStep W ((if x then V.setCell ⟨g, l.length / 8, none⟩ (.int .u8 ((orB (r.getD (l.length / 8) 0) (l.length % 8)).toNat : Int)) else V).setCell ⟨b, 2, none⟩ (.int .i64 ((l.length : Int) + 1))) B b g0 (l ++ [x]) := by
 have hlen : (pk (l ++ [x])).length = r.length := by rw [hr]; split <;> simp
 have e1 : ((l ++ [x]).length : Int) = (l.length : Int) + 1 := by simp
 refine ⟨g, ?_, hg, ?_⟩
 ·unfold WB
  rw [hlen, e1]
  refine ⟨.slice (some ⟨g, 0, none⟩) r.length cap, ?_, ?_, .inr ⟨rfl, hgb⟩, hB⟩
  ·refine (Lib.heap_setCell_same (i := 2) (cs := #[.pointer (some ⟨b, 0, none⟩), .slice (some ⟨g, 0, none⟩) r.length cap, .int .i64 l.length]) (T := 92) (fr := (0, 0)) ?_ _).trans rfl
   cases x
   ·exact hc
   ·exact (Below.heap_setCell _ _ _ _ (fun e => hgb e.symm)).trans hc
  ·refine own_same (W := if x then V.setCell ⟨g, l.length / 8, none⟩ (.int .u8 ((orB (r.getD (l.length / 8) 0) (l.length % 8)).toNat : Int)) else V) ?_ (fun k hk => ?_)
   ·rw [hr]
    cases x
    ·exact ho
    ·exact own_set ho _ _
   ·obtain rfl : g = k := by simpa [Value.ownBlock] using hk
    exact Below.heap_setCell _ _ _ _ hgb
 ·refine (hW.trans (S' := fun k => k = b \/ k = g) ?_ (fun i q => ?_)).trans (S' := fun k => k = b) (Only.setCell (S := fun k => k = b) rfl _ _) (fun i q => .inl (.inl q))
  ·cases x
   ·exact Only.refl _ _
   ·exact Only.setCell (.inr rfl) _ _
  ·rcases q with rfl | rfl
   ·exact .inl (.inl rfl)
   ·exact hg.imp .inr id
set_option maxRecDepth 100000 in
set_option maxHeartbeats 2000000 in
theorem putBit_room (W : World) (B b g : Nat) (l : List Bool) (x : Bool) (h : WB W B b g l) (hm : Masks W B) (hl : l.length < 8388608) (hr : l.length ≠ 8 * (pk l).length) :
  Calls Tryz.prog 67 #[.pointer (some ⟨b, 0, none⟩), .int .i64 x.toNat] W fun e w' => e = .returned (.tuple #[]) /\ WStep W w' B b g (l ++ [x]) := by
 have hpl := pk_len l
 obtain ⟨v, hc, ho, hv, hB⟩ := h
 obtain ⟨ao, cap, rfl, hcap, hcm, hnone⟩ := own_shape ho
 cases ao with
 | none => have := (hnone rfl).1; omega
 | some a =>
  obtain ⟨g', rfl, hg1, hg2⟩ := own_block ho
  obtain rfl : g = g' := by
   rcases hv with ⟨hv, _⟩ | ⟨hv, _⟩
   ·cases hv
   ·simpa [Value.ownBlock] using hv.symm
  have hgb : g ≠ b := by
   rcases hv with ⟨hv, _⟩ | ⟨_, hv⟩
   ·cases hv
   ·exact hv
  have c1 : W.cell? ⟨b, 1, none⟩ = some (.slice (some ⟨g, 0, none⟩) (pk l).length cap) := by rw [Lib.cell_of_heap hc]; rfl
  have c2 : W.cell? ⟨b, 2, none⟩ = some (.int .i64 l.length) := by rw [Lib.cell_of_heap hc]; rfl
  have f2 := Lib.frozen_of_heap hc 2
  have mixed : Tryz.prog.follows .mixedOrders = true := by kernel_rfl
  have hne : ((l.length : Int) == 8 * ((pk l).length : Int)) = false := by
   rw [beq_eq_false_iff_ne]; omega
  have hlt : l.length / 8 < (pk l).length := by omega
  have HE : ∀ W', Drew W W' -> WStep W _ B b g (l ++ [x]) := fun W' d => bit_end ((by rw [d.heap] : W'.heap[b]? = W.heap[b]?).trans hc) (own_drew ho d) hB hgb (by rw [pk_snoc]; unfold put1; rw [if_neg hr]) (.inl rfl) d.only
  have hor := or_byte ((pk l)[l.length / 8]) (l.length % 8) (Nat.mod_lt _ (by decide))
  have hmk := hm.2 (l.length % 8) (Nat.mod_lt _ (by decide))
  have hrc := src_cell (Src.of_own ho rfl) (l.length / 8) hlt
  rw [Lib.addr_add, Nat.zero_add] at hrc
  have hrf := ho.frozenAt (l.length / 8)
  have hgd : (pk l).getD (l.length / 8) 0 = (pk l)[l.length / 8] := by rw [List.getD_eq_getElem?_getD, List.getElem?_eq_getElem hlt]; rfl
  rw [hgd] at HE
  generalize (pk l)[l.length / 8] = old at *
  have HEn := Lib.hid HE
  have hn8 : ((pk l).length : Int) <= 1048577 := by omega
  have hi8 : (l.length : Int) / 8 < ((pk l).length : Int) := by omega
  generalize (pk l).length = m at *
  generalize l.length = n at *
  have HN : Hid (m = (n + 7) / 8) := Lib.hid hpl
  clear hc ho hm hv HE hgd hpl hnone hr hlt
  cases x with
  | false =>
   go_enter Tryz.func67, Tryz.ntmps67
   go_wp2
   go_quiet (fail)
   go_wp2
   go_end0
   exact ⟨rfl, HEn.out _ ⟨rfl, rfl, rfl, rfl⟩⟩
  | true =>
   go_enter Tryz.func67, Tryz.ntmps67
   go_wp2
   go_quiet (fail)
   go_wp2
   go_region
   all_goals
    go_wp2
    go_end0
    refine ⟨rfl, ?_⟩
    exact HEn.out _ ⟨rfl, rfl, rfl, rfl⟩
end Go.Proofs.YthmbbpfgbpacnaaGreatDoor.Bit
namespace Go.Proofs.YthmbbpfgbpacnaaGreatDoor.Bit
open Go.RowKit Go.Shelf Mem
set_option maxRecDepth 100000 in
set_option maxHeartbeats 2000000 in
theorem putBit_full (W : World) (B b g : Nat) (l : List Bool) (x : Bool) (h : WB W B b g l) (hm : Masks W B) (hl : l.length < 8388608) (hr : l.length = 8 * (pk l).length) :
  Calls Tryz.prog 67 #[.pointer (some ⟨b, 0, none⟩), .int .i64 x.toNat] W fun e w' => e = .returned (.tuple #[]) /\ WStep W w' B b g (l ++ [x]) := by
 have hbl := h.leb
 have hbW := h.lt
 have hgl := h.leg
 obtain ⟨v, hc, ho, hv, hB⟩ := h
 obtain ⟨ao, cap, rfl, hcap, hcm, hnone⟩ := own_shape ho
 have c1 : W.cell? ⟨b, 1, none⟩ = some (.slice ao (pk l).length cap) := by rw [Lib.cell_of_heap hc]; rfl
 have c2 : W.cell? ⟨b, 2, none⟩ = some (.int .i64 l.length) := by rw [Lib.cell_of_heap hc]; rfl
 have mixed : Tryz.prog.follows .mixedOrders = true := by kernel_rfl
 have heq : ((l.length : Int) == 8 * ((pk l).length : Int)) = true := by
  rw [beq_iff_eq]; omega
 have HC := Lib.hid hc
 have HO := Lib.hid ho
 have HM := Lib.hid hm
 have HV := Lib.hid hv
 have HR := Lib.hid hr
 have hn8 : ((pk l).length : Int) <= 1048577 := by omega
 clear hc ho hm hv hnone hr
 go_enter Tryz.func67, Tryz.ntmps67
 go_wp2
 go_quiet (fail)
 generalize hW0 : W.drewN _ = W0
 have hd : Drew W W0 := by rw [<- hW0]; exact ⟨rfl, rfl, rfl, rfl⟩
 have hs0 : W0.heap.size = W.heap.size := by rw [hd.heap]
 have c10 : W0.cell? ⟨b, 1, none⟩ = some (.slice ao (pk l).length cap) := hd.cell.trans c1
 have c20 : W0.cell? ⟨b, 2, none⟩ = some (.int .i64 l.length) := hd.cell.trans c2
 -- the new byte
 have hA := (Below.refl W0.heap.size W0).alloc (Nat.le_refl _) (.cells #[.int .u8 0] 5)
 have hsrc : Src (W0.alloc (.cells #[.int .u8 0] 5)) (.slice (some ⟨W0.heap.size, 0, none⟩) 1 1) [0] := .inr ⟨⟨W0.heap.size, 0, none⟩, 1, rfl, fun j v hj => by
  rw [Lib.addr_add, cell_of_row _ _ _ _ _ (0, 0) (heap_alloc_new _ _)]
  rcases j with _ | j
  ·simpa [bVs, bV] using hj
  ·simp [bVs] at hj⟩
 have hoA : (W0.alloc (.cells #[.int .u8 0] 5)).ownsRow B 5 1 (.slice ao (pk l).length cap) (pk l).length (bVs (pk l)) := own_below (own_drew HO.out hd) hA
 obtain ⟨v1, W1, hr1, ho1, hg1, hn1⟩ := app_any (W0.alloc (.cells #[.int .u8 0] 5)) B _ _ 22 (pk l) [0] hoA (Nat.le_trans (Nat.le_trans hbl (Nat.le_of_lt hbW)) (by rw [<- hs0]; exact hA.size)) hsrc (by simp; omega)
 have hS1 : Only (fun k => k = b \/ k = g) W W1 := (hd.only.trans (S' := fun k => k = b \/ k = g) (Only.of_below hA) (fun i q => .inl q)).trans (S' := fun k => k = g /\ k ≠ b) (only_grown hg1 (fun k hk => by
  rcases HV.out with ⟨hv, rfl⟩ | ⟨hv, hne⟩
  ·rw [hv] at hk; cases hk
  ·rw [hv] at hk; cases hk; exact ⟨rfl, hne⟩)) (fun i q => .inl (.inr q.1))
 have hbk : (Value.slice ao (pk l).length cap).ownBlock ≠ some b := by
  rcases HV.out with ⟨hv, rfl⟩ | ⟨hv, hne⟩
  ·rw [hv]; exact fun e => by cases e
  ·rw [hv]; exact fun e => hne (by simpa using e)
 have hcb : W1.heap[b]? = some (.cells #[.pointer (some ⟨b, 0, none⟩), .slice ao (pk l).length cap, .int .i64 l.length] 92 (0, 0)) :=
  (hg1.block b (Nat.lt_of_lt_of_le hbW (by rw [<- hs0]; exact hA.size)) (fun e => hbk e.symm)).trans ((hA.block b (by rw [hs0]; exact hbW)).trans ((by rw [hd.heap] : W0.heap[b]? = W.heap[b]?).trans HC.out))
 have f1 := Lib.frozen_of_heap hcb 1
 have f2 := Lib.frozen_of_heap hcb 2
 have d2 : W1.cell? ⟨b, 2, none⟩ = some (.int .i64 l.length) := by rw [Lib.cell_of_heap hcb]; rfl
 have d1 : W1.cell? ⟨b, 1, none⟩ = some (.slice ao (pk l).length cap) := by rw [Lib.cell_of_heap hcb]; rfl
 obtain ⟨ao1, cap1, rfl, hcap1, hcm1, hnone1⟩ := own_shape ho1
 rw [List.length_append, List.length_singleton] at hcap1
 cases ao1 with
 | none =>
  have h0 := (hnone1 rfl).1
  rw [List.length_append, List.length_singleton] at h0
  omega
 | some a1 =>
  obtain ⟨g1, rfl, hgB1, hgl1⟩ := own_block ho1
  have hg1b : g1 ≠ b := by
   rcases hn1 with q | q
   ·intro e; subst e; exact hbk (q.symm.trans rfl)
   ·have := q g1 rfl
    have := hA.size
    omega
  have hgg : g1 = g \/ W.heap.size <= g1 := by
   rcases hn1 with q | q
   ·rcases HV.out with ⟨hv, _⟩ | ⟨hv, _⟩
    ·rw [hv] at q; cases q
    ·rw [hv] at q; exact .inl (by simpa [Value.ownBlock] using q)
   ·have := q g1 rfl
    have := hA.size
    exact .inr (by omega)
  obtain ⟨V, hV⟩ : ∃ V, V = W1.setCell ⟨b, 1, none⟩ (.slice (some ⟨g1, 0, none⟩) (pk l ++ [0]).length cap1) := ⟨_, rfl⟩
  have hVc : V.heap[b]? = some (.cells #[.pointer (some ⟨b, 0, none⟩), .slice (some ⟨g1, 0, none⟩) (pk l ++ [0]).length cap1, .int .i64 l.length] 92 (0, 0)) := by
   rw [hV]; exact (Lib.heap_setCell_same (i := 1) hcb _).trans rfl
  have hVo : V.ownsRow B 5 1 (.slice (some ⟨g1, 0, none⟩) (pk l ++ [0]).length cap1) (pk l ++ [0]).length (bVs (pk l ++ [0])) := by
   rw [hV]
   exact own_same ho1 (fun k hk => by
    obtain rfl : g1 = k := by simpa [Value.ownBlock] using hk
    exact Below.heap_setCell _ _ _ _ hg1b)
  have hVS : Only (fun k => k = b \/ k = g) W V := by rw [hV]; exact hS1.trans (S' := fun k => k = b) (Only.setCell (S := fun k => k = b) rfl _ _) (fun i q => .inl (.inl q))
  have HE : ∀ V', Drew V V' -> WStep W _ B b g (l ++ [x]) := fun V' d => bit_end ((by rw [d.heap] : V'.heap[b]? = V.heap[b]?).trans hVc) (own_drew hVo d) hB hg1b (by rw [pk_snoc]; unfold put1; rw [if_pos HR.out]) hgg (hVS.trans (S' := fun _ => False) d.only (fun i q => q.elim))
  have e8 : l.length / 8 = (pk l).length := by have := HR.out; omega
  have e9 : l.length % 8 = 0 := by have := HR.out; omega
  have hgd : (pk l ++ [0]).getD (l.length / 8) 0 = 0 := by rw [e8, List.getD_eq_getElem?_getD, List.getElem?_append_right (Nat.le_refl _), Nat.sub_self]; rfl
  rw [hgd, e9] at HE
  have hln : (pk l ++ [0]).length = (pk l).length + 1 := by rw [List.length_append, List.length_singleton]
  have hcell0 : V.cell? ⟨g1, (pk l).length, none⟩ = some (.int .u8 0) := by
   have := src_cell (Src.of_own hVo rfl) (pk l).length (by rw [hln]; omega)
   rw [Lib.addr_add, Nat.zero_add] at this
   simpa using this
  have hfr0 := hVo.frozenAt (pk l).length
  have hmk : V.cell? ⟨0, 0, none⟩ = some (.int .u8 1) := (hVS.cell (HM.out.2 0 (by decide)) (fun q => by
   have := HM.out.1
   rcases q with q | q
   ·simp at q; omega
   ·simp at q; omega)).trans (by simp)
  have e1 : V.cell? ⟨b, 1, none⟩ = some (.slice (some ⟨g1, 0, none⟩) ((pk l).length + 1) cap1) := by rw [Lib.cell_of_heap hVc, <- hln]; rfl
  have e2 : V.cell? ⟨b, 2, none⟩ = some (.int .i64 l.length) := by rw [Lib.cell_of_heap hVc]; rfl
  have ef2 := Lib.frozen_of_heap hVc 2
  rw [hln] at hV hr1
  have hor : bits BinOp.or IntKind.u8 0 1 = ((orB 0 0).toNat : Int) := or_byte 0 0 (by decide)
  have q1 : (l.length : Int) / 8 = ((pk l).length : Int) := by omega
  have q2 : (l.length : Int) % 8 = 0 := by omega
  have q3 : l.length / 8 = (pk l).length := e8
  have q4 : l.length % 8 = 0 := e9
  rw [e8] at HE
  have HEn := Lib.hid HE
  generalize hmm : (pk l).length = m at *
  generalize hnn : l.length = n at *
  have HVV := Lib.hid hV
  have HRn : Hid (n = 8 * m) := Lib.hid (by have := HR.out; exact this)
  clear c1 c2 hV HE HR HC HO HM HV hVc hVo hVS hS1 hcb ho1 hg1 hn1 hsrc hA hoA hd hs0 hW0 hgd hln e8 e9 hmm hnn hbk hnone1
  cases x with
  | false =>
   go_wp2_with (at_builtin; refine wpList_append_at _ rfl _ _ _ _ rfl _ _ rfl rfl _ _ hr1 ?_)
   go_end0
   refine ⟨rfl, ?_⟩
   rw [<- HVV.out]
   exact HEn.out _ (Drew.refl _)
  | true =>
   go_wp2_with (at_builtin; refine wpList_append_at _ rfl _ _ _ _ rfl _ _ rfl rfl _ _ hr1 ?_)
   rw [<- HVV.out]
   clear f1 f2 d1 d2 c10 c20 hr1
   go_region
   all_goals
    go_wp2
    go_end0
    exact ⟨rfl, HEn.out V.drew ⟨rfl, rfl, rfl, rfl⟩⟩
theorem putBit_any (W : World) (B b g : Nat) (l : List Bool) (x : Bool) (h : WB W B b g l) (hm : Masks W B) (hl : l.length < 8388608) :
  Calls Tryz.prog 67 #[.pointer (some ⟨b, 0, none⟩), .int .i64 x.toNat] W fun e w' => e = .returned (.tuple #[]) /\ WStep W w' B b g (l ++ [x]) := by
 by_cases hr : l.length = 8 * (pk l).length
 ·exact putBit_full W B b g l x h hm hl hr
 ·exact putBit_room W B b g l x h hm hl hr
end Go.Proofs.YthmbbpfgbpacnaaGreatDoor.Bit
namespace Go.Proofs.YthmbbpfgbpacnaaGreatDoor.Bit
open Go.RowKit Go.Shelf Mem
def okPut (n x : Int) : Prop := 0 <= x /\ x <= 32 /\ 0 <= n /\ n < 2 ^ x.toNat
theorem okPut_div (n : Int) (m : Nat) : n / 2 ^ m = 0 ↔ 0 <= n /\ n < 2 ^ m := by
 have hp := two_pos m
 constructor
 ·intro h
  have h1 := Int.mul_ediv_add_emod n (2 ^ m)
  rw [h, Int.mul_zero, Int.zero_add] at h1
  have h2 := Int.emod_nonneg n (Int.ne_of_gt hp)
  have h3 := Int.emod_lt_of_pos n hp
  omega
 ·intro ⟨h0, h1⟩
  exact Int.ediv_eq_zero_of_lt h0 h1
theorem bit_val (n : Int) (k : Nat) : ∃ x : Bool, n / 2 ^ k % 2 = (x.toNat : Int) /\ decide (n / 2 ^ k % 2 = 1) = x := by
 rcases (by omega : n / 2 ^ k % 2 = 0 \/ n / 2 ^ k % 2 = 1) with e | e <;> rw [e]
 ·exact ⟨false, rfl, rfl⟩
 ·exact ⟨true, rfl, rfl⟩
set_option maxHeartbeats 1000000 in
theorem put_bad (W : World) (B b g : Nat) (n x : Int) (l : List Bool) (h : WB W B b g l) (hb : ¬ okPut n x) :
  Calls Tryz.prog 49 #[.pointer (some ⟨b, 0, none⟩), .int .i64 n, .int .i64 x] W fun e w' => e = .returned (.int .i64 1) /\ W = w' := by
 have HM := Lib.hid (made_yes W B b g l h)
 clear h
 rcases (by omega : x < 0 \/ 32 < x \/ (0 <= x /\ x <= 32)) with h | h | ⟨h0, h1⟩
 ·clear hb
  go_enter Tryz.func49, Tryz.ntmps49
  go_wp2_with (go_at_call 41; refine HM.out.mono ?_; rintro e w1 ⟨rfl, rfl⟩)
  go_ret
  exact ⟨rfl, rfl⟩
 ·have h' : ¬ x < 0 := by omega
  clear hb
  go_enter Tryz.func49, Tryz.ntmps49
  go_wp2_with (go_at_call 41; refine HM.out.mono ?_; rintro e w1 ⟨rfl, rfl⟩)
  go_ret
  exact ⟨rfl, rfl⟩
 ·obtain ⟨m, rfl⟩ := Int.eq_ofNat_of_zero_le h0
  have hz : ¬ n / 2 ^ m = 0 := fun e => hb ⟨h0, h1, by simpa using (okPut_div n m).1 e⟩
  have hz1 : (n / 2 ^ m == 0) = false := by simpa using hz
  have hz2 : (n / 2 ^ m != 0) = true := by simpa using hz
  have hm : m <= 32 := by omega
  clear hb hz
  go_enter Tryz.func49, Tryz.ntmps49
  go_wp2_with (go_at_call 41; refine HM.out.mono ?_; rintro e w1 ⟨rfl, rfl⟩)
  go_ret
  exact ⟨rfl, rfl⟩
set_option maxHeartbeats 1000000 in
theorem put_size (W : World) (B b g m : Nat) (n : Int) (l : List Bool) (h : WB W B b g l) (hl : l.length <= 8388608) (hm : m <= 32) (h0 : 0 <= n) (h1 : n < 2 ^ m) (hs : 8388608 < l.length + m) :
  Calls Tryz.prog 49 #[.pointer (some ⟨b, 0, none⟩), .int .i64 n, .int .i64 m] W fun e w' => e = .returned (.int .i64 6) /\ W = w' := by
 have HM := Lib.hid (made_yes W B b g l h)
 have hz : n / 2 ^ m = 0 := (okPut_div n m).2 ⟨h0, h1⟩
 obtain ⟨v, hc, -⟩ := h
 have c2 : W.cell? ⟨b, 2, none⟩ = some (.int .i64 l.length) := by rw [Lib.cell_of_heap hc]; rfl
 have hgt : 8388608 - (l.length : Int) < (m : Int) := by omega
 clear hc h0 h1
 go_enter Tryz.func49, Tryz.ntmps49
 go_wp2_with (go_at_call 41; refine HM.out.mono ?_; rintro e w1 ⟨rfl, rfl⟩)
 go_ret
 exact ⟨rfl, rfl⟩
set_option maxHeartbeats 2000000 in
theorem put_ok (W : World) (B b g m : Nat) (n : Int) (l : List Bool) (h : WB W B b g l) (hmk : Masks W B) (hm : m <= 32) (h0 : 0 <= n) (h1 : n < 2 ^ m) (hs : l.length + m <= 8388608) :
  Calls Tryz.prog 49 #[.pointer (some ⟨b, 0, none⟩), .int .i64 n, .int .i64 m] W fun e w' => e = .returned (.int .i64 0) /\ WStep W w' B b g (l ++ bitsOf n m) := by
 have HM := Lib.hid (made_yes W B b g l h)
 have hz : n / 2 ^ m = 0 := (okPut_div n m).2 ⟨h0, h1⟩
 have hB := h.leb
 have hgB := h.leg
 have H := Lib.hid h
 obtain ⟨v, hc, -⟩ := h
 have c2 : W.cell? ⟨b, 2, none⟩ = some (.int .i64 l.length) := by rw [Lib.cell_of_heap hc]; rfl
 have hgt : ¬ 8388608 - (l.length : Int) < (m : Int) := by omega
 have HK := Lib.hid hmk
 have ha := fun y : Int => i64_and1 y
 clear hc h0 h1 hmk
 go_enter Tryz.func49, Tryz.ntmps49
 go_wp2_with (go_at_call 41; refine HM.out.mono ?_; rintro e w1 ⟨rfl, rfl⟩)
 clear c2 hz
 go_loopw [33] (fun i wr => ∃ k : Nat, k <= m /\ i = .int .i64 k /\ WStep W wr B b g (l ++ bitsOf n k)) (fun i _ => m - (intOf i).toNat)
 case atStart => exact ⟨0, Nat.zero_le _, rfl, g, by simpa [bitsOf] using H.out, .inl rfl, Only.refl _ _⟩
 case round =>
  obtain ⟨k, hk, rfl, hW⟩ := hrel
  have HW := Lib.hid hW
  clear hW
  by_cases hlt : k < m
  ·obtain ⟨g', q1, q2, q3⟩ := HW.out
   obtain ⟨x, hx, hx2⟩ := bit_val n k
   have HX := Lib.hid hx2
   have HP := Lib.hid (putBit_any wr B b g' _ x q1 (HK.out.only q3 (by rintro i (rfl | rfl) <;> assumption)) (by rw [List.length_append, bitsOf_len]; omega))
   have HT := Lib.hid (fun w' => WStep.trans (m := (l ++ bitsOf n k) ++ [x]) (W := w') q1 q2 q3)
   clear q1 q2 q3 hx2
   have hk32 : (k : Int) <= 64 := by omega
   go_wp2_with (go_at_call 67; refine HP.out.mono ?_; rintro e w1 ⟨rfl, hw1⟩; have HW1 := Lib.hid hw1; clear hw1)
   go_roundw
   case rel => exact ⟨k + 1, by omega, by go_num, by rw [bitsOf_succ, HX.out, <- List.append_assoc]; exact HT.out _ HW1.out⟩
   case measure => simp [intOf]; omega
  ·obtain rfl : k = m := by omega
   go_wp2
   go_ret
   exact ⟨rfl, HW.out⟩
end Go.Proofs.YthmbbpfgbpacnaaGreatDoor.Bit
