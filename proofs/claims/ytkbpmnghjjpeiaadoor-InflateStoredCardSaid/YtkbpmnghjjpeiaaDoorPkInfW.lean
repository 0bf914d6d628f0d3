/- Rows of bytes that came in; a byte after another, read as bits; stored blocks, read back. -/
import Derived.Test.YtkbpmnghjjpeiaaDoorPkBitP
import Derived.Test.YtkbpmnghjjpeiaaDoorPkLawIEnds
namespace Go.Proofs.YtkbpmnghjjpeiaaDoor.Inf
open Go.RowKit Go.Shelf Go.Lib Go.Proofs.YtkbpmnghjjpeiaaDoor.Mem Go.Proofs.YtkbpmnghjjpeiaaDoor.Bit Go.Proofs.YtkbpmnghjjpeiaaDoor.Huf Go.Proofs.YtkbpmnghjjpeiaaDoor.Lz
open Go.ChangeShapes Go.WideShapes Go.ChangeAt

/-- A row of bytes, as it lies in a list of rows. -/
structure RowV where
  b : List UInt8
  ba : Option Addr
  bc : Nat
deriving Inhabited
def RowAt (W : World) (ao : Option Addr) (r : Nat) (o : RowV) : Prop :=
  ∃ a, ao = some a ∧ W.cell? (a.add r) = some (.slice o.ba o.b.length o.bc) ∧ Mem.Src W (.slice o.ba o.b.length o.bc) o.b ∧ o.b.length ≤ o.bc

set_option maxRecDepth 100000 in
theorem rows_of_trod {H : Type} {enc : TypeId × Value → H} {W : World} {fuel : Nat} {cs : List Value} {x : DataW H × List MemPlace} (h : DataW.trod enc Tryd.prog W 0 (fun _ => true) true fuel 47 cs = some x) :
    ∃ (ao : Option Addr) (os : List RowV) (c : Nat), cs = [.slice ao os.length c] ∧ (∀ r o, os[r]? = some o → RowAt W ao r o) ∧ os.length ≤ c := by
  have hc1 : Tryd.prog.cellsOf 22 = 1 := by kernel_rfl
  rcases Deep.open_slice Tryd.underlying47 h with ⟨hcs, hx⟩ | ⟨a, len, cap, m, n, D, Pl, hcs, _, hl, hm, hmm, hx, hi⟩
  · exact ⟨none, [], 0, hcs, fun r o hr => by simp at hr, by simp⟩
  · simp only [if_true] at hmm
    subst m
    have each : ∀ i, i < len → ∃ o : RowV, RowAt W (some a) i o := fun i hil => by
      obtain ⟨cs', hcc, ht⟩ := hi i (by omega)
      rw [hc1] at hcc
      obtain ⟨ba, b, bc, e, hs, hbc, -⟩ := bytes_of_trod ht
      obtain ⟨_, hcl, hat⟩ := World.cells?_some hcc
      refine ⟨⟨b, ba, bc⟩, a, rfl, ?_, hs, hbc⟩
      have h0 := hat 0 (by decide)
      rw [e, Deep.add_add, Nat.mul_one, Nat.add_zero] at h0
      exact h0
    obtain ⟨f, hf⟩ := Deep.choose_lt each
    have hlen : ((List.range len).map f).length = len := by rw [List.length_map, List.length_range]
    refine ⟨some a, (List.range len).map f, cap, by rw [hlen]; exact hcs, fun r o hr => ?_, by rw [hlen]; exact hl⟩
    rw [List.getElem?_map] at hr
    have hrn : r < len := by
      rcases Nat.lt_or_ge r len with h | h
      · exact h
      · rw [List.getElem?_eq_none (by simpa using h)] at hr; cases hr
    rw [List.getElem?_range hrn] at hr
    obtain rfl : f r = o := by simpa using hr
    exact hf r hrn

/-! Whole bytes, as bits. -/
theorem takeN_in (bs : List UInt8) (i a : Nat) : ∀ k, a + k ≤ 8 → takeN bs (8 * i + a) k = (bs.getD i 0).toNat / 2 ^ a % 2 ^ k
  | 0, _ => by rw [takeN, Nat.pow_zero, Nat.mod_one]
  | k + 1, h => by
    rw [takeN, takeN_in bs i a k (by omega), bitN, show (8 * i + a + k) / 8 = i by omega, show (8 * i + a + k) % 8 = a + k by omega, Nat.pow_add, ← Nat.div_div_eq_div_mul, Nat.mod_pow_succ, Nat.mul_comm]
theorem takeN_cat (bs : List UInt8) (t m : Nat) : ∀ k, takeN bs t (m + k) = takeN bs t m + takeN bs (t + m) k * 2 ^ m
  | 0 => by simp [takeN]
  | k + 1 => by
    rw [← Nat.add_assoc, takeN, takeN_cat bs t m k, takeN, Nat.add_mul, Nat.add_assoc, Nat.mul_assoc, ← Nat.pow_add, Nat.add_comm k m, Nat.add_assoc t m k]
theorem takeN_two (bs : List UInt8) (i : Nat) : takeN bs (8 * i) 16 = (bs.getD i 0).toNat + (bs.getD (i + 1) 0).toNat * 256 := by
  have e := takeN_cat bs (8 * i) 8 8
  have e1 := takeN_in bs i 0 8 (by omega)
  have e2 := takeN_in bs (i + 1) 0 8 (by omega)
  have h1 := (bs.getD i 0).toNat_lt
  have h2 := (bs.getD (i + 1) 0).toNat_lt
  rw [Nat.add_zero, Nat.pow_zero, Nat.div_one, Nat.mod_eq_of_lt (by omega)] at e1 e2
  rw [show 8 * (i + 1) = 8 * i + 8 by omega] at e2
  rw [show (16 : Nat) = 8 + 8 from rfl, e, e1, e2]

/-! Stored blocks. -/
def stB (x : List UInt8) : List UInt8 := [0, UInt8.ofNat (x.length % 256), UInt8.ofNat (x.length / 256), UInt8.ofNat (255 - x.length % 256), UInt8.ofNat (255 - x.length / 256)] ++ x
def stE : List UInt8 := [1, 0, 0, 255, 255]
theorem stB_len (x : List UInt8) : (stB x).length = x.length + 5 := by unfold stB; simp
theorem ofNat_val {n : Nat} (h : n < 256) : (UInt8.ofNat n).toNat = n := by
  simp; omega
/-- One stored block, wherever it stands. -/
theorem storP_at (pre x rest : List UInt8) (b : UInt8) (c0 c1 c2 c3 : UInt8) (hn : x.length ≤ 65535) (h01 : c0.toNat + c1.toNat * 256 = x.length) (h23 : c2.toNat + c3.toNat * 256 = 65535 - x.length) (most : Nat) (out : List UInt8) (hm : out.length + x.length ≤ most) :
    storP (pre ++ (b :: c0 :: c1 :: c2 :: c3 :: (x ++ rest))) most out (8 * pre.length + 3) = .ok (out ++ x) (8 * (pre.length + 5 + x.length)) := by
  have hl : (pre ++ (b :: c0 :: c1 :: c2 :: c3 :: (x ++ rest))).length = pre.length + 5 + x.length + rest.length := by simp; omega
  have g : ∀ i y, (b :: c0 :: c1 :: c2 :: c3 :: (x ++ rest))[i]? = some y → (pre ++ (b :: c0 :: c1 :: c2 :: c3 :: (x ++ rest))).getD (pre.length + i) 0 = y := fun i y h => by
    rw [List.getD_eq_getElem?_getD, List.getElem?_append_right (by omega), Nat.add_sub_cancel_left, h, Option.getD_some]
  have t1 : takeN (pre ++ (b :: c0 :: c1 :: c2 :: c3 :: (x ++ rest))) (8 * (pre.length + 1)) 16 = x.length := by
    rw [takeN_two, g 1 c0 rfl, g 2 c1 rfl, h01]
  have t2 : takeN (pre ++ (b :: c0 :: c1 :: c2 :: c3 :: (x ++ rest))) (8 * (pre.length + 1) + 16) 16 = 65535 - x.length := by
    rw [show 8 * (pre.length + 1) + 16 = 8 * (pre.length + 3) by omega, takeN_two, g 3 c2 rfl, g 4 c3 rfl, h23]
  have hd : ((pre ++ (b :: c0 :: c1 :: c2 :: c3 :: (x ++ rest))).drop (pre.length + 5)).take x.length = x := by
    rw [List.drop_append, List.drop_eq_nil_of_le (by omega), Nat.add_sub_cancel_left]
    simp
  unfold storP takeP
  rw [show 8 * ((8 * pre.length + 3 + 7) / 8) = 8 * (pre.length + 1) by omega, if_pos (by omega)]
  simp only
  rw [if_pos (by omega)]
  simp only
  rw [t1, t2, if_neg (by omega), if_neg (by omega), show (8 * (pre.length + 1) + 16 + 16 + 7) / 8 = pre.length + 5 by omega, if_neg (by omega), hd]
theorem stE_len : stE.length = 5 := rfl
theorem body_0 (F : Nat) (bs : List UInt8) (most : Nat) (out : List UInt8) (t : Nat) : bodyP F bs most 0 out t = storP bs most out t := by
  unfold bodyP; rw [if_pos rfl]
/-- The three bits ahead of a block. -/
theorem head_at (pre r : List UInt8) (b : UInt8) : takeP (pre ++ b :: r) 1 (8 * pre.length) = .ok (b.toNat % 2) (8 * pre.length + 1) ∧ takeP (pre ++ b :: r) 2 (8 * pre.length + 1) = .ok (b.toNat / 2 % 4) (8 * pre.length + 1 + 2) := by
  have hl : (pre ++ b :: r).length = pre.length + 1 + r.length := by simp; omega
  have g : (pre ++ b :: r).getD pre.length 0 = b := by
    rw [List.getD_eq_getElem?_getD, List.getElem?_append_right (Nat.le_refl _), Nat.sub_self]
    rfl
  have e0 := takeN_in (pre ++ b :: r) pre.length 0 1 (by omega)
  have e1 := takeN_in (pre ++ b :: r) pre.length 1 2 (by omega)
  rw [g] at e0 e1
  rw [Nat.add_zero, Nat.pow_zero, Nat.div_one] at e0
  unfold takeP
  rw [if_pos (by omega), if_pos (by omega), e0, e1]
  exact ⟨rfl, rfl⟩
theorem readP_stored (F most : Nat) : ∀ (xs : List (List UInt8)) (f : Nat) (pre out : List UInt8) (bl : List (Nat × Nat)), (∀ x ∈ xs, x.length ≤ 30000) → xs.length < f → out.length + xs.flatten.length ≤ most →
    ∃ bl', readP F (pre ++ ((xs.map stB).flatten ++ stE)) most f out bl (8 * pre.length) = .ok (out ++ xs.flatten, bl') (8 * (pre ++ ((xs.map stB).flatten ++ stE)).length)
  | [], f + 1, pre, out, bl, _, _, hm => by
    refine ⟨bl ++ [(0, (out ++ []).length - out.length)], ?_⟩
    have h1 := head_at pre [0, 0, 255, 255] 1
    have h2 := storP_at pre [] [] 1 0 0 255 255 (by decide) (by decide) (by decide) most out (by simpa using hm)
    simp only [List.append_nil] at h2
    rw [readP]
    simp only [List.map_nil, List.flatten_nil, List.nil_append, stE, h1.1]
    rw [show (1 : UInt8).toNat % 2 = 1 from rfl, h1.2]
    simp only
    rw [show (1 : UInt8).toNat / 2 % 4 = 0 from rfl, body_0, show 8 * pre.length + 1 + 2 = 8 * pre.length + 3 by omega, h2]
    simp
  | x :: xs, f + 1, pre, out, bl, hx, hf, hm => by
    have hx0 := hx x (List.mem_cons_self ..)
    rw [List.flatten_cons, List.length_append] at hm
    obtain ⟨bl', ih⟩ := readP_stored F most xs f (pre ++ stB x) (out ++ x) (bl ++ [(0, (out ++ x).length - out.length)]) (fun y hy => hx y (List.mem_cons_of_mem _ hy)) (by simp at hf; omega) (by rw [List.length_append]; omega)
    refine ⟨bl', ?_⟩
    have e : pre ++ ((List.map stB (x :: xs)).flatten ++ stE) = (pre ++ stB x) ++ ((xs.map stB).flatten ++ stE) := by simp
    have e2 : pre ++ ((List.map stB (x :: xs)).flatten ++ stE) = pre ++ (0 :: UInt8.ofNat (x.length % 256) :: UInt8.ofNat (x.length / 256) :: UInt8.ofNat (255 - x.length % 256) :: UInt8.ofNat (255 - x.length / 256) :: (x ++ ((xs.map stB).flatten ++ stE))) := by simp [stB]
    have h1 := head_at pre (UInt8.ofNat (x.length % 256) :: UInt8.ofNat (x.length / 256) :: UInt8.ofNat (255 - x.length % 256) :: UInt8.ofNat (255 - x.length / 256) :: (x ++ ((xs.map stB).flatten ++ stE))) 0
    have h2 := storP_at pre x ((xs.map stB).flatten ++ stE) 0 (UInt8.ofNat (x.length % 256)) (UInt8.ofNat (x.length / 256)) (UInt8.ofNat (255 - x.length % 256)) (UInt8.ofNat (255 - x.length / 256)) (by omega)
      (by rw [ofNat_val (by omega), ofNat_val (by omega)]; omega) (by rw [ofNat_val (by omega), ofNat_val (by omega)]; omega) most out (by omega)
    rw [← e2] at h1 h2
    rw [readP]
    simp only [h1.1, h1.2]
    rw [show (0 : UInt8).toNat % 2 = 0 from rfl, show (0 : UInt8).toNat / 2 % 4 = 0 from rfl, body_0, show 8 * pre.length + 1 + 2 = 8 * pre.length + 3 by omega, h2]
    simp only [if_true]
    rw [List.flatten_cons, ← List.append_assoc out, e, ← ih]
    congr 1
    rw [List.length_append, stB_len]; omega
theorem infl_stored (xs : List (List UInt8)) (hx : ∀ x ∈ xs, x.length ≤ 30000) (hn : xs.length ≤ 20) :
    ∃ bl, inflR ((xs.map stB).flatten ++ stE) 1048576 = (xs.flatten, bl, ((xs.map stB).flatten ++ stE).length, 0) := by
  have hl : ∀ ys : List (List UInt8), (∀ x ∈ ys, x.length ≤ 30000) → ys.flatten.length ≤ ys.length * 30000 ∧ (ys.map stB).flatten.length ≤ ys.length * 30005 := fun ys => by
    induction ys with
    | nil => simp
    | cons y ys ih =>
      intro h
      have := ih (fun z hz => h z (List.mem_cons_of_mem _ hz))
      have := h y (List.mem_cons_self ..)
      simp only [List.map_cons, List.flatten_cons, List.length_append, List.length_cons, stB_len]
      omega
  obtain ⟨l1, l2⟩ := hl xs hx
  obtain ⟨bl, h⟩ := readP_stored FU 1048576 xs FU [] [] [] hx (by rw [FU_eq]; omega) (by simp only [List.length_nil]; omega)
  simp only [List.nil_append, List.length_nil, Nat.mul_zero] at h
  refine ⟨bl, ?_⟩
  have := infl_ok (m := 1048576) (show strP ((xs.map stB).flatten ++ stE) 1048576 = _ from h) (Nat.le_refl _) (by rw [List.length_append, stE_len]; omega)
  rw [show ((1048576 : Nat) : Int) = 1048576 from rfl] at this
  rw [this]
  congr 3
  omega
end Go.Proofs.YtkbpmnghjjpeiaaDoor.Inf
