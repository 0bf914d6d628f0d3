/- Lists of texts of bytes, and lists of numbers, that came in: as they lie in memory, and how much they hold. -/
import Derived.Test.YtaibehfpbcgijaaDoorAscU
import Derived.Test.YtaibehfpbcgijaaDoorRows
import Derived.Deep.Matrix
import Derived.ChangeSlices
import Derived.ProofKit
namespace Go.Proofs.YtaibehfpbcgijaaDoor.Asc
open Go.RowKit Go.Shelf Go.Lib
open Go.ChangeShapes Go.WideShapes Go.ChangeAt

/-- A list of texts of bytes, in memory. -/
def Pieces (W : World) (ao : Option Addr) (ls : List (List UInt8)) : Prop := ∀ r l, ls[r]? = some l → ∃ a x, ao = some a ∧ W.cell? (a.add r) = some x ∧ Src W x l
/-- A list of numbers, in memory. -/
def Nums (W : World) (ao : Option Addr) (xs : List Int) : Prop := ∀ r x, xs[r]? = some x → ∃ a, ao = some a ∧ W.cell? (a.add r) = some (.int .i64 x)

def byteOf (z : Int) : UInt8 := UInt8.ofNat z.toNat
theorem byteOf_val (z : Int) (h : (Lit.int .u8 z).wf = true) : ((byteOf z).toNat : Int) = z := by
  have hw : 0 ≤ z ∧ z ≤ 255 := by simpa [Lit.wf, IntKind.min, IntKind.max, IntKind.signed, IntKind.bits] using h
  have : (UInt8.ofNat z.toNat).toNat = z.toNat % 256 := by simp
  unfold byteOf
  omega

theorem bulk_lits {H : Type} (k : IntKind) (zs : List Int) : Rows.uptoBulkAll (lits k zs : List (DataW H)) = zs.length := by
  induction zs with
  | nil => simp [lits, Rows.uptoBulkAll]
  | cons z r ih =>
    simp only [lits, List.map_cons, Rows.uptoBulkAll, Rows.uptoBulk, List.length_cons] at ih ⊢
    omega
theorem bulk_row {H : Type} (k : IntKind) (A : Option Addr) (L : Nat) (zs : List Int) (hz : A = none → zs.length = 0) : (zs.take L).length + 1 ≤ Rows.uptoBulk (Deep.intRow k A L zs : DataW H) := by
  unfold Deep.intRow
  cases A with
  | none =>
    have := hz rfl
    simp only [Rows.uptoBulk, List.length_take]
    omega
  | some a =>
    simp only [Rows.uptoBulk, bulk_lits]
    omega
theorem bulk_all {H : Type} (D : Nat → DataW H) (l : Nat → List UInt8) (n : Nat) : ∀ s, (∀ r, s ≤ r → r < s + n → (l r).length + 1 ≤ Rows.uptoBulk (D r)) → n + (((List.range' s n).map l).flatten).length ≤ Rows.uptoBulkAll ((List.range' s n).map D) := by
  induction n with
  | zero => intro s _; simp
  | succ n ih =>
    intro s h
    have h1 := ih (s + 1) (fun r q1 q2 => h r (by omega) (by omega))
    have h2 := h s (Nat.le_refl _) (by omega)
    rw [List.range'_succ, List.map_cons, List.map_cons, List.flatten_cons, List.length_append]
    simp only [Rows.uptoBulkAll]
    omega

set_option maxRecDepth 100000 in
theorem open_pieces {H : Type} {enc : TypeId × Value → H} {W : World} {base : Nat} {v0 : Value} {d0 : DataW H} {p0 : List MemPlace} (hval : Value.okWide Tryd.prog W .any base 63 v0) (h0 : DataW.Trod enc Tryd.prog W 0 (fun _ => true) true 63 v0 d0 p0) :
    ∃ (ao : Option Addr) (ls : List (List UInt8)) (c : Nat), v0 = .slice ao ls.length c ∧ Pieces W ao ls ∧ ls.length + ls.flatten.length ≤ Rows.uptoBulk d0 := by
  obtain ⟨a1, len, cap, rfl⟩ := okWide_slice Tryd.underlying63 hval
  obtain ⟨fuel, hf⟩ := h0
  rcases Deep.open_int_rows Tryd.underlying63 Tryd.underlying45 Tryd.underlying5 (by kernel_rfl) (by kernel_rfl) hf with ⟨hcs, hx⟩ | ⟨a, len', cap', A, L, C, Z, hcs, _, hl, hm, hx, hr⟩
  · simp [Value.cells] at hcs
    obtain ⟨rfl, rfl, rfl⟩ := hcs
    exact ⟨none, [], 0, rfl, fun r l h => by simp at h, by simp⟩
  · simp [Value.cells] at hcs
    obtain ⟨rfl, rfl, rfl⟩ := hcs
    have hx' := hx
    simp only [Prod.mk.injEq] at hx'
    obtain ⟨rfl, _⟩ := hx'
    refine ⟨some a, (List.range len).map fun r => ((Z r).take (L r)).map byteOf, cap, by simp, ?_, ?_⟩
    · intro r l hrl
      rw [List.getElem?_map] at hrl
      have hrn : r < len := by
        rcases Nat.lt_or_ge r len with h | h
        · exact h
        · rw [List.getElem?_eq_none (by simpa using h)] at hrl; cases hrl
      rw [List.getElem?_range hrn] at hrl
      have hle : ((Z r).take (L r)).map byteOf = l := by simpa using hrl
      obtain ⟨q1, q2, q3, q4, q5, q6, q7⟩ := hr r (by omega)
      have hlen : l.length = L r := by rw [← hle, List.length_map, List.length_take]; omega
      refine ⟨a, _, rfl, q1, ?_⟩
      cases hA : A r with
      | none =>
        have hc := q6 hA
        have hl0 : L r = 0 := by omega
        exact .inl ⟨by rw [hl0, hc], List.eq_nil_of_length_eq_zero (by omega)⟩
      | some a' =>
        refine .inr ⟨a', C r, by rw [hlen], fun j v hj => ?_⟩
        have hjl : j < L r := by
          have := (List.getElem?_eq_some_iff.1 hj).1
          rw [bVs_len, hlen] at this
          exact this
        rw [(q7 a' hA).2 j (by omega)]
        have hZ : (Z r)[j]? = some ((Z r).getD j 0) := by
          rw [List.getD_eq_getElem?_getD, List.getElem?_eq_getElem (by omega)]; rfl
        rw [← hle, bVs, List.getElem?_map, List.getElem?_map, List.getElem?_take, if_pos hjl, hZ] at hj
        have hv : bV (byteOf ((Z r).getD j 0)) = v := by simpa using hj
        rw [← hv, bV, byteOf_val _ (q5 _ (List.mem_of_getElem? hZ))]
    · simp only [Rows.uptoBulk]
      have := bulk_all (fun r => (Deep.intRow .u8 (A r) (L r) (Z r) : DataW H)) (fun r => ((Z r).take (L r)).map byteOf) len 0 (fun r _ hrn => by
        obtain ⟨q1, q2, q3, q4, q5, q6, q7⟩ := hr r (by omega)
        rw [List.length_map]
        exact bulk_row .u8 (A r) (L r) (Z r) (fun h => by rw [q4, q6 h]))
      rw [← List.range_eq_range'] at this
      simp only [List.length_map, List.length_range]
      omega

set_option maxRecDepth 100000 in
theorem open_nums {H : Type} {enc : TypeId × Value → H} {W : World} {base : Nat} {v0 : Value} {d0 : DataW H} {p0 : List MemPlace} (hval : Value.okWide Tryd.prog W .any base 64 v0) (h0 : DataW.Trod enc Tryd.prog W 0 (fun _ => true) true 64 v0 d0 p0) :
    ∃ (ao : Option Addr) (xs : List Int) (c : Nat), v0 = .slice ao xs.length c ∧ Nums W ao xs ∧ xs.length ≤ Rows.uptoBulk d0 := by
  obtain ⟨a1, len, cap, rfl⟩ := okWide_slice Tryd.underlying64 hval
  obtain ⟨fuel, hf⟩ := h0
  rcases open_ints Tryd.underlying64 Tryd.underlying3 (by kernel_rfl) hf with ⟨hcs, hx⟩ | ⟨a, len', cap', zs, hcs, _, hl, hm, hz, hx, hcell, hwz⟩
  · simp [Value.cells] at hcs
    obtain ⟨rfl, rfl, rfl⟩ := hcs
    exact ⟨none, [], 0, rfl, fun r l h => by simp at h, by simp⟩
  · simp [Value.cells] at hcs
    obtain ⟨rfl, rfl, rfl⟩ := hcs
    simp only [if_true] at hz
    have hx' := hx
    simp only [Prod.mk.injEq] at hx'
    obtain ⟨rfl, _⟩ := hx'
    have hlen : (zs.take len).length = len := by rw [List.length_take]; omega
    refine ⟨some a, zs.take len, cap, by rw [hlen], fun r x hrx => ⟨a, rfl, ?_⟩, ?_⟩
    · rw [List.getElem?_take] at hrx
      split at hrx
      · rw [hcell r (by omega), List.getD_eq_getElem?_getD, hrx]; rfl
      · cases hrx
    · simp only [Rows.uptoBulk, bulk_lits]
      omega

end Go.Proofs.YtaibehfpbcgijaaDoor.Asc
