/- What must come: the codes and the lengths of the document's own example; two lists of numbers compared. -/
import Derived.Test.YtenkbmkecgnfmaaHufV
import Derived.Test.YtenkbmkecgnfmaaHufQ
namespace Go.Proofs.Ytenkbmkecgnfmaa.Huf
open Go.RowKit Go.Shelf Go.Lib Go.Proofs.Ytenkbmkecgnfmaa.Mem

set_option maxHeartbeats 1000000 in
theorem num_any (n : Int) (W : World) : Calls Try.prog 14 #[.int .i64 n] W fun e w' => e = .returned (.int .i64 n) ∧ W = w' := by
  go_enter Try.func14, Try.ntmps14
  go_wp2_with fail
  go_ret
  exact ⟨rfl, rfl⟩

set_option maxHeartbeats 4000000 in
/-- Two lists of the same numbers. -/
theorem same_any (W : World) (v1 v2 : Value) (l : List Int) (h1 : SrcI W v1 l) (h2 : SrcI W v2 l) (hl : l.length ≤ 9223372036854775807) : Calls Try.prog 13 #[v1, v2] W fun e w' => e = .returned (.bool true) ∧ Drew W w' := by
  obtain ⟨a1, c1, rfl, g1⟩ := h1.shape
  obtain ⟨a2, c2, rfl, g2⟩ := h2.shape
  have H1 : Aside (SrcI W (.slice a1 l.length c1) l ∧ (0 < l.length → ∃ a, a1 = some a)) := ⟨h1, g1⟩
  have H2 : Aside (SrcI W (.slice a2 l.length c2) l ∧ (0 < l.length → ∃ a, a2 = some a)) := ⟨h2, g2⟩
  clear h1 h2 g1 g2
  go_enter Try.func13, Try.ntmps13
  go_wp2_with fail
  go_loopg [5] l.length (fun kx s5 wr => ∃ (i : Nat), s5 = .int .i64 i ∧ i ≤ l.length ∧ l.length - i ≤ kx ∧ Aside (Drew W wr))
  case atStart => exact ⟨0, rfl, Nat.zero_le _, Nat.le_refl _, Drew.refl _⟩
  case round =>
    obtain ⟨i, rfl, hi, hkx, HD⟩ := hrel
    by_cases hlt : i < l.length
    · have hltz : (i : Int) < (l.length : Int) := by omega
      have i0 : (0 : Int) ≤ (i : Int) := by omega
      obtain ⟨p1, rfl⟩ := H1.out.2 (by omega)
      obtain ⟨p2, rfl⟩ := H2.out.2 (by omega)
      have k1 : ∀ q, (wr.drewN q).cell? (p1.add i) = some (.int .i64 l[i]) := fun q => ((HD.out.trans (Drew.drewN wr q)).cell).trans (srci_cell H1.out.1 i hlt)
      have k2 : ∀ q, (wr.drewN q).cell? (p2.add i) = some (.int .i64 l[i]) := fun q => ((HD.out.trans (Drew.drewN wr q)).cell).trans (srci_cell H2.out.1 i hlt)
      have wi : IntKind.i64.wrap ((i : Int) + 1) = (i : Int) + 1 := by rw [IntKind.wrap_i64]; omega
      generalize l[i] = z at k1 k2
      go_wp2_with fail
      go_quiet (fail)
      go_wp2_with fail
      go_roundg (l.length - (i + 1))
      case measure => omega
      case rel => exact ⟨i + 1, by go_num, by omega, Nat.le_refl _, HD.out.trans (Drew.drewN _ _)⟩
    · obtain rfl : i = l.length := by omega
      have hltz : ¬ (l.length : Int) < (l.length : Int) := by omega
      go_wp2_with fail
      go_ret
      exact ⟨rfl, HD.out⟩

/-! The example, reckoned. -/
def mergeF : Nat → List Item → List Item → List Item
  | 0, _, _ => []
  | _ + 1, [], b => b
  | _ + 1, a :: xs, [] => a :: xs
  | n + 1, a :: xs, b :: bs => if b.1 < a.1 then b :: mergeF n (a :: xs) bs else a :: mergeF n xs (b :: bs)
theorem mergeF_eq : ∀ (n : Nat) (a b : List Item), a.length + b.length < n → mergeF n a b = mergeS a b
  | 0, _, _, h => by omega
  | _ + 1, [], b, _ => by rw [mergeS]; rfl
  | _ + 1, a :: xs, [], _ => by rw [mergeS]; rfl
  | n + 1, a :: xs, b :: bs, h => by
    simp only [List.length_cons] at h
    rw [mergeS, mergeF, mergeF_eq n (a :: xs) bs (by simp only [List.length_cons]; omega), mergeF_eq n xs (b :: bs) (by simp only [List.length_cons]; omega)]
def rowF (C : List Item) : Nat → List Item
  | 0 => []
  | t + 1 => mergeF 100 C (pairS (rowF C t))
theorem rowF_eq (C : List Item) (hC : C.length ≤ 30) : ∀ t, rowF C t = rowS C t
  | 0 => rfl
  | t + 1 => by
    have h := row_len C t
    show mergeF 100 C (pairS (rowF C t)) = mergeS C (pairS (rowS C t))
    rw [rowF_eq C hC t, mergeF_eq _ _ _ (by rw [pairS_len]; omega)]
theorem knows_codes : codesR [3, 3, 3, 3, 3, 2, 4, 4] = ([2, 3, 4, 5, 6, 0, 14, 15], 0) := by kernel_rfl
theorem knows_lengths : lengthsR [1, 1, 2, 4] 15 = ([3, 3, 2, 1], 0) := by
  have hk : (rankL [1, 1, 2, 4]).length = 4 := by kernel_rfl
  have ha : Able [1, 1, 2, 4] 15 := ⟨by kernel_rfl, by decide, by decide, by decide, by rw [hk]; decide⟩
  have h := lengthsR_able ha
  rw [show (((15 : Nat)) : Int) = 15 from rfl] at h
  rw [h]
  have e := rowF_eq ((rankL [1, 1, 2, 4]).map (coin (valOf [1, 1, 2, 4]))) (by rw [List.length_map, hk]; decide) 15
  have hl : lensOut [1, 1, 2, 4] 15 = [3, 3, 2, 1] := by
    unfold lensOut bestLen
    rw [if_neg (by rw [hk]; decide), ← e]
    kernel_rfl
  rw [hl]

/-- A literal list of ints, as the call lays it. -/
theorem src_lit (W : World) (l : List Int) (n : Nat) (hn : n = l.length) : SrcI (W.alloc (.cells (iVs l).toArray 3)) (.slice (some ⟨W.heap.size, 0, none⟩) n n) l := by
  subst hn
  exact .inr ⟨_, _, rfl, fun j v hj => by
    rw [Lib.addr_add, cell_of_row _ _ _ _ _ (0, 0) (heap_alloc_new _ _), Nat.zero_add, List.getElem?_toArray]
    exact hj⟩
theorem below_lit (W : World) (o : Obj) : Below W.heap.size W (W.alloc o) := (Below.refl _ _).alloc (Nat.le_refl _) _

end Go.Proofs.Ytenkbmkecgnfmaa.Huf
