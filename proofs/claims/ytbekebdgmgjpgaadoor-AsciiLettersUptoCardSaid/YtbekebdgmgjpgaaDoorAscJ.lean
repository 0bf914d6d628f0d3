/- Contracts of the document's Split, and of the comparison of two lists of texts. -/
import Derived.Test.YtbekebdgmgjpgaaDoorAscI
import Derived.Test.YtbekebdgmgjpgaaDoorAscG
namespace Go.Proofs.YtbekebdgmgjpgaaDoor.Asc
open Go.RowKit

/-- A list of texts in memory. -/
def TextsAt (w : World) (v : Value) (l : List (List UInt8)) : Prop :=
  ∃ (A : Option Addr) (cap : Nat), v = .slice A l.length cap ∧ ∀ (j : Nat) (p : List UInt8), l[j]? = some p → ∃ g, A = some ⟨g, 0, none⟩ ∧ g < w.heap.size ∧ w.cell? ⟨g, j, none⟩ = some (strV p)
theorem TextsAt.of_own {w : World} {base : Nat} {v : Value} {l : List (List UInt8)} (h : w.ownsRow base 9 1 v l.length (strVs l)) : TextsAt w v l := by
  rcases h.2 with ⟨rfl, h0⟩ | ⟨g, cap, cur, rfl, _, hh, _⟩
  · have : l = [] := List.eq_nil_of_length_eq_zero h0
    subst this
    exact ⟨none, 0, rfl, fun j p hp => by simp at hp⟩
  · refine ⟨_, cap, rfl, fun j p hp => ⟨g, rfl, (Array.getElem?_eq_some_iff.1 hh).1, ?_⟩⟩
    rw [h.cellAt j (by have := (List.getElem?_eq_some_iff.1 hp).1; omega)]
    simp [strVs, hp]
theorem TextsAt.below {w w' : World} {v : Value} {l : List (List UInt8)} (h : TextsAt w v l) (hb : Below w.heap.size w w') : TextsAt w' v l := by
  obtain ⟨A, cap, hv, hc⟩ := h
  refine ⟨A, cap, hv, fun j p hp => ?_⟩
  obtain ⟨g, hA, hg, hcell⟩ := hc j p hp
  exact ⟨g, hA, Nat.lt_of_lt_of_le hg hb.size, (hb.cell (p := ⟨g, j, none⟩) hg).trans hcell⟩

set_option maxRecDepth 100000 in
set_option maxHeartbeats 1000000 in
theorem same_any (va vb : Value) (l : List (List UInt8)) (w : World) (ha : TextsAt w va l) (hb : TextsAt w vb l) (hl : l.length ≤ 9223372036854775807) :
    Calls Tryd.prog 21 #[va, vb] w fun e w' => e = .returned (.bool true) ∧ Below w.heap.size w w' := by
  obtain ⟨A, ca, rfl, hca⟩ := ha
  obtain ⟨B, cb, rfl, hcb⟩ := hb
  have HA := Lib.hid hca
  have HB := Lib.hid hcb
  clear hca hcb
  go_enter Tryd.func21, Tryd.ntmps21
  go_wp2
  go_loopw [5] (fun i wr => ∃ k : Nat, k ≤ l.length ∧ i = .int .i64 k ∧ ∃ q, wr = w.drewN q) (fun i _ => l.length - (intOf i).toNat)
  case atStart => exact ⟨0, Nat.zero_le _, rfl, 0, rfl⟩
  case round =>
    obtain ⟨k, hk, rfl, q, rfl⟩ := hrel
    by_cases hlt : k < l.length
    · obtain ⟨ga, rfl, _, hac⟩ := HA.out k l[k] (List.getElem?_eq_getElem hlt)
      obtain ⟨gb, rfl, _, hbc⟩ := HB.out k l[k] (List.getElem?_eq_getElem hlt)
      generalize l[k] = p at hac hbc
      unfold strV at hac hbc
      have hli : (k : Int) < l.length := by omega
      go_wp2_with fail
      go_quiet (fail)
      go_wp2_with fail
      go_roundw
      case rel => exact ⟨k + 1, by omega, by go_num, _, rfl⟩
      case measure => simp [intOf]; omega
    · go_wp2
      go_ret
      exact ⟨rfl, below_dn (Below.refl _ _) _⟩

end Go.Proofs.YtbekebdgmgjpgaaDoor.Asc
