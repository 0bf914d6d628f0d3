/- Without depth a text is its bytes; a run of one byte is that byte and copies of it: in numbers. -/
import Derived.Test.YtenkbmkecgnfmaaLzBk
namespace Go.Proofs.Ytenkbmkecgnfmaa.Lz
open Go.Lib

theorem great_none (b : List UInt8) (wd j : Nat) : greatN b wd 0 j = (0, 0) := scan_zero b j wd j (0, 0)
theorem pcs_none (b : List UInt8) (wd : Nat) : ∀ n j, b.length ≤ j + n → pcs b wd 0 j = (b.drop j).map (fun y => Pc.mk 0 0 y) := by
  intro n
  induction n with
  | zero => intro j h; rw [pcs_done b wd 0 j (by omega), List.drop_of_length_le (by omega)]; rfl
  | succ n ih =>
    intro j h
    by_cases hj : j < b.length
    · have hst : stepN b wd 0 j = 1 := by unfold stepN; rw [great_none]; rfl
      have hpc : pcAt b wd 0 j = Pc.mk 0 0 b[j] := by
        rw [pcAt_zero (by rw [great_none]), List.getD_eq_getElem?_getD, List.getElem?_eq_getElem hj]
        rfl
      rw [pcs_step b wd 0 j hj, hst, hpc, ih (j + 1) (by omega), List.drop_eq_getElem_cons hj]
      rfl
    · rw [pcs_done b wd 0 j (by omega), List.drop_of_length_le (by omega)]; rfl
theorem pcs_none0 (b : List UInt8) (wd : Nat) : pcs b wd 0 0 = b.map (fun y => Pc.mk 0 0 y) := by
  have := pcs_none b wd b.length 0 (by omega)
  rwa [List.drop_zero] at this

theorem rep_get (n : Nat) (c : UInt8) (i : Nat) (h : i < n) : (List.replicate n c)[i]? = some c := by
  rw [List.getElem?_eq_getElem (by simpa using h)]; simp
theorem same3_rep (n : Nat) (c : UInt8) (q p : Nat) (hq : q < p) (hp : p + 2 < n) : same3 (List.replicate n c) q p := by
  unfold same3
  rw [List.length_replicate]
  exact ⟨hp, by rw [rep_get n c q (by omega), rep_get n c p (by omega)], by rw [rep_get n c _ (by omega), rep_get n c _ (by omega)], by rw [rep_get n c _ (by omega), rep_get n c _ (by omega)]⟩
theorem alike_rep (n : Nat) (c : UInt8) (i j : Nat) (hi : i < j) (hj : j ≤ n) : alikeN (List.replicate n c) i j = min 258 (n - j) := by
  have hlen : ((List.replicate n c).drop j).length = n - j := by rw [List.length_drop, List.length_replicate]
  refine comm_eq _ _ _ (by rw [List.length_drop, List.length_replicate]; omega) (by rw [List.length_take, hlen]; omega) (fun k hk => ?_) (.inl (by rw [List.length_take, hlen]))
  rw [List.getElem?_drop, List.getElem?_take, if_pos (by omega), List.getElem?_drop, rep_get n c _ (by omega), rep_get n c _ (by omega)]
/-- One candidate of a run: the place ahead. -/
theorem great_rep (n : Nat) (c : UInt8) (j : Nat) : greatN (List.replicate n c) 32768 1 j = if 1 ≤ j ∧ j + 2 < n then (min 258 (n - j), 1) else (0, 0) := by
  unfold greatN
  cases j with
  | zero => rw [if_neg (by omega)]; rfl
  | succ j =>
    by_cases h : j + 1 + 2 < n
    · rw [if_pos ⟨by omega, h⟩, scan_succ, if_pos (by omega)]
      have ha := alike_rep n c j (j + 1) (by omega) (by omega)
      rw [ha, if_neg (by omega), if_pos (by show _ > 0; omega), scan_zero, show j + 1 - j = 1 by omega]
    · rw [if_neg (by omega)]
      have hl : (List.replicate n c).length = n := by simp
      have := scan_skip (List.replicate n c) (j + 1) 32768 0 1 (0, 0) (j + 1) (by omega) (fun p _ _ hs => by have := hs.1; rw [hl] at this; omega)
      rw [Nat.zero_add] at this
      rw [this]
      rfl
theorem rep_dist (n : Nat) (c : UInt8) (j : Nat) : (pcAt (List.replicate n c) 32768 1 j).len = 0 ∨ (pcAt (List.replicate n c) 32768 1 j).dist = 1 := by
  have hg := great_rep n c j
  unfold pcAt
  rw [hg]
  by_cases h : 1 ≤ j ∧ j + 2 < n
  · rw [if_pos h, if_neg (by simp only; omega)]; exact .inr rfl
  · rw [if_neg h]; exact .inl rfl
theorem pcs_rep_dist (n : Nat) (c : UInt8) : ∀ f j, n ≤ j + f → ∀ p ∈ pcs (List.replicate n c) 32768 1 j, p.len = 0 ∨ p.dist = 1 := by
  have hl : (List.replicate n c).length = n := by simp
  intro f
  induction f with
  | zero => intro j h p hp; rw [pcs_done _ _ _ j (by omega)] at hp; cases hp
  | succ f ih =>
    intro j h p hp
    by_cases hj : j < n
    · rw [pcs_step _ _ _ j (by omega)] at hp
      rcases List.mem_cons.1 hp with rfl | hp
      · exact rep_dist n c j
      · have := stepN_pos (List.replicate n c) 32768 1 j
        exact ih _ (by omega) p hp
    · rw [pcs_done _ _ _ j (by omega)] at hp; cases hp
theorem pcs_rep_len (n : Nat) (c : UInt8) : ∀ f j, 1 ≤ j → n ≤ j + f → (pcs (List.replicate n c) 32768 1 j).length ≤ (n - j) / 258 + 2 := by
  have hl : (List.replicate n c).length = n := by simp
  intro f
  induction f with
  | zero => intro j _ h; rw [pcs_done _ _ _ j (by omega)]; simp
  | succ f ih =>
    intro j h1 h
    by_cases hj : j < n
    · by_cases h3 : j + 2 < n
      · have hg := great_rep n c j
        rw [if_pos ⟨h1, h3⟩] at hg
        have hst : stepN (List.replicate n c) 32768 1 j = min 258 (n - j) := by
          unfold stepN; rw [hg]; simp only; omega
        rw [pcs_step _ _ _ j (by omega), List.length_cons, hst]
        by_cases h5 : 258 ≤ n - j
        · have := ih (j + 258) (by omega) (by omega)
          rw [show min 258 (n - j) = 258 by omega]
          omega
        · rw [pcs_done _ _ _ _ (by omega)]; simp
      · have := pcs_len (List.replicate n c) 32768 1 n j (by omega)
        omega
    · rw [pcs_done _ _ _ j (by omega)]; simp
theorem rep_len (n : Nat) (c : UInt8) : (pcs (List.replicate n c) 32768 1 0).length ≤ 2 + n / 258 + 2 := by
  have hl : (List.replicate n c).length = n := by simp
  cases n with
  | zero => rw [pcs_done _ _ _ 0 (by omega)]; simp
  | succ n =>
    have hg := great_rep (n + 1) c 0
    rw [if_neg (by omega)] at hg
    have hst : stepN (List.replicate (n + 1) c) 32768 1 0 = 1 := by unfold stepN; rw [hg]; rfl
    rw [pcs_step _ _ _ 0 (by omega), List.length_cons, hst, Nat.zero_add]
    have := pcs_rep_len (n + 1) c n 1 (by omega) (by omega)
    omega
end Go.Proofs.Ytenkbmkecgnfmaa.Lz
