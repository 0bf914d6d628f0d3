/- A text that was cut into pieces is put together as it was, in numbers. -/
import Derived.Test.YtenkbmkecgnfmaaLzI
import Derived.Test.YtenkbmkecgnfmaaLzM
namespace Go.Proofs.Ytenkbmkecgnfmaa.Lz
open Go.Lib

theorem piecesR_cases (b : List UInt8) (window depth : Int) : ((piecesR b window depth).2 ≠ 0 ∧ (piecesR b window depth).1 = [] ∧ ((window < 1 ∨ window > 32768 ∨ depth < 0 ∨ depth > 4096) ∧ (piecesR b window depth).2 = 1 ∨ 1048576 < b.length ∧ (piecesR b window depth).2 = 6)) ∨
    ∃ wd dp : Nat, window = wd ∧ depth = dp ∧ 1 ≤ wd ∧ wd ≤ 32768 ∧ dp ≤ 4096 ∧ b.length ≤ 1048576 ∧ piecesR b window depth = (pcs b wd dp 0, 0) := by
  by_cases h : window < 1 ∨ window > 32768 ∨ depth < 0 ∨ depth > 4096
  · left
    rw [piecesR_arg h]
    exact ⟨by decide, rfl, .inl ⟨h, rfl⟩⟩
  · by_cases hn : b.length > 1048576
    · left
      have e : piecesR b window depth = ([], 6) := by unfold piecesR; rw [if_neg h, if_pos hn]
      rw [e]
      exact ⟨by decide, rfl, .inr ⟨hn, rfl⟩⟩
    · right
      refine ⟨window.toNat, depth.toNat, by omega, by omega, by omega, by omega, by omega, by omega, ?_⟩
      unfold piecesR
      rw [if_neg h, if_neg hn]

/-- A byte, or a copy within the window. -/
def okW (wd : Nat) (p : Pc) : Prop := (p.len = 0 ∧ p.dist = 0) ∨ (3 ≤ p.len ∧ p.len ≤ 258 ∧ 1 ≤ p.dist ∧ p.dist ≤ wd ∧ p.byte = 0)
theorem pcAt_okW (b : List UInt8) (wd dp j : Nat) (hj : j < b.length) : okW wd (pcAt b wd dp j) := by
  have hg := great_good b wd dp j
  have hl := (stepN_le b wd dp j hj).2
  unfold stepN at hl
  unfold pcAt
  split
  · exact .inl ⟨rfl, rfl⟩
  · rename_i h0
    rcases hg with h1 | ⟨h1, h2, h3, h4, h5⟩
    · exact absurd (by rw [h1]) h0
    · exact .inr ⟨by simp only; omega, by simp only; omega, by simp only; omega, by simp only; omega, rfl⟩
theorem pcs_okW (b : List UInt8) (wd dp : Nat) : ∀ n j, b.length ≤ j + n → ∀ p ∈ pcs b wd dp j, okW wd p := by
  intro n
  induction n with
  | zero => intro j h p hp; rw [pcs_done b wd dp j (by omega)] at hp; cases hp
  | succ n ih =>
    intro j h p hp
    by_cases hj : j < b.length
    · rw [pcs_step b wd dp j hj] at hp
      rcases List.mem_cons.1 hp with rfl | hp
      · exact pcAt_okW b wd dp j hj
      · have := stepN_pos b wd dp j
        exact ih _ (by omega) p hp
    · rw [pcs_done b wd dp j (by omega)] at hp; cases hp
theorem cpN_take (b : List UInt8) (d : Nat) : ∀ (n j : Nat), 0 < d → d ≤ j → j + n ≤ b.length → (∀ k, k < n → b[j - d + k]? = b[j + k]?) → cpN n d (b.take j) = b.take (j + n) := by
  intro n
  induction n with
  | zero => intro j _ _ _ _; rfl
  | succ n ih =>
    intro j h1 h2 h3 h4
    rw [cpN_succ]
    have hlen : (b.take j).length = j := by rw [List.length_take]; omega
    have hjl : j < b.length := by omega
    have hget : (b.take j).getD ((b.take j).length - d) 0 = b[j] := by
      rw [hlen, List.getD_eq_getElem?_getD, List.getElem?_take, if_pos (by omega)]
      have := h4 0 (by omega)
      rw [Nat.add_zero, Nat.add_zero] at this
      rw [this, List.getElem?_eq_getElem hjl]
      rfl
    rw [hget, ← List.take_succ_eq_append_getElem hjl, ih (j + 1) h1 (by omega) (by omega) (fun k hk => ?_), show j + 1 + n = j + (n + 1) by omega]
    have := h4 (k + 1) (by omega)
    rw [show j - d + (k + 1) = j + 1 - d + k by omega, show j + (k + 1) = j + 1 + k by omega] at this
    exact this
theorem onto_take (b : List UInt8) (wd dp j : Nat) (hj : j < b.length) : ontoN (pcAt b wd dp j) (b.take j) = b.take (j + stepN b wd dp j) ∧ (pcAt b wd dp j).dist ≤ j := by
  have hg := great_good b wd dp j
  have hs := stepN_le b wd dp j hj
  unfold ontoN
  rcases hg with h1 | ⟨h1, h2, h3, h4, h5⟩
  · have e : pcAt b wd dp j = ⟨0, 0, b.getD j 0⟩ := pcAt_zero (by rw [h1])
    rw [e]
    simp only [if_true]
    have hst : stepN b wd dp j = 1 := by unfold stepN; rw [h1]; rfl
    rw [hst]
    refine ⟨?_, by omega⟩
    rw [List.take_succ_eq_append_getElem hj, List.getD_eq_getElem?_getD, List.getElem?_eq_getElem hj]
    rfl
  · have e : pcAt b wd dp j = ⟨(greatN b wd dp j).1, (greatN b wd dp j).2, 0⟩ := pcAt_some (by omega)
    have hst : stepN b wd dp j = (greatN b wd dp j).1 := by unfold stepN; omega
    rw [e]
    rw [hst] at hs ⊢
    generalize greatN b wd dp j = g at *
    obtain ⟨n, d⟩ := g
    simp only at *
    rw [if_neg (by omega), Int.toNat_natCast, Int.toNat_natCast]
    refine ⟨cpN_take b d n j h2 h3 (by omega) (fun k hk => ?_), by omega⟩
    have := comm_same (b.drop (j - d)) ((b.drop j).take 258) k (by rw [show comm (b.drop (j - d)) ((b.drop j).take 258) = n from h5.symm]; exact hk)
    rw [List.getElem?_drop, List.getElem?_take, if_pos (by omega), List.getElem?_drop] at this
    exact this
theorem mayB_okW {wd : Nat} {p : Pc} (h : okW wd p) (hw : wd ≤ 32768) : mayB p = true := by
  unfold mayB
  rcases h with ⟨h1, h2⟩ | ⟨h1, h2, h3, h4, h5⟩
  · rw [if_pos h1]; exact decide_eq_true h2
  · rw [if_neg (by omega)]
    exact decide_eq_true ⟨h1, h2, h3, by omega, h5⟩
theorem exp_take (b : List UInt8) (wd dp : Nat) (hw : wd ≤ 32768) : ∀ n j, b.length ≤ j + n → j ≤ b.length → expR (pcs b wd dp j) b.length (b.take j) = (b, 0) := by
  intro n
  induction n with
  | zero =>
    intro j h hj
    rw [pcs_done b wd dp j (by omega), List.take_of_length_le (by omega)]
    rfl
  | succ n ih =>
    intro j h hj
    by_cases hlt : j < b.length
    · rw [pcs_step b wd dp j hlt, expR_cons]
      have hok := pcAt_okW b wd dp j hlt
      have hm := mayB_okW hok hw
      obtain ⟨h1, h2⟩ := onto_take b wd dp j hlt
      have hst := pcAt_step b wd dp j
      have hs := stepN_le b wd dp j hlt
      have hp := stepN_pos b wd dp j
      have hlen : (b.take j).length = j := by rw [List.length_take]; omega
      rw [hlen, if_neg (by rintro (q | q)
                           · rw [hm] at q; cases q
                           · omega), if_neg (by omega), h1]
      exact ih _ (by omega) (by omega)
    · rw [pcs_done b wd dp j (by omega), List.take_of_length_le (by omega)]
      rfl
theorem expand_back (b : List UInt8) (wd dp : Nat) (hw : wd ≤ 32768) (hb : b.length ≤ 1048576) : expandR (pcs b wd dp 0) b.length = (b, 0) := by
  unfold expandR
  rw [if_neg (by omega)]
  exact exp_take b wd dp hw b.length 0 (by omega) (by omega)
theorem okW_okPc {wd : Nat} {p : Pc} (h : okW wd p) (hw : wd ≤ 32768) : okPc p := by
  unfold okPc
  rcases h with ⟨h1, h2⟩ | ⟨h1, h2, h3, h4, h5⟩
  · rw [h1, h2]; exact ⟨by decide, by decide⟩
  · exact ⟨WalkArith.wf_i64 (by omega), WalkArith.wf_i64 (by omega)⟩
end Go.Proofs.Ytenkbmkecgnfmaa.Lz
