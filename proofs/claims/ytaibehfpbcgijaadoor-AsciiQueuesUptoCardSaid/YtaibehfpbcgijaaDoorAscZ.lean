/- A line of any queue that NewQueue made; bytes that are lent with marked room behind them. -/
import Derived.Test.YtaibehfpbcgijaaDoorAscY
namespace Go.Proofs.YtaibehfpbcgijaaDoor.Asc
open Go.RowKit Go.Shelf

set_option maxRecDepth 100000 in
set_option maxHeartbeats 2000000 in
theorem line_nil (W : World) (b : Nat) (lim lr : Int) (hq : Qc W b lim (.slice none 0 0) 0 lr 0) (h : Bf W b b lim 0 (bVs [])) :
    Calls Tryd.prog 37 #[.pointer (some ⟨b, 0, none⟩)] W fun e w' => e = .returned (.tuple #[.slice none 0 0, .bool false]) ∧ Bf w' b b lim 0 (bVs []) ∧ Upd b b W w' := by
  have HM := Lib.hid (made_yes W b b lim _ _ h)
  have H := Lib.hid h
  have c5 := hq.c5
  have f5 := hq.f 5
  have HQ : Hid (∀ k, Calls Tryd.prog 61 #[.pointer (some ⟨b, 2, none⟩)] (W.drewN k) fun e w' => e = .returned (.slice none 0 0) ∧ ∃ m, w' = (W.drewN k).drewN m) := Lib.hid (fun k => by
    have c2 := (hq.drew (w' := W.drewN k) ⟨rfl, rfl, rfl, rfl⟩).c2
    have c3 := (hq.drew (w' := W.drewN k) ⟨rfl, rfl, rfl, rfl⟩).c3
    generalize W.drewN k = V at c2 c3 ⊢
    clear c5 f5
    go_enter Tryd.func61, Tryd.ntmps61
    go_wp2
    go_quiet (fail)
    go_wp2
    go_ret
    exact ⟨rfl, _, rfl⟩)
  have HIx := fun w => Lib.hid (Any.bytes_IndexByte_nil Tryd.laysIndexByte 10 w)
  have mixed : Tryd.prog.follows .mixedOrders = true := by kernel_rfl
  clear hq h
  go_enter Tryd.func37, Tryd.ntmps37
  go_wp2_with (go_at_call 59; refine HM.out.mono ?_; rintro e w1 ⟨rfl, rfl⟩)
  go_quiet ((go_at_call 61; exact Calls.quiet_of (HQ.out _)))
  generalize hW0 : W.drewN _ = W0
  have hd : Drew W W0 := by rw [← hW0]; exact ⟨rfl, rfl, rfl, rfl⟩
  have h0 := H.out.drew hd
  have c50 := h0.cell5
  have f50 := h0.f 5
  have HB0 := Lib.hid h0
  have HD := Lib.hid (hd.upd b b)
  clear HQ HM H hd h0 hW0 c5 f5
  go_wp2_with (go_at_call 62; refine (HIx _).out.mono ?_; rintro e w2 ⟨rfl, rfl⟩)
  go_ret2
  exact ⟨rfl, HB0.out.set5 0, HD.out.trans (Upd.cellB b b 5 (.int .i64 0) _) (.inl rfl)⟩

theorem line_any (W : World) (b g s : Nat) (lim : Int) (l : List UInt8) (h : Bf W b g lim (s : Int) (bVs l)) (hs : s ≤ l.length) (hno : ∀ j : Nat, j < s → l[j]? ≠ some 10) (hl : l.length ≤ 1048576) :
    Calls Tryd.prog 37 #[.pointer (some ⟨b, 0, none⟩)] W fun e w' =>
      (e = .returned (.tuple #[.slice none 0 0, .bool false]) ∧ Bf w' b g lim (l.length : Int) (bVs l) ∧ Upd b g W w' ∧ ∀ j : Nat, l[j]? ≠ some 10) ∨
      ∃ (i : Nat) (v : Value), i < l.length ∧ l[i]? = some 10 ∧ (∀ j : Nat, j < i → l[j]? ≠ some 10) ∧ e = .returned (.tuple #[v, .bool true]) ∧ Src w' v (lineL (l.take i)) ∧ Bf w' b g lim 0 (bVs (l.drop (i + 1))) ∧ Upd b g W w' ∧ ∃ ao m cv, v = .slice ao m cv ∧ ∀ a, ao = some a → W.heap.size ≤ a.block := by
  have h' := h
  obtain ⟨v, off, lr, hq, ⟨rfl, rfl, hbs, rfl⟩ | ⟨L, cap, cur, rfl, hg, hcs, hc0, hol, hlc, hcm, hbs, hgb⟩⟩ := h'
  · obtain rfl : l = [] := by
      cases l with
      | nil => rfl
      | cons x r => simp [bVs] at hbs
    obtain rfl : s = 0 := by simpa using hs
    refine (line_nil W g lim lr hq h).mono ?_
    rintro e w' ⟨rfl, hB, hu⟩
    exact .inl ⟨rfl, hB, hu, fun j => by simp⟩
  · exact line_row W b g s off L cap lim lr l cur hq hg hcs hol hlc hcm hbs h hs hno hl

set_option maxRecDepth 100000 in
set_option maxHeartbeats 2000000 in
theorem lent_any (W : World) (n c : Nat) (ax : Option Addr) (l : List UInt8) (hx : Src W (.slice ax n c) l) (hn : l.length = n) (hl : n ≤ 1048576) :
    Calls Tryd.prog 53 #[.slice ax n c] W fun e w' => ∃ k cap, e = .returned (.slice (some ⟨k, 0, none⟩) n cap) ∧ n + 2 ≤ cap ∧ w'.ownsRow W.heap.size 5 1 (.slice (some ⟨k, 0, none⟩) (n + 2) cap) (n + 2) (bVs (l ++ [201, 202])) ∧ Below W.heap.size W w' := by
  subst hn
  obtain ⟨v1, W1, hr1, ho1, hb1⟩ := fresh_any W (.slice ax l.length c) 45 l hx (by omega)
  have hA := (Below.refl W1.heap.size W1).alloc (Nat.le_refl _) (.cells #[.int .u8 201, .int .u8 202] 5)
  have hm : Src (W1.alloc (.cells #[.int .u8 201, .int .u8 202] 5)) (.slice (some ⟨W1.heap.size, 0, none⟩) 2 2) [201, 202] := .inr ⟨⟨W1.heap.size, 0, none⟩, 2, rfl, fun j v hj => by
    rw [Lib.addr_add, cell_of_row _ _ _ _ _ (0, 0) (heap_alloc_new _ _)]
    rcases j with _ | _ | j
    · simpa [bVs, bV] using hj
    · simpa [bVs, bV] using hj
    · simp [bVs] at hj⟩
  obtain ⟨v2, W2, hr2, ho2, hg2, -⟩ := app_any (W1.alloc (.cells #[.int .u8 201, .int .u8 202] 5)) W.heap.size v1 (.slice (some ⟨W1.heap.size, 0, none⟩) 2 2) 45 l [201, 202] (ownsRow_below5 ho1 hA) (Nat.le_trans hb1.size hA.size) hm (by simp; omega)
  have hb2 : Below W.heap.size W W2 := (hb1.trans (hA.mono hb1.size)).trans (bel_grown (ownsRow_below5 ho1 hA) hg2 (Nat.le_trans hb1.size hA.size))
  have hln : (l ++ [201, 202]).length = l.length + 2 := by rw [List.length_append]; rfl
  rw [hln] at ho2
  obtain ⟨k, cap, hv, hc2, hcm⟩ : ∃ k cap, v2 = .slice (some ⟨k, 0, none⟩) (l.length + 2) cap ∧ l.length + 2 ≤ cap ∧ cap ≤ 9223372036854775807 := by
    rcases ho2.2 with ⟨_, hz⟩ | ⟨k, cap, cur, hv, _, _, h2, h3, _⟩
    · omega
    · exact ⟨k, cap, hv, h2, by unfold maxLen at h3; omega⟩
  subst hv
  obtain ⟨a1, c1, rfl, -, -⟩ := own_shape2 ho1
  have HE := Lib.hid (And.intro ho2 hb2)
  clear ho2 hb2 hg2 hm hb1 ho1 hA hx
  go_enter Tryd.func53, Tryd.ntmps53
  go_wp2_with (first
    | (at_builtin; refine wpList_append_at _ rfl _ _ _ _ rfl _ _ rfl rfl _ _ hr1 ?_)
    | (at_builtin; go_loud (refine wpList_append_at _ rfl _ _ _ _ rfl _ _ rfl rfl _ _ hr2 ?_)))
  go_ret
  exact ⟨k, cap, rfl, hc2, HE.out.1, HE.out.2⟩

end Go.Proofs.YtaibehfpbcgijaaDoor.Asc
