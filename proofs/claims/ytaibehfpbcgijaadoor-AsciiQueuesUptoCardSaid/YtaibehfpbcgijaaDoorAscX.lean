/- The document's queue: a line comes out. -/
import Derived.Test.YtaibehfpbcgijaaDoorAscW
namespace Go.Proofs.YtaibehfpbcgijaaDoor.Asc
open Go.RowKit Go.Shelf

/-- P105: a line without the byte 13 at its end. -/
def lineL (w : List UInt8) : List UInt8 := if w.getLast? = some 13 then w.dropLast else w

theorem lineL_nil : lineL [] = [] := rfl
theorem lineL_cut (l : List UInt8) (i : Nat) (h0 : 0 < i) (hi : i ≤ l.length) (h : l[i - 1]? = some 13) : lineL (l.take i) = l.take (i - 1) := by
  unfold lineL
  rw [if_pos (by rw [List.getLast?_eq_getElem?, List.length_take, Nat.min_eq_left hi, List.getElem?_take, if_pos (by omega)]; exact h), List.dropLast_eq_take, List.length_take, Nat.min_eq_left hi, List.take_take, Nat.min_eq_left (by omega)]
theorem lineL_whole (l : List UInt8) (i : Nat) (h0 : 0 < i) (hi : i ≤ l.length) (h : l[i - 1]? ≠ some 13) : lineL (l.take i) = l.take i := by
  unfold lineL
  rw [if_neg]
  rw [List.getLast?_eq_getElem?, List.length_take, Nat.min_eq_left hi, List.getElem?_take, if_pos (by omega)]
  exact h

theorem src_take {W : World} {B m n cap : Nat} {ao : Option Addr} {l : List UInt8} (h : W.ownsRow B 5 1 (.slice ao n cap) n (bVs l)) (hn : n = l.length) (hm : m ≤ n) : Src W (.slice ao m cap) (l.take m) := by
  subst hn
  rcases Src.of_own h rfl with ⟨hv, h0⟩ | ⟨a, c, hv, hcell⟩
  · subst h0
    cases hv
    have : m = 0 := by simpa using hm
    subst this
    exact .inl ⟨rfl, rfl⟩
  · cases hv
    refine .inr ⟨a, _, by rw [List.length_take, Nat.min_eq_left hm], fun j v hj => hcell j v ?_⟩
    rw [bVs, List.getElem?_map] at hj ⊢
    rw [List.getElem?_take] at hj
    split at hj
    · exact hj
    · cases hj

theorem row_cell {W : World} {B n cap : Nat} {a : Addr} {l : List UInt8} (h : W.ownsRow B 5 1 (.slice (some a) n cap) n (bVs l)) (j : Nat) (hj : j < l.length) : W.cell? (a.add j) = some (.int .u8 ((l[j]).toNat : Int)) := by
  rcases h.2 with ⟨hv, _⟩ | ⟨g, cap', cur, hv, _⟩
  · cases hv
  · cases hv
    refine h.cells rfl j _ ?_
    rw [bVs, List.getElem?_map, List.getElem?_eq_getElem hj]
    rfl

theorem take_cells {W : World} {B n cap : Nat} {ao : Option Addr} {l : List UInt8} (h : W.ownsRow B 5 1 (.slice ao (n + 1) cap) (n + 1) (bVs (l.take (n + 1)))) :
    ∃ a, ao = some a ∧ ∀ j, j < n + 1 → ∀ hj : j < l.length, W.cell? (a.add j) = some (.int .u8 ((l[j]).toNat : Int)) := by
  rcases h.2 with ⟨hv, h0⟩ | ⟨g, cap', cur, hv, _⟩
  · omega
  · cases hv
    refine ⟨_, rfl, fun j hj hjl => h.cells rfl j _ ?_⟩
    rw [bVs, List.getElem?_map, List.getElem?_take, if_pos hj, List.getElem?_eq_getElem hjl]
    rfl

set_option maxRecDepth 100000 in
set_option maxHeartbeats 4000000 in
theorem refLine_any (W : World) (c k : Nat) (lim : Int) (l : List UInt8) (h : Rq W c k lim l) (hl : l.length ≤ 1048576) :
    Calls Tryd.prog 58 #[.pointer (some ⟨c, 0, none⟩)] W fun e w' =>
      (e = .returned (.tuple #[.slice none 0 0, .bool false]) ∧ w' = W ∧ ∀ j : Nat, l[j]? ≠ some 10) ∨
      ∃ (i : Nat) (v : Value) (k' : Nat), i < l.length ∧ l[i]? = some 10 ∧ (∀ j : Nat, j < i → l[j]? ≠ some 10) ∧ e = .returned (.tuple #[v, .bool true]) ∧ Src w' v (lineL (l.take i)) ∧ Rq w' c k' lim (l.drop (i + 1)) ∧ (k' = c ∨ W.heap.size ≤ k') ∧ Upd c c W w' := by
  have H := Lib.hid h
  obtain ⟨v0, hc, ho, -⟩ := h
  obtain ⟨ao, cc, rfl, hcap, hcm⟩ := own_shape2 ho
  have c0 : W.cell? ⟨c, 0, none⟩ = some (.slice ao l.length cc) := by rw [Lib.cell_of_heap hc]; rfl
  have HOw := Lib.hid ho
  clear hc ho
  go_enter Tryd.func58, Tryd.ntmps58
  go_wp2
  go_loopw [4] (fun s4 wr => ∃ k : Nat, k ≤ l.length ∧ s4 = .int .i64 k ∧ wr = W ∧ ∀ j : Nat, j < k → l[j]? ≠ some 10) (fun i _ => l.length - (RowKit.intOf i).toNat)
  case atStart => exact ⟨0, Nat.zero_le _, rfl, rfl, fun j hj => by omega⟩
  case round =>
    obtain ⟨n, hn, rfl, rfl, hno⟩ := hrel
    have HNo := Lib.hid hno
    clear hno
    by_cases hlt : n < l.length
    · cases ao with
      | none =>
        exfalso
        rcases HOw.out.2 with ⟨hv, h0⟩ | ⟨g, cap, cur, hv, _⟩
        · omega
        · cases hv
      | some a =>
        have hcell := row_cell HOw.out n hlt
        by_cases h10 : l[n] = 10
        · have hT := refTake_any wr c k lim ((n : Int) + 1) l H.out hl
          have hg : giveN ((n : Int) + 1) l.length = n + 1 := by unfold giveN; rw [if_neg (by omega)]; omega
          rw [hg] at hT
          have HT := Lib.hid hT
          rw [h10] at hcell
          have h10' : l[n]? = some 10 := by rw [List.getElem?_eq_getElem hlt, h10]
          have H10 := Lib.hid h10'
          clear hT hg h10 h10'
          by_cases hn0 : n = 0
          · subst hn0
            rw [show ((0 : Nat) : Int) + 1 = 1 from rfl] at HT
            have hcell0 := hcell
            rw [show a.add 0 = a from by simp [Addr.add]] at hcell0
            go_wp2_with (go_at_call 56; refine HT.out.mono ?_; rintro e w1 ⟨v, k', rfl, ho1, r1, r2, r3, -⟩; obtain ⟨ao1, c1, rfl, hc1, hc2⟩ := own_shape2 ho1; obtain ⟨a1, rfl, hcs⟩ := take_cells ho1; clear hcs; have HO1 := Lib.hid ho1; have HR := Lib.hid (And.intro r1 (And.intro r2 r3)); clear ho1 r1 r2 r3)
            go_ret2
            refine .inr ⟨0, _, k', hlt, H10.out, HNo.out, rfl, ?_, HR.out.1, HR.out.2.1, HR.out.2.2⟩
            exact src_take HO1.out (by rw [List.length_take]; omega) (Nat.zero_le _)
          · have hn1 : n - 1 < l.length := by omega
            have hsub : ((n : Int) - 1) = ((n - 1 : Nat) : Int) := by omega
            by_cases h13 : l[n - 1] = 13
            · have h13' : l[n - 1]? = some 13 := by rw [List.getElem?_eq_getElem hn1, h13]
              have HL := Lib.hid (lineL_cut l n (by omega) hn h13')
              clear h13'
              go_wp2_with (go_at_call 56; refine HT.out.mono ?_; rintro e w1 ⟨v, k', rfl, ho1, r1, r2, r3, -⟩; obtain ⟨ao1, c1, rfl, hc1, hc2⟩ := own_shape2 ho1; obtain ⟨a1, rfl, hcs⟩ := take_cells ho1; have c13 := hcs (n - 1) (by omega) hn1; rw [h13] at c13; clear hcs; have HO1 := Lib.hid ho1; have HR := Lib.hid (And.intro r1 (And.intro r2 r3)); clear ho1 r1 r2 r3)
              go_ret2
              refine .inr ⟨n, _, k', hlt, H10.out, HNo.out, rfl, ?_, HR.out.1, HR.out.2.1, HR.out.2.2⟩
              rw [HL.out]
              have := src_take (m := n - 1) HO1.out (by rw [List.length_take]; omega) (by omega)
              rw [List.take_take, Nat.min_eq_left (by omega)] at this
              exact this
            · have h13' : l[n - 1]? ≠ some 13 := by rw [List.getElem?_eq_getElem hn1]; simpa using h13
              have HL := Lib.hid (lineL_whole l n (by omega) hn h13')
              have hne : ((l[n - 1]).toNat : Int) ≠ 13 := fun e => h13 (UInt8.toNat_inj.1 (by have : (l[n - 1]).toNat = 13 := by omega
                                                                                              rw [this]; rfl))
              clear h13'
              go_wp2_with (go_at_call 56; refine HT.out.mono ?_; rintro e w1 ⟨v, k', rfl, ho1, r1, r2, r3, -⟩; obtain ⟨ao1, c1, rfl, hc1, hc2⟩ := own_shape2 ho1; obtain ⟨a1, rfl, hcs⟩ := take_cells ho1; have c13 := hcs (n - 1) (by omega) hn1; clear hcs; have HO1 := Lib.hid ho1; have HR := Lib.hid (And.intro r1 (And.intro r2 r3)); clear ho1 r1 r2 r3)
              go_ret2
              refine .inr ⟨n, _, k', hlt, H10.out, HNo.out, rfl, ?_, HR.out.1, HR.out.2.1, HR.out.2.2⟩
              rw [HL.out]
              have := src_take (m := n) HO1.out (by rw [List.length_take]; omega) (by omega)
              rw [List.take_take, Nat.min_eq_left (by omega)] at this
              exact this
        · have hne : ((l[n]).toNat : Int) ≠ 10 := fun e => h10 (UInt8.toNat_inj.1 (by have : (l[n]).toNat = 10 := by omega
                                                                                      rw [this]; rfl))
          have hnx : ∀ j : Nat, j < n + 1 → l[j]? ≠ some 10 := fun j hj => by
            rcases Nat.lt_or_ge j n with h | h
            · exact HNo.out j h
            · obtain rfl : j = n := by omega
              rw [List.getElem?_eq_getElem hlt]
              simpa using h10
          have HNx := Lib.hid hnx
          clear hnx
          go_wp2
          go_roundw
          case rel => exact ⟨n + 1, by omega, by go_num, by first | trivial | rfl, HNx.out⟩
          case measure => simp [RowKit.intOf]; omega
    · go_wp2
      go_ret2
      exact .inl ⟨rfl, rfl, fun j hj => by
        have := (List.getElem?_eq_some_iff.1 hj).1
        exact HNo.out j (by omega) hj⟩

end Go.Proofs.YtaibehfpbcgijaaDoor.Asc
