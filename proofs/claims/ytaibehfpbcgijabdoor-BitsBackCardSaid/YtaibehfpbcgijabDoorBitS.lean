/- The document's writer of bits: Align, whole bytes, what is there. -/
import Derived.Test.YtaibehfpbcgijabDoorBitR
import Derived.Deep.LoopGhost
namespace Go.Proofs.YtaibehfpbcgijabDoor.Bit
open Go.RowKit Go.Shelf Go.Proofs.YtaibehfpbcgijabDoor.Mem

set_option maxHeartbeats 2000000 in
theorem wrefAlign_any (W : World) (B c k : Nat) (l : List Bool) (h : RW W B c k l) (hl : l.length ≤ 8388608) :
    Calls Tryd.prog 33 #[.pointer (some ⟨c, 0, none⟩)] W fun e w' => e = .returned (.tuple #[]) ∧ RStep W w' B c k (alignL l) := by
  have H := Lib.hid h
  clear h
  go_enter Tryd.func33, Tryd.ntmps33
  go_wp2
  go_loopg [] (padN l.length) (fun g wr => ∃ j : Nat, j + g = padN l.length ∧ RStep W wr B c k (l ++ List.replicate j false))
  case atStart => exact ⟨0, by omega, by simpa using RStep.refl H.out⟩
  case round =>
    obtain ⟨j, hj, hW⟩ := hrel
    have hj' := hj
    unfold padN at hj'
    have hll : (l ++ List.replicate j false).length = l.length + j := by rw [List.length_append, List.length_replicate]
    cases gk with
    | zero =>
      obtain rfl : j = padN l.length := by omega
      obtain ⟨k', q1, q2, q3⟩ := hW
      have HE : Hid (RStep W wr B c k (alignL l)) := Lib.hid ⟨k', q1, q2, q3⟩
      obtain ⟨v, hc, ho, -⟩ := q1
      obtain ⟨ao, cap, rfl, -, -, -⟩ := own_shape ho
      have c0 : wr.cell? ⟨c, 0, none⟩ = some (.slice ao (l ++ List.replicate (padN l.length) false).length cap) := by rw [Lib.cell_of_heap hc]; rfl
      rw [hll] at c0
      have h8 : ((l.length + padN l.length : Nat) : Int) % 8 = 0 := by unfold padN; omega
      have hb8 : ((l.length + padN l.length : Nat) : Int) ≤ 8388616 := by unfold padN; omega
      generalize l.length + padN l.length = n at *
      clear hc ho q2 q3 hj hj' hll
      go_wp2
      go_end0
      exact ⟨rfl, HE.out⟩
    | succ g =>
      obtain ⟨k', q1, q2, q3⟩ := hW
      obtain ⟨ao2, cap2, ao1, cap1, W1, d0, hr1, f0, d1, hst⟩ := app_bit wr B c k' _ false q1 (by rw [hll]; omega)
      have HE := Lib.hid (RStep.trans q1 q2 q3 hst)
      have e : (l ++ List.replicate j false) ++ [false] = l ++ List.replicate (j + 1) false := by rw [List.append_assoc, List.replicate_succ']
      rw [e] at HE
      rw [hll] at d0 hr1 d1 HE
      have h8 : ¬ ((l.length + j : Nat) : Int) % 8 = 0 := by omega
      have hb8 : ((l.length + j : Nat) : Int) ≤ 8388616 := by omega
      have hx0 : (Value.int .u8 ((false.toNat : Nat) : Int)) = .int .u8 0 := rfl
      rw [hx0] at hr1
      generalize l.length + j = n at *
      clear q1 q2 q3 hst hj' hll hx0 e
      go_wp2_with (at_builtin; refine wpList_append_at _ rfl _ _ _ _ rfl _ _ rfl rfl _ _ hr1 ?_)
      go_roundg g
      case rel => exact ⟨j + 1, by omega, HE.out⟩
      case measure => omega

set_option maxHeartbeats 1000000 in
theorem wrefRaw_size (W : World) (B c k n cx : Nat) (ax : Option Addr) (l : List Bool) (h : RW W B c k l) (hl : l.length ≤ 8388608) (hs : 1048576 < (l.length + 7) / 8 + n) :
    Calls Tryd.prog 34 #[.pointer (some ⟨c, 0, none⟩), .slice ax n cx] W fun e w' => e = .returned (.int .i64 6) ∧ W = w' := by
  obtain ⟨v, hc, ho, -⟩ := h
  obtain ⟨ao, cap, rfl, -, -, -⟩ := own_shape ho
  have c0 : W.cell? ⟨c, 0, none⟩ = some (.slice ao l.length cap) := by rw [Lib.cell_of_heap hc]; rfl
  have hgt : 1048576 - ((l.length : Int) + 7) / 8 < (n : Int) := by omega
  clear hc ho
  go_enter Tryd.func34, Tryd.ntmps34
  go_wp2
  go_ret
  exact ⟨rfl, rfl⟩

theorem byte_put (W : World) (B c k : Nat) (x : UInt8) (l : List Bool) (h : RW W B c k l) (hs : l.length + 8 ≤ 8388608) :
    Calls Tryd.prog 32 #[.pointer (some ⟨c, 0, none⟩), .int .i64 (x.toNat : Int), .int .i64 8] W fun e w' => e = .returned (.int .i64 0) ∧ RStep W w' B c k (l ++ bitsOf (x.toNat : Int) 8) :=
  refPut_ok W B c k 8 (x.toNat : Int) l h (by decide) (by omega) (by have := UInt8.toNat_lt x; have e : (2 : Int) ^ 8 = 256 := by decide
                                                                     rw [e]; omega) hs

set_option maxHeartbeats 2000000 in
theorem wrefRaw_ok (W0 W : World) (B c k n cx : Nat) (ax : Option Addr) (l : List Bool) (cs : List UInt8) (h : RW W B c k l) (hW : Below B W0 W) (hBW : B ≤ W.heap.size) (hx : ∀ w', Below B W0 w' → Src w' (.slice ax n cx) cs) (hn : cs.length = n) (hl : l.length ≤ 8388608) (hs : (l.length + 7) / 8 + n ≤ 1048576) :
    Calls Tryd.prog 34 #[.pointer (some ⟨c, 0, none⟩), .slice ax n cx] W fun e w' => e = .returned (.int .i64 0) ∧ RStep W w' B c k (alignL l ++ rawL cs) := by
  subst hn
  have hBc := h.lec
  have hBk := h.lek
  have HA := Lib.hid (wrefAlign_any W B c k l h hl)
  obtain ⟨v, hc, ho, -⟩ := h
  obtain ⟨ao, cap, rfl, -, -, -⟩ := own_shape ho
  have c0 : W.cell? ⟨c, 0, none⟩ = some (.slice ao l.length cap) := by rw [Lib.cell_of_heap hc]; rfl
  have hgt : ¬ 1048576 - ((l.length : Int) + 7) / 8 < (cs.length : Int) := by omega
  have HX := Lib.hid hx
  have HWB := Lib.hid hW
  have HSz := Lib.hid hBW
  have hal := alignL_len l
  clear hc ho hx hW hBW
  have HAl : Hid ((alignL l).length + 8 * cs.length ≤ 8388608) := Lib.hid (by omega)
  clear hal
  go_enter Tryd.func34, Tryd.ntmps34
  go_wp2_with (go_at_call 33; refine HA.out.mono ?_; rintro e w1 ⟨rfl, hw1⟩; have HW1 := Lib.hid hw1; clear hw1)
  clear c0
  go_loopw [6] (fun i wr => ∃ j : Nat, j ≤ cs.length ∧ i = .int .i64 j ∧ RStep W wr B c k (alignL l ++ rawL (cs.take j))) (fun i _ => cs.length - (intOf i).toNat)
  case atStart => exact ⟨0, Nat.zero_le _, rfl, by simpa [rawL] using HW1.out⟩
  case round =>
    obtain ⟨j, hj, rfl, hW⟩ := hrel
    by_cases hlt : j < cs.length
    · obtain ⟨k', q1, q2, q3⟩ := hW
      have hbel : Below B W0 wr := HWB.out.trans (q3.below HSz.out (by rintro i (rfl | rfl) <;> assumption))
      have hsr := HX.out wr hbel
      cases ax with
      | none =>
        rcases hsr with ⟨_, h0⟩ | ⟨a, c', hv, _⟩
        · rw [h0] at hlt; simp at hlt
        · cases hv
      | some a =>
        have hcell := src_cell hsr j hlt
        have hll : (alignL l ++ rawL (cs.take j)).length = (alignL l).length + 8 * j := by rw [List.length_append, rawL_len, List.length_take, Nat.min_eq_left (by omega)]
        have HP := Lib.hid (byte_put wr B c k' cs[j] _ q1 (by rw [hll]; have := HAl.out; omega))
        have HT := Lib.hid (fun w' => RStep.trans (m := (alignL l ++ rawL (cs.take j)) ++ bitsOf ((cs[j]).toNat : Int) 8) (W := w') q1 q2 q3)
        have HSn : Hid ((alignL l ++ rawL (cs.take j)) ++ bitsOf ((cs[j]).toNat : Int) 8 = alignL l ++ rawL (cs.take (j + 1))) := Lib.hid (by
          rw [List.take_succ_eq_append_getElem hlt, rawL_snoc, List.append_assoc])
        have hx255 : ((cs[j]).toNat : Int) ≤ 255 := by have := UInt8.toNat_lt cs[j]; omega
        generalize cs[j] = x at *
        clear q1 q2 q3 hsr hbel hll
        go_wp2_with (go_at_call 32; refine HP.out.mono ?_; rintro e w1 ⟨rfl, hw1⟩; have HW2 := Lib.hid hw1; clear hw1)
        go_roundw
        case rel => exact ⟨j + 1, by omega, by go_num, by rw [← HSn.out]; exact HT.out _ HW2.out⟩
        case measure => simp [intOf]; omega
    · obtain rfl : j = cs.length := by omega
      rw [List.take_length] at hW
      have HW := Lib.hid hW
      clear hW
      go_wp2
      go_ret
      exact ⟨rfl, HW.out⟩

end Go.Proofs.YtaibehfpbcgijabDoor.Bit
