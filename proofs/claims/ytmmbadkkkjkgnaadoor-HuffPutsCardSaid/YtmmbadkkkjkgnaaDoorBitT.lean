/- The document's writer of bits: what is there, as bytes. -/
import Derived.Test.YtmmbadkkkjkgnaaDoorBitS
namespace Go.Proofs.YtmmbadkkkjkgnaaDoor.Bit
open Go.RowKit Go.Shelf Go.Proofs.YtmmbadkkkjkgnaaDoor.Mem

/-- Bytes, and bytes 0 behind them, n of them. -/
def padTo (n : Nat) (r : List UInt8) : List UInt8 := r ++ List.replicate (n - r.length) 0
theorem padTo_len (n : Nat) (r : List UInt8) (h : r.length ≤ n) : (padTo n r).length = n := by unfold padTo; rw [List.length_append, List.length_replicate]; omega
theorem padTo_zero (n : Nat) (r : List UInt8) (h : r.length < n) : padTo n (r ++ [0]) = padTo n r := by
  unfold padTo
  rw [List.append_assoc, List.length_append, List.length_singleton]
  congr 1
  rw [show n - r.length = (n - (r.length + 1)) + 1 by omega, List.replicate_succ]
  rfl
theorem padTo_set (n i : Nat) (r : List UInt8) (x : UInt8) (h : i < r.length) : padTo n (r.set i x) = (padTo n r).set i x := by
  unfold padTo
  rw [List.length_set, List.set_append_left _ _ h]
theorem padTo_at (n i : Nat) (r : List UInt8) (h : i < r.length) : (padTo n r).getD i 0 = r.getD i 0 := by
  unfold padTo
  rw [List.getD_eq_getElem?_getD, List.getD_eq_getElem?_getD, List.getElem?_append_left h]
theorem pad_step (l : List Bool) (n k : Nat) (hk : k < l.length) (hn : (l.length + 7) / 8 = n) :
    padTo n (pk (l.take (k + 1))) = (padTo n (pk (l.take k))).set (k / 8) (if l[k] then orB ((padTo n (pk (l.take k))).getD (k / 8) 0) (k % 8) else (padTo n (pk (l.take k))).getD (k / 8) 0) := by
  have hlt : (l.take k).length = k := by rw [List.length_take]; omega
  have hpl := pk_len (l.take k)
  rw [hlt] at hpl
  rw [List.take_succ_eq_append_getElem hk, pk_snoc, hlt]
  generalize pk (l.take k) = r at *
  generalize l[k] = b
  unfold put1
  have hr' : padTo n (if k = 8 * r.length then r ++ [0] else r) = padTo n r := by
    split
    · exact padTo_zero n r (by omega)
    · rfl
  have hl' : k / 8 < (if k = 8 * r.length then r ++ [0] else r).length := by
    split
    · rw [List.length_append, List.length_singleton]; omega
    · omega
  rw [← hr']
  generalize (if k = 8 * r.length then r ++ [0] else r) = r' at *
  rw [padTo_at n _ r' hl']
  cases b
  · rw [if_neg (by decide), if_neg (by decide), ← padTo_set n _ r' _ hl', List.getD_eq_getElem?_getD, List.getElem?_eq_getElem hl', Option.getD_some, List.set_getElem_self]
  · rw [if_pos rfl, if_pos rfl, padTo_set n _ r' _ hl']
theorem pad_full (l : List Bool) (n : Nat) (hn : (l.length + 7) / 8 = n) : padTo n (pk l) = pk l := by
  unfold padTo
  rw [pk_len, hn, Nat.sub_self, List.replicate_zero, List.append_nil]

theorem shl_bit (b : Bool) (i : Nat) (h : i < 8) : IntKind.u8.wrap (((bitV b).toNat : Int) * 2 ^ i) = if b then (2 : Int) ^ i else 0 := by
  rcases (by omega : i = 0 ∨ i = 1 ∨ i = 2 ∨ i = 3 ∨ i = 4 ∨ i = 5 ∨ i = 6 ∨ i = 7) with rfl | rfl | rfl | rfl | rfl | rfl | rfl | rfl <;> cases b <;> decide +kernel
theorem or_bit (x : UInt8) (b : Bool) (i : Nat) (h : i < 8) : bits BinOp.or IntKind.u8 (x.toNat : Int) (IntKind.u8.wrap (((bitV b).toNat : Int) * 2 ^ i)) = ((if b then orB x i else x).toNat : Int) := by
  rw [shl_bit b i h]
  cases b
  · have := u8_or_nat x.toNat 0 (UInt8.toNat_lt x) (by decide)
    rw [if_neg (by decide), if_neg (by decide)]
    refine (show bits BinOp.or IntKind.u8 (x.toNat : Int) 0 = _ from this).trans ?_
    rw [Nat.or_zero]
  · rw [if_pos rfl, if_pos rfl]
    exact or_byte x i h

set_option maxRecDepth 100000 in
set_option maxHeartbeats 4000000 in
theorem wrefBytes_any (W : World) (B c k : Nat) (l : List Bool) (h : RW W B c k l) (hl : l.length ≤ 8388608) :
    Calls Tryd.prog 22 #[.pointer (some ⟨c, 0, none⟩)] W fun e w' => ∃ v, e = .returned v ∧ w'.ownsRow W.heap.size 5 1 v (pk l).length (bVs (pk l)) ∧ Below W.heap.size W w' := by
  obtain ⟨n, hn⟩ : ∃ n, (l.length + 7) / 8 = n := ⟨_, rfl⟩
  have hpf := pad_full l n hn
  have hpl : (pk l).length = n := (pk_len l).trans hn
  rw [hpl]
  have hnl : n ≤ 1048576 := by omega
  obtain ⟨i0, hi, hz0, hz1, hz2⟩ := info_parts info5
  obtain ⟨W1, hr1, ho1, hg1⟩ := run_make_full (P := Tryd.prog) W W.heap.size 23 5 i0 (.int .u8 0) 1 Tryd.underlying23 hi hz0 hz1 .i64 .i64 n (by rw [hz2]; omega) (by unfold maxLen; omega) (Nat.le_refl _)
  have hb1 : Below W.heap.size W W1 := ⟨hg1.os, hg1.tape, hg1.output, hg1.size, fun k hk => hg1.block k hk (fun e => by cases e)⟩
  rw [show (Value.int .u8 0).cells = #[.int .u8 0] from rfl, toList_madeCells_one, show List.replicate (n * 1) (Value.int .u8 0) = bVs (padTo n (pk (l.take 0))) by
    rw [List.take_zero, pk_nil]; unfold padTo bVs; rw [List.nil_append, List.map_replicate]; simp [bV]] at ho1
  have hnc : ((n : Nat) : Int) = ((l.length : Int) + 7) / 8 := by omega
  rw [hnc] at hr1
  have H := Lib.hid h
  obtain ⟨v, hc, ho, hv, -⟩ := h
  obtain ⟨ao, cap, rfl, hcap, hcm, hnone⟩ := own_shape ho
  have c0 : W.cell? ⟨c, 0, none⟩ = some (.slice ao l.length cap) := by rw [Lib.cell_of_heap hc]; rfl
  have hcW := H.out.lt
  have HC := Lib.hid hc
  have HO := Lib.hid ho
  have HO1 := Lib.hid ho1
  have HB1 := Lib.hid hb1
  have HPF := Lib.hid hpf
  have HN := Lib.hid hn
  have mixed : Tryd.prog.follows .mixedOrders = true := by kernel_rfl
  clear hc ho ho1 hb1 hpf hpl hg1 hv
  have HLn : Hid (ao = none → l.length = 0 ∧ cap = 0) := Lib.hid hnone
  have hl2 : (l.length : Int) ≤ 8388608 := by omega
  clear hnone hn hnc hz0 hz1 hz2 hi
  go_enter Tryd.func22, Tryd.ntmps22
  go_wp2
  obtain ⟨q, hq⟩ : ∃ q, W.heap.size = q := ⟨_, rfl⟩
  have HQ := Lib.hid hq
  rw [hq] at HO1 HB1 hcW ⊢
  clear hr1 hq
  go_loopw [4] (fun i wr => ∃ j : Nat, j ≤ l.length ∧ i = .int .i64 j ∧ wr.ownsRow q 5 1 (.slice (some ⟨q, 0, none⟩) n n) n (bVs (padTo n (pk (l.take j)))) ∧ Below q W wr) (fun i _ => l.length - (intOf i).toNat)
  case atStart => exact ⟨0, Nat.zero_le _, rfl, HO1.out, HB1.out⟩
  case round =>
    obtain ⟨j, hj, rfl, hro, hbe⟩ := hrel
    have c0r : wr.cell? ⟨c, 0, none⟩ = some (.slice ao l.length cap) := (hbe.cell (p := ⟨c, 0, none⟩) hcW).trans c0
    have HRo := Lib.hid hro
    have HBe := Lib.hid hbe
    by_cases hlt : j < l.length
    · cases ao with
      | none => have := (HLn.out rfl).1; omega
      | some a =>
        obtain ⟨g, rfl, -, hgW⟩ := own_block HO.out
        have hgq : g < q := by rw [← HQ.out]; exact hgW
        have hLc := src_cell (Src.of_own HO.out (bitsV_len l).symm) j (by rw [bitsV_len]; exact hlt)
        rw [Lib.addr_add, Nat.zero_add] at hLc
        have hLr : wr.cell? ⟨g, j, none⟩ = some (.int .u8 ((bitV l[j]).toNat : Int)) := ((hbe.cell (p := ⟨g, j, none⟩) hgq).trans hLc).trans (by simp [bitsV])
        have hjn : j / 8 < n := by have := HN.out; omega
        have hpad : (padTo n (pk (l.take j))).length = n := padTo_len n _ (by rw [pk_len, List.length_take]; have := HN.out; omega)
        have hoc := src_cell (Src.of_own hro hpad.symm) (j / 8) (by omega)
        rw [Lib.addr_add, Nat.zero_add] at hoc
        have hof := hro.frozenAt (j / 8)
        have hps := pad_step l n j hlt HN.out
        have hgd : (padTo n (pk (l.take j))).getD (j / 8) 0 = (padTo n (pk (l.take j)))[j / 8]'(by omega) := by rw [List.getD_eq_getElem?_getD, List.getElem?_eq_getElem (by omega)]; rfl
        rw [hgd] at hps
        have HSet := fun y => Lib.hid (own_set hro (j / 8) y)
        generalize (padTo n (pk (l.take j)))[j / 8]'(by omega) = old at *
        have hor := or_bit old l[j] (j % 8) (Nat.mod_lt _ (by decide))
        rw [IntKind.wrap_u8] at hor
        generalize l[j] = x at *
        have HPS := Lib.hid hps
        have hi8 : (j : Int) / 8 < (n : Int) := by omega
        have hm8 : (j : Int) % 8 ≤ 8 := by omega
        clear hps hgd hpad hro hbe hLc
        go_wp2
        go_region
        all_goals
          go_wp2
          go_roundw
          case rel => exact ⟨j + 1, by omega, by go_num, by rw [HPS.out]; exact own_drew (HSet _).out ⟨rfl, rfl, rfl, rfl⟩, (HBe.out.setCell (p := ⟨q, j / 8, none⟩) (Nat.le_refl _) _).drew⟩
          case measure => simp [intOf]; omega
    · obtain rfl : j = l.length := by omega
      rw [List.take_length, HPF.out] at HRo
      clear hro hbe
      go_wp2
      go_ret
      refine ⟨_, rfl, ?_⟩
      rw [HQ.out]
      exact ⟨HRo.out, HBe.out⟩

end Go.Proofs.YtmmbadkkkjkgnaaDoor.Bit
