/- A writer of package bits gets a bit more, and a byte more for it. -/
import Derived.Test.YtmmbadkkkjkgnaaDoorBitB
namespace Go.Proofs.YtmmbadkkkjkgnaaDoor.Bit
open Go.RowKit Go.Shelf Go.Proofs.YtmmbadkkkjkgnaaDoor.Mem

set_option maxRecDepth 100000 in
set_option maxHeartbeats 2000000 in
/-- A bit more, where all bytes are full. -/
theorem putBit_full (W : World) (B b g : Nat) (l : List Bool) (x : Bool) (h : WB W B b g l) (hm : Masks W B) (hl : l.length < 8388608) (hr : l.length = 8 * (pk l).length) :
    Calls Tryd.prog 44 #[.pointer (some ⟨b, 0, none⟩), .int .i64 x.toNat] W fun e w' => e = .returned (.tuple #[]) ∧ WStep W w' B b g (l ++ [x]) := by
  have hbl := h.leb
  have hbW := h.lt
  have hgl := h.leg
  obtain ⟨v, hc, ho, hv, hB⟩ := h
  obtain ⟨ao, cap, rfl, hcap, hcm, hnone⟩ := own_shape ho
  have c1 : W.cell? ⟨b, 1, none⟩ = some (.slice ao (pk l).length cap) := by rw [Lib.cell_of_heap hc]; rfl
  have c2 : W.cell? ⟨b, 2, none⟩ = some (.int .i64 l.length) := by rw [Lib.cell_of_heap hc]; rfl
  have mixed : Tryd.prog.follows .mixedOrders = true := by kernel_rfl
  have heq : ((l.length : Int) == 8 * ((pk l).length : Int)) = true := by
    rw [beq_iff_eq]; omega
  have HC := Lib.hid hc
  have HO := Lib.hid ho
  have HM := Lib.hid hm
  have HV := Lib.hid hv
  have HR := Lib.hid hr
  have hn8 : ((pk l).length : Int) ≤ 1048577 := by omega
  clear hc ho hm hv hnone hr
  go_enter Tryd.func44, Tryd.ntmps44
  go_wp2
  go_quiet (fail)
  generalize hW0 : W.drewN _ = W0
  have hd : Drew W W0 := by rw [← hW0]; exact ⟨rfl, rfl, rfl, rfl⟩
  have hs0 : W0.heap.size = W.heap.size := by rw [hd.heap]
  have c10 : W0.cell? ⟨b, 1, none⟩ = some (.slice ao (pk l).length cap) := hd.cell.trans c1
  have c20 : W0.cell? ⟨b, 2, none⟩ = some (.int .i64 l.length) := hd.cell.trans c2
  -- the new byte
  have hA := (Below.refl W0.heap.size W0).alloc (Nat.le_refl _) (.cells #[.int .u8 0] 5)
  have hsrc : Src (W0.alloc (.cells #[.int .u8 0] 5)) (.slice (some ⟨W0.heap.size, 0, none⟩) 1 1) [0] := .inr ⟨⟨W0.heap.size, 0, none⟩, 1, rfl, fun j v hj => by
    rw [Lib.addr_add, cell_of_row _ _ _ _ _ (0, 0) (heap_alloc_new _ _)]
    rcases j with _ | j
    · simpa [bVs, bV] using hj
    · simp [bVs] at hj⟩
  have hoA : (W0.alloc (.cells #[.int .u8 0] 5)).ownsRow B 5 1 (.slice ao (pk l).length cap) (pk l).length (bVs (pk l)) := own_below (own_drew HO.out hd) hA
  obtain ⟨v1, W1, hr1, ho1, hg1, hn1⟩ := app_any (W0.alloc (.cells #[.int .u8 0] 5)) B _ _ 23 (pk l) [0] hoA (Nat.le_trans (Nat.le_trans hbl (Nat.le_of_lt hbW)) (by rw [← hs0]; exact hA.size)) hsrc (by simp; omega)
  have hS1 : Only (fun k => k = b ∨ k = g) W W1 := (hd.only.trans (S' := fun k => k = b ∨ k = g) (Only.of_below hA) (fun i q => .inl q)).trans (S' := fun k => k = g ∧ k ≠ b) (only_grown hg1 (fun k hk => by
    rcases HV.out with ⟨hv, rfl⟩ | ⟨hv, hne⟩
    · rw [hv] at hk; cases hk
    · rw [hv] at hk; cases hk; exact ⟨rfl, hne⟩)) (fun i q => .inl (.inr q.1))
  have hbk : (Value.slice ao (pk l).length cap).ownBlock ≠ some b := by
    rcases HV.out with ⟨hv, rfl⟩ | ⟨hv, hne⟩
    · rw [hv]; exact fun e => by cases e
    · rw [hv]; exact fun e => hne (by simpa using e)
  have hcb : W1.heap[b]? = some (.cells #[.pointer (some ⟨b, 0, none⟩), .slice ao (pk l).length cap, .int .i64 l.length] 79 (0, 0)) :=
    (hg1.block b (Nat.lt_of_lt_of_le hbW (by rw [← hs0]; exact hA.size)) (fun e => hbk e.symm)).trans ((hA.block b (by rw [hs0]; exact hbW)).trans ((by rw [hd.heap] : W0.heap[b]? = W.heap[b]?).trans HC.out))
  have f1 := Lib.frozen_of_heap hcb 1
  have f2 := Lib.frozen_of_heap hcb 2
  have d2 : W1.cell? ⟨b, 2, none⟩ = some (.int .i64 l.length) := by rw [Lib.cell_of_heap hcb]; rfl
  have d1 : W1.cell? ⟨b, 1, none⟩ = some (.slice ao (pk l).length cap) := by rw [Lib.cell_of_heap hcb]; rfl
  obtain ⟨ao1, cap1, rfl, hcap1, hcm1, hnone1⟩ := own_shape ho1
  rw [List.length_append, List.length_singleton] at hcap1
  cases ao1 with
  | none =>
    have h0 := (hnone1 rfl).1
    rw [List.length_append, List.length_singleton] at h0
    omega
  | some a1 =>
    obtain ⟨g1, rfl, hgB1, hgl1⟩ := own_block ho1
    have hg1b : g1 ≠ b := by
      rcases hn1 with q | q
      · intro e; subst e; exact hbk (q.symm.trans rfl)
      · have := q g1 rfl
        have := hA.size
        omega
    have hgg : g1 = g ∨ W.heap.size ≤ g1 := by
      rcases hn1 with q | q
      · rcases HV.out with ⟨hv, _⟩ | ⟨hv, _⟩
        · rw [hv] at q; cases q
        · rw [hv] at q; exact .inl (by simpa [Value.ownBlock] using q)
      · have := q g1 rfl
        have := hA.size
        exact .inr (by omega)
    obtain ⟨V, hV⟩ : ∃ V, V = W1.setCell ⟨b, 1, none⟩ (.slice (some ⟨g1, 0, none⟩) (pk l ++ [0]).length cap1) := ⟨_, rfl⟩
    have hVc : V.heap[b]? = some (.cells #[.pointer (some ⟨b, 0, none⟩), .slice (some ⟨g1, 0, none⟩) (pk l ++ [0]).length cap1, .int .i64 l.length] 79 (0, 0)) := by
      rw [hV]; exact (Lib.heap_setCell_same (i := 1) hcb _).trans rfl
    have hVo : V.ownsRow B 5 1 (.slice (some ⟨g1, 0, none⟩) (pk l ++ [0]).length cap1) (pk l ++ [0]).length (bVs (pk l ++ [0])) := by
      rw [hV]
      exact own_same ho1 (fun k hk => by
        obtain rfl : g1 = k := by simpa [Value.ownBlock] using hk
        exact Below.heap_setCell _ _ _ _ hg1b)
    have hVS : Only (fun k => k = b ∨ k = g) W V := by rw [hV]; exact hS1.trans (S' := fun k => k = b) (Only.setCell (S := fun k => k = b) rfl _ _) (fun i q => .inl (.inl q))
    have HE : ∀ V', Drew V V' → WStep W _ B b g (l ++ [x]) := fun V' d => bit_end ((by rw [d.heap] : V'.heap[b]? = V.heap[b]?).trans hVc) (own_drew hVo d) hB hg1b (by rw [pk_snoc]; unfold put1; rw [if_pos HR.out]) hgg (hVS.trans (S' := fun _ => False) d.only (fun i q => q.elim))
    have e8 : l.length / 8 = (pk l).length := by have := HR.out; omega
    have e9 : l.length % 8 = 0 := by have := HR.out; omega
    have hgd : (pk l ++ [0]).getD (l.length / 8) 0 = 0 := by rw [e8, List.getD_eq_getElem?_getD, List.getElem?_append_right (Nat.le_refl _), Nat.sub_self]; rfl
    rw [hgd, e9] at HE
    have hln : (pk l ++ [0]).length = (pk l).length + 1 := by rw [List.length_append, List.length_singleton]
    have hcell0 : V.cell? ⟨g1, (pk l).length, none⟩ = some (.int .u8 0) := by
      have := src_cell (Src.of_own hVo rfl) (pk l).length (by rw [hln]; omega)
      rw [Lib.addr_add, Nat.zero_add] at this
      simpa using this
    have hfr0 := hVo.frozenAt (pk l).length
    have hmk : V.cell? ⟨0, 0, none⟩ = some (.int .u8 1) := (hVS.cell (HM.out.2 0 (by decide)) (fun q => by
      have := HM.out.1
      rcases q with q | q
      · simp at q; omega
      · simp at q; omega)).trans (by simp)
    have e1 : V.cell? ⟨b, 1, none⟩ = some (.slice (some ⟨g1, 0, none⟩) ((pk l).length + 1) cap1) := by rw [Lib.cell_of_heap hVc, ← hln]; rfl
    have e2 : V.cell? ⟨b, 2, none⟩ = some (.int .i64 l.length) := by rw [Lib.cell_of_heap hVc]; rfl
    have ef2 := Lib.frozen_of_heap hVc 2
    rw [hln] at hV hr1
    have hor : bits BinOp.or IntKind.u8 0 1 = ((orB 0 0).toNat : Int) := or_byte 0 0 (by decide)
    have q1 : (l.length : Int) / 8 = ((pk l).length : Int) := by omega
    have q2 : (l.length : Int) % 8 = 0 := by omega
    have q3 : l.length / 8 = (pk l).length := e8
    have q4 : l.length % 8 = 0 := e9
    rw [e8] at HE
    have HEn := Lib.hid HE
    generalize hmm : (pk l).length = m at *
    generalize hnn : l.length = n at *
    have HVV := Lib.hid hV
    have HRn : Hid (n = 8 * m) := Lib.hid (by have := HR.out; exact this)
    clear c1 c2 hV HE HR HC HO HM HV hVc hVo hVS hS1 hcb ho1 hg1 hn1 hsrc hA hoA hd hs0 hW0 hgd hln e8 e9 hmm hnn hbk hnone1
    cases x with
    | false =>
      go_wp2_with (at_builtin; refine wpList_append_at _ rfl _ _ _ _ rfl _ _ rfl rfl _ _ hr1 ?_)
      go_end0
      refine ⟨rfl, ?_⟩
      rw [← HVV.out]
      exact HEn.out _ (Drew.refl _)
    | true =>
      go_wp2_with (at_builtin; refine wpList_append_at _ rfl _ _ _ _ rfl _ _ rfl rfl _ _ hr1 ?_)
      rw [← HVV.out]
      clear f1 f2 d1 d2 c10 c20 hr1
      go_region
      all_goals
        go_wp2
        go_end0
        exact ⟨rfl, HEn.out V.drew ⟨rfl, rfl, rfl, rfl⟩⟩

theorem putBit_any (W : World) (B b g : Nat) (l : List Bool) (x : Bool) (h : WB W B b g l) (hm : Masks W B) (hl : l.length < 8388608) :
    Calls Tryd.prog 44 #[.pointer (some ⟨b, 0, none⟩), .int .i64 x.toNat] W fun e w' => e = .returned (.tuple #[]) ∧ WStep W w' B b g (l ++ [x]) := by
  by_cases hr : l.length = 8 * (pk l).length
  · exact putBit_full W B b g l x h hm hl hr
  · exact putBit_room W B b g l x h hm hl hr

end Go.Proofs.YtmmbadkkkjkgnaaDoor.Bit
