/- A writer of package bits that NewWriter made: Align, Raw, Bits, Bytes; a copy of bytes. -/
import Derived.Test.YtaibehfpbcgijabDoorBitD
namespace Go.Proofs.YtaibehfpbcgijabDoor.Bit
open Go.RowKit Go.Shelf Go.Proofs.YtaibehfpbcgijabDoor.Mem

set_option maxRecDepth 100000 in
set_option maxHeartbeats 2000000 in
/-- bytes.Clone OF ANY BYTES. -/
theorem clone_any (W : World) (ax : Option Addr) (n c : Nat) (l : List UInt8) (hx : Src W (.slice ax n c) l) (hn : l.length = n) (hl : n ≤ 140737488355328) :
    Calls Tryd.prog 36 #[.slice ax n c] W fun e w' => ∃ v, e = .returned v ∧ w'.ownsRow W.heap.size 5 1 v n (bVs l) ∧ Below W.heap.size W w' := by
  subst hn
  cases ax with
  | none =>
    have hl0 : l.length = 0 := by
      rcases hx with ⟨hv, rfl⟩ | ⟨a, c', hv, _⟩
      · rfl
      · cases hv
    have hln := List.eq_nil_of_length_eq_zero hl0
    subst hln
    have q : ∀ w, (binOp .eql 27 (.slice none 0 c) (.slice none 0 0)).run Tryd.prog w = .ok (.bool true) w := fun w => Lib.run_eql_slice_nil w _ _ none 0 c 0 0 Tryd.underlying27
    clear hx
    rw [List.length_nil]
    go_enter Tryd.func36, Tryd.ntmps36
    go_wp2
    go_ret
    exact ⟨_, rfl, World.ownsRow_nil _ _ _ _, Below.refl _ _⟩
  | some a =>
    obtain ⟨v1, W1, hr1, ho1, hb1⟩ := fresh_any W (.slice (some a) l.length c) 27 l hx hl
    have q : ∀ w, (binOp .eql 27 (.slice (some a) l.length c) (.slice none 0 0)).run Tryd.prog w = .ok (.bool false) w := fun w => Lib.run_eql_slice_nil w _ _ (some a) l.length c 0 0 Tryd.underlying27
    have HO := Lib.hid ho1
    have HB := Lib.hid hb1
    clear hx ho1 hb1
    go_enter Tryd.func36, Tryd.ntmps36
    go_wp2_with (at_builtin; refine wpList_append_at _ rfl _ _ _ _ rfl _ _ rfl rfl _ _ hr1 ?_)
    go_ret
    exact ⟨v1, rfl, HO.out, HB.out⟩

set_option maxHeartbeats 400000 in
theorem made_at (W : World) (b : Nat) (c0 : W.cell? ⟨b, 0, none⟩ = some (.pointer (some ⟨b, 0, none⟩))) : Calls Tryd.prog 35 #[.pointer (some ⟨b, 0, none⟩)] W fun e w' => e = .returned (.bool true) ∧ W = w' := by
  have hn : ∀ w, (binOp .neq 23 (.pointer (some ⟨b, 0, none⟩)) (.pointer none)).run Tryd.prog w = .ok (.bool true) w := fun _ => by kernel_rfl
  obtain ⟨j, hte⟩ : ∃ j, Tryd.prog.info? 59 = some j := Option.isSome_iff_exists.1 (by kernel_rfl)
  have he : ∀ w, (binOp .eql 23 (.pointer (some ⟨b, 0, none⟩)) (.pointer (some ⟨b, 0, none⟩))).run Tryd.prog w = .ok (.bool true) w := fun w => run_eql_ptr_same (w := w) _ Tryd.underlying23 hte
  go_enter Tryd.func35, Tryd.ntmps35
  go_wp2
  go_ret
  exact ⟨rfl, rfl⟩

set_option maxHeartbeats 1000000 in
theorem align_at (W : World) (b n cap : Nat) (ao : Option Addr) (c : Value) (hc : W.heap[b]? = some (.cells #[.pointer (some ⟨b, 0, none⟩), .slice ao n cap, c] 59 (0, 0))) (hn : n ≤ 1048576) :
    Calls Tryd.prog 28 #[.pointer (some ⟨b, 0, none⟩)] W fun e w' => e = .returned (.tuple #[]) ∧ w' = W.setCell ⟨b, 2, none⟩ (.int .i64 (8 * (n : Int))) := by
  have c0 : W.cell? ⟨b, 0, none⟩ = some (.pointer (some ⟨b, 0, none⟩)) := by rw [Lib.cell_of_heap hc]; rfl
  have HM := Lib.hid (made_at W b c0)
  have c1 : W.cell? ⟨b, 1, none⟩ = some (.slice ao n cap) := by rw [Lib.cell_of_heap hc]; rfl
  have c2 : W.cell? ⟨b, 2, none⟩ = some c := by rw [Lib.cell_of_heap hc]; rfl
  have f2 := Lib.frozen_of_heap hc 2
  clear hc
  go_enter Tryd.func28, Tryd.ntmps28
  go_wp2_with (go_at_call 35; refine HM.out.mono ?_; rintro e w1 ⟨rfl, rfl⟩)
  go_end0
  exact ⟨rfl, rfl⟩

/-- The writer's count is set to its whole bytes. -/
theorem WB.aligned {W V : World} {B b g g0 n cap : Nat} {ao : Option Addr} {l : List Bool} {c : Value} (hc : V.heap[b]? = some (.cells #[.pointer (some ⟨b, 0, none⟩), .slice ao n cap, c] 59 (0, 0)))
    (ho : V.ownsRow B 5 1 (.slice ao n cap) n (bVs (pk l))) (hv : (Value.slice ao n cap).ownBlock = none ∧ g = b ∨ (Value.slice ao n cap).ownBlock = some g ∧ g ≠ b) (hB : B ≤ b) (hl : l.length = 8 * n) (hn : (pk l).length = n)
    (hg : g = g0 ∨ W.heap.size ≤ g) (hW : Only (fun k => k = b ∨ k = g0) W V) : WStep W (V.setCell ⟨b, 2, none⟩ (.int .i64 (8 * (n : Int)))) B b g0 l := by
  subst hn
  refine ⟨g, ⟨.slice ao (pk l).length cap, ?_, ?_, hv, hB⟩, hg, hW.trans (S' := fun k => k = b) (Only.setCell (S := fun k => k = b) rfl _ _) (fun i q => .inl (.inl q))⟩
  · rw [show (l.length : Int) = 8 * ((pk l).length : Int) by omega]
    exact (Lib.heap_setCell_same (i := 2) hc _).trans rfl
  · refine own_same ho (fun k hk => Below.heap_setCell _ _ _ _ (fun e => ?_))
    rcases hv with ⟨h, _⟩ | ⟨h, hne⟩
    · rw [h] at hk; cases hk
    · rw [h] at hk
      obtain rfl : g = k := by simpa using hk
      exact hne e

theorem align_any (W : World) (B b g : Nat) (l : List Bool) (h : WB W B b g l) (hl : l.length ≤ 8388608) :
    Calls Tryd.prog 28 #[.pointer (some ⟨b, 0, none⟩)] W fun e w' => e = .returned (.tuple #[]) ∧ WStep W w' B b g (alignL l) := by
  have hpl := pk_len l
  obtain ⟨v, hc, ho, hv, hB⟩ := h
  obtain ⟨ao, cap, rfl, hcap, hcm, hnone⟩ := own_shape ho
  refine (align_at W b _ cap ao _ hc (by omega)).mono ?_
  rintro e w' ⟨rfl, rfl⟩
  exact ⟨rfl, WB.aligned (l := alignL l) hc (by rw [pk_align]; exact ho) hv hB (by rw [alignL_len, hpl]; omega) (by rw [pk_align]) (.inl rfl) (Only.refl _ _)⟩

set_option maxHeartbeats 1000000 in
theorem raw_size (W : World) (B b g n c : Nat) (ax : Option Addr) (l : List Bool) (h : WB W B b g l) (hl : l.length ≤ 8388608) (hs : 1048576 < (pk l).length + n) :
    Calls Tryd.prog 30 #[.pointer (some ⟨b, 0, none⟩), .slice ax n c] W fun e w' => e = .returned (.int .i64 6) ∧ W = w' := by
  have HM := Lib.hid (made_yes W B b g l h)
  have hpl := pk_len l
  obtain ⟨v, hc, ho, -⟩ := h
  obtain ⟨ao, cap, rfl, hcap, hcm, hnone⟩ := own_shape ho
  have c1 : W.cell? ⟨b, 1, none⟩ = some (.slice ao (pk l).length cap) := by rw [Lib.cell_of_heap hc]; rfl
  have hgt : 1048576 - ((pk l).length : Int) < (n : Int) := by omega
  have hbd : ((pk l).length : Int) ≤ 1048576 := by omega
  clear hc ho hpl hnone
  go_enter Tryd.func30, Tryd.ntmps30
  go_wp2_with (go_at_call 35; refine HM.out.mono ?_; rintro e w1 ⟨rfl, rfl⟩)
  go_ret
  exact ⟨rfl, rfl⟩

set_option maxRecDepth 100000 in
set_option maxHeartbeats 2000000 in
theorem raw_ok (W : World) (B b g n c : Nat) (ax : Option Addr) (l : List Bool) (cs : List UInt8) (h : WB W B b g l) (hx : Src W (.slice ax n c) cs) (hn : cs.length = n) (hs : (pk l).length + n ≤ 1048576) :
    Calls Tryd.prog 30 #[.pointer (some ⟨b, 0, none⟩), .slice ax n c] W fun e w' => e = .returned (.int .i64 0) ∧ WStep W w' B b g (alignL l ++ rawL cs) := by
  subst hn
  have HM := Lib.hid (made_yes W B b g l h)
  have hpl := pk_len l
  have hbW := h.lt
  have hBW : B ≤ W.heap.size := Nat.le_trans h.leb (Nat.le_of_lt hbW)
  obtain ⟨v, hc, ho, hv, hB⟩ := h
  obtain ⟨ao, cap, rfl, hcap, hcm, hnone⟩ := own_shape ho
  have c1 : W.cell? ⟨b, 1, none⟩ = some (.slice ao (pk l).length cap) := by rw [Lib.cell_of_heap hc]; rfl
  obtain ⟨v1, W1, hr1, ho1, hg1, hn1⟩ := app_any W B _ _ 27 (pk l) cs ho hBW hx (by omega)
  have hbk : (Value.slice ao (pk l).length cap).ownBlock ≠ some b := by
    rcases hv with ⟨hv, rfl⟩ | ⟨hv, hne⟩
    · rw [hv]; exact fun e => by cases e
    · rw [hv]; exact fun e => hne (by simpa using e)
  have hcb : W1.heap[b]? = some (.cells #[.pointer (some ⟨b, 0, none⟩), .slice ao (pk l).length cap, .int .i64 l.length] 59 (0, 0)) := (hg1.block b hbW (fun e => hbk e.symm)).trans hc
  have f1 := Lib.frozen_of_heap hcb 1
  have d1 : W1.cell? ⟨b, 1, none⟩ = some (.slice ao (pk l).length cap) := by rw [Lib.cell_of_heap hcb]; rfl
  have hS1 : Only (fun k => k = b ∨ k = g) W W1 := only_grown hg1 (fun k hk => by
    rcases hv with ⟨hv, rfl⟩ | ⟨hv, hne⟩
    · rw [hv] at hk; cases hk
    · rw [hv] at hk; exact .inr (by simpa using hk.symm))
  have hpr : pk (alignL l ++ rawL cs) = pk l ++ cs := by rw [pk_raw cs _ (by rw [alignL_len]; omega), pk_align]
  obtain ⟨ao1, cap1, rfl, hcap1, hcm1, hnone1⟩ := own_shape ho1
  obtain ⟨V, hV⟩ : ∃ V, V = W1.setCell ⟨b, 1, none⟩ (.slice ao1 (pk l ++ cs).length cap1) := ⟨_, rfl⟩
  have hVc : V.heap[b]? = some (.cells #[.pointer (some ⟨b, 0, none⟩), .slice ao1 (pk l ++ cs).length cap1, .int .i64 l.length] 59 (0, 0)) := by
    rw [hV]; exact (Lib.heap_setCell_same (i := 1) hcb _).trans rfl
  obtain ⟨g1, hv1, hgg, hg1b⟩ : ∃ g1, ((Value.slice ao1 (pk l ++ cs).length cap1).ownBlock = none ∧ g1 = b ∨ (Value.slice ao1 (pk l ++ cs).length cap1).ownBlock = some g1 ∧ g1 ≠ b) ∧ (g1 = g ∨ W.heap.size ≤ g1) ∧ ∀ k, (Value.slice ao1 (pk l ++ cs).length cap1).ownBlock = some k → k ≠ b := by
    rcases hn1 with q | q
    · rw [q]
      exact ⟨g, hv, .inl rfl, fun k hk e => hbk (by rw [hk, e])⟩
    · cases e : (Value.slice ao1 (pk l ++ cs).length cap1).ownBlock with
      | none =>
        rcases hv with ⟨_, rfl⟩ | ⟨hv, hne⟩
        · exact ⟨g, .inl ⟨rfl, rfl⟩, .inl rfl, fun k hk => by cases hk⟩
        · -- the old row had a block, so the new one has
          exfalso
          rcases ho1.2 with ⟨he, h0⟩ | ⟨g', cap', cur, he, _⟩
          · rw [List.length_append] at h0
            have hcs0 : cs = [] := List.eq_nil_of_length_eq_zero (by omega)
            subst hcs0
            rcases hx with ⟨hx, _⟩ | ⟨a, c', hx, _⟩
            · cases hx
              obtain ⟨i0, hi, hz0, hz1, hz2⟩ := info_parts info5
              have hr2 := run_append_owned_none (P := Tryd.prog) (w := W) B 27 27 5 i0 1 Tryd.underlying27 hi _ _ _ ho
              rw [List.length_nil] at hr1
              rw [hr1] at hr2
              injection hr2 with e1 e2
              rw [e1, hv] at e
              cases e
            · have hm0 : (pk l).length = 0 := by omega
              obtain ⟨i0, hi, hz0, hz1, hz2⟩ := info_parts info5
              rcases ho.2 with ⟨he', _⟩ | ⟨g', cap', cur, he', hbg, hgg, hnc, hcm', hcs', htk⟩
              · rw [he'] at hv; cases hv
              · rw [he'] at hr1
                have hr2 := run_append_room (P := Tryd.prog) W 27 27 5 i0 Tryd.underlying27 hi g' (pk l).length cap' cur hgg a 0 c' [] (by rw [hz1]; rfl) (fun j v hj => by simp at hj) (fun v hv => by cases hv) (by omega) (by rw [hz1]; simp; omega)
                cases hx
                rw [List.length_nil] at hr1
                rw [hr1] at hr2
                injection hr2 with e1 e2
                rw [e1] at e
                cases e
          · rw [he] at e; cases e
      | some k =>
        have := q k e
        exact ⟨k, .inr ⟨rfl, by omega⟩, .inr (by omega), fun k' hk => by cases hk; omega⟩
  have hVo : V.ownsRow B 5 1 (.slice ao1 (pk l ++ cs).length cap1) (pk l ++ cs).length (bVs (pk l ++ cs)) := by
    rw [hV]
    exact own_same ho1 (fun k hk => Below.heap_setCell _ _ _ _ (hg1b k hk))
  have hVS : Only (fun k => k = b ∨ k = g) W V := by rw [hV]; exact hS1.trans (S' := fun k => k = b) (Only.setCell (S := fun k => k = b) rfl _ _) (fun i q => .inl (.inl q))
  have HE : Hid (WStep W (V.setCell ⟨b, 2, none⟩ (.int .i64 (8 * ((pk l ++ cs).length : Int)))) B b g (alignL l ++ rawL cs)) :=
    Lib.hid (WB.aligned (l := alignL l ++ rawL cs) hVc (by rw [hpr]; exact hVo) hv1 hB (by rw [List.length_append, List.length_append, alignL_len, rawL_len, hpl]; omega) (by rw [hpr]) hgg hVS)
  have HA := Lib.hid (align_at V b _ cap1 ao1 _ hVc (by rw [List.length_append]; omega))
  have hgt : ¬ 1048576 - ((pk l).length : Int) < (cs.length : Int) := by omega
  have hbd : ((pk l).length : Int) ≤ 1048576 := by omega
  obtain ⟨m2, hm2⟩ : ∃ m2, m2 = (pk l ++ cs).length := ⟨_, rfl⟩
  rw [← hm2] at hr1 hV HA HE
  have HV := Lib.hid hV
  clear hm2 hcap1 hc ho hpl hnone hVc hVo hVS hS1 hcb ho1 hg1 hn1 hx hv1 hgg hg1b hbk hV hnone1 hpr hv
  go_enter Tryd.func30, Tryd.ntmps30
  go_wp2_with (first
    | (go_at_call 35; refine HM.out.mono ?_; rintro e w1 ⟨rfl, rfl⟩)
    | (at_builtin; refine wpList_append_at _ rfl _ _ _ _ rfl _ _ rfl rfl _ _ hr1 ?_)
    | (go_at_call 28; rw [← HV.out]; refine HA.out.mono ?_; rintro e w1 ⟨rfl, rfl⟩))
  go_ret
  exact ⟨rfl, HE.out⟩

set_option maxHeartbeats 1000000 in
theorem bits_any (W : World) (B b g : Nat) (l : List Bool) (h : WB W B b g l) :
    Calls Tryd.prog 31 #[.pointer (some ⟨b, 0, none⟩)] W fun e w' => e = .returned (.int .i64 l.length) ∧ W = w' := by
  have HM := Lib.hid (made_yes W B b g l h)
  obtain ⟨v, hc, -⟩ := h
  have c2 : W.cell? ⟨b, 2, none⟩ = some (.int .i64 l.length) := by rw [Lib.cell_of_heap hc]; rfl
  clear hc
  go_enter Tryd.func31, Tryd.ntmps31
  go_wp2_with (go_at_call 35; refine HM.out.mono ?_; rintro e w1 ⟨rfl, rfl⟩)
  go_ret
  exact ⟨rfl, rfl⟩

set_option maxHeartbeats 1000000 in
theorem bytes_any (W : World) (B b g : Nat) (l : List Bool) (h : WB W B b g l) (hl : l.length ≤ 8388608) :
    Calls Tryd.prog 11 #[.pointer (some ⟨b, 0, none⟩)] W fun e w' => ∃ v, e = .returned v ∧ w'.ownsRow W.heap.size 5 1 v (pk l).length (bVs (pk l)) ∧ Below W.heap.size W w' := by
  have HM := Lib.hid (made_yes W B b g l h)
  have hpl := pk_len l
  obtain ⟨v, hc, ho, -⟩ := h
  obtain ⟨ao, cap, rfl, hcap, hcm, hnone⟩ := own_shape ho
  have c1 : W.cell? ⟨b, 1, none⟩ = some (.slice ao (pk l).length cap) := by rw [Lib.cell_of_heap hc]; rfl
  have HC := Lib.hid (clone_any W ao _ cap (pk l) (Src.of_own ho rfl) rfl (by omega))
  clear hc ho hpl hnone
  go_enter Tryd.func11, Tryd.ntmps11
  go_wp2_with (first
    | (go_at_call 35; refine HM.out.mono ?_; rintro e w1 ⟨rfl, rfl⟩)
    | (go_at_call 36; refine HC.out.mono ?_; rintro e w1 ⟨v, rfl, ho1, hb1⟩; have HO1 := Lib.hid ho1; have HB1 := Lib.hid hb1; clear ho1 hb1))
  go_ret
  exact ⟨v, rfl, HO1.out, HB1.out⟩

end Go.Proofs.YtaibehfpbcgijabDoor.Bit
