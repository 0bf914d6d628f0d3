/- The law InflateBlocks, walked. -/
import Derived.Test.YtdgfhbeofidbnaaDoorPkRinM
import Derived.Test.YtdgfhbeofidbnaaDoorPkInfO
namespace Go.Proofs.YtdgfhbeofidbnaaDoor.Inf
open Go.RowKit Go.Shelf Go.Lib Go.Proofs.YtdgfhbeofidbnaaDoor.Mem Go.Proofs.YtdgfhbeofidbnaaDoor.Bit Go.Proofs.YtdgfhbeofidbnaaDoor.Huf Go.Proofs.YtdgfhbeofidbnaaDoor.Lz

theorem bl_cell {W : World} {B n cap g : Nat} {e : TypeId} {bl : List (Nat × Nat)} (h : W.ownsRow B e 2 (.slice (some ⟨g, 0, none⟩) n cap) n (blCells bl)) (i : Nat) (hi : i < bl.length) :
    W.cell? ⟨g, i * 2, none⟩ = some (.int .i64 ((bl.getD i (0, 0)).1 : Int)) ∧ W.cell? ⟨g, i * 2 + 1, none⟩ = some (.int .i64 ((bl.getD i (0, 0)).2 : Int)) := by
  have hl := blCells_len bl
  have hx : bl[i]? = some (bl.getD i (0, 0)) := by rw [List.getD_eq_getElem?_getD, List.getElem?_eq_getElem hi]; rfl
  have h0 := blCells_at bl i _ 0 hx (by decide)
  have h1 := blCells_at bl i _ 1 hx (by decide)
  have hs : (blCells bl).length = n * 2 := h.1
  rw [Nat.add_zero] at h0
  exact ⟨by rw [h.cellAt (i * 2) (by omega), h0]; rfl, by rw [h.cellAt (i * 2 + 1) (by omega), h1]; rfl⟩

set_option maxRecDepth 100000 in
set_option maxHeartbeats 4000000 in
theorem lawIBlocks (W : World) (ax : Option Addr) (n c B0 : Nat) (z : Int) (bs : List UInt8) (hx : Mem.Src W (.slice ax n c) bs) (hn : bs.length = n) (hl : n ≤ 140737488355328) (hk : Masks W B0) (hod : Ords W B0) (hB0 : B0 ≤ W.heap.size) :
    Calls Tryd.prog 4 #[.slice ax n c, .int .i64 z] W fun e w' => e = .returned (.bool true) ∧ Below W.heap.size W w' := by
  obtain ⟨v1, W1, r1, o1, b1⟩ := fresh_any W (.slice ax n c) 22 bs hx (by omega)
  obtain ⟨a1, c1, rfl, -, -, -⟩ := own_shape o1
  rw [hn] at r1 o1
  have HBL := Lib.hid (blocks_any W1 a1 n c1 B0 z bs (Src.of_own o1 hn.symm) hn (hk.below (b1.mono hB0)) (hod.below (b1.mono hB0)) (Nat.le_trans hB0 b1.size))
  have HRB : Aside (∀ w, Below W1.heap.size W1 w → Calls Tryd.prog 17 #[.slice ax n c, .int .i64 z] w (RBlocked w bs z)) := fun w hb => rblocks_any w ax n c z bs ((hx.below b1).below (hb.mono (Nat.le_refl _))) hn
  have HKN : Aside (∀ w, Below W1.heap.size W1 w → Calls Tryd.prog 15 #[] w fun e w' => e = .returned (.bool true) ∧ Below W.heap.size W w') := fun w hb => by
    have hb2 : Below W.heap.size W w := b1.trans (hb.mono b1.size)
    exact (knows_any w B0 (hk.below (hb2.mono hB0)) (hod.below (hb2.mono hB0)) (Nat.le_trans hB0 hb2.size)).mono (fun e w' h => ⟨h.1, hb2.trans (h.2.mono hb2.size)⟩)
  have HBL : Hid (Calls Tryd.prog 16 #[.slice a1 n c1, .int .i64 z] W1 fun e w' => ∃ v B, e = .returned (.tuple #[v, .int .i64 ((inflR bs z).2.2.2 : Int)]) ∧ w'.ownsRow B 44 2 v (inflR bs z).2.1.length (blCells (inflR bs z).2.1) ∧ Below W1.heap.size W1 w') := HBL
  have HRB : Aside (∀ w, Below W1.heap.size W1 w → Calls Tryd.prog 17 #[.slice ax n c, .int .i64 z] w fun e w' => ∃ v B, e = .returned (.tuple #[v, .int .i64 ((inflR bs z).2.2.2 : Int)]) ∧ w'.ownsRow B 45 2 v (inflR bs z).2.1.length (blCells (inflR bs z).2.1) ∧ Below w.heap.size w w') := HRB
  obtain ⟨bl, hbl⟩ : ∃ y, y = (inflR bs z).2.1 := ⟨_, rfl⟩
  obtain ⟨er, her⟩ : ∃ y, y = (inflR bs z).2.2.2 := ⟨_, rfl⟩
  rw [← hbl, ← her] at HBL HRB
  clear hx hn hl hk hod hB0 hbl her o1 b1
  go_enter Tryd.func4, Tryd.ntmps4
  go_upto_region 2 with (first
    | (at_builtin; refine wpList_append_at _ rfl _ _ _ _ rfl _ _ rfl rfl _ _ r1 ?_)
    | (go_at_call 16; refine HBL.out.mono ?_; rintro e w2 ⟨x, B, rfl, p2, d2⟩))
  have HR2 := Lib.hid (HRB.out w2 d2)
  clear HRB HBL r1
  go_upto_region 3 with (go_at_call 17; refine HR2.out.mono ?_; rintro e w3 ⟨y, B2, rfl, p3, d3⟩)
  have p2' := own_below p2 d3
  have d4 := d2.trans (d3.mono d2.size)
  obtain ⟨ao, cap, rfl, -, hcm, hno⟩ := own_shape p2'
  obtain ⟨bo, cap2, rfl, -, hcm2, hno2⟩ := own_shape p3
  have hbm : bl.length ≤ 9223372036854775807 := by have := (own_shape p3); obtain ⟨_, _, e, h1, h2, -⟩ := this; omega
  have HC : Aside (∀ i, i < bl.length → ∃ g g2, ao = some ⟨g, 0, none⟩ ∧ bo = some ⟨g2, 0, none⟩ ∧ w3.cell? ⟨g, i * 2, none⟩ = some (.int .i64 ((bl.getD i (0, 0)).1 : Int)) ∧ w3.cell? ⟨g, i * 2 + 1, none⟩ = some (.int .i64 ((bl.getD i (0, 0)).2 : Int)) ∧ w3.cell? ⟨g2, i * 2, none⟩ = some (.int .i64 ((bl.getD i (0, 0)).1 : Int)) ∧ w3.cell? ⟨g2, i * 2 + 1, none⟩ = some (.int .i64 ((bl.getD i (0, 0)).2 : Int))) := fun i hi => by
    cases ao with
    | none => have := (hno rfl).1; omega
    | some a =>
      cases bo with
      | none => have := (hno2 rfl).1; omega
      | some b =>
        obtain ⟨g, rfl, -, -⟩ := own_block p2'
        obtain ⟨g2, rfl, -, -⟩ := own_block p3
        obtain ⟨q1, q2⟩ := bl_cell p2' i hi
        obtain ⟨q3, q4⟩ := bl_cell p3 i hi
        exact ⟨g, g2, rfl, rfl, q1, q2, q3, q4⟩
  have HK4 : Aside (∀ w, Drew w3 w → Calls Tryd.prog 15 #[] w fun e w' => e = .returned (.bool true) ∧ Below W.heap.size W w') := fun w d => HKN.out w (d4.trans (d.below _))
  clear HR2 p2 d2 p3 d3 p2' d4 hno hno2 HKN hcm hcm2
  go_upto_region 6 with (go_at_call 12; refine (num_any _ _).mono ?_; rintro e w4 ⟨rfl, rfl⟩)
  go_loopg [9] bl.length (fun kx s9 wr => ∃ (i : Nat), s9 = .int .i64 (i : Int) ∧ i ≤ bl.length ∧ bl.length - i ≤ kx ∧ Aside (Drew w3 wr))
  case atStart => exact ⟨0, rfl, Nat.zero_le _, Nat.le_refl _, Drew.refl _⟩
  case round =>
    obtain ⟨i, rfl, hi, hkx, HD⟩ := hrel
    by_cases hlt : i < bl.length
    · have hltz : (i : Int) < (bl.length : Int) := by omega
      have i0 : (0 : Int) ≤ (i : Int) := by omega
      obtain ⟨g, g2, rfl, rfl, q1, q2, q3, q4⟩ := HC.out i hlt
      have k1 : ∀ q, (wr.drewN q).cell? ⟨g, i * 2, none⟩ = some (.int .i64 ((bl.getD i (0, 0)).1 : Int)) := fun q => ((HD.out.trans (Drew.drewN wr q)).cell).trans q1
      have k2 : ∀ q, (wr.drewN q).cell? ⟨g, i * 2 + 1, none⟩ = some (.int .i64 ((bl.getD i (0, 0)).2 : Int)) := fun q => ((HD.out.trans (Drew.drewN wr q)).cell).trans q2
      have k3 : ∀ q, (wr.drewN q).cell? ⟨g2, i * 2, none⟩ = some (.int .i64 ((bl.getD i (0, 0)).1 : Int)) := fun q => ((HD.out.trans (Drew.drewN wr q)).cell).trans q3
      have k4 : ∀ q, (wr.drewN q).cell? ⟨g2, i * 2 + 1, none⟩ = some (.int .i64 ((bl.getD i (0, 0)).2 : Int)) := fun q => ((HD.out.trans (Drew.drewN wr q)).cell).trans q4
      have wi : IntKind.i64.wrap ((i : Int) + 1) = (i : Int) + 1 := by rw [IntKind.wrap_i64]; omega
      generalize (bl.getD i (0, 0)).1 = f1 at *
      generalize (bl.getD i (0, 0)).2 = f2 at *
      have t1 : ((f1 : Int) != (f1 : Int)) = false := by simp
      have t2 : ((f2 : Int) != (f2 : Int)) = false := by simp
      clear q1 q2 q3 q4
      go_wp2_with fail
      go_quiet (fail)
      go_wp2_with fail
      go_roundg (bl.length - (i + 1))
      case measure => omega
      case rel => exact ⟨i + 1, by go_num, by omega, Nat.le_refl _, HD.out.trans (Drew.drewN _ _)⟩
    · obtain rfl : i = bl.length := by omega
      have hltz : ¬ (bl.length : Int) < (bl.length : Int) := by omega
      have HK5 := Lib.hid (HK4.out wr HD.out)
      go_wp2_with (go_at_call 15; refine HK5.out.mono ?_; rintro e w5 ⟨rfl, q5⟩)
      go_ret
      exact ⟨rfl, q5⟩
end Go.Proofs.YtdgfhbeofidbnaaDoor.Inf
