/- grow where there is no row yet. -/
import Derived.Test.YtaibehfpbcgijaaDoorAscR
namespace Go.Proofs.YtaibehfpbcgijaaDoor.Asc
open Go.RowKit Go.Shelf

set_option maxHeartbeats 6400000 in
set_option maxRecDepth 100000 in
theorem grow_small (W : World) (b n : Nat) (lim lr se : Int) (h : Qc W b lim (.slice none 0 0) 0 lr se) (hn : 1 ≤ n) (h64 : n ≤ 64) :
    Calls Tryd.prog 86 #[.pointer (some ⟨b, 2, none⟩), .int .i64 n] W fun e w' => e = .returned (.int .i64 0) ∧ Grown W w' b b lim se n [] := by
  obtain ⟨i0, hi, hz0, hz1, hz2⟩ := info_parts info5
  obtain ⟨M, hM⟩ : ∃ M, M = madeCells (Value.int .u8 0).cells ((64 : Int).toNat * i0.size) := ⟨_, rfl⟩
  have hMs : M.size = 64 := by rw [hM, size_madeCells, hz1]; rfl
  have hmk : ∀ W : World, (Instr.makeSlice 45 (.int .i64 (n : Int)) (.int .i64 64)).run Tryd.prog W = .ok (.slice (some ⟨W.heap.size, 0, none⟩) n 64) (W.alloc (.cells M 5)) := fun W => by
    have h := run_makeSlice (P := Tryd.prog) W 45 5 i0 (.int .u8 0) Tryd.underlying45 hi hz0 .i64 .i64 (n : Int) 64 (by omega) (by omega) (by rw [hz1]; decide) (by rw [hz2]; decide) (by decide)
    rw [← hM] at h
    simpa using h
  clear hM
  have hnil : ∀ W, (binOp .eql 45 (.slice none 0 0) (.slice none 0 0)).run Tryd.prog W = .ok (.bool true) W := fun W => by kernel_rfl
  have hbW := h.lt
  have hL := Lib.hid (bufLen_any W b 0 0 0 _ lim lr se h (by omega) (by omega))
  have H := Lib.hid h
  clear h
  go_enter Tryd.func86, Tryd.ntmps86
  go_wp2_with (
    go_at_call 60; refine hL.out.mono ?_
    rintro e W0 ⟨rfl, hd⟩
    have h0 := H.out.drew hd
    have d2 := h0.c2
    have d3 := h0.c3
    have f2 := h0.f 2
    have f3 := h0.f 3
    have hs0 : W0.heap.size = W.heap.size := by rw [hd.heap]
    have hbW0 : b < W0.heap.size := by omega
    have HS := Lib.hid hs0
    clear hs0
    have HD := Lib.hid hd
    have H0 := Lib.hid h0
    have hT := Lib.hid (tryGrow_none W0 b 0 0 0 n _ lim lr se h0 (by omega) (by omega) (by omega))
    clear hd h0)
  go_wp2_with (go_at_call 85; refine hT.out.mono ?_; rintro e w' ⟨rfl, rfl⟩)
  go_ret
  have hne : w'.heap.size ≠ b := by omega
  have hss : (w'.setCell ⟨b, 2, none⟩ (.slice (some ⟨w'.heap.size, 0, none⟩) n 64)).heap.size = w'.heap.size := by simp [World.setCell]
  refine ⟨rfl, w'.heap.size, 64, M, lr, ?_, ?_, hMs, by simpa using h64, by omega, by simp, .inr (by rw [HS.out]; exact Nat.le_refl _), hne, ?_⟩
  · have := (H0.out.set2 (.slice (some ⟨w'.heap.size, 0, none⟩) n 64)).same (Below.heap_alloc _ (.cells M 5) b (by rw [hss]; exact hbW0))
    simpa using this
  · have := heap_alloc_new (w'.setCell ⟨b, 2, none⟩ (.slice (some ⟨w'.heap.size, 0, none⟩) n 64)) (.cells M 5)
    rw [hss] at this
    exact this
  · exact ((HD.out.upd b b).trans (Upd.cellB b b 2 _ _) (.inl rfl)).trans (Upd.of_below ((Below.refl _ _).alloc (Nat.le_refl _) _)) (.inl rfl)

set_option maxHeartbeats 6400000 in
set_option maxRecDepth 100000 in
theorem grow_big (W : World) (b n : Nat) (lim lr se : Int) (h : Qc W b lim (.slice none 0 0) 0 lr se) (h64 : 64 < n) (hlim : n ≤ 1048576) :
    Calls Tryd.prog 86 #[.pointer (some ⟨b, 2, none⟩), .int .i64 n] W fun e w' => e = .returned (.int .i64 0) ∧ Grown W w' b b lim se n [] := by
  have hnil : ∀ W, (binOp .eql 45 (.slice none 0 0) (.slice none 0 0)).run Tryd.prog W = .ok (.bool true) W := fun W => by kernel_rfl
  have hbW := h.lt
  have hL := Lib.hid (bufLen_any W b 0 0 0 _ lim lr se h (by omega) (by omega))
  have H := Lib.hid h
  clear h
  go_enter Tryd.func86, Tryd.ntmps86
  go_wp2_with (
    go_at_call 60; refine hL.out.mono ?_
    rintro e W0 ⟨rfl, hd⟩
    have h0 := H.out.drew hd
    have d2 := h0.c2
    have d3 := h0.c3
    have f2 := h0.f 2
    have f3 := h0.f 3
    have HD := Lib.hid hd
    have H0 := Lib.hid h0
    have hT := Lib.hid (tryGrow_none W0 b 0 0 0 n _ lim lr se h0 (by omega) (by omega) (by omega))
    clear hd h0)
  go_wp2_with (go_at_call 85; refine hT.out.mono ?_; rintro e w' ⟨rfl, rfl⟩)
  have hG := fun w => Lib.hid (growSlice_nil n w (by omega) (by omega))
  have hwn : IntKind.i64.wrap (n : Int) = (n : Int) := by rw [IntKind.wrap_i64]; omega
  have mixed : Tryd.prog.follows .mixedOrders = true := by kernel_rfl
  go_region_with_o (
      go_at_call 101
      refine (hG _).out.mono ?_
      rintro e w2 ⟨cap2, cells, rfl, hN, hcsz, hcap2, hcm2, hbel⟩
      have HH := Lib.hid (H0.out.same (hbel.block b H0.out.lt))
      have d2 := HH.out.c2
      have d3 := HH.out.c3
      have e2 := HH.out.f 2
      have e3 := HH.out.f 3)
  all_goals (
    go_wp2
    go_ret
    exact ⟨rfl, by have := grown_end (g := b) (m := 0) (n := n) (k := 0 + n) (bs := []) HD.out hbel HH.out hbW hN hcsz rfl (by omega) (by omega) hcm2 rfl (v1 := .slice (some ⟨w'.heap.size, 0, none⟩) 0 cap2); simpa using this⟩)

end Go.Proofs.YtaibehfpbcgijaaDoor.Asc
