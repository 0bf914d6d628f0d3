/- grow where all was read, and the row has no room. -/
import Derived.Test.YtaibehfpbcgijaaDoorAscR
namespace Go.Proofs.YtaibehfpbcgijaaDoor.Asc
open Go.RowKit Go.Shelf

set_option maxHeartbeats 12800000 in
set_option maxRecDepth 100000 in
theorem grow_resetNone (W : World) (b g off cap n : Nat) (lim lr se : Int) (h : Qc W b lim (.slice (some ⟨g, 0, none⟩) off cap) off lr se)
    (ho : 0 < off) (hoc0 : off ≤ cap) (hcm : cap ≤ 9223372036854775807) (hn1 : 1 ≤ n) (hroom : cap < n) (hlim : n ≤ 1048576) :
    Calls Tryd.prog 86 #[.pointer (some ⟨b, 2, none⟩), .int .i64 n] W fun e w' => e = .returned (.int .i64 0) ∧ Grown W w' b g lim se n [] := by
  have hnil : ∀ W, (binOp .eql 45 (.slice (some ⟨g, 0, none⟩) 0 cap) (.slice none 0 0)).run Tryd.prog W = .ok (.bool false) W := fun W => by kernel_rfl
  have hbW := h.lt
  have hL := Lib.hid (bufLen_any W b off off cap _ lim lr se h (by omega) (by omega))
  rw [Nat.sub_self] at hL
  have hoz : ¬ off = 0 := by omega
  have H := Lib.hid h
  clear h
  go_enter Tryd.func86, Tryd.ntmps86
  go_wp2_with (
    go_at_call 60; refine hL.out.mono ?_
    rintro e W00 ⟨rfl, hd⟩
    have d3 := (H.out.drew hd).c3
    have HD := Lib.hid hd
    clear hd)
  refine (reset_any W00 b off off cap _ lim lr se (H.out.drew HD.out)).mono ?_
  rintro e W0 ⟨rfl, lr0, h0, hu0⟩
  have c2 := h0.c2
  have c3 := h0.c3
  have f2 := h0.f 2
  have f3 := h0.f 3
  have H0 := Lib.hid h0
  have HU := Lib.hid ((HD.out.upd b b).trans hu0 (.inl rfl))
  have hT := Lib.hid (tryGrow_none W0 b 0 0 cap n _ lim lr0 se h0 (by omega) (by omega) (by omega))
  clear h0 hu0 d3
  go_wp2_with (go_at_call 85; refine hT.out.mono ?_; rintro e w' ⟨rfl, rfl⟩)
  have hoc : ¬ cap = 0 := by omega
  have hG := fun w => Lib.hid (growSlice_any ⟨g, 0, none⟩ 0 cap n [] w rfl (fun j v hj => by simp at hj) (fun v hv => by cases hv) (by omega) hn1 (by omega) (by omega))
  have hwn : IntKind.i64.wrap (n : Int) = (n : Int) := by rw [IntKind.wrap_i64]; omega
  have mixed : Tryd.prog.follows .mixedOrders = true := by kernel_rfl
  go_region_with_o (
      go_at_call 101
      refine (hG _).out.mono ?_
      rintro e w2 ⟨cap2, cells, rfl, hN, hcsz, htk, hcap2, hcm2, hbel⟩
      have HH := Lib.hid (H0.out.same (hbel.block b H0.out.lt))
      have d2 := HH.out.c2
      have d3 := HH.out.c3
      have e2 := HH.out.f 2
      have e3 := HH.out.f 3)
  all_goals (
    go_wp2
    go_ret
    refine ⟨rfl, ?_⟩
    obtain ⟨g', cap', cur', lr', q1, q2, q3, q4, q5, q6, q7, q8, q9⟩ := grown_end (g := g) (m := 0) (n := n) (k := 0 + n) (bs := []) (Drew.refl _) hbel HH.out H0.out.lt hN hcsz htk (by omega) hcap2 hcm2 rfl (v1 := .slice (some ⟨w'.heap.size, 0, none⟩) 0 cap2)
    refine ⟨g', cap', cur', lr', by simpa using q1, by simpa using q2, q3, q4, q5, q6, q7.imp id (fun h => Nat.le_trans HU.out.size h), q8, ?_⟩
    have := (⟨HU.out.os, HU.out.tape, HU.out.output, HU.out.size, fun k hk h1 _ => HU.out.block k hk h1 h1⟩ : Upd b g W w').trans q9 (.inl rfl)
    simpa using this)

end Go.Proofs.YtaibehfpbcgijaaDoor.Asc
