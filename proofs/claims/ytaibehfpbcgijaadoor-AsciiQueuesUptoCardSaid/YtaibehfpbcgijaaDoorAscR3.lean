/- grow where nothing is held, and the row has no room: a new row. -/
import Derived.Test.YtaibehfpbcgijaaDoorAscR
namespace Go.Proofs.YtaibehfpbcgijaaDoor.Asc
open Go.RowKit Go.Shelf

set_option maxHeartbeats 12800000 in
set_option maxRecDepth 100000 in
theorem grow_zero (W : World) (b g cap n : Nat) (lim lr se : Int) (h : Qc W b lim (.slice (some ⟨g, 0, none⟩) 0 cap) 0 lr se)
    (hn : 1 ≤ n) (hc : 0 < cap) (hroom : cap < n) (hlim : n ≤ 1048576) :
    Calls Tryd.prog 86 #[.pointer (some ⟨b, 2, none⟩), .int .i64 n] W fun e w' => e = .returned (.int .i64 0) ∧ Grown W w' b g lim se n [] := by
  have hnil : ∀ W, (binOp .eql 45 (.slice (some ⟨g, 0, none⟩) 0 cap) (.slice none 0 0)).run Tryd.prog W = .ok (.bool false) W := fun W => by kernel_rfl
  have hbW := h.lt
  have hL := Lib.hid (bufLen_any W b 0 0 cap _ lim lr se h (by omega) (by omega))
  go_enter Tryd.func86, Tryd.ntmps86
  have c3 := h.c3
  have H := Lib.hid h
  clear h
  go_wp2_with (
    go_at_call 60; refine hL.out.mono ?_
    rintro e W0 ⟨rfl, hd⟩
    have h0 := H.out.drew hd
    have d2 := h0.c2
    have d3 := h0.c3
    have f2 := h0.f 2
    have f3 := h0.f 3
    have HD := Lib.hid hd
    have H0 := Lib.hid h0
    have hT := Lib.hid (tryGrow_none W0 b 0 0 cap n _ lim lr se h0 (by omega) (by omega) (by omega))
    clear hd h0)
  go_wp2_with (go_at_call 85; refine hT.out.mono ?_; rintro e w' ⟨rfl, rfl⟩)
  have hoc : ¬ cap = 0 := by omega
  have hG := fun w => Lib.hid (growSlice_any ⟨g, 0, none⟩ 0 cap n [] w rfl (fun j v hj => by simp at hj) (fun v hv => by cases hv) (by omega) hn (by omega) (by omega))
  have hwn : IntKind.i64.wrap (n : Int) = (n : Int) := by rw [IntKind.wrap_i64]; omega
  have mixed : Tryd.prog.follows .mixedOrders = true := by kernel_rfl
  go_region_with_o (
      go_at_call 101
      refine (hG _).out.mono ?_
      rintro e w2 ⟨cap2, cells, rfl, hN, hcsz, htk, hcap2, hcm2, hbel⟩
      have HH := Lib.hid (H0.out.same (hbel.block b H0.out.lt))
      have d2 := HH.out.c2
      have d3 := HH.out.c3
      have e2 := HH.out.f 2
      have e3 := HH.out.f 3)
  all_goals (
    go_wp2
    go_ret
    exact ⟨rfl, by have := grown_end (g := g) (m := 0) (n := n) (k := 0 + n) (bs := []) HD.out hbel HH.out hbW hN hcsz htk (by omega) hcap2 hcm2 rfl (v1 := .slice (some ⟨w'.heap.size, 0, none⟩) 0 cap2); simpa using this⟩)

end Go.Proofs.YtaibehfpbcgijaaDoor.Asc
