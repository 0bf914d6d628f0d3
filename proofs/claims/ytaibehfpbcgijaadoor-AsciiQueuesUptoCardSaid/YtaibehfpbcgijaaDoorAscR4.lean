/- grow where all was read, and the row has room, read anew. -/
import Derived.Test.YtaibehfpbcgijaaDoorAscR
namespace Go.Proofs.YtaibehfpbcgijaaDoor.Asc
open Go.RowKit Go.Shelf

set_option maxHeartbeats 12800000 in
set_option maxRecDepth 100000 in
theorem grow_resetRoom (W : World) (b g off cap n : Nat) (lim lr se : Int) (h : Qc W b lim (.slice (some ⟨g, 0, none⟩) off cap) off lr se) (cur : Array Value) (hg : W.heap[g]? = some (.cells cur 5 (0, 0))) (hcs : cur.size = cap) (hgb : g ≠ b)
    (ho : 0 < off) (hoc0 : off ≤ cap) (hcm : cap ≤ 9223372036854775807) (hn : n ≤ cap) :
    Calls Tryd.prog 86 #[.pointer (some ⟨b, 2, none⟩), .int .i64 n] W fun e w' => e = .returned (.int .i64 0) ∧ Grown W w' b g lim se n [] := by
  have hnil : ∀ W, (binOp .eql 45 (.slice (some ⟨g, 0, none⟩) 0 cap) (.slice none 0 0)).run Tryd.prog W = .ok (.bool false) W := fun W => by kernel_rfl
  have hbW := h.lt
  have hL := Lib.hid (bufLen_any W b off off cap _ lim lr se h (by omega) (by omega))
  rw [Nat.sub_self] at hL
  have hoz : ¬ off = 0 := by omega
  have H := Lib.hid h
  clear h
  go_enter Tryd.func86, Tryd.ntmps86
  go_wp2_with (
    go_at_call 60; refine hL.out.mono ?_
    rintro e W00 ⟨rfl, hd⟩
    have d3 := (H.out.drew hd).c3
    have HD := Lib.hid hd
    clear hd)
  refine (reset_any W00 b off off cap _ lim lr se (H.out.drew HD.out)).mono ?_
  rintro e W0 ⟨rfl, lr0, h0, hu0⟩
  have c2 := h0.c2
  have c3 := h0.c3
  have f2 := h0.f 2
  have f3 := h0.f 3
  have H0 := Lib.hid h0
  have HU := Lib.hid ((HD.out.upd b b).trans hu0 (.inl rfl))
  have hT := Lib.hid (tryGrow_room W0 b 0 0 cap n _ lim lr0 se h0 (by omega) (by omega) (by omega))
  clear h0 hu0 d3
  go_wp2_with (go_at_call 85; refine hT.out.mono ?_; rintro e w' ⟨rfl, rfl⟩)
  go_ret
  have hg0 : W0.heap[g]? = some (.cells cur 5 (0, 0)) := (HU.out.block g (Array.getElem?_eq_some_iff.1 hg).1 hgb hgb).trans hg
  refine ⟨rfl, g, cap, cur, lr0, ?_, ?_, hcs, by simpa using hn, hcm, rfl, .inl rfl, hgb, ?_⟩
  · simpa using H0.out.set2 (.slice (some ⟨g, 0, none⟩) (0 + n) cap)
  · rw [Below.heap_setCell _ _ _ _ hgb]; exact hg0
  · exact (⟨HU.out.os, HU.out.tape, HU.out.output, HU.out.size, fun k hk h1 _ => HU.out.block k hk h1 h1⟩ : Upd b g W W0).trans (Upd.cellB b g 2 _ _) (.inl rfl)

end Go.Proofs.YtaibehfpbcgijaaDoor.Asc
