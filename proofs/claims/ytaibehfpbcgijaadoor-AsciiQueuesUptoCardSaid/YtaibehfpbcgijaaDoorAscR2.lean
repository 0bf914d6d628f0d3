/- grow where half of the row does: what is held slides to its beginning. -/
import Derived.Test.YtaibehfpbcgijaaDoorAscR
namespace Go.Proofs.YtaibehfpbcgijaaDoor.Asc
open Go.RowKit Go.Shelf

set_option maxHeartbeats 12800000 in
set_option maxRecDepth 100000 in
theorem grow_slide (W : World) (b g off l cap n : Nat) (lim lr se : Int) (cur : Array Value) (bs : List Value) (h : Qc W b lim (.slice (some ⟨g, 0, none⟩) l cap) off lr se) (hg : W.heap[g]? = some (.cells cur 5 (0, 0)))
    (hcs : cur.size = cap) (hm : off < l) (hlc : l ≤ cap) (hbs : (cur.toList.take l).drop off = bs) (h1 : ∀ v ∈ bs, v.oneCell' = true) (hroom : cap - l < n) (hhalf : (l - off) + n ≤ cap / 2) (hcm : cap ≤ 9223372036854775807) (hgb : g ≠ b) (hlim : (l - off) + n ≤ 1048576) :
    Calls Tryd.prog 86 #[.pointer (some ⟨b, 2, none⟩), .int .i64 n] W fun e w' => e = .returned (.int .i64 ((l - off : Nat) : Int)) ∧ Grown W w' b g lim se n bs := by
  have hbl := row_len hcs hlc hbs
  have hsrc := row_src hg hbs
  have hnil : ∀ W, (binOp .eql 45 (.slice (some ⟨g, 0, none⟩) l cap) (.slice none 0 0)).run Tryd.prog W = .ok (.bool false) W := fun W => by kernel_rfl
  have hbW := h.lt
  obtain ⟨m, hm0⟩ : ∃ m, m = l - off := ⟨_, rfl⟩
  have hL := Lib.hid (bufLen_any W b off l cap _ lim lr se h (by omega) (by omega))
  rw [← hm0] at hL
  go_enter Tryd.func86, Tryd.ntmps86
  go_wp2_with (go_at_call 60; refine hL.out.mono ?_)
  rintro e W0 ⟨rfl, hd⟩
  have h0 := h.drew hd
  have c2 := h0.c2
  have c3 := h0.c3
  have f2 := h0.f 2
  have f3 := h0.f 3
  have hg0 : W0.heap[g]? = some (.cells cur 5 (0, 0)) := by rw [hd.heap]; exact hg
  have hsrc0 := row_src hg0 hbs
  have hT := Lib.hid (tryGrow_none W0 b off l cap n _ lim lr se h0 hlc (by omega) hroom)
  have HD := Lib.hid hd
  have H0 := Lib.hid h0
  have HL := Lib.hid hbl
  have HS := Lib.hid hsrc0
  have HB := Lib.hid hbs
  have hm1 : ¬ m = 0 := by omega
  have hm2 : m + n ≤ 1048576 := by omega
  have hm3 : m + n ≤ cap / 2 := by omega
  obtain ⟨i0, hi, hz0, hz1, hz2⟩ := info_parts info5
  have hsz1 : (Tryd.prog.info? 5).map (·.size) = some 1 := by rw [hi]; simp [hz1]
  have hcopy := run_copy_row (P := Tryd.prog) W0.drew 45 45 3 5 g 0 l cap ⟨g, off, none⟩ (l - off) (cap - off) cur 5 bs Tryd.underlying45 hsz1 hg0 (by rw [hbl]; exact (Nat.min_eq_left (by omega)).symm) hsrc0 (by rw [hbl]; omega) h1
  generalize hY : (cur.toList.take 0 ++ bs ++ cur.toList.drop (0 + bs.length)).toArray = Y at hcopy
  have hYl : Y.toList = bs ++ cur.toList.drop bs.length := by rw [← hY]; simp
  have hYs : Y.size = cap := by
    have : Y.toList.length = cap := by rw [hYl, List.length_append, List.length_drop, Array.length_toList (xs := cur)]; omega
    simpa using this
  obtain ⟨W2, hW2⟩ : ∃ W2, W2 = W0.drew.setRow g Y := ⟨_, rfl⟩
  rw [← hW2, hbl] at hcopy
  have hq2 : Qc W2 b lim (.slice (some ⟨g, 0, none⟩) l cap) off lr se := h0.same (by rw [hW2]; exact setRow_other _ _ _ _ (Ne.symm hgb))
  have hr2 : W2.heap[g]? = some (.cells Y 5 (0, 0)) := by rw [hW2]; exact setRow_heap _ _ cur Y 5 (0, 0) hg0
  have hu2 : Upd b g W W2 := (hd.upd b g).trans (⟨by rw [hW2]; rfl, by rw [hW2]; rfl, by rw [hW2]; rfl, by rw [hW2]; simp, fun k hk h1 h2 => by rw [hW2]; exact setRow_other _ _ _ _ h2⟩ : Upd b g W0 W2) (.inl rfl)
  have d2 := hq2.c2
  have d3 := hq2.c3
  have e2 := hq2.f 2
  have e3 := hq2.f 3
  have HQ2 := Lib.hid hq2
  have HU2 := Lib.hid hu2
  have HR2 := Lib.hid hr2
  have HY := Lib.hid hYl
  have hoc : ¬ cap = off := by omega
  have mixed : Tryd.prog.follows .mixedOrders = true := by kernel_rfl
  clear hq2 hu2 hr2 hYl hY hW2 hsz1
  clear hd h hL h0 hg hsrc hbl hhalf hlim hsrc0 hbs
  go_wp2_with (go_at_call 85; refine hT.out.mono ?_; rintro e w' ⟨rfl, rfl⟩)
  go_region_o
  all_goals (
    go_wp2
    go_ret
    refine ⟨rfl, g, cap, Y, lr, ?_, ?_, hYs, ?_, hcm, ?_, .inl rfl, hgb, ?_⟩
    · rw [HL.out]; exact (HQ2.out.set3 0).set2 _
    · rw [Below.heap_setCell _ _ _ _ hgb, Below.heap_setCell _ _ _ _ hgb]; exact HR2.out
    · rw [HL.out]; omega
    · rw [HY.out, List.take_left' rfl]
    · exact (HU2.out.trans (Upd.cellB b g 3 _ _) (.inl rfl)).trans (Upd.cellB b g 2 _ _) (.inl rfl))

end Go.Proofs.YtaibehfpbcgijaaDoor.Asc
