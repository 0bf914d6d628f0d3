/- grow where bytes are held and half of the row would not do: a new row. -/
import Derived.Test.YtaibehfpbcgijaaDoorAscR
namespace Go.Proofs.YtaibehfpbcgijaaDoor.Asc
open Go.RowKit Go.Shelf

set_option maxHeartbeats 12800000 in
set_option maxRecDepth 100000 in
theorem grow_more (W : World) (b g off l cap n : Nat) (lim lr se : Int) (cur : Array Value) (bs : List Value) (h : Qc W b lim (.slice (some ⟨g, 0, none⟩) l cap) off lr se) (hg : W.heap[g]? = some (.cells cur 5 (0, 0)))
    (hcs : cur.size = cap) (hm : off < l) (hlc : l ≤ cap) (hbs : (cur.toList.take l).drop off = bs) (h1 : ∀ v ∈ bs, v.oneCell' = true) (hroom : cap - l < n) (hhalf : cap / 2 < (l - off) + n) (hlim : (l - off) + n ≤ 1048576) :
    Calls Tryd.prog 86 #[.pointer (some ⟨b, 2, none⟩), .int .i64 n] W fun e w' => e = .returned (.int .i64 ((l - off : Nat) : Int)) ∧ Grown W w' b g lim se n bs := by
  have hbl := row_len hcs hlc hbs
  have hsrc := row_src hg hbs
  have hnil : ∀ W, (binOp .eql 45 (.slice (some ⟨g, 0, none⟩) l cap) (.slice none 0 0)).run Tryd.prog W = .ok (.bool false) W := fun W => by kernel_rfl
  have hcap : cap ≤ 140737488355328 := by omega
  have hbW := h.lt
  obtain ⟨m, hm0⟩ : ∃ m, m = l - off := ⟨_, rfl⟩
  have hL := Lib.hid (bufLen_any W b off l cap _ lim lr se h (by omega) (by omega))
  rw [← hm0] at hL
  go_enter Tryd.func86, Tryd.ntmps86
  go_wp2_with (go_at_call 60; refine hL.out.mono ?_)
  rintro e W0 ⟨rfl, hd⟩
  have h0 := h.drew hd
  have c2 := h0.c2
  have c3 := h0.c3
  have f2 := h0.f 2
  have f3 := h0.f 3
  have hg0 : W0.heap[g]? = some (.cells cur 5 (0, 0)) := by rw [hd.heap]; exact hg
  have hsrc0 := row_src hg0 hbs
  have hT := Lib.hid (tryGrow_none W0 b off l cap n _ lim lr se h0 hlc (by omega) hroom)
  have HD := Lib.hid hd
  have H0 := Lib.hid h0
  have HL := Lib.hid hbl
  have HS := Lib.hid hsrc0
  have HB := Lib.hid hbs
  have hm1 : ¬ m = 0 := by omega
  have hm2 : m + n ≤ 1048576 := by omega
  have hm3 : cap / 2 < m + n := by omega
  clear hd h hL h0 hg hsrc hbl hhalf hlim hsrc0 hbs
  go_wp2_with (go_at_call 85; refine hT.out.mono ?_; rintro e w' ⟨rfl, rfl⟩)
  obtain ⟨k, hk⟩ : ∃ k, k = off + n := ⟨_, rfl⟩
  have hoc : ¬ cap = off := by omega
  have hG := fun w hs => Lib.hid (growSlice_any ⟨g, off, none⟩ (l - off) (cap - off) k bs w HL.out hs h1 (by omega) (by omega) (by omega) (by omega))
  rw [show ((k : Nat) : Int) = (off : Int) + (n : Int) by omega] at hG
  have hwn : IntKind.i64.wrap ((off : Int) + (n : Int)) = (off : Int) + (n : Int) := by rw [IntKind.wrap_i64]; omega
  have mixed : Tryd.prog.follows .mixedOrders = true := by kernel_rfl
  go_region_with_o (
      go_at_call 101
      refine (hG _ ?_).out.mono ?_
      exact HS.out
      rintro e w2 ⟨cap2, cells, rfl, hN, hcsz, htk, hcap2, hcm2, hbel⟩
      have HH := Lib.hid (H0.out.same (hbel.block b H0.out.lt))
      have d2 := HH.out.c2
      have d3 := HH.out.c3
      have e2 := HH.out.f 2
      have e3 := HH.out.f 3)
  all_goals (
    go_wp2
    go_ret
    exact ⟨rfl, grown_end (k := l - off + k) HD.out hbel HH.out hbW hN hcsz htk (by omega) hcap2 hcm2 HL.out⟩)

end Go.Proofs.YtaibehfpbcgijaaDoor.Asc
