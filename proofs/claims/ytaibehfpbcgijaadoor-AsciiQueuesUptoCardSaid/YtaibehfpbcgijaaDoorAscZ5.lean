/- A Peek on both queues. -/
import Derived.Test.YtaibehfpbcgijaaDoorAscZ4
import Derived.Test.YtaibehfpbcgijaaDoorRow8
namespace Go.Proofs.YtaibehfpbcgijaaDoor.Asc
open Go.RowKit Go.Shelf

theorem inc_u8 (c : UInt8) : IntKind.u8.wrap ((c.toNat : Int) + 1) = ((c + 1).toNat : Int) := by
  have h : (c + 1).toNat = (c.toNat + 1) % 256 := by simp [UInt8.toNat_add]
  have hc : c.toNat < 256 := c.toNat_lt
  rw [h]
  simp [IntKind.wrap, IntKind.signed, IntKind.bits]

/-- A row of the call's own, of bytes. -/
theorem own_rowF {W : World} {B n cap : Nat} {a : Addr} {l : List UInt8} (h : W.ownsRow B 5 1 (.slice (some a) n cap) n (bVs l)) : ∃ q, a = ⟨q, 0, none⟩ ∧ B ≤ q ∧ RowF W q n (fun j => l.getD j 0) := by
  rcases h.2 with ⟨hv, _⟩ | ⟨q, cap', cur, hv, hq, hh, hn, hm, hcs, htk⟩
  · cases hv
  · cases hv
    refine ⟨q, rfl, hq, cur, (0, 0), 5, hh, by omega, fun j hj => by simp, fun j hj => ?_⟩
    have hl : l.length = n := by have := h.1; rw [bVs_len] at this; omega
    have h1 : (bVs l)[j]? = some (bV (l.getD j 0)) := by
      rw [bVs, List.getElem?_map, List.getD_eq_getElem?_getD, List.getElem?_eq_getElem (by omega)]
      rfl
    rw [← htk, List.getElem?_take, if_pos (by omega)] at h1
    simpa [bV] using h1

theorem Pr.at_q {W : World} {b g c k s q i : Nat} {lim : Int} {l : List UInt8} {v : Value} (h : Pr W b g c k s lim l) (hb : q ≠ b) (hg : q ≠ g) (hc : q ≠ c) (hk : q ≠ k) : Pr (W.setCell ⟨q, i, none⟩ v) b g c k s lim l :=
  { h with
    q := h.q.same (Below.heap_setCell _ _ _ _ (Ne.symm hb)) (Below.heap_setCell _ _ _ _ (Ne.symm hg))
    r := h.r.same (Below.heap_setCell _ _ _ _ (Ne.symm hc)) (Below.heap_setCell _ _ _ _ (Ne.symm hk)) }

theorem stp_same {W W1 : World} {b g c k s : Nat} {lim : Int} {l : List UInt8} (h : Pr W b g c k s lim l) (hv : Below W.heap.size W W1) : Stp W W1 b g c k lim :=
  ⟨g, k, s, l, h.below hv, .inl rfl, .inr (.inl rfl), Up4.of_below hv⟩

set_option maxRecDepth 100000 in
set_option maxHeartbeats 4000000 in
theorem step_peek (W : World) (b g c k s : Nat) (lim N : Int) (ax : Option Addr) (nx cx : Nat) (l : List UInt8) (h : Pr W b g c k s lim l) :
    Calls Tryd.prog 35 #[.pointer (some ⟨b, 0, none⟩), .pointer (some ⟨c, 0, none⟩), .agg #[.int .i64 2, .int .i64 N, .slice ax nx cx]] W fun e w' => e = .returned (.bool true) ∧ Stp W w' b g c k lim := by
  have hlen := h.len
  have H := Lib.hid h
  obtain ⟨V, hV⟩ : ∃ V, V = W.alloc (.cells #[.int .i64 2, .int .i64 N, .slice ax nx cx] 47) := ⟨_, rfl⟩
  have hWV : Below W.heap.size W V := by rw [hV]; exact (Below.refl _ _).alloc (Nat.le_refl _) _
  have hVc : V.heap[W.heap.size]? = some (.cells #[.int .i64 2, .int .i64 N, .slice ax nx cx] 47 (0, 0)) := by rw [hV]; exact heap_alloc_new _ _
  have hVs : V.heap.size = W.heap.size + 1 := by rw [hV]; simp
  have cN : V.cell? ⟨W.heap.size, 1, none⟩ = some (.int .i64 N) := by rw [Lib.cell_of_heap hVc]; rfl
  have hPV := h.below hWV
  have HP := Lib.hid (peek_any V b g lim (s : Int) N l hPV.q hlen)
  have hgl := giveN_len N l
  have HR : ∀ w, Rq w c k lim l → Hid (Calls Tryd.prog 57 #[.pointer (some ⟨c, 0, none⟩), .int .i64 N] w fun e w' => ∃ v, e = .returned v ∧ w'.ownsRow w.heap.size 5 1 v (giveN N l.length) (bVs (l.take (giveN N l.length))) ∧ Below w.heap.size w w') := fun w hw => Lib.hid (refPeek_any w c k lim N l hw hlen)
  generalize giveN N l.length = n at HP HR hgl
  have hnb : n ≤ 1048576 := by
    have := hgl
    rw [List.length_take] at this
    omega
  have HPV := Lib.hid hPV
  have HWV := Lib.hid hWV
  have HV := Lib.hid hV
  have HVs := Lib.hid hVs
  have mixed : Tryd.prog.follows .mixedOrders = true := by kernel_rfl
  clear h hWV hV hVc hPV hVs
  go_enter Tryd.func35, Tryd.ntmps35
  go_wp2_with fail
  rw [← HV.out]
  have cNV := cN
  go_wp2_with (go_at_call 40; refine HP.out.mono ?_; rintro e w1 ⟨v, rfl, t1, hb1⟩; have cN1 : w1.cell? ⟨W.heap.size, 1, none⟩ = some (.int .i64 N) := (hb1.cell (p := ⟨W.heap.size, 1, none⟩) (by rw [HVs.out]; exact Nat.lt_succ_self _)).trans cN; have s1 := conv_src w1 v _ (Src.of_own t1 hgl.symm); have HT1 := Lib.hid t1; have HB1 := Lib.hid hb1; obtain ⟨ao, cv, rfl, hcv, -⟩ := own_shape2 t1; clear t1 hb1)
  have hrow : n = 0 ∨ ∃ q f, ao = some ⟨q, 0, none⟩ ∧ V.heap.size ≤ q ∧ q < w1.heap.size ∧ RowF w1 q n f := by
    cases ao with
    | none =>
      rcases HT1.out.2 with ⟨_, h0⟩ | ⟨q, cap', cur, hv, _⟩
      · exact .inl h0
      · cases hv
    | some a =>
      obtain ⟨q, rfl, hq, hr⟩ := own_rowF HT1.out
      exact .inr ⟨q, _, rfl, hq, hr.lt, hr⟩
  have s1d := conv_src w1.drew (.slice ao n cv) _ ((Src.of_own HT1.out hgl.symm).below (W' := w1.drew) ⟨rfl, rfl, rfl, Nat.le_refl _, fun _ _ => rfl⟩)
  have HRow := Lib.hid hrow
  clear hrow
  go_region_with (
       go_at_call 57
       refine (HR _ ?_).out.mono ?_
       exact (HPV.out.below HB1.out).r
       rintro e w2 ⟨v2, rfl, r1, hb2⟩
       have s2 := conv_src w2 v2 _ (Src.of_own r1 hgl.symm)
       have HB2 : Hid (Below w1.heap.size w1 w2) := Lib.hid ⟨hb2.os, hb2.tape, hb2.output, hb2.size, hb2.block⟩
       have s3 := conv_src w2 (.slice ao n cv) _ ((Src.of_own HT1.out hgl.symm).below HB2.out)
       clear r1 hb2)
  all_goals (
    clear s1 s1d s2 s3
    have hfr : ∀ q, V.heap.size ≤ q → q ≠ b ∧ q ≠ g ∧ q ≠ c ∧ q ≠ k := fun q hq => by
      have h1 := HPV.out.q.lt
      have h2 := HPV.out.q.ltg
      have h3 := HPV.out.r.lt
      have h4 := HPV.out.r.ltk
      omega
    have HFr := Lib.hid hfr
    have HBW : Hid (Below W.heap.size W w2) := Lib.hid ((HWV.out.trans (HB1.out.mono HWV.out.size)).trans (HB2.out.mono (Nat.le_trans HWV.out.size HB1.out.size)))
    have HR2 : Hid (n = 0 ∨ ∃ q f, ao = some ⟨q, 0, none⟩ ∧ V.heap.size ≤ q ∧ RowF w2 q n f) := Lib.hid (HRow.out.imp id (fun ⟨q, f, e1, e2, e3, e4⟩ => ⟨q, f, e1, e2, e4.same (HB2.out.block q e3)⟩))
    clear hfr
    go_wp2
    go_loopw [12] (fun s12 wr => ∃ j : Nat, j ≤ n ∧ s12 = .int .i64 j ∧ (n = 0 ∨ ∃ q f, ao = some ⟨q, 0, none⟩ ∧ V.heap.size ≤ q ∧ RowF wr q n f) ∧ Below W.heap.size W wr) (fun i _ => n - (RowKit.intOf i).toNat)
    case atStart => exact ⟨0, Nat.zero_le _, rfl, HR2.out, HBW.out⟩
    case round =>
      obtain ⟨j, hj, rfl, hrw, hbe⟩ := hrel
      have HBe := Lib.hid hbe
      clear hbe
      by_cases hlt : j < n
      · rcases hrw with h0 | ⟨q, f, rfl, hq, hrow⟩
        · omega
        · have hc := hrow.cell hlt
          have hf := hrow.frozen hlt
          have hw := inc_u8 (f j)
          have HRw := Lib.hid hrow
          clear hrow
          go_wp2
          go_roundw
          case rel => exact ⟨j + 1, by omega, by go_num, .inr ⟨q, _, rfl, hq, HRw.out.set j (f j + 1)⟩, HBe.out.setCell (p := ⟨q, j, none⟩) (Nat.le_trans HWV.out.size hq) _⟩
          case measure => simp [RowKit.intOf]; omega
      · clear hrw
        go_wp2
        go_ret
        exact ⟨rfl, stp_same H.out HBe.out⟩)

end Go.Proofs.YtaibehfpbcgijaaDoor.Asc
