/- The statement BitsWrites: two writers, by turns: each has what was put into it. -/
import Derived.Test.YtaibehfpbcgijabDoorBitX
import Derived.Test.YtaibehfpbcgijabDoorBitQ
import Derived.Test.YtaibehfpbcgijabDoorBitJ
import Derived.Test.YtaibehfpbcgijabDoorClose
import Derived.Test.YtaibehfpbcgijabDoorCards
import Derived.Test.YtaibehfpbcgijabDoorTie
import Derived.ProofKit
import Derived.Lay
import Derived.LaidOnce
import Derived.SevenTiedAt
namespace Go.Proofs.YtaibehfpbcgijabDoor.Bit
open Go.RowKit Go.Shelf Go.Lib Go.Proofs.YtaibehfpbcgijabDoor.Mem
open Go.ChangeShapes Go.WideShapes Go.ChangeAt

/-- The r-th call of a list, in any later world. -/
theorem op_at {W : World} {B : Nat} {ao : Option Addr} {r : Nat} {o : OpV} (hB : W.heap.size = B) (h : OpAt W ao r o) : ∃ a, ao = some a ∧ ∀ w', Below B W w' → w'.cell? (a.add (r * 4)) = some (.int .i64 o.kind) ∧ w'.cell? ⟨(a.add (r * 4)).block, (a.add (r * 4)).off + 1, none⟩ = some (.int .i64 o.n) ∧
    w'.cell? ⟨(a.add (r * 4)).block, (a.add (r * 4)).off + 2, none⟩ = some (.int .i64 o.v) ∧ w'.cell? ⟨(a.add (r * 4)).block, (a.add (r * 4)).off + 3, none⟩ = some (.slice o.ba o.b.length o.bc) ∧ Src w' (.slice o.ba o.b.length o.bc) o.b := by
  obtain ⟨a, rfl, p0, p1, p2, p3, p4, p5⟩ := h
  have mv : ∀ w', Below B W w' → ∀ (j : Nat) (y : Value), W.cell? (a.add j) = some y → w'.cell? (a.add j) = some y := fun w' hb j y hy => (hb.cell (by have := block_lt_of_cell hy; rw [hB] at this; exact this)).trans hy
  have e1 : (⟨(a.add (r * 4)).block, (a.add (r * 4)).off + 1, none⟩ : Addr) = a.add (r * 4 + 1) := (show _ = (a.add (r * 4)).add 1 from rfl).trans (Deep.add_add a _ _)
  have e2 : (⟨(a.add (r * 4)).block, (a.add (r * 4)).off + 2, none⟩ : Addr) = a.add (r * 4 + 2) := (show _ = (a.add (r * 4)).add 2 from rfl).trans (Deep.add_add a _ _)
  have e3 : (⟨(a.add (r * 4)).block, (a.add (r * 4)).off + 3, none⟩ : Addr) = a.add (r * 4 + 3) := (show _ = (a.add (r * 4)).add 3 from rfl).trans (Deep.add_add a _ _)
  refine ⟨a, rfl, fun w' hb => ⟨mv w' hb _ _ p0, ?_, ?_, ?_, p4.below (hb.mono (Nat.le_of_eq hB))⟩⟩
  · rw [e1]; exact mv w' hb _ _ p1
  · rw [e2]; exact mv w' hb _ _ p2
  · rw [e3]; exact mv w' hb _ _ p3

set_option maxRecDepth 100000 in
set_option maxHeartbeats 8000000 in
theorem lawWrites (W : World) (B c1 c2 : Nat) (a1 a2 : Option Addr) (os ps : List OpV) (hB : W.heap.size = B) (hm : Masks W B) (ho : ∀ r o, os[r]? = some o → OpAt W a1 r o ∧ o.b.length ≤ 140737488351232) (hp : ∀ r o, ps[r]? = some o → OpAt W a2 r o ∧ o.b.length ≤ 140737488351232) (hol : os.length ≤ 140737488351232) (hpl : ps.length ≤ 140737488351232) :
    Calls Tryd.prog 3 #[.slice a1 os.length c1, .slice a2 ps.length c2] W fun e w' => e = .returned (.bool true) ∧ Below B W w' := by
  have HBW := Lib.hid hB
  have HK := Lib.hid hm
  have HO := Lib.hid ho
  have HP := Lib.hid hp
  have HN1 := Lib.hid (newWriter_any W B (by omega))
  rw [hB] at HN1
  have hnb : ∀ (b : Nat) w, (binOp .eql 23 (.pointer (some ⟨b, 0, none⟩)) (.pointer none)).run Tryd.prog w = .ok (.bool false) w := fun _ _ => by kernel_rfl
  clear hB hm ho hp
  go_enter Tryd.func3, Tryd.ntmps3
  go_wp2_with (first
    | (go_at_call 8; with_reducible refine HN1.out.mono ?_; rintro e w1 ⟨rfl, q1, q2⟩; have HQ1 := Lib.hid (And.intro q1 (And.intro q2 q1.lt)); have hn2 := newWriter_any w1 B (Nat.le_of_lt HQ1.out.2.2); obtain ⟨b2, hb2⟩ : ∃ b2, w1.heap.size = b2 := ⟨_, rfl⟩; rw [hb2] at hn2; have HN2 := Lib.hid hn2; have HB2 := Lib.hid hb2; clear q1 q2 hn2 hb2)
    | (go_at_call 8; refine HN2.out.mono ?_; rintro e w2 ⟨rfl, q1, q2⟩; have HQ2 := Lib.hid (And.intro q1 q2); have HBl2 : Hid (Below B W w2 ∧ B ≤ w2.heap.size) := Lib.hid (by have h1 := HQ1.out.2.2; rw [HB2.out] at h1; have h2 := q1.lt; exact ⟨HQ1.out.2.1.trans (q2.mono (Nat.le_of_lt h1)), by omega⟩); have HKn := Lib.hid (knows_at w2 B (HK.out.below HBl2.out.1) HBl2.out.2); clear q1 q2)
    | (go_at_call 9; refine HKn.out.mono ?_; rintro e w3 ⟨rfl, hb3⟩; have HB3 := Lib.hid hb3; clear hb3))
  have hs0 : TwoS W ((w3.alloc (.cells #[.slice none 0 0] 29)).alloc (.cells #[.slice none 0 0] 29)) B B w3.heap.size b2 (w3.heap.size + 1) := by
    have h1 := HQ1.out.2.2
    have h2 := HQ2.out.1.lt
    have h3 := HB3.out.size
    have e2 := HB2.out
    have hA := (Below.refl w3.heap.size w3).alloc (Nat.le_refl _) (.cells #[.slice none 0 0] 29)
    have hA2 := (Below.refl (w3.heap.size + 1) (w3.alloc (.cells #[.slice none 0 0] 29))).alloc (by simp) (.cells #[.slice none 0 0] 29)
    have hAA := hA.trans (hA2.mono (Nat.le_succ _))
    have hw1 : WB w3 B B B [] := (HQ1.out.1.below (by rw [e2]; exact HQ2.out.2)).below HB3.out
    have hw2 : WB w3 B b2 b2 [] := HQ2.out.1.below HB3.out
    have r1 : RW ((w3.alloc (.cells #[.slice none 0 0] 29)).alloc (.cells #[.slice none 0 0] 29)) B w3.heap.size w3.heap.size [] := ⟨.slice none 0 0, (hA2.block _ (Nat.lt_succ_self _)).trans (heap_alloc_new _ _), World.ownsRow_nil _ _ _ _, .inl ⟨rfl, rfl⟩, by omega⟩
    have r2 : RW ((w3.alloc (.cells #[.slice none 0 0] 29)).alloc (.cells #[.slice none 0 0] 29)) B (w3.heap.size + 1) (w3.heap.size + 1) [] := ⟨.slice none 0 0, by rw [show w3.heap.size + 1 = (w3.alloc (.cells #[.slice none 0 0] 29)).heap.size by simp]; exact heap_alloc_new _ _, World.ownsRow_nil _ _ _ _, .inl ⟨rfl, rfl⟩, by omega⟩
    refine ⟨B, w3.heap.size, b2, w3.heap.size + 1, [], [], ⟨hw1.below hAA, r1, Nat.zero_le _, by omega, by omega, by omega, by omega⟩, ⟨hw2.below hAA, r2, Nat.zero_le _, by omega, by omega, by omega, by omega⟩, (HBl2.out.1.trans (HB3.out.mono HBl2.out.2)).trans (hAA.mono (by omega)), by simp; omega, ?_⟩
    rintro i (rfl | rfl | rfl | rfl) <;> omega
  have HS0 := Lib.hid hs0
  clear hs0 HQ1 HQ2 HB2 HBl2 HKn HB3 HN1 HN2
  obtain ⟨cA, hcA⟩ : ∃ cA, cA = w3.heap.size := ⟨_, rfl⟩
  go_loopw [9] (fun s9 wr => ∃ r : Nat, r ≤ 140737488351233 ∧ s9 = .int .i64 r ∧ TwoS W wr B B w3.heap.size b2 (w3.heap.size + 1)) (fun i _ => max os.length ps.length - (RowKit.intOf i).toNat)
  case atStart => exact ⟨0, by omega, rfl, HS0.out⟩
  case round =>
    obtain ⟨r, hr, rfl, hS⟩ := hrel
    have HS := Lib.hid hS
    clear hS HS0
    by_cases h1 : r < os.length
    · obtain ⟨p1, p2⟩ := HO.out r _ (List.getElem?_eq_getElem h1)
      generalize os[r] = o at p1 p2
      obtain ⟨a, rfl, hat⟩ := op_at HBW.out p1
      have HAt := Lib.hid hat
      obtain ⟨x0, x1, x2, x3, -⟩ := hat wr HS.out.bel.1
      have HP1 := Lib.hid (HS.out.put HK.out o.kind o.n o.v o.ba o.b.length o.bc o.b (fun w' hb => (HAt.out w' hb).2.2.2.2) rfl p2)
      clear hat p1
      by_cases h2 : r < ps.length
      · obtain ⟨p1, p3⟩ := HP.out r _ (List.getElem?_eq_getElem h2)
        generalize ps[r] = o2 at p1 p3
        obtain ⟨a2, rfl, hat⟩ := op_at HBW.out p1
        have HAt2 := Lib.hid hat
        clear hat p1
        go_wp2_with (first
          | (go_at_call 10; with_reducible refine HP1.out.mono ?_; rintro e w4 ⟨rfl, hw4⟩; have HS4 := Lib.hid hw4.swap; obtain ⟨y0, y1, y2, y3, -⟩ := HAt2.out w4 hw4.bel.1; have HP2 := Lib.hid (HS4.out.put HK.out o2.kind o2.n o2.v o2.ba o2.b.length o2.bc o2.b (fun w' hb => (HAt2.out w' hb).2.2.2.2) rfl p3); clear hw4)
          | (go_at_call 10; refine HP2.out.mono ?_; rintro e w5 ⟨rfl, hw5⟩; have HS5 := Lib.hid hw5.swap; clear hw5))
        go_roundw
        case rel => exact ⟨r + 1, by omega, by go_num, HS5.out⟩
        case measure => simp [RowKit.intOf]; omega
      · go_wp2_with (go_at_call 10; refine HP1.out.mono ?_; rintro e w4 ⟨rfl, hw4⟩; have HS5 := Lib.hid hw4; clear hw4)
        go_roundw
        case rel => exact ⟨r + 1, by omega, by go_num, HS5.out⟩
        case measure => simp [RowKit.intOf]; omega
    · by_cases h2 : r < ps.length
      · obtain ⟨p1, p3⟩ := HP.out r _ (List.getElem?_eq_getElem h2)
        generalize ps[r] = o2 at p1 p3
        obtain ⟨a2, rfl, hat⟩ := op_at HBW.out p1
        have HAt2 := Lib.hid hat
        obtain ⟨y0, y1, y2, y3, -⟩ := hat wr HS.out.bel.1
        have HP2 := Lib.hid (HS.out.swap.put HK.out o2.kind o2.n o2.v o2.ba o2.b.length o2.bc o2.b (fun w' hb => (HAt2.out w' hb).2.2.2.2) rfl p3)
        clear hat p1
        go_wp2_with (go_at_call 10; refine HP2.out.mono ?_; rintro e w5 ⟨rfl, hw5⟩; have HS5 := Lib.hid hw5.swap; clear hw5)
        go_roundw
        case rel => exact ⟨r + 1, by omega, by go_num, HS5.out⟩
        case measure => simp [RowKit.intOf]; omega
      · obtain ⟨g, k, g2, k2, l, l2, hT⟩ := HS.out
        have HT := Lib.hid hT
        have HD := Lib.hid (hT.p.below (W' := wr.drew) ((⟨rfl, rfl, rfl, rfl⟩ : Drew wr wr.drew).below _))
        have B1 := Lib.hid (bytes_any wr.drew B B g l HD.out.q HD.out.hl)
        have C1 := fun w (h : RW w B w3.heap.size k l) => Lib.hid (wrefBytes_any w B w3.heap.size k l h HT.out.p.hl)
        have B2 := fun w (h : WB w B b2 g2 l2) => Lib.hid (bytes_any w B b2 g2 l2 h HT.out.q.hl)
        have C2 := fun w (h : RW w B (w3.heap.size + 1) k2 l2) => Lib.hid (wrefBytes_any w B (w3.heap.size + 1) k2 l2 h HT.out.q.hl)
        have mixed : Tryd.prog.follows .mixedOrders = true := by kernel_rfl
        generalize pk l = r1 at B1 C1
        generalize pk l2 = r2 at B2 C2
        clear hT
        go_wp2
        go_region_with (first
          | (go_at_call 11
             with_reducible refine B1.out.mono ?_
             rintro e w4 ⟨v4, rfl, t1, t2⟩
             have s1 := conv_src w4 v4 _ (Src.of_own t1 rfl)
             have HT4 := Lib.hid t1
             have HB4 : Hid (Below wr.heap.size wr w4) := Lib.hid ⟨t2.os, t2.tape, t2.output, t2.size, t2.block⟩
             clear t1 t2)
          | (go_at_call 12
             with_reducible refine (C1 w4 (HT.out.p.below HB4.out).r).out.mono ?_
             rintro e w5 ⟨v5, rfl, t1, t2⟩
             have s2 := conv_src w5 v5 _ (Src.of_own t1 rfl)
             have s3 := conv_src w5 v4 _ (Src.of_own (own_below HT4.out t2) rfl)
             have HB5 : Hid (Below wr.heap.size wr w5) := Lib.hid (HB4.out.trans (t2.mono HB4.out.size))
             clear t1 t2)
          | (go_at_call 11
             with_reducible refine (B2 w5 (HT.out.q.below HB5.out).q).out.mono ?_
             rintro e w6 ⟨v6, rfl, t1, t2⟩
             have s4 := conv_src w6 v6 _ (Src.of_own t1 rfl)
             have HT6 := Lib.hid t1
             have HB6 : Hid (Below wr.heap.size wr w6) := Lib.hid (HB5.out.trans (t2.mono HB5.out.size))
             clear t1 t2)
          | (go_at_call 12
             with_reducible refine (C2 w6 (HT.out.q.below HB6.out).r).out.mono ?_
             rintro e w7 ⟨v7, rfl, t1, t2⟩
             have s5 := conv_src w7 v7 _ (Src.of_own t1 rfl)
             have s6 := conv_src w7 v6 _ (Src.of_own (own_below HT6.out t2) rfl)
             have HB7 : Hid (Below wr.heap.size wr w7) := Lib.hid (HB6.out.trans (t2.mono HB6.out.size))
             clear t1 t2))
        all_goals
          go_wp2
          go_ret
          exact ⟨rfl, HT.out.bel.trans (HB7.out.mono HT.out.hB)⟩
