/- The statement HuffPuts: symbols are written by any codes, or refused. -/
import Derived.Test.YtmmbadkkkjkgnaaDoorHPutA
import Derived.Test.YtmmbadkkkjkgnaaDoorBitJ
import Derived.Test.YtmmbadkkkjkgnaaDoorHufZ
import Derived.Test.YtmmbadkkkjkgnaaDoorClose
import Derived.Test.YtmmbadkkkjkgnaaDoorCards
import Derived.Test.YtmmbadkkkjkgnaaDoorTie
import Derived.ProofKit
import Derived.Lay
import Derived.LaidOnce
import Derived.SevenTiedAt
import Derived.Deep.RegionWith
import Derived.Deep.RegionHeld3
import Derived.RegionTactic
namespace Go.Proofs.YtmmbadkkkjkgnaaDoor.Huf
open Go.RowKit Go.Shelf Go.Lib Go.Proofs.YtmmbadkkkjkgnaaDoor.Mem Go.Proofs.YtmmbadkkkjkgnaaDoor.Bit
open Go.ChangeShapes Go.WideShapes Go.ChangeAt

set_option maxRecDepth 100000 in
set_option maxHeartbeats 8000000 in
theorem lawPuts (W : World) (B : Nat) (v0 v1 v2 : Value) (cs ls os : List Int) (hB : W.heap.size = B) (hm : Masks W B) (h0 : SrcI W v0 cs) (h1 : SrcI W v1 ls) (h2 : SrcI W v2 os) (hl : os.length ≤ 17592186044416) :
    Calls Tryd.prog 4 #[v0, v1, v2] W fun e w' => e = .returned (.bool true) ∧ Below B W w' := by
  obtain ⟨a2, c2, rfl, g2⟩ := h2.shape
  have HX : Aside (∀ w, Below B W w → SrcI w v0 cs ∧ SrcI w v1 ls ∧ SrcI w (.slice a2 os.length c2) os ∧ Masks w B) := fun w hb => by
    rw [← hB] at hb
    exact ⟨h0.below hb, h1.below hb, h2.below hb, by rw [hB] at hb; exact hm.below hb⟩
  have HA : Aside (0 < os.length → ∃ a, a2 = some a ∧ a.block < B) := fun q => by
    obtain ⟨a, rfl⟩ := g2 q
    refine ⟨a, rfl, ?_⟩
    rw [← hB]
    exact h2.lt q
  have HN1 := Lib.hid (newWriter_any W B (by omega))
  have HN := fun n w => Lib.hid (num_any n w)
  rw [hB] at HN1
  have hnb : ∀ w, (binOp .neq 44 (.pointer (some ⟨B, 0, none⟩)) (.pointer none)).run Tryd.prog w = .ok (.bool true) w := fun _ => by kernel_rfl
  have HBW : Aside (W.heap.size = B) := hB
  have mixed : Tryd.prog.follows .mixedOrders = true := by kernel_rfl
  clear hB hm h0 h1 h2 g2
  go_enter Tryd.func4, Tryd.ntmps4
  go_wp2_with (go_at_call 18; refine HN1.out.mono ?_; rintro e w1 ⟨rfl, q1, q2⟩; have HQ1 : Aside _ := And.intro q1 q2; clear q1 q2)
  have hs0 : Aside (∃ g k l, PrW (w1.alloc (.cells #[.slice none 0 0] 48)) B B g w1.heap.size k l ∧ Below B W (w1.alloc (.cells #[.slice none 0 0] 48)) ∧ B ≤ (w1.alloc (.cells #[.slice none 0 0] 48)).heap.size) := by
    obtain ⟨q1, q2⟩ := HQ1.out
    have hlt := q1.lt
    have hA := (Below.refl w1.heap.size w1).alloc (Nat.le_refl _) (.cells #[.slice none 0 0] 48)
    exact ⟨B, w1.heap.size, [], ⟨q1.below hA, ⟨.slice none 0 0, heap_alloc_new _ _, World.ownsRow_nil _ _ _ _, .inl ⟨rfl, rfl⟩, Nat.le_of_lt hlt⟩, Nat.zero_le _, by omega, by omega, by omega, by omega⟩, q2.trans (hA.mono (Nat.le_of_lt hlt)), by have := hA.size; omega⟩
  clear HQ1 HN1
  go_loopg [9] os.length (fun kx s9 wr => ∃ (i : Nat), s9 = .int .i64 i ∧ i ≤ os.length ∧ os.length - i ≤ kx ∧ Aside (∃ g k l, PrW wr B B g w1.heap.size k l ∧ Below B W wr ∧ B ≤ wr.heap.size))
  case atStart => exact ⟨0, rfl, Nat.zero_le _, Nat.le_refl _, hs0.out⟩
  case round =>
    clear hs0
    obtain ⟨i, rfl, hi, hkx, HR⟩ := hrel
    by_cases hlt : i < os.length
    · have hltz : (i : Int) < (os.length : Int) := by omega
      have wi : IntKind.i64.wrap ((i : Int) + 1) = (i : Int) + 1 := by rw [IntKind.wrap_i64]; omega
      obtain ⟨p, rfl, hpB⟩ := HA.out (by omega)
      obtain ⟨g, k, l, hp, hbW, hBw⟩ := HR.out
      obtain ⟨s, hs⟩ : ∃ s, s = numAt os i := ⟨_, rfl⟩
      have HC : Aside (∀ w, Below B W w → w.cell? (p.add i) = some (.int .i64 s)) := fun w hb => by
        rw [hs, numAt_eq os i hlt]
        exact srci_cell (HX.out w hb).2.2.1 i hlt
      have cO : wr.cell? (p.add i) = some (.int .i64 s) := HC.out wr hbW
      have hle := putH_le cs ls s l hp.hl
      have H1 : Aside (∀ w, Drew wr w → Calls Tryd.prog 19 #[.pointer (some ⟨B, 0, none⟩), v0, v1, .int .i64 s] w fun e w' => e = .returned (.int .i64 (putH cs ls s l).1) ∧ WStep wr w' B B g (putH cs ls s l).2 ∧ Below B W w') := fun w d => by
        have hb := hbW.trans (d.below B)
        obtain ⟨x0, x1, -, x3⟩ := HX.out w hb
        refine (hput_any w B B g v0 v1 cs ls s l (hp.q.drew d) x3 hp.hl x0 x1).mono ?_
        rintro e w' ⟨q1, q2⟩
        have q3 := WStep.of_drew d q2
        refine ⟨q1, q3, ?_⟩
        obtain ⟨g', r1, r2, r3⟩ := q3
        exact hbW.trans (r3.below hBw (by rintro j (rfl | rfl); exact hp.q.leb; exact hp.q.leg))
      have H2 : Aside (∀ w w', WStep wr w B B g (putH cs ls s l).2 → Below B W w → Drew w w' → Calls Tryd.prog 20 #[.pointer (some ⟨w1.heap.size, 0, none⟩), v0, v1, .int .i64 s] w' fun e w2 => e = .returned (.int .i64 (putH cs ls s l).1) ∧ (∃ g k l, PrW w2 B B g w1.heap.size k l ∧ Below B W w2 ∧ B ≤ w2.heap.size) ∧ Below B W w2) := fun w w' hst hb d => by
        have hb' := hb.trans (d.below B)
        obtain ⟨x0, x1, -, -⟩ := HX.out w' hb'
        have hrw := (hp.one hst).drew d
        have hst' : WStep wr w' B B g (putH cs ls s l).2 := by
          obtain ⟨g', r1, r2, r3⟩ := hst
          exact ⟨g', r1.drew d, r2, r3.trans d.only (fun j q => .inl q)⟩
        refine (refHput_any w' B w1.heap.size k v0 v1 cs ls s l hrw hp.hl x0 x1).mono ?_
        rintro e w2 ⟨q1, q2⟩
        obtain ⟨g', k', r1, r2, r3, r4⟩ := hp.two (V := wr) (Below.refl _ _) hle hp hst' q2
        have hb2 : Below B W w2 := hbW.trans (r4.below hBw (by rintro j (rfl | rfl | rfl | rfl); exact hp.q.leb; exact hp.q.leg; exact hp.r.lec; exact hp.r.lek))
        exact ⟨q1, ⟨g', k', _, r1, hb2, Nat.le_trans hBw r4.size⟩, hb2⟩
      clear hp hbW hBw HR hs hle
      generalize putH cs ls s l = pl at H1 H2
      obtain ⟨pe, l2⟩ := pl
      go_wp2_with fail
      go_region_held3 (fun w' => w'.cell? (p.add i) = some (.int .i64 s)) (first | go_keep | exact cO1 | exact cO2)
        (first
          | (go_at_call 19
             refine (H1.out wr.drew ⟨rfl, rfl, rfl, rfl⟩).mono ?_
             rintro e w2 ⟨rfl, hst, hb2⟩
             have cO1 : w2.cell? (p.add i) = some (.int .i64 s) := HC.out w2 hb2
             have HS2 := Lib.hid (And.intro hst hb2)
             clear hst hb2)
          | (go_at_call 9; refine (HN _ _).out.mono ?_; rintro e w ⟨rfl, rfl⟩)
          | (go_at_call 20
             refine (H2.out w2 w2 HS2.out.1 HS2.out.2 (Drew.refl _)).mono ?_
             rintro e w3 ⟨rfl, hpr, hb3⟩
             have cO2 : w3.cell? (p.add i) = some (.int .i64 s) := HC.out w3 hb3
             have HP3 := Lib.hid hpr
             clear hpr hb3))
      go_wp2_with fail
      go_roundg (os.length - (i + 1))
      case measure => omega
      case rel => exact ⟨i + 1, by go_num, by omega, Nat.le_refl _, HP3.out⟩
    · obtain rfl : i = os.length := by omega
      have hltz : ¬ (os.length : Int) < (os.length : Int) := by omega
      obtain ⟨g, k, l, hp, hbW, hBw⟩ := HR.out
      have HT := Lib.hid hp
      have HBw : Aside (Below B W wr ∧ B ≤ wr.heap.size) := ⟨hbW, hBw⟩
      have HD := Lib.hid (hp.drew (⟨rfl, rfl, rfl, rfl⟩ : Drew wr wr.drew))
      have B1 := Lib.hid (bytes_any wr.drew B B g l HD.out.q HD.out.hl)
      have C1 := fun w (h : RW w B w1.heap.size k l) => Lib.hid (wrefBytes_any w B w1.heap.size k l h HT.out.hl)
      have HK := fun w => Lib.hid (knows_any w)
      generalize pk l = r1 at B1 C1
      clear hp hbW hBw HR
      go_wp2
      go_region_with (first
        | (go_at_call 21
           with_reducible refine B1.out.mono ?_
           rintro e w4 ⟨v4, rfl, t1, t2⟩
           have s1 := conv_src w4 v4 _ (Src.of_own t1 rfl)
           have HT4 := Lib.hid t1
           have HB4 : Hid (Below wr.heap.size wr w4) := Lib.hid ⟨t2.os, t2.tape, t2.output, t2.size, t2.block⟩
           clear t1 t2)
        | (go_at_call 22
           with_reducible refine (C1 w4 (HT.out.below HB4.out).r).out.mono ?_
           rintro e w5 ⟨v5, rfl, t1, t2⟩
           have s2 := conv_src w5 v5 _ (Src.of_own t1 rfl)
           have s3 := conv_src w5 v4 _ (Src.of_own (own_below HT4.out t2) rfl)
           have HB5 : Hid (Below wr.heap.size wr w5) := Lib.hid (HB4.out.trans (t2.mono HB4.out.size))
           clear t1 t2)
        | (go_at_call 11
           refine (HK _).out.mono ?_
           rintro e w6 ⟨rfl, t2⟩
           have HB6 : Hid (Below wr.heap.size wr w6) := Lib.hid (HB5.out.trans (t2.mono HB5.out.size))
           clear t2))
      all_goals
        go_wp2
        go_ret
        exact ⟨rfl, HBw.out.1.trans (HB6.out.mono HBw.out.2)⟩
end Go.Proofs.YtmmbadkkkjkgnaaDoor.Huf
