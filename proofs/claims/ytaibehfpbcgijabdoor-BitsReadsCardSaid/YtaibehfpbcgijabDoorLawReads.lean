/- The statement BitsReads: any bytes, taken bit by bit. -/
import Derived.Test.YtaibehfpbcgijabDoorBitQ
import Derived.Test.YtaibehfpbcgijabDoorBitJ
import Derived.Test.YtaibehfpbcgijabDoorClose
import Derived.Test.YtaibehfpbcgijabDoorCards
import Derived.Test.YtaibehfpbcgijabDoorTie
import Derived.ProofKit
import Derived.Lay
import Derived.LaidOnce
import Derived.SevenTiedAt
namespace Go.Proofs.YtaibehfpbcgijabDoor.Bit
open Go.RowKit Go.Shelf Go.Lib Go.Proofs.YtaibehfpbcgijabDoor.Mem
open Go.ChangeShapes Go.WideShapes Go.ChangeAt

set_option maxRecDepth 100000 in
set_option maxHeartbeats 4000000 in
theorem lawReads (W : World) (B cb co : Nat) (ab ao : Option Addr) (bs : List UInt8) (os : List OpV) (hB : W.heap.size = B) (hm : Masks W B) (hs : Src W (.slice ab bs.length cb) bs) (hl : bs.length ≤ 140737488351232) (ho : ∀ r o, os[r]? = some o → OpAt W ao r o) (hol : os.length ≤ 140737488351232) :
    Calls Tryd.prog 4 #[.slice ab bs.length cb, .slice ao os.length co] W fun e w' => e = .returned (.bool true) ∧ Below B W w' := by
  have HBW := Lib.hid hB
  have HK := Lib.hid hm
  have HS := Lib.hid hs
  have HO := Lib.hid ho
  have HL := Lib.hid (lent_any W bs.length cb ab bs hs rfl (by omega))
  rw [hB] at HL
  have HN := fun n w => Lib.hid (num_any n w)
  clear hB hm hs ho
  go_enter Tryd.func4, Tryd.ntmps4
  go_wp2_with (first
    | (go_at_call 13; refine HL.out.mono ?_; rintro e w1 ⟨k, cap, rfl, hcap, ho1, hb1⟩; have hcm : cap ≤ 9223372036854775807 := (by
         rcases ho1.2 with ⟨hv, _⟩ | ⟨g, cap', cur, hv, _, _, _, h3, _⟩
         · cases hv
         · cases hv; unfold maxLen at h3; omega); have HO1 := Lib.hid ho1; have HB1 := Lib.hid hb1; have HNR := Lib.hid (newReader_any w1 B bs.length cap (some ⟨k, 0, none⟩) bs (lent_src ho1) rfl (by omega) (by have := hb1.size; rw [HBW.out] at this; exact this)); clear ho1 hb1)
    | (go_at_call 14; refine HNR.out.mono ?_; rintro e w2 ⟨b, v, rfl, q1, q2, q3, q4⟩; have hnn : ∀ w, (binOp .eql 36 (.pointer (some ⟨b, 0, none⟩)) (.pointer none)).run Tryd.prog w = .ok (.bool false) w := (fun _ => by kernel_rfl); have HQ := Lib.hid (And.intro q1 (And.intro q2 q3)); have HB2 := Lib.hid q4; have HST := Lib.hid (stays_any w2 B k cap cb ab bs ((HS.out.below (HB1.out.mono (Nat.le_of_eq HBW.out))).below q4) (own_below HO1.out q4) hcap (by omega)); clear q1 q2 q3 q4)
    | (go_at_call 15; refine HST.out.mono ?_; rintro e w3 ⟨rfl, n3, rfl⟩; have HB3 : Hid (Below B W (w2.drewN n3) ∧ B ≤ w2.heap.size) := Lib.hid ⟨(HB1.out.trans (HB2.out.mono (by have := HB1.out.size; rw [HBW.out] at this; exact this))).trans ((Drew.drewN w2 n3).below B), by have h1 := HB1.out.size; have h2 := HB2.out.size; rw [HBW.out] at h1; omega⟩; have HKn := Lib.hid (knows_at (w2.drewN n3) B (HK.out.below HB3.out.1) HB3.out.2))
    | (go_at_call 9; refine HKn.out.mono ?_; rintro e w4 ⟨rfl, hb4⟩; have HB4 : Hid (Below w2.heap.size w2 w4) := Lib.hid (((Drew.drewN w2 n3).below w2.heap.size).trans hb4); clear hb4))
  have hx4 : Own8 w4 k (bs.length + 2) := Own8.of (own_below (own_below HO1.out HB2.out) HB4.out) (by rw [List.length_append]; rfl)
  have hkb : k < b ∧ B ≤ k ∧ ∀ g, v.ownBlock = some g → k < g := by
    have h1 := HO1.out.lt k rfl
    exact ⟨by have := HQ.out.2.1; omega, h1.1, fun g hg => by have := HQ.out.2.2 g hg; omega⟩
  have h4 : RB w4 B b v bs 0 ∧ Below B W w4 ∧ B ≤ w4.heap.size := by
    have h1 := HB1.out.size
    rw [HBW.out] at h1
    have h2 := HB2.out.size
    exact ⟨HQ.out.1.below HB4.out, (HB1.out.trans (HB2.out.mono h1)).trans (HB4.out.mono (by omega)), by have := HB4.out.size; omega⟩
  have HX4 := Lib.hid hx4
  have HKB := Lib.hid hkb
  have H4 := Lib.hid h4
  clear hx4 hkb h4
  go_loopw [7] (fun s7 wr => ∃ j : Nat, j ≤ bs.length ∧ s7 = .int .i64 j ∧ Own8 wr k (bs.length + 2) ∧ RB wr B b v bs 0 ∧ Below B W wr ∧ B ≤ wr.heap.size) (fun i _ => bs.length - (RowKit.intOf i).toNat)
  case atStart => exact ⟨0, Nat.zero_le _, rfl, HX4.out, H4.out⟩
  case round =>
    obtain ⟨j, hj, rfl, hx, hq, hb, hBw⟩ := hrel
    have HQj := Lib.hid hq
    have HBj := Lib.hid hb
    have HSj := Lib.hid hBw
    by_cases hlt : j < bs.length
    · obtain ⟨c, q1, q2, q3, q4⟩ := hx.step (show j < bs.length + 2 by omega)
      have HX := Lib.hid q4
      clear hx q4 hq hb
      go_wp2
      go_roundw
      case rel =>
        refine ⟨j + 1, by omega, by go_num, HX.out, ?_, HBj.out.setCell (p := ⟨k, j, none⟩) HKB.out.2.1 _, by simp [World.setCell]; exact HSj.out⟩
        exact HQj.out.same (Below.heap_setCell _ _ _ _ (fun e => by have e' : b = k := e; have := HKB.out.1; omega)) (fun g hg => Below.heap_setCell _ _ _ _ (fun e => by have e' : g = k := e; have := HKB.out.2.2 g hg; omega))
      case measure => simp [RowKit.intOf]; omega
    · have HRN := Lib.hid (refNewReader_any wr B bs.length cb ab bs (HS.out.below (HBj.out.mono (Nat.le_of_eq HBW.out))) rfl (by omega) hBw)
      clear hx hq hb hBw
      go_wp2_with (go_at_call 16; refine HRN.out.mono ?_; rintro e w5 ⟨c, u, rfl, r1, r2, r3, r4⟩; have H5 : Hid (Both W w5 B b c v u bs 0) := Lib.hid ⟨HQj.out.below r4, r1, by have := HQj.out.lt; omega, fun e => by have := (HQj.out.2.1.lt c e).2; omega, fun e => by have := r3 b e; have := HQj.out.lt; omega, HBj.out.trans (r4.mono HSj.out), Nat.le_trans HSj.out r4.size⟩; clear r1 r2 r3 r4)
      clear HQj HBj HSj HRN HX4 H4 HKn HB4 HB3 HST HQ HB2 HNR HO1 HB1 hnn
      go_loopw [9] (fun s9 wr => ∃ r at_ : Nat, r ≤ os.length ∧ s9 = .int .i64 r ∧ Both W wr B b c v u bs at_) (fun i _ => os.length - (RowKit.intOf i).toNat)
      case atStart => exact ⟨0, 0, Nat.zero_le _, rfl, H5.out⟩
      case round =>
        obtain ⟨r, at_, hr, rfl, hB⟩ := hrel
        have HBo := Lib.hid hB
        clear hB H5
        by_cases hlt2 : r < os.length
        · obtain ⟨a, rfl, p0, p1, p2, p3, p4, p5⟩ := HO.out r _ (List.getElem?_eq_getElem hlt2)
          generalize os[r] = o at p0 p1 p2 p3 p4 p5
          have mv : ∀ w', Below B W w' → ∀ (j : Nat) (y : Value), W.cell? (a.add j) = some y → w'.cell? (a.add j) = some y := fun w' hb j y hy => (hb.cell (by have := block_lt_of_cell hy; rw [HBW.out] at this; exact this)).trans hy
          have HM := Lib.hid mv
          have e1 : (⟨(a.add (r * 4)).block, (a.add (r * 4)).off + 1, none⟩ : Addr) = a.add (r * 4 + 1) := (show _ = (a.add (r * 4)).add 1 from rfl).trans (Deep.add_add a _ _)
          have mv1 : ∀ w', Below B W w' → w'.cell? ⟨(a.add (r * 4)).block, (a.add (r * 4)).off + 1, none⟩ = some (.int .i64 o.n) := fun w' hb => by rw [e1]; exact mv w' hb _ _ p1
          have t0 := mv _ HBo.out.bel _ _ p0
          have t1 := mv1 _ HBo.out.bel
          have HM := Lib.hid mv1
          clear e1 mv mv1 p0 p2 p3 p4 p5 p1
          generalize o.n = y at *
          by_cases hk0 : o.kind = 0
          · rw [hk0] at t0
            clear hk0
            have HT := Lib.hid (take_any wr B b v bs at_ y HBo.out.q (HK.out.below HBo.out.bel))
            have HT2 := fun w h => Lib.hid (refTake_any w B c u bs at_ y h)
            obtain ⟨tv, hv⟩ : ∃ tv, tv = takeR bs at_ y := ⟨_, rfl⟩
            rw [← hv] at HT HT2
            clear hv
            obtain ⟨y1, y2, x⟩ := tv
            go_wp2_with (first
              | (go_at_call 17; refine HT.out.mono ?_; rintro e w6 ⟨rfl, q1, q2⟩; obtain ⟨g1, g2, g3⟩ := HBo.out.one q1 q2; have t16 := HM.out w6 g2; have HR6 := Lib.hid (HT2 w6 g1); have HQ6 := Lib.hid (And.intro q1 q2); clear q1 q2 g1 g2 g3)
              | (go_at_call 18; refine HR6.out.out.mono ?_; rintro e w7 ⟨rfl, q1, q2⟩; have HB7 := Lib.hid (HBo.out.two HQ6.out.1 HQ6.out.2 q1 q2); have HLq := Lib.hid (left_any w7 B b v bs x HB7.out.q); have HLr := fun n => Lib.hid (refLeft_any (w7.drewN n) B c u bs x (HB7.out.r.drew (Drew.drewN _ _))); clear q1 q2)
              | (go_at_call 19; refine (HN _ _).out.mono ?_; rintro e w8 ⟨rfl, rfl⟩)
              | (go_at_call 24; refine HLq.out.mono ?_; rintro e w8 ⟨rfl, n8, rfl⟩)
              | (go_at_call 25; refine (HLr _).out.mono ?_; rintro e w9 ⟨rfl, n9, rfl⟩))
            go_roundw
            case rel => exact ⟨r + 1, x, by omega, by go_num, HB7.out.drew ⟨rfl, rfl, rfl, rfl⟩⟩
            case measure => simp [RowKit.intOf]; omega
          · by_cases hk1 : o.kind = 1
            · rw [hk1] at t0
              clear hk0 hk1
              have HT := Lib.hid (ralign_any wr B b v bs at_ HBo.out.q)
              have HT2 := fun w h => Lib.hid (refAlign_any w B c u bs at_ h)
              obtain ⟨x, hx⟩ : ∃ x, x = 8 * ((at_ + 7) / 8) := ⟨_, rfl⟩
              rw [← hx] at HT HT2
              clear hx
              go_wp2_with (first
                | (go_at_call 20; refine HT.out.mono ?_; rintro e w6 ⟨rfl, q1, q2⟩; obtain ⟨g1, g2, g3⟩ := HBo.out.one q1 q2; have HR6 := Lib.hid (HT2 w6 g1); have HQ6 := Lib.hid (And.intro q1 q2); clear q1 q2 g1 g2 g3)
                | (go_at_call 21; refine HR6.out.out.mono ?_; rintro e w7 ⟨rfl, q1, q2⟩; have HB7 := Lib.hid (HBo.out.two HQ6.out.1 HQ6.out.2 q1 q2); have HLq := Lib.hid (left_any w7 B b v bs x HB7.out.q); have HLr := fun n => Lib.hid (refLeft_any (w7.drewN n) B c u bs x (HB7.out.r.drew (Drew.drewN _ _))); clear q1 q2)
                | (go_at_call 24; refine HLq.out.mono ?_; rintro e w8 ⟨rfl, n8, rfl⟩)
                | (go_at_call 25; refine (HLr _).out.mono ?_; rintro e w9 ⟨rfl, n9, rfl⟩))
              go_roundw
              case rel => exact ⟨r + 1, x, by omega, by go_num, HB7.out.drew ⟨rfl, rfl, rfl, rfl⟩⟩
              case measure => simp [RowKit.intOf]; omega
            · have HT := Lib.hid (raw_any wr B b v bs at_ y HBo.out.q)
              have HT2 := fun w h => Lib.hid (refRaw_any w B c u bs at_ y h)
              obtain ⟨tv, hv⟩ : ∃ tv, tv = rawR bs at_ y := ⟨_, rfl⟩
              rw [← hv] at HT HT2
              clear hv
              obtain ⟨y1, y2, x⟩ := tv
              generalize o.kind = kd at *
              go_wp2_with (first
                | (go_at_call 22; refine HT.out.mono ?_; rintro e w6 ⟨v6, rfl, q0, q1, q2⟩; obtain ⟨a6, c6, rfl, hc6, hcm6, hn6⟩ := own_shape q0; obtain ⟨g1, g2, g3⟩ := HBo.out.one q1 q2; have t16 := HM.out w6 g2; have HR6 := Lib.hid (HT2 w6 g1); have HQ6 := Lib.hid (And.intro q1 q2); have HO6 := Lib.hid q0; clear q0 q1 q2 g1 g2 g3)
                | (go_at_call 23; refine HR6.out.out.mono ?_; rintro e w7 ⟨v7, rfl, q0, q1, q2⟩; have HB7 := Lib.hid (HBo.out.two HQ6.out.1 HQ6.out.2 q1 q2); have ho7 := own_only HO6.out q2 (fun g hg e => by have := (HO6.out.lt g hg).1; have := HBo.out.r.lt; omega); have s7 := conv_src w7 _ y1 (Src.of_own ho7 rfl); have s8 := conv_src w7 v7 y1 (Src.of_own q0 rfl); obtain ⟨a7, c7, rfl, -, -, -⟩ := own_shape q0; have HO7 := Lib.hid ho7; clear q0 q1 q2 ho7)
                | (go_at_call 19; refine (HN _ _).out.mono ?_; rintro e w8 ⟨rfl, rfl⟩))
              have hrow : y1.length = 0 ∨ ∃ q, a6 = some ⟨q, 0, none⟩ ∧ wr.heap.size ≤ q ∧ Own8 w7 q y1.length := by
                cases a6 with
                | none => exact .inl (hn6 rfl).1
                | some a6 =>
                  obtain ⟨q, rfl, hq, -⟩ := own_block HO6.out
                  exact .inr ⟨q, rfl, hq, Own8.of HO7.out rfl⟩
              have hfr : ∀ q, wr.heap.size ≤ q → B ≤ q ∧ q ≠ b ∧ q ≠ c ∧ v.ownBlock ≠ some q ∧ u.ownBlock ≠ some q := fun q hq => by
                have h1 := HBo.out.q.lt
                have h2 := HBo.out.r.lt
                have h3 := HBo.out.hB
                exact ⟨by omega, by omega, by omega, fun e => by have := (HBo.out.q.2.1.lt q e).2; omega, fun e => by have := (HBo.out.r.2.1.lt q e).2; omega⟩
              have HRow := Lib.hid hrow
              have HFr := Lib.hid hfr
              have hy1 : y1.length ≤ 9223372036854775807 := by omega
              clear hrow hfr s7 s8 HO7 HO6 HQ6 HR6 HT HT2 hn6 t0 t1 t16 HM HL
              obtain ⟨wo, hwo⟩ : ∃ wo : World, wo = wr := ⟨_, rfl⟩
              rw [← hwo] at HRow HFr
              clear hwo
              go_loopw [18] (fun s18 wr => ∃ j : Nat, j ≤ y1.length ∧ s18 = .int .i64 j ∧ (y1.length = 0 ∨ ∃ q, a6 = some ⟨q, 0, none⟩ ∧ wo.heap.size ≤ q ∧ Own8 wr q y1.length) ∧ Both W wr B b c v u bs x) (fun i _ => y1.length - (RowKit.intOf i).toNat)
              case atStart => exact ⟨0, Nat.zero_le _, rfl, HRow.out, HB7.out⟩
              case round =>
                obtain ⟨jj, hjj, rfl, hrw, hB8⟩ := hrel
                have HB8 := Lib.hid hB8
                clear hB8
                by_cases hlt3 : jj < y1.length
                · rcases hrw with h0 | ⟨q, rfl, hq, hx⟩
                  · omega
                  · obtain ⟨f1, f2, f3, f4, f5⟩ := HFr.out q hq
                    obtain ⟨cc, q1, q2, q3, q4⟩ := hx.step hlt3
                    have HE := Lib.hid (And.intro q4 (HB8.out.at_q (i := jj) (y := .int .u8 ((cc + 1).toNat : Int)) f1 f2 f3 f4 f5))
                    clear hx q4 f1 f2 f3 f4 f5
                    go_wp2
                    go_roundw
                    case rel => exact ⟨jj + 1, by omega, by go_num, .inr ⟨q, rfl, hq, HE.out.1⟩, HE.out.2⟩
                    case measure => simp [RowKit.intOf]; omega
                · have HLq := Lib.hid (left_any _ B b v bs x HB8.out.q)
                  have HLr := fun n => Lib.hid (refLeft_any _ B c u bs x (HB8.out.r.drew (Drew.drewN _ n)))
                  clear hrw
                  go_wp2_with (first
                    | (go_at_call 24; refine HLq.out.mono ?_; rintro e w8 ⟨rfl, n8, rfl⟩)
                    | (go_at_call 25; refine (HLr _).out.mono ?_; rintro e w9 ⟨rfl, n9, rfl⟩))
                  go_roundw
                  case rel => exact ⟨r + 1, x, by omega, by go_num, HB8.out.drew ⟨rfl, rfl, rfl, rfl⟩⟩
                  case measure => simp [RowKit.intOf]; omega
        · go_wp2
          go_ret
          exact ⟨rfl, HBo.out.bel⟩

set_option maxRecDepth 100000 in
theorem liftedBitsReads (os : Os) (started : os.Started) (H : Type) (enc : TypeId × Value → H) :
    ReturnsInHanded {} Tryd.checked os 4 .any (fun w args => (Rows.bitsReadsSpec.pre enc Tryd.prog Tryd.f4 [] false w args ∧ laidMetH Tryd.prog Rows.bitsReadsRow.laid w) ∧ sizedMet enc Tryd.prog Tryd.f4 (OpenSpec.ofChange Rows.bitsReadsSpec) false w args)
      (Rows.bitsReadsSpec.post enc Tryd.prog Tryd.f4 false true false false) := by
  refine returnsInHanded_of_change_and (C := Tryd.checked) (X := fun w _ => laidMetH Tryd.prog Rows.bitsReadsRow.laid w) (fun _ _ _ hh h => h.of_heap hh) Cls.own started (by kernel_rfl) Tryd.func4
    (ChangeSpec.witness_shaped (enc := enc) (C := Tryd.checked) (os := os) (X := fun w _ => laidMetH Tryd.prog Rows.bitsReadsRow.laid w) false (World.laidAll Tryd.prog os Rows.bitsReadsRow.laid) #[.slice none 0 0, .slice none 0 0] 8 (World.laidAll_os _ _ _)
      (World.shaped_of_ZipB (by kernel_rfl) (by kernel_rfl)) (by kernel_rfl) (by kernel_rfl) (by kernel_rfl)
      (by rw [MakeChecks.laidMetH_plain _ _ _ (by kernel_rfl)]; exact laidMet_laidAll _ (by kernel_rfl) (by kernel_rfl))) ?_
  intro W base args ds gs before hval0 hW _ hsz hL _
  have hval : ∀ (j : Nat) t v, Tryd.f4.params[j]? = some t → args[j]? = some v → Value.okWide Tryd.prog W .any base t v := hval0
  have hW' := hW
  obtain ⟨p, q, hA0, hV, rfl, _, _⟩ := hW
  have hA : DataW.TrodAll enc Tryd.prog W 0 (fun _ => true) true Tryd.f4.params.toList args.toList ds p := hA0
  obtain ⟨rfl, rfl⟩ := trodVars_none hV
  rw [MakeChecks.laidMetH_plain _ _ _ (by kernel_rfl)] at hL
  have hlt : ∀ x ∈ p, x.block < W.heap.size := fun x hx => hW'.lt x (by simpa using hx)
  have fin : ∀ W', Below W.heap.size W W' → (Rows.bitsReadsSpec.fn H (ds ++ [])).results = [.lit (.bool true)] → (Rows.bitsReadsSpec.fn H (ds ++ [])).args = ds → (Rows.bitsReadsSpec.fn H (ds ++ [])).vars = [] → Rows.bitsReadsSpec.post enc Tryd.prog Tryd.f4 false true false false W args (.bool true) W' := by
    intro W' hb h1 h2 h3
    refine ⟨ds, [], _, [], p, [], hW', ?_, ?_, ?_, hb.frame _, fun h => by cases h⟩
    · rw [h1]; exact trodAll_mk1 (shut_bool Tryd.underlying4 _)
    · rw [h2]; exact Cls.trodAll_below Cls.laidOut hb _ _ _ _ hA (Cls.readable _ (by kernel_rfl)) hlt
    · rw [h3]; rfl
  rw [Tryd.params4] at hA hval
  obtain ⟨v0, v1, d0, d1, p0, p1, rfl, rfl, rfl, ⟨m0, h0⟩, ⟨m1, h1⟩⟩ := trodAll_two hA
  obtain ⟨a0, l0, c0, rfl⟩ := okWide_slice Tryd.underlying27 (hval 0 _ v0 rfl rfl)
  obtain ⟨a1, l1, c1, rfl⟩ := okWide_slice Tryd.underlying22 (hval 1 _ v1 rfl rfl)
  obtain ⟨ab, bs, cb, e0, hs, -, hw0⟩ := bytes_of_trod h0
  obtain ⟨ao, os, co, e1, ho, hol⟩ := ops_of_trod h1 (reach_of hsz (j := 1) rfl rfl)
  have hl := hw0 _ (reach_of hsz (j := 0) rfl rfl)
  simp only [Value.cells, List.cons.injEq, and_true] at e0 e1
  rw [e0, e1] at fin ⊢
  refine (lawReads W _ cb co ab ao bs os rfl (masks_of W hL) hs hl ho (by omega)).mono fun e W' ⟨he, hb⟩ => ?_
  subst he
  exact ⟨_, rfl, fin W' hb rfl rfl rfl⟩

theorem saidBitsReads : Rows.BitsReadsSaid :=
  OpenClaim.holds_of_wide 4 Tryd.f4 rfl rfl rfl rfl rfl rfl rfl ⟨rfl, rfl, rfl, rfl, rfl⟩ rfl rfl rfl rfl rfl (by kernel_rfl) Tryd.func4 (by kernel_rfl)
    (of_decide_eq_true (by kernel_rfl)) (by unfold Func.isWrapper; first | (rw [if_pos (by decide +kernel)]; kernel_rfl) | (rw [if_neg (by decide +kernel)]; exact ⟨rfl, rfl⟩))
    (fun os started H enc _ => liftedBitsReads os started H enc)
end Go.Proofs.YtaibehfpbcgijabDoor.Bit
namespace Go.Proofs.YtaibehfpbcgijabDoor
open Go

theorem bitsReads_holds : Rows.BitsReadsCardSaid :=
  Claim7.holds_tied_plain_at .later [] _ _ _ _ Bit.saidBitsReads (fun _ h => by cases h) (by kernel_rfl) (fun _ h => by cases h) bitsReads_row_tie rfl ⟨rfl, rfl⟩ (by kernel_rfl) rfl
    (fun f fn hf hfn => by
      obtain rfl : f = 4 := Option.some.inj ((show Tryd.prog.funcNamed "gatehouse/gatehouselaw02.BitsReads" = some 4 by kernel_rfl).symm.trans hf) |>.symm
      obtain rfl : fn = Tryd.f4 := (Option.some.inj (Tryd.func4.symm.trans hfn)).symm
      exact ⟨by kernel_rfl, fun j t ht => by
        rw [Tryd.params4] at ht
        have hm : t ∈ [27, 22] := by simpa using Array.mem_of_getElem? ht
        have hall : ([27, 22].all fun u => !Tryd.prog.wantsStandIn u) = true := by kernel_rfl
        exact (show Tryd.prog.wantsStandIn t = false by simpa using List.all_eq_true.1 hall t hm)⟩)
    (by kernel_rfl)
end Go.Proofs.YtaibehfpbcgijabDoor
