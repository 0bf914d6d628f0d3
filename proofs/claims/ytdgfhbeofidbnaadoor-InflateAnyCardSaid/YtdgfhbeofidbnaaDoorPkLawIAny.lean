/- The law InflateAny, walked. -/
import Derived.Test.YtdgfhbeofidbnaaDoorPkRinM
import Derived.Test.YtdgfhbeofidbnaaDoorPkInfO
import Derived.Test.YtdgfhbeofidbnaaDoorPkBitK
namespace Go.Proofs.YtdgfhbeofidbnaaDoor.Inf
open Go.RowKit Go.Shelf Go.Lib Go.Proofs.YtdgfhbeofidbnaaDoor.Mem Go.Proofs.YtdgfhbeofidbnaaDoor.Bit Go.Proofs.YtdgfhbeofidbnaaDoor.Huf Go.Proofs.YtdgfhbeofidbnaaDoor.Lz

set_option maxRecDepth 100000 in
set_option maxHeartbeats 4000000 in
theorem lawIAny (W : World) (ax : Option Addr) (n c B0 : Nat) (z : Int) (bs : List UInt8) (hx : Mem.Src W (.slice ax n c) bs) (hn : bs.length = n) (hl : n ≤ 140737488351232) (hk : Masks W B0) (hod : Ords W B0) (hB0 : B0 ≤ W.heap.size) :
    Calls Tryd.prog 3 #[.slice ax n c, .int .i64 z] W fun e w' => e = .returned (.bool true) ∧ Below W.heap.size W w' := by
  have HLE := Lib.hid (lent_any W n c ax bs hx hn (by omega))
  have HXB : Aside (∀ w, Below W.heap.size W w → Mem.Src w (.slice ax n c) bs) := fun w hb => hx.below hb
  have HIN : Aside (∀ w ao cap, Below W.heap.size W w → Mem.Src w (.slice ao n cap) bs → Calls Tryd.prog 8 #[.slice ao n cap, .int .i64 z] w fun e w' => ∃ ao' cap', e = .returned (.tuple #[.slice ao' (inflR bs z).1.length cap', .int .i64 ((inflR bs z).2.2.1 : Int), .int .i64 ((inflR bs z).2.2.2 : Int)]) ∧ Mem.Src w' (.slice ao' (inflR bs z).1.length cap') (inflR bs z).1 ∧ Below w.heap.size w w' ∧ Below W.heap.size W w') := fun w ao cap hb hs =>
    (inflate_any w ao n cap B0 z bs hs hn (hk.below (hb.mono hB0)) (hod.below (hb.mono hB0)) (Nat.le_trans hB0 hb.size)).mono (fun e w' h => by
      obtain ⟨v, h1, h2, h3⟩ := h
      obtain ⟨ao', cap', rfl⟩ := src_shape h2
      exact ⟨ao', cap', h1, h2, h3, hb.trans (h3.mono hb.size)⟩)
  have HRN : Aside (∀ w, Below W.heap.size W w → Calls Tryd.prog 9 #[.slice ax n c, .int .i64 z] w fun e w' => ∃ ao' cap', e = .returned (.tuple #[.slice ao' (inflR bs z).1.length cap', .int .i64 ((inflR bs z).2.2.1 : Int), .int .i64 ((inflR bs z).2.2.2 : Int)]) ∧ Mem.Src w' (.slice ao' (inflR bs z).1.length cap') (inflR bs z).1 ∧ Below w.heap.size w w' ∧ Below W.heap.size W w') := fun w hb =>
    (rinflate_any w ax n c z bs (hx.below hb) hn).mono (fun e w' h => by
      obtain ⟨v, h1, h2, h3⟩ := h
      obtain ⟨ao', cap', rfl⟩ := src_shape h2
      exact ⟨ao', cap', h1, h2, h3, hb.trans (h3.mono hb.size)⟩)
  have HKN : Aside (∀ w, Below W.heap.size W w → Calls Tryd.prog 15 #[] w fun e w' => e = .returned (.bool true) ∧ Below W.heap.size W w') := fun w hb =>
    (knows_any w B0 (hk.below (hb.mono hB0)) (hod.below (hb.mono hB0)) (Nat.le_trans hB0 hb.size)).mono (fun e w' h => ⟨h.1, hb.trans (h.2.mono hb.size)⟩)
  have HST : Aside (∀ w k cap, Below W.heap.size W w → w.ownsRow W.heap.size 5 1 (.slice (some ⟨k, 0, none⟩) (n + 2) cap) (n + 2) (bVs (bs ++ [201, 202])) → n + 2 ≤ cap → Calls Tryd.prog 14 #[.slice (some ⟨k, 0, none⟩) n cap, .slice ax n c] w fun e w' => e = .returned (.bool true) ∧ Drew w w') := fun w k cap hb ho hc => by
    subst hn
    exact (stays_any w W.heap.size k cap c ax bs (hx.below hb) ho hc (by omega)).mono (fun e w' ⟨h1, m, h2⟩ => ⟨h1, by rw [h2]; exact Drew.drewN _ _⟩)
  have HLS : Aside (∀ (w : World) k cap, w.ownsRow W.heap.size 5 1 (.slice (some ⟨k, 0, none⟩) (n + 2) cap) (n + 2) (bVs (bs ++ [201, 202])) → Mem.Src w (.slice (some ⟨k, 0, none⟩) n cap) bs) := fun w k cap ho => by
    subst hn
    exact lent_src ho
  obtain ⟨out, hout⟩ : ∃ y, y = (inflR bs z).1 := ⟨_, rfl⟩
  obtain ⟨us, hus⟩ : ∃ y, y = (inflR bs z).2.2.1 := ⟨_, rfl⟩
  obtain ⟨er, her⟩ : ∃ y, y = (inflR bs z).2.2.2 := ⟨_, rfl⟩
  rw [← hout, ← hus, ← her] at HIN HRN
  clear hx hn hl hk hod hB0 hout hus her
  go_enter Tryd.func3, Tryd.ntmps3
  go_upto_region 2 with (go_at_call 7; refine HLE.out.mono ?_; rintro e w1 ⟨k, cap, rfl, hcap, ho1, b1⟩)
  have HI1 := Lib.hid (HIN.out w1 _ _ b1 (HLS.out _ _ _ ho1))
  have HO1 : Aside (w1.ownsRow W.heap.size 5 1 (.slice (some ⟨k, 0, none⟩) (n + 2) cap) (n + 2) (bVs (bs ++ [201, 202])) ∧ n + 2 ≤ cap) := ⟨ho1, hcap⟩
  clear ho1 hcap HLE HIN HLS b1
  go_upto_region 3 with (go_at_call 8; refine HI1.out.mono ?_; rintro e w2 ⟨a2, c2, rfl, s2, d2, b2⟩)
  have HR2 := Lib.hid (HRN.out w2 b2)
  clear HI1 HRN b2
  go_upto_region 4 with (go_at_call 9; refine HR2.out.mono ?_; rintro e w3 ⟨a3, c3, rfl, s3, d3, b3⟩)
  have HF3 := Lib.hid (fixedL_any w3)
  clear HR2
  go_upto_region 5 with (go_at_call 10; refine HF3.out.mono ?_; rintro e w4 ⟨x4, y4, rfl, p4, q4, d4⟩)
  have HF4 := Lib.hid (rfixed_any w4)
  clear HF3
  go_upto_region 6 with (go_at_call 11; refine HF4.out.mono ?_; rintro e w5 ⟨x5, y5, rfl, p5, q5, d5⟩)
  have d45 : Below w3.heap.size w3 w5 := d4.trans (d5.mono d4.size)
  have b5 : Below W.heap.size W w5 := b3.trans (d45.mono b3.size)
  have cv1 := conv_src w5 _ _ ((s2.below d3).below (d45.mono (Nat.le_refl _)))
  have cv2 := conv_src w5 _ _ (s3.below d45)
  have hf1 := SrcI.of_own p4
  have hf2 := SrcI.of_own q4
  have HS1 := Lib.hid (same_ints w5 x4 x5 fixL (hf1.below d5) p5 (by rw [fixL_len]; decide))
  have HS2 : Aside (∀ w, Drew w5 w → Calls Tryd.prog 13 #[y4, y5] w fun e w' => e = .returned (.bool true) ∧ Drew w w') := fun w d => same_ints w y4 y5 fixD ((hf2.below d5).drew d) (q5.drew d) (by rw [fixD_len]; decide)
  have HT5 : Aside (∀ w, Drew w5 w → Calls Tryd.prog 14 #[.slice (some ⟨k, 0, none⟩) n cap, .slice ax n c] w fun e w' => e = .returned (.bool true) ∧ Drew w w') := fun w d =>
    HST.out w k cap (b5.trans (d.below _)) (own_drew (own_below (own_below (own_below HO1.out.1 d2) d3) (d45.mono (Nat.le_refl _))) d) HO1.out.2
  have HK5 : Aside (∀ w, Drew w5 w → Calls Tryd.prog 15 #[] w fun e w' => e = .returned (.bool true) ∧ Below W.heap.size W w') := fun w d => HKN.out w (b5.trans (d.below _))
  have HTR : Aside (∀ w w', Drew w5 w → Drew w w' → Drew w5 w') := fun w w' d d' => d.trans d'
  clear s2 d2 s3 d3 b3 p4 q4 d4 p5 q5 d5 d45 b5 hf1 hf2 HF4 HST HKN HO1 HXB
  go_wp2_with (first
    | (go_at_call 12; refine (num_any _ _).mono ?_; rintro e w6 ⟨rfl, rfl⟩)
    | (go_at_call 13; (with_reducible refine HS1.out.mono ?_); rintro e w7 ⟨rfl, z7⟩)
    | (go_at_call 13; (with_reducible refine (HS2.out _ z7).mono ?_); rintro e w8 ⟨rfl, z8⟩; have z9 := HTR.out _ _ z7 z8)
    | (go_at_call 14; refine (HT5.out _ z9).mono ?_; rintro e w9 ⟨rfl, z10⟩; have z11 := HTR.out _ _ z9 z10)
    | (go_at_call 15; refine (HK5.out _ z11).mono ?_; rintro e w10 ⟨rfl, z12⟩))
  go_ret
  exact ⟨rfl, z12⟩
end Go.Proofs.YtdgfhbeofidbnaaDoor.Inf
