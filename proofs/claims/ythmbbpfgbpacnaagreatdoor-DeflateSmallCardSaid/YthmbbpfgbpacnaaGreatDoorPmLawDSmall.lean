/- The law DeflateSmall, walked. -/
import Derived.Test.YthmbbpfgbpacnaaGreatDoorPmDefSm
import Derived.Test.YthmbbpfgbpacnaaGreatDoorPmLawDBack
namespace Go.Proofs.YthmbbpfgbpacnaaGreatDoor.Def
open Go.RowKit Go.Shelf Go.Lib Mem Bit Huf Lz Inf
theorem copy_ok (W : World) (ax : Option Addr) (n c B0 lv : Nat) (bs : List UInt8) (hx : Mem.Src W (.slice ax n c) bs) (hn : bs.length = n) (hbig : n <= 524288) (h9 : lv <= 9) (hk : Masks W B0) (ho : DOrd W B0) (hB0 : B0 <= W.heap.size) :
  ∃ a1 c1 W1, (Builtin.append_ #[22, 22] 22 #[.slice (some ⟨W.heap.size, 0, none⟩) 0 0, .slice ax n c]).run Tryz.prog (W.alloc (.cells #[] 5)) = .ok (.slice a1 n c1) W1 /\
   Calls Tryz.prog 9 #[.slice a1 n c1, .int .i64 (lv : Int)] W1 fun e w' => ∃ a2 c2, e = .returned (.tuple #[.slice a2 (deflB bs lv).length c2, .int .i64 0]) /\ Mem.Src w' (.slice a2 (deflB bs lv).length c2) (deflB bs lv) /\ Below W.heap.size W w' := by
 obtain ⟨v, W1, h1, h2, h3⟩ := fresh_any W (.slice ax n c) 22 bs hx (by omega)
 obtain ⟨a1, c1, rfl, hc1, -, -⟩ := own_shape h2
 rw [hn] at h1
 refine ⟨a1, c1, W1, h1, ?_⟩
 have hd := deflate_ok W1 B0 a1 c1 bs lv (Src.of_own h2 rfl) hc1 (by omega) h9 (fun a e => by
  subst e
  obtain ⟨g, rfl, -, g2⟩ := own_block h2
  exact g2) (hk.below (h3.mono hB0)) (ho.below (h3.mono hB0)) (Nat.le_trans hB0 h3.size)
 rw [hn] at hd
 refine hd.mono ?_
 rintro e w' ⟨v, rfl, z1, z2⟩
 obtain ⟨a2, c2, rfl, -, -, -⟩ := own_shape z1
 exact ⟨a2, c2, rfl, Src.of_own z1 rfl, h3.trans (z2.mono h3.size)⟩
theorem kinds_cells {w : World} {B m : Nat} {v : Value} {ks : List (Nat × Nat)} (h : w.ownsRow B 54 2 v m (blCells ks)) (hm : ks.length = m) (h0 : ∀ k ∈ ks, k.1 = 0) : ∃ ao c, v = .slice ao m c /\ ∀ i, i < m -> ∃ a, ao = some a /\ w.cell? (a.add (i * 2)) = some (.int .i64 0) := by
 obtain ⟨ao, c, rfl, -, -, hno⟩ := own_shape h
 refine ⟨ao, c, rfl, fun i hi => ?_⟩
 obtain ⟨a, rfl⟩ : ∃ a, ao = some a := by
  cases ao with
  | none => have := (hno rfl).1; omega
  | some a => exact ⟨a, rfl⟩
 obtain ⟨g, rfl, -, -⟩ := own_block h
 refine ⟨_, rfl, ?_⟩
 rw [Lib.addr_add, Nat.zero_add, h.cellAt (i * 2) (by omega)]
 have hk := blCells_at ks i (ks[i]'(by omega)) 0 (List.getElem?_eq_getElem _) (by decide)
 rw [Nat.add_zero] at hk
 rw [hk, h0 _ (List.getElem_mem _)]
 rfl
set_option maxRecDepth 100000 in
set_option maxHeartbeats 4000000 in
theorem lawDSmall (W : World) (ax : Option Addr) (n c B0 : Nat) (z : Int) (bs : List UInt8) (hx : Mem.Src W (.slice ax n c) bs) (hn : bs.length = n) (hl : n <= 140737488355328) (hk : Masks W B0) (hod : Ords W B0) (ho : DOrd W B0) (hB0 : B0 <= W.heap.size) :
  Calls Tryz.prog 7 #[.slice ax n c, .int .i64 z] W fun e w' => e = .returned (.bool true) /\ Below W.heap.size W w' := by
 obtain ⟨a1, c1, W1, r1, hD⟩ := copy_defl W ax n c B0 bs hx hn hl hk ho hB0
 obtain ⟨⟨out, er⟩, hr0, hr1, hD⟩ := hD z
 simp only at hr0 hr1 hD
 have HD := Lib.hid hD
 have HKN : Aside (∀ w, Below W.heap.size W w -> Calls Tryz.prog 13 #[] w fun e w' => e = .returned (.bool true) /\ Below w.heap.size w w' /\ Below W.heap.size W w') := fun w hb =>
  (knows_any w B0 (hk.below (hb.mono hB0)) (ho.below (hb.mono hB0)) (Nat.le_trans hB0 hb.size)).mono (fun e w' h => ⟨h.1, h.2, hb.trans (h.2.mono hb.size)⟩)
 by_cases h0 : er = 0
 ·subst h0
  obtain ⟨lv, rfl, h9, hbig, rfl⟩ := hr1 rfl
  have hsm := deflB_small bs lv hbig h9
  obtain ⟨hs1, hs2, hs3⟩ := deflB_stored bs hbig
  have hin := defl_back bs 0 hbig (by decide)
  have HC2 : Aside (∀ w, Below W.heap.size W w -> ∃ a3 c3 W3, (Builtin.append_ #[22, 22] 22 #[.slice (some ⟨w.heap.size, 0, none⟩) 0 0, .slice ax n c]).run Tryz.prog (w.alloc (.cells #[] 5)) = .ok (.slice a3 n c3) W3 /\
   Calls Tryz.prog 9 #[.slice a3 n c3, .int .i64 0] W3 fun e w' => ∃ a4 c4, e = .returned (.tuple #[.slice a4 (deflB bs 0).length c4, .int .i64 0]) /\ Mem.Src w' (.slice a4 (deflB bs 0).length c4) (deflB bs 0) /\ Below W.heap.size W w') := fun w hb => by
   obtain ⟨a3, c3, W3, h1, h2⟩ := copy_ok w ax n c B0 0 bs (hx.below hb) hn (by omega) (by decide) (hk.below (hb.mono hB0)) (ho.below (hb.mono hB0)) (Nat.le_trans hB0 hb.size)
   refine ⟨a3, c3, W3, h1, h2.mono ?_⟩
   rintro e w' ⟨a4, c4, h3, h4, h5⟩
   exact ⟨a4, c4, h3, h4, hb.trans (h5.mono hb.size)⟩
  have HBL : Aside (∀ w a4 c4, Below W.heap.size W w -> Mem.Src w (.slice a4 (deflB bs 0).length c4) (deflB bs 0) -> Calls Tryz.prog 23 #[.slice a4 (deflB bs 0).length c4, .int .i64 1048576] w fun e w' => ∃ a5 c5, e = .returned (.tuple #[.slice a5 (numS n) c5, .int .i64 0]) /\ (∀ i, i < numS n -> ∃ a, a5 = some a /\ w'.cell? (a.add (i * 2)) = some (.int .i64 0)) /\ Below W.heap.size W w') := fun w a4 c4 hb hs => by
   refine (blocks_any w a4 _ c4 B0 1048576 (deflB bs 0) hs rfl (hk.below (hb.mono hB0)) (hod.below (hb.mono hB0)) (Nat.le_trans hB0 hb.size)).mono ?_
   rintro e w' ⟨v, B, h1, h2, h3⟩
   rw [hin] at h1 h2
   rw [<- hn]
   simp only [hs2] at h2
   obtain ⟨a5, c5, rfl, h4⟩ := kinds_cells h2 hs2 hs3
   exact ⟨a5, c5, h1, h4, hb.trans (h3.mono hb.size)⟩
  rw [hn] at hsm hs1
  obtain ⟨o1, ho1⟩ : ∃ y, y = (deflB bs lv).length := ⟨_, rfl⟩
  obtain ⟨o2, ho2⟩ : ∃ y, y = (deflB bs 0).length := ⟨_, rfl⟩
  obtain ⟨m, hm⟩ : ∃ y, y = numS n := ⟨_, rfl⟩
  have hmm : m = max 1 ((n + 29999) / 30000) := hm
  rw [<- ho1] at hsm HD
  rw [<- ho2] at hs1 HC2 HBL
  rw [<- hm] at hs1 HBL
  have hn2 : n <= 524288 := by omega
  clear hx hn hl hk hod ho hr0 hr1 hD h9 hbig hin hs2 hs3 ho1 ho2 hm
  generalize deflB bs lv = out1 at *
  generalize deflB bs 0 = out0 at *
  obtain ⟨q1, hq1⟩ : ∃ q, q = (n + 29999) / 30000 := ⟨_, rfl⟩
  obtain ⟨q2, hq2⟩ : ∃ q, q = n / 22000 := ⟨_, rfl⟩
  obtain ⟨q3, hq3⟩ : ∃ q, q = n / 1000 := ⟨_, rfl⟩
  rw [<- hq2, <- hq3] at hsm
  rw [<- hq1] at hmm
  have b1 : q1 <= 20 := by omega
  have b2 : q2 <= 30 := by omega
  have b3 : q3 <= 600 := by omega
  have wa : IntKind.i64.wrap ((n : Int) + 29999) = (n : Int) + 29999 := by rw [IntKind.wrap_i64]; omega
  have d1 : ((n : Int) + 29999).tdiv 30000 = (q1 : Int) := by rw [Int.tdiv_eq_ediv_of_nonneg (by omega)]; omega
  have d2 : (n : Int).tdiv 22000 = (q2 : Int) := by rw [Int.tdiv_eq_ediv_of_nonneg (by omega)]; omega
  have d3 : (n : Int).tdiv 1000 = (q3 : Int) := by rw [Int.tdiv_eq_ediv_of_nonneg (by omega)]; omega
  have e1 : IntKind.i64.wrap (q1 : Int) = (q1 : Int) := by rw [IntKind.wrap_i64]; omega
  have e2 : IntKind.i64.wrap (q2 : Int) = (q2 : Int) := by rw [IntKind.wrap_i64]; omega
  have e3 : IntKind.i64.wrap (q3 : Int) = (q3 : Int) := by rw [IntKind.wrap_i64]; omega
  have mx : max (1 : Int) (q1 : Int) = (m : Int) := by omega
  have u5 : IntKind.i64.wrap ((q2 : Int) + 1) = (q2 : Int) + 1 := by rw [IntKind.wrap_i64]; omega
  have u6 : IntKind.i64.wrap (5 * ((q2 : Int) + 1)) = 5 * ((q2 : Int) + 1) := by rw [IntKind.wrap_i64]; omega
  have u7 : IntKind.i64.wrap ((n : Int) + 5 * ((q2 : Int) + 1)) = (n : Int) + 5 * ((q2 : Int) + 1) := by rw [IntKind.wrap_i64]; omega
  have u8 : IntKind.i64.wrap ((n : Int) + 5 * ((q2 : Int) + 1) + 6) = (n : Int) + 5 * ((q2 : Int) + 1) + 6 := by rw [IntKind.wrap_i64]; omega
  have u9 : IntKind.i64.wrap ((n : Int) + 5 * ((q2 : Int) + 1) + 6 + (q3 : Int)) = (n : Int) + 5 * ((q2 : Int) + 1) + 6 + (q3 : Int) := by rw [IntKind.wrap_i64]; omega
  have m5 : IntKind.i64.wrap (5 * (m : Int)) = 5 * (m : Int) := by rw [IntKind.wrap_i64]; omega
  have n5 : IntKind.i64.wrap ((n : Int) + 5 * (m : Int)) = (n : Int) + 5 * (m : Int) := by rw [IntKind.wrap_i64]; omega
  have c1' : (o1 : Int) <= (n : Int) + 5 * ((q2 : Int) + 1) + 6 + (q3 : Int) := by omega
  have c2' : (o2 : Int) = (n : Int) + 5 * (m : Int) := by omega
  have c3' : ((o2 : Int) == (n : Int) + 5 * (m : Int)) = true := by rw [beq_iff_eq]; exact c2'
  have HM : Aside (m <= 100) := by show m <= 100; omega
  clear hsm hs1 hmm hq1 hq2 hq3 b1 b2 b3 hn2
  go_enter Tryz.func7, Tryz.ntmps7
  go_upto_region 4 with (first
   | (at_builtin; refine wpList_append_at _ rfl _ _ _ _ rfl _ _ rfl rfl _ _ r1 ?_; clear r1)
   | (go_at_call 9; refine HD.out.mono ?_; rintro e w2 ⟨a2, c2, rfl, s2, b2⟩)
   | (go_at_call 11; refine (num_any _ _).mono ?_; rintro e w3 ⟨rfl, rfl⟩)
   | (go_at_call 13; refine (HKN.out _ b2).mono ?_; rintro e w4 ⟨rfl, d4, b4⟩))
  obtain ⟨a3, c3, W3, r3, h3⟩ := HC2.out w4 b4
  have HD3 := Lib.hid h3
  clear h3 HC2 HKN HD s2 d4 b2 b4
  go_upto_region 5 with (first
   | (at_builtin; refine wpList_append_at _ rfl _ _ _ _ rfl _ _ rfl rfl _ _ r3 ?_; clear r3)
   | (go_at_call 9; refine HD3.out.mono ?_; rintro e w5 ⟨a4, c4, rfl, s5, b5⟩))
  have HB5 := Lib.hid (HBL.out w5 a4 c4 b5 s5)
  clear HBL HD3 s5 b5
  go_upto_region 6 with (go_at_call 23; refine HB5.out.mono ?_; rintro e w6 ⟨a5, c5, rfl, y1, y2⟩; have HY := Lib.hid (And.intro y1 y2); clear y1 y2)
  clear HB5
  go_upto_region 7 with fail
  go_loopg [11] m (fun kx s11 wr => ∃ (i : Nat), s11 = .int .i64 (i : Int) /\ i <= m /\ m - i <= kx /\ w6 = wr)
  case atStart => exact ⟨0, rfl, Nat.zero_le _, Nat.le_refl _, rfl⟩
  case round =>
   obtain ⟨i, rfl, hi, hkx, rfl⟩ := hrel
   by_cases hlt : i < m
   ·have hltz : (i : Int) < (m : Int) := by omega
    have i0 : (0 : Int) <= (i : Int) := by omega
    have hm100 := HM.out
    have wi : IntKind.i64.wrap ((i : Int) + 1) = (i : Int) + 1 := by rw [IntKind.wrap_i64]; omega
    obtain ⟨a, rfl, hc⟩ := HY.out.1 i hlt
    clear wa d1 d2 d3 e1 e2 e3 mx u5 u6 u7 u8 u9 m5 n5 c1' c2' c3'
    go_wp2_with fail
    go_roundg (m - (i + 1))
    case measure => omega
    case rel => exact ⟨i + 1, by go_num, by omega, Nat.le_refl _, rfl⟩
   ·obtain rfl : i = m := by omega
    have hltz : ¬ (i : Int) < (i : Int) := by omega
    go_wp2_with (go_at_call 11; refine (num_any _ _).mono ?_; rintro e w7 ⟨rfl, rfl⟩)
    go_ret
    exact ⟨rfl, HY.out.2⟩
 ·obtain rfl : out = [] := hr0 h0
  have hez : ¬ (er : Int) = 0 := by omega
  have heb : ((er : Int) == 0) = false := by rw [beq_eq_false_iff_ne]; exact hez
  have hen : ((er : Int) != 0) = true := by simp [bne, heb]
  clear hx hn hl hk hod ho hr0 hr1 hD
  simp only [List.length_nil] at HD
  go_enter Tryz.func7, Tryz.ntmps7
  go_wp2_with (first
   | (at_builtin; refine wpList_append_at _ rfl _ _ _ _ rfl _ _ rfl rfl _ _ r1 ?_; clear r1)
   | (go_at_call 9; refine HD.out.mono ?_; rintro e w2 ⟨a2, c2, rfl, s2, b2⟩)
   | (go_at_call 11; refine (num_any _ _).mono ?_; rintro e w3 ⟨rfl, rfl⟩)
   | (go_at_call 13; refine (HKN.out _ b2).mono ?_; rintro e w4 ⟨rfl, d4, b4⟩))
  go_ret
  exact ⟨rfl, b4⟩
end Go.Proofs.YthmbbpfgbpacnaaGreatDoor.Def
