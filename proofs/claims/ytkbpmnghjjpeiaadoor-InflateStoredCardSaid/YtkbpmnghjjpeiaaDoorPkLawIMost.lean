/- The law InflateMost, walked. -/
import Derived.Test.YtkbpmnghjjpeiaaDoorPkInfT
import Derived.Test.YtkbpmnghjjpeiaaDoorPkInfO
namespace Go.Proofs.YtkbpmnghjjpeiaaDoor.Inf
open Go.RowKit Go.Shelf Go.Lib Go.Proofs.YtkbpmnghjjpeiaaDoor.Mem Go.Proofs.YtkbpmnghjjpeiaaDoor.Bit Go.Proofs.YtkbpmnghjjpeiaaDoor.Huf Go.Proofs.YtkbpmnghjjpeiaaDoor.Lz

theorem infl_zero {bs : List UInt8} {z : Int} (h : (inflR bs z).2.2.2 = 0) : 0 ≤ z ∧ z ≤ 1048576 ∧ bs.length ≤ 1048576 ∧ ∃ ob u, strP bs z.toNat = .ok ob u ∧ inflR bs z = (ob.1, ob.2, (u + 7) / 8, 0) := by
  unfold inflR at h ⊢
  by_cases h1 : z < 0 ∨ 1048576 < z
  · rw [if_pos h1] at h; cases h
  · rw [if_neg h1] at h ⊢
    by_cases h2 : 1048576 < bs.length
    · rw [if_pos h2] at h; cases h
    · rw [if_neg h2] at h ⊢
      cases hs : strP bs z.toNat with
      | ok ob u => exact ⟨by omega, by omega, by omega, ob, u, rfl, rfl⟩
      | no c =>
        rw [hs] at h
        have hF : 8 * bs.length < FU := by rw [FU_eq]; omega
        exact absurd h (readP_no hF FU [] [] 0 c (by omega) hs)
theorem infl_ok {bs : List UInt8} {m : Nat} {ob : List UInt8 × List (Nat × Nat)} {u : Nat} (h : strP bs m = .ok ob u) (hm : m ≤ 1048576) (hl : bs.length ≤ 1048576) : inflR bs (m : Int) = (ob.1, ob.2, (u + 7) / 8, 0) := by
  unfold inflR
  rw [if_neg (by omega), if_neg (by omega), Int.toNat_natCast, h]
theorem infl_no {bs : List UInt8} {m c : Nat} (h : strP bs m = .no c) (hm : m ≤ 1048576) (hl : bs.length ≤ 1048576) : inflR bs (m : Int) = ([], [], 0, c) := by
  unfold inflR
  rw [if_neg (by omega), if_neg (by omega), Int.toNat_natCast, h]
theorem src_len {W : World} {v : Value} {l : List UInt8} (h : Mem.Src W v l) : ∃ ao c, v = .slice ao l.length c := by
  rcases h with ⟨rfl, rfl⟩ | ⟨a, c, rfl, _⟩
  · exact ⟨none, 0, rfl⟩
  · exact ⟨some a, c, rfl⟩

set_option maxRecDepth 100000 in
set_option maxHeartbeats 4000000 in
theorem lawIMost (W : World) (ax : Option Addr) (n c B0 : Nat) (z : Int) (bs : List UInt8) (hx : Mem.Src W (.slice ax n c) bs) (hn : bs.length = n) (hl : n ≤ 140737488355328) (hk : Masks W B0) (hod : Ords W B0) (hB0 : B0 ≤ W.heap.size) :
    Calls Tryd.prog 6 #[.slice ax n c, .int .i64 z] W fun e w' => e = .returned (.bool true) ∧ Below W.heap.size W w' := by
  have HFR : Aside (∀ w, Below W.heap.size W w → ∃ ao cap w', (Builtin.append_ #[22, 22] 22 #[.slice (some ⟨w.heap.size, 0, none⟩) 0 0, .slice ax n c]).run Tryd.prog (w.alloc (.cells #[] 5)) = .ok (.slice ao n cap) w' ∧ Mem.Src w' (.slice ao n cap) bs ∧ Below w.heap.size w w' ∧ Below W.heap.size W w') := fun w hb => by
    obtain ⟨v, w', h1, h2, h3⟩ := fresh_any w (.slice ax n c) 22 bs (hx.below hb) (by omega)
    obtain ⟨ao, cap, rfl, -, -, -⟩ := own_shape h2
    rw [hn] at h1 h2
    exact ⟨ao, cap, w', h1, Src.of_own h2 hn.symm, h3, hb.trans (h3.mono hb.size)⟩
  have HKN : Aside (∀ w, Below W.heap.size W w → Calls Tryd.prog 17 #[] w fun e w' => e = .returned (.bool true) ∧ Below w.heap.size w w' ∧ Below W.heap.size W w') := fun w hb =>
    (knows_any w B0 (hk.below (hb.mono hB0)) (hod.below (hb.mono hB0)) (Nat.le_trans hB0 hb.size)).mono (fun e w' h => ⟨h.1, h.2, hb.trans (h.2.mono hb.size)⟩)
  have HIN : Aside (∀ w ao cap y, Below W.heap.size W w → Mem.Src w (.slice ao n cap) bs → Calls Tryd.prog 10 #[.slice ao n cap, .int .i64 y] w fun e w' => ∃ ao' cap', e = .returned (.tuple #[.slice ao' (inflR bs y).1.length cap', .int .i64 ((inflR bs y).2.2.1 : Int), .int .i64 ((inflR bs y).2.2.2 : Int)]) ∧ Mem.Src w' (.slice ao' (inflR bs y).1.length cap') (inflR bs y).1 ∧ Below w.heap.size w w' ∧ Below W.heap.size W w') := fun w ao cap y hb hs =>
    (inflate_any w ao n cap B0 y bs hs hn (hk.below (hb.mono hB0)) (hod.below (hb.mono hB0)) (Nat.le_trans hB0 hb.size)).mono (fun e w' h => by
      obtain ⟨v, h1, h2, h3⟩ := h
      obtain ⟨ao', cap', rfl⟩ := src_len h2
      exact ⟨ao', cap', h1, h2, h3, hb.trans (h3.mono hb.size)⟩)
  obtain ⟨a1, c1, W1, r1, s1, -, b1⟩ := HFR.out W (Below.refl _ _)
  have HI1 := Lib.hid (HIN.out W1 a1 c1 1048576 b1 s1)
  obtain ⟨out1, ho1⟩ : ∃ y, y = (inflR bs 1048576).1 := ⟨_, rfl⟩
  obtain ⟨us1, hu1⟩ : ∃ y, y = (inflR bs 1048576).2.2.1 := ⟨_, rfl⟩
  obtain ⟨e1, he1⟩ : ∃ y, y = (inflR bs 1048576).2.2.2 := ⟨_, rfl⟩
  rw [← ho1, ← hu1, ← he1] at HI1
  clear hx hn hl hk hod s1 b1
  by_cases h0 : e1 = 0
  · have hz0 : (inflR bs 1048576).2.2.2 = 0 := by rw [← he1]; exact h0
    obtain ⟨-, -, hbl, ob, u, hst, hin⟩ := infl_zero hz0
    have hout : out1 = ob.1 := by rw [ho1, hin]
    clear ho1 hu1 he1 hz0 hin
    subst h0 hout
    by_cases hm : z < 0
    · go_enter Tryd.func6, Tryd.ntmps6
      go_wp2_with (first
        | (at_builtin; refine wpList_append_at _ rfl _ _ _ _ rfl _ _ rfl rfl _ _ r1 ?_)
        | (go_at_call 10; refine HI1.out.mono ?_; rintro e w2 ⟨a2, c2, rfl, s2, -, b2⟩)
        | (go_at_call 14; refine (num_any _ _).mono ?_; rintro e w3 ⟨rfl, rfl⟩)
        | (go_at_call 17; refine (HKN.out _ b2).mono ?_; rintro e w4 ⟨rfl, d4, b4⟩))
      go_ret
      exact ⟨rfl, b4⟩

    · by_cases hm2 : z > 1048576
      · go_enter Tryd.func6, Tryd.ntmps6
        go_wp2_with (first
          | (at_builtin; refine wpList_append_at _ rfl _ _ _ _ rfl _ _ rfl rfl _ _ r1 ?_)
          | (go_at_call 10; refine HI1.out.mono ?_; rintro e w2 ⟨a2, c2, rfl, s2, -, b2⟩)
          | (go_at_call 14; refine (num_any _ _).mono ?_; rintro e w3 ⟨rfl, rfl⟩)
          | (go_at_call 17; refine (HKN.out _ b2).mono ?_; rintro e w4 ⟨rfl, d4, b4⟩))
        go_ret
        exact ⟨rfl, b4⟩

      · obtain ⟨m, rfl⟩ : ∃ m : Nat, z = (m : Int) := ⟨z.toNat, by omega⟩
        have hroom := strP_room (m := m) hst (show m ≤ (1048576 : Int).toNat by have : (1048576 : Int).toNat = 1048576 := rfl; omega)
        have hm3 : m ≤ 1048576 := by omega
        go_enter Tryd.func6, Tryd.ntmps6
        go_upto_region 4 with (first
          | (at_builtin; refine wpList_append_at _ rfl _ _ _ _ rfl _ _ rfl rfl _ _ r1 ?_)
          | (go_at_call 10; refine HI1.out.mono ?_; rintro e w2 ⟨a2, c2, rfl, s2, -, b2⟩)
          | (go_at_call 14; refine (num_any _ _).mono ?_; rintro e w3 ⟨rfl, rfl⟩)
          | (go_at_call 17; refine (HKN.out _ b2).mono ?_; rintro e w4 ⟨rfl, d4, b4⟩))
        obtain ⟨a3, c3, W3, r3, s3, d3, b3⟩ := HFR.out w4 b4
        have HI3 := Lib.hid (HIN.out W3 a3 c3 (m : Int) b3 s3)
        have HS : Aside (∀ w, Below W3.heap.size W3 w → Mem.Src w (.slice a2 ob.1.length c2) ob.1) := fun w hw => ((s2.below d4).below d3).below hw
        clear s2 s3 d3 d4 b2 b3 b4 HFR HKN HIN HI1 r1
        by_cases hlt : m < ob.1.length
        · rw [if_pos hlt] at hroom
          have hin := infl_no hroom hm3 hbl
          rw [hin] at HI3
          have hltz : (m : Int) < (ob.1.length : Int) := by omega
          clear hin hroom hst HS
          go_wp2_with (first
            | (at_builtin; refine wpList_append_at _ rfl _ _ _ _ rfl _ _ rfl rfl _ _ r3 ?_)
            | (go_at_call 10; refine HI3.out.mono ?_; rintro e w5 ⟨a5, c5, rfl, s5, -, b5⟩)
            | (go_at_call 14; refine (num_any _ _).mono ?_; rintro e w6 ⟨rfl, rfl⟩))
          go_ret
          exact ⟨rfl, b5⟩
        · rw [if_neg hlt] at hroom
          have hin := infl_ok hroom hm3 hbl
          rw [hin] at HI3
          have hltz : ¬ (m : Int) < (ob.1.length : Int) := by omega
          clear hin hroom hst
          go_upto_region 5 with (first
            | (at_builtin; refine wpList_append_at _ rfl _ _ _ _ rfl _ _ rfl rfl _ _ r3 ?_)
            | (go_at_call 10; refine HI3.out.mono ?_; rintro e w5 ⟨a5, c5, rfl, s5, d5, b5⟩))
          have cv1 := conv_src w5 _ _ (HS.out w5 d5)
          have cv2 := conv_src w5 _ _ s5
          clear s5 d5 HS HI3 r3
          go_wp2_with (go_at_call 14; refine (num_any _ _).mono ?_; rintro e w6 ⟨rfl, rfl⟩)
          go_ret
          exact ⟨by simp, b5⟩
  · have hb1 : ((e1 : Int) != 0) = true := by rw [bne_iff_ne]; omega
    have hb2 : ((e1 : Int) == 0) = false := by rw [beq_eq_false_iff_ne]; omega
    go_enter Tryd.func6, Tryd.ntmps6
    go_wp2_with (first
      | (at_builtin; refine wpList_append_at _ rfl _ _ _ _ rfl _ _ rfl rfl _ _ r1 ?_)
      | (go_at_call 10; refine HI1.out.mono ?_; rintro e w2 ⟨a2, c2, rfl, s2, -, b2⟩)
      | (go_at_call 14; refine (num_any _ _).mono ?_; rintro e w3 ⟨rfl, rfl⟩)
      | (go_at_call 17; refine (HKN.out _ b2).mono ?_; rintro e w4 ⟨rfl, d4, b4⟩))
    go_ret
    exact ⟨rfl, b4⟩
end Go.Proofs.YtkbpmnghjjpeiaaDoor.Inf
