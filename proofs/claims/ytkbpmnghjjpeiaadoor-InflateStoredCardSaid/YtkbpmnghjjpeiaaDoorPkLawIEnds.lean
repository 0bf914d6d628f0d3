/- The law InflateEnds, walked. -/
import Derived.Test.YtkbpmnghjjpeiaaDoorPkLawIMost
import Derived.Deep.DeepAppendWide
namespace Go.Proofs.YtkbpmnghjjpeiaaDoor.Inf
open Go.RowKit Go.Shelf Go.Lib Go.Proofs.YtkbpmnghjjpeiaaDoor.Mem Go.Proofs.YtkbpmnghjjpeiaaDoor.Bit Go.Proofs.YtkbpmnghjjpeiaaDoor.Huf Go.Proofs.YtkbpmnghjjpeiaaDoor.Lz

/-- 'append(v, x...)', v being short. -/
theorem app_wide (W : World) (base : Nat) (v x : Value) (ty : TypeId) (xs l : List UInt8) (hown : W.ownsRow base 5 1 v xs.length (bVs xs)) (hbase : base ≤ W.heap.size) (hsrc : Mem.Src W x l) (hx : xs.length ≤ 1048576) (hl : l.length ≤ 140737488355328) :
    ∃ v' W', (Builtin.append_ #[22, 22] ty #[v, x]).run Tryd.prog W = .ok v' W' ∧ W'.ownsRow base 5 1 v' (xs ++ l).length (bVs (xs ++ l)) ∧ W.grownBy W' v.ownBlock := by
  obtain ⟨i0, hi, hz0, hz1, hz2⟩ := info_parts info5
  rcases hsrc with ⟨rfl, rfl⟩ | ⟨a, c, rfl, hc⟩
  · rw [List.append_nil]
    exact ⟨v, W, run_append_owned_none (P := Tryd.prog) (w := W) base 22 ty 5 i0 1 Tryd.underlying22 hi v _ _ hown, hown, ⟨rfl, rfl, rfl, Nat.le_refl _, fun _ _ _ => rfl⟩⟩
  · have hl1 : (bVs l).length = l.length * 1 := by rw [bVs_len, Nat.mul_one]
    have h63 : xs.length + l.length ≤ maxLen := by unfold maxLen; omega
    obtain ⟨v', W', q1, q2, q3, _⟩ := run_append_own_wide (P := Tryd.prog) W base 22 ty 5 i0 (.int .u8 0) 1 1 Tryd.underlying22 hi hz0 hz1 hz2 rfl (by decide) v _ _ hown a l.length c (bVs l) hl1 hc (bVs_one l) h63 (by omega) hbase
    exact ⟨v', W', q1, by rw [List.length_append, bVs_append]; exact q2, q3⟩

theorem infl_err {bs : List UInt8} {z : Int} (h : (inflR bs z).2.2.2 ≠ 0) : (inflR bs z).1 = [] ∧ (inflR bs z).2.2.1 = 0 := by
  unfold inflR at h ⊢
  by_cases h1 : z < 0 ∨ 1048576 < z
  · rw [if_pos h1]; exact ⟨rfl, rfl⟩
  · rw [if_neg h1] at h ⊢
    by_cases h2 : 1048576 < bs.length
    · rw [if_pos h2]; exact ⟨rfl, rfl⟩
    · rw [if_neg h2] at h ⊢
      cases hs : strP bs z.toNat with
      | ok ob u => rw [hs] at h; exact absurd rfl h
      | no c => exact ⟨rfl, rfl⟩
theorem infl_much {bs : List UInt8} {m : Nat} (hm : m ≤ 1048576) (hl : 1048576 < bs.length) : inflR bs (m : Int) = ([], [], 0, 6) := by
  unfold inflR
  rw [if_neg (by omega), if_pos hl]

set_option maxRecDepth 100000 in
set_option maxHeartbeats 800000 in
theorem lawIEnds (W : World) (ax ay : Option Addr) (n c k cy B0 : Nat) (z : Int) (bs more : List UInt8) (hx : Mem.Src W (.slice ax n c) bs) (hn : bs.length = n) (hl : n ≤ 140737488355328) (hnc : n ≤ c) (hy : Mem.Src W (.slice ay k cy) more) (hkk : more.length = k) (hlk : k ≤ 140737488355328) (hk : Masks W B0) (hod : Ords W B0) (hB0 : B0 ≤ W.heap.size) :
    Calls Tryd.prog 5 #[.slice ax n c, .int .i64 z, .slice ay k cy] W fun e w' => e = .returned (.bool true) ∧ Below W.heap.size W w' := by
  have HFR : Aside (∀ (w : World) (j : Nat), j ≤ n → Below W.heap.size W w → ∃ ao cap w', (Builtin.append_ #[22, 22] 22 #[.slice (some ⟨w.heap.size, 0, none⟩) 0 0, .slice ax j c]).run Tryd.prog (w.alloc (.cells #[] 5)) = .ok (.slice ao j cap) w' ∧ w'.ownsRow w.heap.size 5 1 (.slice ao j cap) (bs.take j).length (bVs (bs.take j)) ∧ Below w.heap.size w w' ∧ Below W.heap.size W w') := fun w j hj hb => by
    have e : (bs.take j).length = j := by rw [List.length_take]; omega
    obtain ⟨v, w', h1, h2, h3⟩ := fresh_any w (.slice ax j c) 22 (bs.take j) (src_take (hx.below hb) (by omega)) (by omega)
    obtain ⟨ao, cap, rfl, -, -, -⟩ := own_shape h2
    rw [e] at h1 h2
    exact ⟨ao, cap, w', h1, by rw [e]; exact h2, h3, hb.trans (h3.mono hb.size)⟩
  have HKN : Aside (∀ w, Below W.heap.size W w → Calls Tryd.prog 17 #[] w fun e w' => e = .returned (.bool true) ∧ Below w.heap.size w w' ∧ Below W.heap.size W w') := fun w hb =>
    (knows_any w B0 (hk.below (hb.mono hB0)) (hod.below (hb.mono hB0)) (Nat.le_trans hB0 hb.size)).mono (fun e w' h => ⟨h.1, h.2, hb.trans (h.2.mono hb.size)⟩)
  have HIN : Aside (∀ (w : World) (ao : Option Addr) (j cap : Nat) (l : List UInt8) (y : Int), Below W.heap.size W w → Mem.Src w (.slice ao j cap) l → l.length = j → Calls Tryd.prog 10 #[.slice ao j cap, .int .i64 y] w fun e w' => ∃ ao' cap', e = .returned (.tuple #[.slice ao' (inflR l y).1.length cap', .int .i64 ((inflR l y).2.2.1 : Int), .int .i64 ((inflR l y).2.2.2 : Int)]) ∧ Mem.Src w' (.slice ao' (inflR l y).1.length cap') (inflR l y).1 ∧ Below w.heap.size w w' ∧ Below W.heap.size W w') := fun w ao j cap l y hb hs hj =>
    (inflate_any w ao j cap B0 y l hs hj (hk.below (hb.mono hB0)) (hod.below (hb.mono hB0)) (Nat.le_trans hB0 hb.size)).mono (fun e w' h => by
      obtain ⟨v, h1, h2, h3⟩ := h
      obtain ⟨ao', cap', rfl⟩ := src_len h2
      exact ⟨ao', cap', h1, h2, h3, hb.trans (h3.mono hb.size)⟩)
  have HMO : Aside (Mem.Src W (.slice ay k cy) more) := hy
  obtain ⟨a1, c1, W1, r1, s1, -, b1⟩ := HFR.out W n (Nat.le_refl _) (Below.refl _ _)
  have etk : bs.take n = bs := List.take_of_length_le (by omega)
  rw [etk] at s1
  have HI1 := Lib.hid (HIN.out W1 a1 n c1 bs z b1 (Src.of_own s1 rfl) hn)
  obtain ⟨out1, ho1⟩ : ∃ y, y = (inflR bs z).1 := ⟨_, rfl⟩
  obtain ⟨us1, hu1⟩ : ∃ y, y = (inflR bs z).2.2.1 := ⟨_, rfl⟩
  obtain ⟨e1, he1⟩ : ∃ y, y = (inflR bs z).2.2.2 := ⟨_, rfl⟩
  rw [← ho1, ← hu1, ← he1] at HI1
  clear hx hy hk hod s1 b1 etk
  by_cases h0 : e1 = 0
  · have hz0 : (inflR bs z).2.2.2 = 0 := by rw [← he1]; exact h0
    obtain ⟨hz1, hz2, hbl, ob, u, hst, hin⟩ := infl_zero hz0
    obtain ⟨m, rfl⟩ : ∃ m : Nat, z = (m : Int) := ⟨z.toNat, by omega⟩
    rw [Int.toNat_natCast] at hst
    have hm : m ≤ 1048576 := by omega
    have hout : out1 = ob.1 := by rw [ho1, hin]
    have hus : us1 = (u + 7) / 8 := by rw [hu1, hin]
    obtain ⟨q1, q2, q3, q4⟩ := strP_ends hst more
    generalize hq : (u + 7) / 8 = q at *
    obtain ⟨p, hp⟩ : ∃ p : Nat, q = p + 1 := ⟨q - 1, by omega⟩
    rw [show q - 1 = p by omega] at q4
    have i2 := infl_no q4 hm (by rw [List.length_take]; omega)
    have i3 : (1048576 < q + k → inflR (bs.take q ++ more) (m : Int) = ([], [], 0, 6)) ∧ (¬ 1048576 < q + k → inflR (bs.take q ++ more) (m : Int) = (ob.1, ob.2, q, 0)) := by
      have e : (bs.take q ++ more).length = q + k := by rw [List.length_append, List.length_take]; omega
      refine ⟨fun h => infl_much hm (by omega), fun h => ?_⟩
      rw [infl_ok q3 hm (by omega), hq]
    have elen : (bs.take q ++ more).length = q + k := by rw [List.length_append, List.length_take]; omega
    have elq : (bs.take q).length = q := by rw [List.length_take]; omega
    have elp : (bs.take p).length = p := by rw [List.length_take]; omega
    clear ho1 hu1 he1 hz0 hin q3 q4 hst
    subst h0 hout hus
    have g1 : ¬ (us1 : Int) < 1 := by omega
    have g2 : ¬ (us1 : Int) > (n : Int) := by omega
    have g3 : (us1 : Int) ≤ (c : Int) := by omega
    have g4 : (p : Int) ≤ (c : Int) := by omega
    have g5 : (0 : Int) ≤ (us1 : Int) := by omega
    have g6 : (0 : Int) ≤ (p : Int) := by omega
    have wi : IntKind.i64.wrap ((us1 : Int) - 1) = (p : Int) := by rw [IntKind.wrap_i64]; omega
    have wj : IntKind.i64.wrap ((us1 : Int) + (k : Int)) = (us1 : Int) + (k : Int) := by rw [IntKind.wrap_i64]; omega
    have hpn : Aside (p ≤ n) := by show p ≤ n; omega
    have hun : Aside (us1 ≤ n) := by show us1 ≤ n; omega
    have hub : Aside (us1 ≤ 1048576) := by show us1 ≤ 1048576; omega
    clear hp hq q1 q2
    go_enter Tryd.func5, Tryd.ntmps5
    go_upto_region 6 with (first
      | (at_builtin; refine wpList_append_at _ rfl _ _ _ _ rfl _ _ rfl rfl _ _ r1 ?_)
      | (go_at_call 10; refine HI1.out.mono ?_; rintro e w2 ⟨a2, c2, rfl, s2, -, b2⟩)
      | (go_at_call 14; refine (num_any _ _).mono ?_; rintro e w3 ⟨rfl, rfl⟩)
      | (go_at_call 17; refine (HKN.out _ b2).mono ?_; rintro e w4 ⟨rfl, d4, b4⟩))
    have HO1 : Aside (Mem.Src w4 (.slice a2 ob.1.length c2) ob.1) := s2.below d4
    obtain ⟨a5, c5, W5, r5, s5, d5, b5⟩ := HFR.out w4 us1 hun.out b4
    obtain ⟨v6, W6, r6, s6, g6'⟩ := app_wide W5 w4.heap.size (.slice a5 us1 c5) (.slice ay k cy) 22 (bs.take us1) more s5 d5.size (HMO.out.below b5) (by rw [elq]; exact hub.out) (by omega)
    have d6 := bel_grown s5 g6' d5.size (Nat.le_refl _)
    have b6 := b5.trans (d6.mono (show W.heap.size ≤ w4.heap.size from b4.size))
    have d46 : Below w4.heap.size w4 W6 := d5.trans d6
    obtain ⟨a6, c6, rfl, -, -, -⟩ := own_shape s6
    rw [elen] at r6 s6
    have HI6 := Lib.hid (HIN.out W6 a6 (us1 + k) c6 _ (m : Int) b6 (Src.of_own s6 elen.symm) elen)
    have HO6 : Aside (∀ w, Below W6.heap.size W6 w → Mem.Src w (.slice a2 ob.1.length c2) ob.1) := fun w hw => (HO1.out.below d46).below hw
    clear s2 s5 s6 d4 d5 d6 d46 b2 b4 b5 b6 g6' HI1 r1 HO1 HMO HKN elq
    by_cases hbig : 1048576 < us1 + k
    · rw [i3.1 hbig] at HI6
      have hb1 : (us1 : Int) + (k : Int) > 1048576 := by omega
      clear i3
      go_upto_region 7 with (first
        | (at_builtin; refine wpList_append_at _ rfl _ _ _ _ rfl _ _ rfl rfl _ _ r5 ?_; clear r5)
        | (at_builtin; refine wpList_append_at _ rfl _ _ _ _ rfl _ _ rfl rfl _ _ r6 ?_)
        | (go_at_call 10; refine HI6.out.mono ?_; rintro e w7 ⟨a7, c7, rfl, s7, d7, b7⟩))
      obtain ⟨a8, c8, W8, r8, s8, d8, b8⟩ := HFR.out w7 p hpn.out b7
      have HI8 := Lib.hid (HIN.out W8 a8 p c8 _ (m : Int) b8 (Src.of_own s8 rfl) elp)
      rw [i2] at HI8
      clear s7 d7 b7 s8 d8 b8 HFR HIN HO6 i2 elp elen HI6 r6
      go_wp2_with (first
        | (at_builtin; refine wpList_append_at _ rfl _ _ _ _ rfl _ _ rfl rfl _ _ r8 ?_)
        | (go_at_call 10; refine HI8.out.mono ?_; rintro e w9 ⟨a9, c9, rfl, s9, -, b9⟩)
        | (go_at_call 14; refine (num_any _ _).mono ?_; rintro e w10 ⟨rfl, rfl⟩))
      go_ret
      exact ⟨rfl, b9⟩
    · rw [i3.2 hbig] at HI6
      have hb1 : ¬ (us1 : Int) + (k : Int) > 1048576 := by omega
      clear i3
      go_upto_region 7 with (first
        | (at_builtin; refine wpList_append_at _ rfl _ _ _ _ rfl _ _ rfl rfl _ _ r5 ?_; clear r5)
        | (at_builtin; refine wpList_append_at _ rfl _ _ _ _ rfl _ _ rfl rfl _ _ r6 ?_)
        | (go_at_call 10; refine HI6.out.mono ?_; rintro e w7 ⟨a7, c7, rfl, s7, d7, b7⟩))
      obtain ⟨a8, c8, W8, r8, s8, d8, b8⟩ := HFR.out w7 p hpn.out b7
      have HI8 := Lib.hid (HIN.out W8 a8 p c8 _ (m : Int) b8 (Src.of_own s8 rfl) elp)
      rw [i2] at HI8
      have HO8 : Aside (∀ w, Below W8.heap.size W8 w → Mem.Src w (.slice a2 ob.1.length c2) ob.1 ∧ Mem.Src w (.slice a7 ob.1.length c7) ob.1) := fun w hw => ⟨((HO6.out w7 d7).below d8).below hw, (s7.below d8).below hw⟩
      clear s7 d7 b7 s8 d8 b8 HFR HIN HO6 i2 elp elen HI6 r6
      go_upto_region 8 with (first
        | (at_builtin; refine wpList_append_at _ rfl _ _ _ _ rfl _ _ rfl rfl _ _ r8 ?_)
        | (go_at_call 10; refine HI8.out.mono ?_; rintro e w9 ⟨a9, c9, rfl, s9, d9, b9⟩))
      have cv1 := conv_src w9 _ _ (HO8.out w9 d9).1
      have cv2 := conv_src w9 _ _ (HO8.out w9 d9).2
      clear s9 d9 HO8 HI8 r8
      go_wp2_with (go_at_call 14; refine (num_any _ _).mono ?_; rintro e w10 ⟨rfl, rfl⟩)
      go_ret
      exact ⟨by simp, b9⟩
  · have hb1 : ((e1 : Int) != 0) = true := by rw [bne_iff_ne]; omega
    have hb2 : ((e1 : Int) == 0) = false := by rw [beq_eq_false_iff_ne]; omega
    obtain ⟨he2, he3⟩ := infl_err (bs := bs) (z := z) (by rw [← he1]; exact h0)
    rw [← ho1] at he2
    rw [← hu1] at he3
    subst he2 he3
    clear ho1 hu1 he1
    go_enter Tryd.func5, Tryd.ntmps5
    go_wp2_with (first
      | (at_builtin; refine wpList_append_at _ rfl _ _ _ _ rfl _ _ rfl rfl _ _ r1 ?_)
      | (go_at_call 10; refine HI1.out.mono ?_; rintro e w2 ⟨a2, c2, rfl, s2, -, b2⟩)
      | (go_at_call 14; refine (num_any _ _).mono ?_; rintro e w3 ⟨rfl, rfl⟩)
      | (go_at_call 17; refine (HKN.out _ b2).mono ?_; rintro e w4 ⟨rfl, d4, b4⟩))
    go_ret
    exact ⟨rfl, b4⟩
end Go.Proofs.YtkbpmnghjjpeiaaDoor.Inf
