/- The statement LzCodes: a length or a distance is its symbol's base and its extra bits. -/
import Derived.Test.YtenkbmkecgnfmaaLzU
namespace Go.Proofs.Ytenkbmkecgnfmaa.Lz
open Go.RowKit Go.Shelf Go.Lib Go.Proofs.Ytenkbmkecgnfmaa.Mem Go.Proofs.Ytenkbmkecgnfmaa.Huf
open Go.ChangeShapes Go.WideShapes Go.ChangeAt

theorem lenS_of (m : Nat) (h : m < 255) : lenS ((m : Int) + 3) = (257 + ((symN m 4).1 : Int), ((symN m 4).2.1 : Int), ((symN m 4).2.2 : Int)) := by
  unfold lenS
  rw [if_neg (by omega), if_neg (by omega), show ((m : Int) + 3 - 3).toNat = m by omega]
theorem distS_of (m : Nat) (h : m < 32768) : distS ((m : Int) + 1) = (((symN m 2).1 : Int), ((symN m 2).2.1 : Int), ((symN m 2).2.2 : Int)) := by
  unfold distS
  rw [if_neg (by omega), show ((m : Int) + 1 - 1).toNat = m by omega]
theorem bits16_4 (m : Nat) (h : m ≤ 65535) : (symN m 4).2.1 ≤ 16 := by
  have := bitLen_16 m h
  show wN m 4 ≤ 16
  unfold wN; omega
theorem bits16_2 (m : Nat) (h : m ≤ 65535) : (symN m 2).2.1 ≤ 16 := by
  have := bitLen_16 m h
  show wN m 2 ≤ 16
  unfold wN; omega
theorem lenS_258 : lenS 258 = (285, 0, 0) := by decide +kernel
theorem lenB_285 : lenB 285 = (258, 0) := by decide +kernel

theorem lenC (N : Int) (h1 : 3 ≤ N) (h2 : N ≤ 258) : ∃ a b c d k k2 k3 : Nat, lenS N = ((a : Int), (b : Int), (c : Int)) ∧ lenB a = ((d : Int), (b : Int)) ∧ N = (d : Int) + c ∧ c < 2 ^ b ∧ b ≤ 16 ∧ lenS (min (N + 1) 258) = ((k : Int), (k2 : Int), (k3 : Int)) ∧ a ≤ k ∧ d ≤ 258 ∧ c ≤ 258 := by
  by_cases h : N = 258
  · subst h
    exact ⟨285, 0, 0, 258, 285, 0, 0, lenS_258, lenB_285, by decide, by decide, by decide, lenS_258, by decide, by decide, by decide⟩
  · obtain ⟨m, rfl⟩ : ∃ m : Nat, N = (m : Int) + 3 := ⟨(N - 3).toNat, by omega⟩
    have hm : m < 255 := by omega
    obtain ⟨s1, s2, s3, s4⟩ := spec4 m (by omega)
    have hb := bits16_4 m (by omega)
    have h27 := sym27 m (by omega)
    have hB : lenB ((257 + (symN m 4).1 : Nat) : Int) = (((3 + (baseN (symN m 4).1 4).1 : Nat) : Int), ((symN m 4).2.1 : Int)) := by
      unfold lenB
      rw [if_neg (by omega), if_neg (by omega), show (((257 + (symN m 4).1 : Nat) : Int) - 257).toNat = (symN m 4).1 by omega]
      rw [← s1]
      rfl
    have hS := lenS_of m hm
    rw [show (257 : Int) + ((symN m 4).1 : Int) = ((257 + (symN m 4).1 : Nat) : Int) by omega] at hS
    obtain ⟨k, k2, k3, hk, hle⟩ : ∃ k k2 k3 : Nat, lenS (min ((m : Int) + 3 + 1) 258) = ((k : Int), (k2 : Int), (k3 : Int)) ∧ 257 + (symN m 4).1 ≤ k := by
      by_cases h5 : m = 254
      · subst h5
        exact ⟨285, 0, 0, lenS_258, by omega⟩
      · have e : min ((m : Int) + 3 + 1) 258 = ((m + 1 : Nat) : Int) + 3 := by omega
        rw [e, lenS_of (m + 1) (by omega)]
        have := sym_mono4 (n := m) (m := m + 1) (by omega) (by omega)
        exact ⟨257 + (symN (m + 1) 4).1, (symN (m + 1) 4).2.1, (symN (m + 1) 4).2.2, by simp only [Int.natCast_add]; rfl, by omega⟩
    exact ⟨257 + (symN m 4).1, (symN m 4).2.1, (symN m 4).2.2, 3 + (baseN (symN m 4).1 4).1, k, k2, k3, hS, hB, by omega, s2, hb, hk, hle, by omega, by omega⟩

theorem distC (N : Int) (h1 : 1 ≤ N) (h2 : N ≤ 32768) : ∃ a b c d k k2 k3 : Nat, distS N = ((a : Int), (b : Int), (c : Int)) ∧ distB a = ((d : Int), (b : Int)) ∧ N = (d : Int) + c ∧ c < 2 ^ b ∧ b ≤ 16 ∧ distS (min (N + 1) 32768) = ((k : Int), (k2 : Int), (k3 : Int)) ∧ a ≤ k ∧ d ≤ 32768 ∧ c ≤ 32768 := by
  obtain ⟨m, rfl⟩ : ∃ m : Nat, N = (m : Int) + 1 := ⟨(N - 1).toNat, by omega⟩
  have hm : m < 32768 := by omega
  obtain ⟨s1, s2, s3, s4⟩ := spec2 m (by omega)
  have hb := bits16_2 m (by omega)
  have h29 := sym29 m (by omega)
  have hB : distB ((symN m 2).1 : Int) = (((1 + (baseN (symN m 2).1 2).1 : Nat) : Int), ((symN m 2).2.1 : Int)) := by
    unfold distB
    rw [if_neg (by omega), Int.toNat_natCast]
    rw [← s1]
    rfl
  obtain ⟨k, k2, k3, hk, hle⟩ : ∃ k k2 k3 : Nat, distS (min ((m : Int) + 1 + 1) 32768) = ((k : Int), (k2 : Int), (k3 : Int)) ∧ (symN m 2).1 ≤ k := by
    by_cases h5 : m = 32767
    · subst h5
      have e : min (((32767 : Nat) : Int) + 1 + 1) 32768 = ((32767 : Nat) : Int) + 1 := by omega
      rw [e, distS_of 32767 (by omega)]
      exact ⟨_, _, _, rfl, Nat.le_refl _⟩
    · have e : min ((m : Int) + 1 + 1) 32768 = ((m + 1 : Nat) : Int) + 1 := by omega
      rw [e, distS_of (m + 1) (by omega)]
      exact ⟨_, _, _, rfl, sym_mono2 (by omega) (by omega)⟩
  exact ⟨(symN m 2).1, (symN m 2).2.1, (symN m 2).2.2, 1 + (baseN (symN m 2).1 2).1, k, k2, k3, distS_of m hm, hB, by omega, s2, hb, hk, hle, by omega, by omega⟩

theorem pow_bd (b : Nat) (h : b ≤ 16) : 2 ^ b ≤ 65536 := by
  have : 2 ^ b ≤ 2 ^ 16 := Nat.pow_le_pow_right (by decide) h
  omega

set_option maxHeartbeats 8000000 in
set_option maxRecDepth 100000 in
theorem lawCodes (W : World) (n m : Int) :
    Calls Try.prog 9 #[.int .i64 n, .int .i64 m] W fun e w' => e = .returned (.bool true) ∧ Below W.heap.size W w' := by
  have x1 : -256 < n.tmod 256 := Int.lt_tmod_of_pos n (by decide)
  have x2 : n.tmod 256 < 256 := Int.tmod_lt_of_pos n (by decide)
  have x3 : -32768 < m.tmod 32768 := Int.lt_tmod_of_pos m (by decide)
  have x4 : m.tmod 32768 < 32768 := Int.tmod_lt_of_pos m (by decide)
  have z1 : IntKind.i64.wrap (n.tmod 256 + 256) = n.tmod 256 + 256 := by rw [IntKind.wrap_i64]; omega
  have z3 : IntKind.i64.wrap (m.tmod 32768 + 32768) = m.tmod 32768 + 32768 := by rw [IntKind.wrap_i64]; omega
  obtain ⟨y, hy⟩ : ∃ y, y = n.tmod 256 % 256 := ⟨_, rfl⟩
  have hyb : 0 ≤ y ∧ y < 256 := by omega
  obtain ⟨y', hy'⟩ : ∃ y, y = m.tmod 32768 % 32768 := ⟨_, rfl⟩
  have hyb' : 0 ≤ y' ∧ y' < 32768 := by omega
  have z2 : IntKind.i64.wrap (3 + y) = 3 + y := by rw [IntKind.wrap_i64]; omega
  have z4 : IntKind.i64.wrap (1 + y') = 1 + y' := by rw [IntKind.wrap_i64]; omega
  have z5 : IntKind.i64.wrap (3 + y + 1) = 3 + y + 1 := by rw [IntKind.wrap_i64]; omega
  have z6 : IntKind.i64.wrap (1 + y' + 1) = 1 + y' + 1 := by rw [IntKind.wrap_i64]; omega
  obtain ⟨a, b, c, d, k, k2, k3, e1, e2, e3, e4, e5, e6, e7, e8, e9⟩ := lenC (3 + y) (by omega) (by omega)
  obtain ⟨f, g, h, j, l, l2, l3, d1, d2, d3, d4, d5, d6, d7, d8, d9⟩ := distC (1 + y') (by omega) (by omega)
  have H1 := fun w => Lib.hid (length_any w (3 + y))
  have H2 := fun w => Lib.hid (baseLength_any w (a : Int))
  have H3 := fun w => Lib.hid (distance_any w (1 + y'))
  have H4 := fun w => Lib.hid (baseDistance_any w (f : Int))
  have H5 := fun w => Lib.hid (length_any w (min (3 + y + 1) 258))
  have H6 := fun w => Lib.hid (distance_any w (min (1 + y' + 1) 32768))
  have HK := fun w => Lib.hid (knows_any w)
  rw [e1] at H1
  rw [e2] at H2
  rw [d1] at H3
  rw [d2] at H4
  rw [e6] at H5
  rw [d6] at H6
  simp only at H1 H2 H3 H4 H5 H6
  obtain ⟨n5, hn5⟩ : ∃ v, v = min (3 + y + 1) 258 := ⟨_, rfl⟩
  obtain ⟨n6, hn6⟩ : ∃ v, v = min (1 + y' + 1) 32768 := ⟨_, rfl⟩
  rw [← hn5] at H5
  rw [← hn6] at H6
  have y5 : min (3 + y + 1) 258 = n5 := hn5.symm
  have y6 : min (1 + y' + 1) 32768 = n6 := hn6.symm
  clear hn5 hn6
  have p1 := pow_bd b e5
  have p2 := pow_bd g d5
  obtain ⟨pb, hpb⟩ : ∃ p, p = 2 ^ b := ⟨_, rfl⟩
  obtain ⟨pg, hpg⟩ : ∃ p, p = 2 ^ g := ⟨_, rfl⟩
  rw [← hpb] at p1 e4
  rw [← hpg] at p2 d4
  have q1 : IntKind.u64.wrap (b : Int) = (b : Int) := by rw [IntKind.wrap_u64]; omega
  have q2 : IntKind.u64.wrap (g : Int) = (g : Int) := by rw [IntKind.wrap_u64]; omega
  have q3 : min b 64 = b := by omega
  have q4 : min g 64 = g := by omega
  have q5 : (2 : Int) ^ b = (pb : Int) := by rw [hpb, Int.natCast_pow]; rfl
  have q6 : (2 : Int) ^ g = (pg : Int) := by rw [hpg, Int.natCast_pow]; rfl
  have q7 : IntKind.i64.wrap (pb : Int) = (pb : Int) := by rw [IntKind.wrap_i64]; omega
  have q8 : IntKind.i64.wrap (pg : Int) = (pg : Int) := by rw [IntKind.wrap_i64]; omega
  have q9 : IntKind.i64.wrap ((d : Int) + (c : Int)) = (d : Int) + (c : Int) := by rw [IntKind.wrap_i64]; omega
  have r9 : IntKind.i64.wrap ((j : Int) + (h : Int)) = (j : Int) + (h : Int) := by rw [IntKind.wrap_i64]; omega
  have c0 : (0 : Int) ≤ (c : Int) := by omega
  have h0 : (0 : Int) ≤ (h : Int) := by omega
  have c1 : (c : Int) < (pb : Int) := by omega
  have h1 : (h : Int) < (pg : Int) := by omega
  have k0 : (a : Int) ≤ (k : Int) := by omega
  have l0 : (f : Int) ≤ (l : Int) := by omega
  have e10 := e3.symm
  have d10 := d3.symm
  clear hpb hpg e1 e2 d1 d2 e6 d6 p1 p2 e3 d3
  go_enter Try.func9, Try.ntmps9
  go_upto_region 3 with fail
  rw [← hy, ← hy']
  clear hy hy' x1 x2 x3 x4 z1 z3
  have YB : (3 ≤ 3 + y ∧ 3 + y ≤ 258) ∧ 1 ≤ 1 + y' ∧ 1 + y' ≤ 32768 := by omega
  clear hyb hyb'
  generalize 3 + y = N at *
  generalize 1 + y' = M at *
  go_wp2_with (first
    | (go_at_call 25; with_reducible refine (H1 _).out.mono ?_; rintro e w1 ⟨rfl, t1⟩; have T1 := Lib.hid t1; clear t1)
    | (go_at_call 29; with_reducible refine (H2 _).out.mono ?_; rintro e w2 ⟨rfl, t2⟩; have T2 := Lib.hid t2; clear t2)
    | (go_at_call 27; with_reducible refine (H3 _).out.mono ?_; rintro e w3 ⟨rfl, t3⟩; have T3 := Lib.hid t3; clear t3)
    | (go_at_call 31; with_reducible refine (H4 _).out.mono ?_; rintro e w4 ⟨rfl, t4⟩; have T4 := Lib.hid t4; clear t4)
    | (go_at_call 25; with_reducible refine (H5 _).out.mono ?_; rintro e w5 ⟨rfl, t5⟩; have T5 := Lib.hid t5; clear t5)
    | (go_at_call 27; with_reducible refine (H6 _).out.mono ?_; rintro e w6 ⟨rfl, t6⟩; have T6 := Lib.hid t6; clear t6)
    | (go_at_call 22; refine (HK _).out.mono ?_; rintro e w7 ⟨rfl, t7⟩; have T7 := Lib.hid t7; clear t7))
  go_ret
  have D := ((((T1.out.trans T2.out).trans T3.out).trans T4.out).trans T5.out).trans T6.out
  exact ⟨rfl, (D.below _).trans (T7.out.mono (by rw [D.heap]; exact Nat.le_refl _))⟩

set_option maxRecDepth 100000 in
theorem liftedLzCodes (os : Os) (started : os.Started) (H : Type) (enc : TypeId × Value → H) :
    ReturnsInHanded {} Try.checked os 9 .any (Rows.lzCodesSpec.pre6 enc Try.prog Try.f9 [] false) (Rows.lzCodesSpec.post enc Try.prog Try.f9 false true false false) := by
  have wit : ∃ (w : World) (tape : Tape) (i : Input), w.os = os ∧ (w.forCall tape i).Shaped Try.checked.prog ∧ i.vars = [] ∧ Input.okWide Try.checked.prog (w.forCall tape i) .any w.heap.size 9 i ∧
      Rows.lzCodesSpec.pre6 enc Try.checked.prog Try.f9 [] false (w.forCall tape i).memory i.args ∧ ({} : Assume).holds Try.checked.prog (lone (Frame.enter Try.checked.prog 9 i.args .normal) [] (w.forCall tape i)) := by
    obtain ⟨w, tape, i, h1, h2, h3, h4, ⟨⟨h5, -⟩, h6⟩, h7⟩ := ChangeSpec.witness_shaped (enc := enc) (C := Try.checked) (os := os) (f := 9) (fn := Try.f9) (s := Rows.lzCodesSpec) (conds := []) (apart := false) (X := fun _ _ => True) false (World.laidAll Try.prog os []) #[.int .i64 0, .int .i64 0] 8 (World.laidAll_os _ _ _)
      (World.shaped_of_ZipB (by kernel_rfl) (by kernel_rfl)) (by kernel_rfl) (by kernel_rfl) (by kernel_rfl) trivial
    exact ⟨w, tape, i, h1, h2, h3, h4, ⟨h5, h6⟩, h7⟩
  refine returnsInHanded_of_change_sized (C := Try.checked) Cls.own started (by kernel_rfl) Try.func9 wit ?_
  intro W base args ds gs before hval0 hW _ hsz _
  have hval : ∀ (j : Nat) t v, Try.f9.params[j]? = some t → args[j]? = some v → Value.okWide Try.prog W .any base t v := hval0
  have hW' := hW
  obtain ⟨p, q, hA0, hV, rfl, _, _⟩ := hW
  have hA : DataW.TrodAll enc Try.prog W 0 (fun _ => true) true Try.f9.params.toList args.toList ds p := hA0
  obtain ⟨rfl, rfl⟩ := trodVars_none hV
  have hlt : ∀ x ∈ p, x.block < W.heap.size := fun x hx => hW'.lt x (by simpa using hx)
  have fin : ∀ W', Below W.heap.size W W' → (Rows.lzCodesSpec.fn H (ds ++ [])).results = [.lit (.bool true)] → (Rows.lzCodesSpec.fn H (ds ++ [])).args = ds → (Rows.lzCodesSpec.fn H (ds ++ [])).vars = [] → Rows.lzCodesSpec.post enc Try.prog Try.f9 false true false false W args (.bool true) W' := by
    intro W' hb h1 h2 h3
    refine ⟨ds, [], _, [], p, [], hW', ?_, ?_, ?_, hb.frame _, fun h => by cases h⟩
    · rw [h1]; exact trodAll_mk1 (shut_bool Try.underlying4 _)
    · rw [h2]; exact Cls.trodAll_below Cls.laidOut hb _ _ _ _ hA (Cls.readable _ (by kernel_rfl)) hlt
    · rw [h3]; rfl
  rw [Try.params9] at hA hval
  obtain ⟨v0, v1, d0, d1, p0, p1, rfl, rfl, rfl, h0, h1⟩ := trodAll_two hA
  obtain ⟨n, rfl, rfl, rfl, _⟩ := open_int Try.underlying3 (hval 0 3 v0 rfl rfl) h0
  obtain ⟨x, rfl, rfl, rfl, _⟩ := open_int Try.underlying3 (hval 1 3 v1 rfl rfl) h1
  refine (lawCodes W n x).mono fun e W' ⟨he, hb⟩ => ?_
  subst he
  exact ⟨_, rfl, fin W' hb rfl rfl rfl⟩

theorem saidLzCodes : Rows.LzCodesSaid :=
  OpenClaim.holds_of_wide 9 Try.f9 rfl rfl rfl rfl rfl rfl rfl ⟨rfl, rfl, rfl, rfl, rfl⟩ rfl rfl rfl rfl rfl (by kernel_rfl) Try.func9 (by kernel_rfl)
    (of_decide_eq_true (by kernel_rfl)) (by unfold Func.isWrapper; first | (rw [if_pos (by decide +kernel)]; kernel_rfl) | (rw [if_neg (by decide +kernel)]; exact ⟨rfl, rfl⟩))
    (fun os started H enc _ => liftedLzCodes os started H enc)
end Go.Proofs.Ytenkbmkecgnfmaa.Lz
namespace Go.Proofs.Ytenkbmkecgnfmaa
open Go

theorem lzCodes_holds : Rows.LzCodesSaid := Lz.saidLzCodes
end Go.Proofs.Ytenkbmkecgnfmaa
