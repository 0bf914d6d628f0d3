/- The statement LzNone: without depth a text is its bytes, one by one; a run of one byte is that byte and copies of it. -/
import Derived.Test.YtenkbmkecgnfmaaLzNn
import Derived.Test.YtenkbmkecgnfmaaLzU
import Derived.Test.YtenkbmkecgnfmaaLzQ
import Derived.Test.YtenkbmkecgnfmaaLzZ
namespace Go.Proofs.Ytenkbmkecgnfmaa.Lz
open Go.RowKit Go.Shelf Go.Lib Go.Proofs.Ytenkbmkecgnfmaa.Mem Go.Proofs.Ytenkbmkecgnfmaa.Huf
open Go.ChangeShapes Go.WideShapes Go.ChangeAt

/-- 'make([]byte, n)'. -/
theorem makeB_any (W : World) (n : Nat) (hn : n ≤ 140737488355328) :
    ∃ W' g, (Instr.makeSlice 32 (.int .i64 (n : Int)) (.int .i64 (n : Int))).run Try.prog W = .ok (.slice (some ⟨g, 0, none⟩) n n) W' ∧ W'.ownsRow W.heap.size 5 1 (.slice (some ⟨g, 0, none⟩) n n) n (bVs (List.replicate n 0)) ∧ Below W.heap.size W W' := by
  obtain ⟨i0, hi, hz0, hz1, hz2⟩ := info_parts info5
  obtain ⟨W1, hr1, ho1, hg1⟩ := run_make_full (P := Try.prog) W W.heap.size 32 5 i0 (.int .u8 0) 1 Try.underlying32 hi hz0 hz1 .i64 .i64 n (by rw [hz2]; omega) (by unfold maxLen; omega) (Nat.le_refl _)
  have hb1 : Below W.heap.size W W1 := ⟨hg1.os, hg1.tape, hg1.output, hg1.size, fun k hk => hg1.block k hk (fun e => by cases e)⟩
  rw [show (Value.int .u8 0).cells = #[.int .u8 0] from rfl, toList_madeCells_one, show List.replicate (n * 1) (Value.int .u8 0) = bVs (List.replicate n 0) by
    unfold bVs; rw [List.map_replicate, Nat.mul_one]; rfl] at ho1
  exact ⟨W1, _, hr1, ho1, hb1⟩
theorem fill_set (n i : Nat) (c : UInt8) (h : i < n) : (List.replicate i c ++ List.replicate (n - i) 0).set i c = List.replicate (i + 1) c ++ List.replicate (n - (i + 1)) 0 := by
  obtain ⟨m, hm⟩ : ∃ m, n - i = m + 1 := ⟨n - i - 1, by omega⟩
  rw [hm, show n - (i + 1) = m by omega, List.set_append_right _ _ (by simp), List.length_replicate, Nat.sub_self, List.replicate_succ, List.set_cons_zero, List.replicate_succ', List.append_assoc]
  rfl

set_option maxHeartbeats 8000000 in
set_option maxRecDepth 100000 in
theorem lawNone (W : World) (ao : Option Addr) (c : Nat) (b : List UInt8) (y : UInt8) (n : Int) (hs : Src W (.slice ao b.length c) b) (hl : b.length ≤ 140737488355326) :
    Calls Try.prog 10 #[.slice ao b.length c, .int .u8 (y.toNat : Int), .int .i64 n] W fun e w' => e = .returned (.bool true) ∧ Below W.heap.size W w' := by
  have HS : Aside (Src W (.slice ao b.length c) b) := hs
  obtain ⟨v1, W1, hr1, ho1, hb1⟩ := fresh_any W (.slice ao b.length c) 32 b hs (by omega)
  obtain ⟨a1, c1, rfl, hcap1, -, -⟩ := own_shape ho1
  have HN := fun n w => Lib.hid (num_any n w)
  have HK := fun w => Lib.hid (knows_any w)
  have HP := Lib.hid (pieces_any W1 a1 c1 b 32768 0 (Src.of_own ho1 rfl) hcap1)
  have HB1 : Aside (Below W.heap.size W W1) := hb1
  clear ho1 hb1 hs hcap1
  rcases piecesR_cases b 32768 0 with ⟨h1, h2, h3⟩ | ⟨wd, dp, hwd, hdp, h1, h2, h3, h4, h5⟩
  · have h6 : 1048576 < b.length ∧ (piecesR b 32768 0).2 = 6 := by
      rcases h3 with ⟨q, _⟩ | q
      · omega
      · exact q
    obtain ⟨q1, q2⟩ := h6
    rw [h2, q2] at HP
    have hlz : (b.length : Int) > 1048576 := by omega
    clear h1 h2 h3
    go_enter Try.func10, Try.ntmps10
    go_wp2_with (first
      | (at_builtin; refine wpList_append_at _ rfl _ _ _ _ rfl _ _ rfl rfl _ _ hr1 ?_)
      | (go_at_call 17; refine HP.out.mono ?_; rintro e w2 ⟨v2, rfl, ho2, hb2⟩; have HB2 : Aside (Below W.heap.size W w2) := HB1.out.trans (hb2.mono HB1.out.size); clear ho2 hb2)
      | (go_at_call 20; refine (HN _ _).out.mono ?_; rintro e w3 ⟨rfl, rfl⟩)
      | (go_at_call 22; refine (HK _).out.mono ?_; rintro e w4 ⟨rfl, hb4⟩))
    go_ret
    exact ⟨rfl, HB2.out.trans (hb4.mono HB2.out.size)⟩
  · obtain rfl : dp = 0 := by omega
    rw [h5, pcs_none0] at HP
    obtain ⟨ps, hps⟩ : ∃ ps, ps = b.map (fun y => Pc.mk 0 0 y) := ⟨_, rfl⟩
    rw [← hps] at HP
    have hpl : ps.length = b.length := by rw [hps, List.length_map]
    have HPS : Aside (ps = b.map (fun y => Pc.mk 0 0 y)) := hps
    simp only at HP
    rw [hpl] at HP
    clear h5 hwd hdp h1 h2 h3 hps
    go_enter Try.func10, Try.ntmps10
    go_upto_region 4 with (first
      | (at_builtin; refine wpList_append_at _ rfl _ _ _ _ rfl _ _ rfl rfl _ _ hr1 ?_)
      | (go_at_call 17; refine HP.out.mono ?_; rintro e w2 ⟨v2, rfl, ho2, hb2⟩; have HO2 : Aside (w2.ownsRow W1.heap.size 45 3 v2 b.length (pcsCells ps) ∧ Below W.heap.size W w2) := ⟨ho2, HB1.out.trans (hb2.mono HB1.out.size)⟩; obtain ⟨vo, vc, rfl, -, -, hvn⟩ := own_shape ho2; clear ho2 hb2)
      | (go_at_call 20; refine (HN _ _).out.mono ?_; rintro e w3 ⟨rfl, rfl⟩))
    have hsp : SrcP w2 (.slice vo b.length vc) ps := SrcP.of_own HO2.out.1 hpl.symm
    have H2 : Aside (SrcP w2 (.slice vo b.length vc) ps ∧ Src w2 (.slice ao b.length c) b ∧ Below W.heap.size W w2) := ⟨hsp, HS.out.below HO2.out.2, HO2.out.2⟩
    have HV : Aside ((0 < b.length → ∃ a, vo = some a) ∧ (0 < b.length → ∃ a, ao = some a)) := by
      refine ⟨fun h => ?_, fun h => ?_⟩
      · obtain ⟨vo', vc', e, h'⟩ := hsp.shape
        injection e with e1 _ _
        rw [e1]
        exact h' (by omega)
      · obtain ⟨vo', vc', e, h'⟩ := src_shape HS.out
        injection e with e1 _ _
        rw [e1]
        exact h' h
    have x1 : -2000 < n.tmod 2000 := Int.lt_tmod_of_pos n (by decide)
    have x2 : n.tmod 2000 < 2000 := Int.tmod_lt_of_pos n (by decide)
    have z1 : IntKind.i64.wrap (n.tmod 2000 + 2000) = n.tmod 2000 + 2000 := by rw [IntKind.wrap_i64]; omega
    obtain ⟨N, hN⟩ : ∃ N : Nat, n.tmod 2000 % 2000 = (N : Int) := ⟨(n.tmod 2000 % 2000).toNat, by omega⟩
    have hN2 : N < 2000 := by omega
    have HNE : Aside ((n.tmod 2000 + 2000) % 2000 = (N : Int)) := by show (n.tmod 2000 + 2000) % 2000 = (N : Int); omega
    have HMK := fun w => makeB_any w N (by omega)
    clear hsp hvn HO2 HP hr1
    go_upto_region 5 with fail
    go_loopg [9] b.length (fun kx s9 wr => ∃ (i : Nat), s9 = .int .i64 i ∧ i ≤ b.length ∧ b.length - i ≤ kx ∧ Aside (Drew w2 wr))
    case atStart => exact ⟨0, rfl, Nat.zero_le _, Nat.le_refl _, Drew.refl _⟩
    case round =>
      obtain ⟨i, rfl, hi, hkx, HR⟩ := hrel
      by_cases hlt : i < b.length
      · have hltz : (i : Int) < (b.length : Int) := by omega
        have i0 : (0 : Int) ≤ (i : Int) := by omega
        have wi : IntKind.i64.wrap ((i : Int) + 1) = (i : Int) + 1 := by rw [IntKind.wrap_i64]; omega
        obtain ⟨a, rfl⟩ := HV.out.1 (by omega)
        obtain ⟨q, rfl⟩ := HV.out.2 (by omega)
        obtain ⟨k1, k2, k3⟩ := srcp_cells (H2.out.1.drew HR.out) i (by omega)
        have hpi : ps[i]'(by omega) = Pc.mk 0 0 b[i] := by simp only [HPS.out, List.getElem_map]
        rw [hpi] at k1 k3
        simp only at k1 k3
        have kb := src_cell (H2.out.2.1.drew HR.out) i hlt
        generalize b[i] = x at *
        have C1 : ∀ m, (wr.drewN m).cell? (a.add (i * 3)) = some (.int .i64 0) := fun m => k1
        have C3 : ∀ m, (wr.drewN m).cell? ⟨(a.add (i * 3)).block, (a.add (i * 3)).off + 2, none⟩ = some (.int .u8 (x.toNat : Int)) := fun m => k3
        have CB : ∀ m, (wr.drewN m).cell? (q.add i) = some (.int .u8 (x.toNat : Int)) := fun m => kb
        have b3 : (((x.toNat : Nat) : Int) != (x.toNat : Int)) = false := by simp
        clear k1 k2 k3 kb hpi HMK x1 x2 z1 hN
        go_wp2_with fail
        go_quiet (fail)
        go_wp2_with fail
        go_roundg (b.length - (i + 1))
        case measure => omega
        case rel => exact ⟨i + 1, by go_num, by omega, Nat.le_refl _, HR.out.trans (Drew.drewN _ _)⟩
      · obtain rfl : i = b.length := by omega
        have hltz : ¬ (b.length : Int) < (b.length : Int) := by omega
        have hbW : Below W.heap.size W wr := H2.out.2.2.trans (HR.out.below _)
        obtain ⟨W3, g, hr3, ho3, hb3⟩ := HMK wr
        have HBW : Aside (Below W.heap.size W wr) := hbW
        have HB3 : Aside (W3.ownsRow wr.heap.size 5 1 (.slice (some ⟨g, 0, none⟩) N N) N (bVs (List.replicate N 0)) ∧ Below wr.heap.size wr W3) := ⟨ho3, hb3⟩
        clear HMK HR H2 ho3 hb3 hbW
        go_upto_region 11 with fail
        rw [HNE.out]
        clear HNE hN x1 x2 z1 HPS HV
        have hb0 : Below W.heap.size W W3 := HBW.out.trans (HB3.out.2.mono HBW.out.size)
        have H3 : Aside (W3.ownsRow W.heap.size 5 1 (.slice (some ⟨g, 0, none⟩) N N) N (bVs (List.replicate 0 y ++ List.replicate (N - 0) 0)) ∧ Below W.heap.size W W3) := ⟨ownsRow_mono HB3.out.1 HBW.out.size, hb0⟩
        clear HB3 HBW hb0
        go_upto_region 12 with fail
        go_loopg [11] N (fun kx s11 wr => ∃ (i : Nat), s11 = .int .i64 i ∧ i ≤ N ∧ N - i ≤ kx ∧ Aside (wr.ownsRow W.heap.size 5 1 (.slice (some ⟨g, 0, none⟩) N N) N (bVs (List.replicate i y ++ List.replicate (N - i) 0)) ∧ Below W.heap.size W wr))
        case atStart => exact ⟨0, rfl, Nat.zero_le _, Nat.le_refl _, H3.out⟩
        case round =>
          clear H3
          obtain ⟨i, rfl, hi2, hkx2, HR⟩ := hrel
          by_cases hlt : i < N
          · have hltz2 : (i : Int) < (N : Int) := by omega
            have i0 : (0 : Int) ≤ (i : Int) := by omega
            have wi : IntKind.i64.wrap ((i : Int) + 1) = (i : Int) + 1 := by rw [IntKind.wrap_i64]; omega
            obtain ⟨r1, r2⟩ := HR.out
            have hset := own_set r1 i y
            rw [fill_set N i y hlt] at hset
            have hcell := src_cell (Src.of_own r1 (by simp; omega)) i (by simp; omega)
            rw [Lib.addr_add, Nat.zero_add] at hcell
            have hfr := r1.frozenAt (j := i)
            have HE : Aside ((wr.setCell ⟨g, i, none⟩ (.int .u8 (y.toNat : Int))).ownsRow W.heap.size 5 1 (.slice (some ⟨g, 0, none⟩) N N) N (bVs (List.replicate (i + 1) y ++ List.replicate (N - (i + 1)) 0)) ∧ Below W.heap.size W (wr.setCell ⟨g, i, none⟩ (.int .u8 (y.toNat : Int)))) := by
              refine ⟨hset, r2.trans ((Only.setCell (S := fun k => k = g) rfl _ _).below r2.size (fun k hk => ?_))⟩
              have := (r1.lt g rfl).1
              omega
            clear r1 r2 hset HR
            go_wp2_with fail
            go_roundg (N - (i + 1))
            case measure => omega
            case rel => exact ⟨i + 1, by go_num, by omega, Nat.le_refl _, HE.out⟩
          · obtain rfl : i = N := by omega
            have hltz2 : ¬ (i : Int) < (i : Int) := by omega
            have hrun : wr.ownsRow W.heap.size 5 1 (.slice (some ⟨g, 0, none⟩) i i) i (bVs (List.replicate i y)) ∧ Below W.heap.size W wr := by
              have := HR.out
              rw [Nat.sub_self, List.replicate_zero, List.append_nil] at this
              exact this
            have hll : (List.replicate i y).length = i := by simp
            have hPP := pieces_any wr (some ⟨g, 0, none⟩) i (List.replicate i y) 32768 1 (by rw [hll]; exact Src.of_own hrun.1 hll.symm) (by omega)
            rw [hll] at hPP
            have hpr : piecesR (List.replicate i y) 32768 1 = (pcs (List.replicate i y) 32768 1 0, 0) := by
              unfold piecesR
              rw [if_neg (by decide), if_neg (by omega)]
              rfl
            rw [hpr] at hPP
            simp only at hPP
            have hdist := pcs_rep_dist i y i 0 (by omega)
            have hokw := pcs_okW (List.replicate i y) 32768 1 i 0 (by omega)
            have hmlen := rep_len i y
            have HPP := Lib.hid hPP
            have HBQ : Aside (Below W.heap.size W wr) := hrun.2
            generalize pcs (List.replicate i y) 32768 1 0 = ms at *
            have HD : Aside (∀ p ∈ ms, (p.len = 0 ∨ p.dist = 1) ∧ (p.len = 0 ∨ 3 ≤ p.len)) := fun p hp => ⟨hdist p hp, (hokw p hp).imp (fun h => h.1) (fun h => h.1)⟩
            have hne : ((b.length : Int) != (b.length : Int)) = false := by simp
            clear hPP hpr hll hrun HR hdist hokw
            go_upto_region 18 with (first
              | (go_at_call 17; refine HPP.out.mono ?_; rintro e w5 ⟨v5, rfl, ho5, hb5⟩; have HO5 : Aside (SrcP w5 v5 ms ∧ Below W.heap.size W w5) := ⟨SrcP.of_own ho5 rfl, HBQ.out.trans (hb5.mono HBQ.out.size)⟩; obtain ⟨mo, mc, rfl, hmn⟩ := (SrcP.of_own ho5 rfl).shape; clear ho5 hb5)
              | (go_at_call 20; refine (HN _ _).out.mono ?_; rintro e w6 ⟨rfl, rfl⟩))
            have HMN : Aside (0 < ms.length → ∃ a, mo = some a) := hmn
            clear hmn
            go_upto_region 19 with fail
            go_loopg [14] ms.length (fun kx s14 wr => ∃ (k : Nat), s14 = .int .i64 k ∧ k ≤ ms.length ∧ ms.length - k ≤ kx ∧ w5 = wr)
            case atStart => exact ⟨0, rfl, Nat.zero_le _, Nat.le_refl _, rfl⟩
            case round =>
              obtain ⟨k, rfl, hk, hkx3, rfl⟩ := hrel
              by_cases hkl : k < ms.length
              · have hkz : (k : Int) < (ms.length : Int) := by omega
                have k0 : (0 : Int) ≤ (k : Int) := by omega
                have wk : IntKind.i64.wrap ((k : Int) + 1) = (k : Int) + 1 := by rw [IntKind.wrap_i64]; omega
                obtain ⟨a, rfl⟩ := HMN.out (by omega)
                obtain ⟨e1, e2, e3⟩ := srcp_cells HO5.out.1 k hkl
                have hd := HD.out ms[k] (List.getElem_mem hkl)
                generalize ms[k] = p at *
                obtain ⟨l, d, z⟩ := p
                simp only at e1 e2 e3 hd
                by_cases hk0 : k = 0
                · have hkk : ¬ (k : Int) > 0 := by omega
                  go_wp2_with fail
                  go_roundg (ms.length - (k + 1))
                  case measure => omega
                  case rel => exact ⟨k + 1, by go_num, by omega, Nat.le_refl _, rfl⟩
                · have hkk : (k : Int) > 0 := by omega
                  by_cases hl0 : l = 0
                  · subst hl0
                    go_wp2_with fail
                    go_roundg (ms.length - (k + 1))
                    case measure => omega
                    case rel => exact ⟨k + 1, by go_num, by omega, Nat.le_refl _, rfl⟩
                  · have hlz : l > 0 := by have := hd.2.resolve_left hl0; omega
                    have hd1 : d = 1 := hd.1.resolve_left hl0
                    subst hd1
                    clear hd
                    go_wp2_with fail
                    go_roundg (ms.length - (k + 1))
                    case measure => omega
                    case rel => exact ⟨k + 1, by go_num, by omega, Nat.le_refl _, rfl⟩
              · obtain rfl : k = ms.length := by omega
                have hkz : ¬ (ms.length : Int) < (ms.length : Int) := by omega
                have t1 : Int.tdiv (i : Int) 258 = ((i / 258 : Nat) : Int) := (Int.ofNat_tdiv i 258).symm
                have t2 : IntKind.i64.wrap ((i / 258 : Nat) : Int) = ((i / 258 : Nat) : Int) := by rw [IntKind.wrap_i64]; omega
                have t3 : IntKind.i64.wrap (2 + ((i / 258 : Nat) : Int)) = 2 + ((i / 258 : Nat) : Int) := by rw [IntKind.wrap_i64]; omega
                have t4 : IntKind.i64.wrap (2 + ((i / 258 : Nat) : Int) + 2) = 2 + ((i / 258 : Nat) : Int) + 2 := by rw [IntKind.wrap_i64]; omega
                have t5 : (ms.length : Int) ≤ 2 + ((i / 258 : Nat) : Int) + 2 := by omega
                generalize i / 258 = qq at *
                by_cases h4 : i < 4
                · have h4z : (i : Int) < 4 := by omega
                  go_wp2_with (go_at_call 22; refine (HK _).out.mono ?_; rintro e w7 ⟨rfl, hb7⟩)
                  go_ret
                  exact ⟨rfl, HO5.out.2.trans (hb7.mono HO5.out.2.size)⟩
                · have h4z : ¬ (i : Int) < 4 := by omega
                  go_wp2_with (go_at_call 22; refine (HK _).out.mono ?_; rintro e w7 ⟨rfl, hb7⟩)
                  go_ret
                  exact ⟨rfl, HO5.out.2.trans (hb7.mono HO5.out.2.size)⟩

set_option maxRecDepth 100000 in
theorem liftedLzNone (os : Os) (started : os.Started) (H : Type) (enc : TypeId × Value → H) :
    ReturnsInHanded {} Try.checked os 10 .any (Rows.lzNoneSpec.pre6 enc Try.prog Try.f10 [] false) (Rows.lzNoneSpec.post enc Try.prog Try.f10 false true false false) := by
  have wit : ∃ (w : World) (tape : Tape) (i : Input), w.os = os ∧ (w.forCall tape i).Shaped Try.checked.prog ∧ i.vars = [] ∧ Input.okWide Try.checked.prog (w.forCall tape i) .any w.heap.size 10 i ∧
      Rows.lzNoneSpec.pre6 enc Try.checked.prog Try.f10 [] false (w.forCall tape i).memory i.args ∧ ({} : Assume).holds Try.checked.prog (lone (Frame.enter Try.checked.prog 10 i.args .normal) [] (w.forCall tape i)) := by
    obtain ⟨w, tape, i, h1, h2, h3, h4, ⟨⟨h5, -⟩, h6⟩, h7⟩ := ChangeSpec.witness_shaped (enc := enc) (C := Try.checked) (os := os) (f := 10) (fn := Try.f10) (s := Rows.lzNoneSpec) (conds := []) (apart := false) (X := fun _ _ => True) false (World.laidAll Try.prog os []) #[.slice none 0 0, .int .u8 0, .int .i64 0] 8 (World.laidAll_os _ _ _)
      (World.shaped_of_ZipB (by kernel_rfl) (by kernel_rfl)) (by kernel_rfl) (by kernel_rfl) (by kernel_rfl) trivial
    exact ⟨w, tape, i, h1, h2, h3, h4, ⟨h5, h6⟩, h7⟩
  refine returnsInHanded_of_change_sized (C := Try.checked) Cls.own started (by kernel_rfl) Try.func10 wit ?_
  intro W base args ds gs before hval0 hW _ hsz _
  have hval : ∀ (j : Nat) t v, Try.f10.params[j]? = some t → args[j]? = some v → Value.okWide Try.prog W .any base t v := hval0
  have hW' := hW
  obtain ⟨p, q, hA0, hV, rfl, _, _⟩ := hW
  have hA : DataW.TrodAll enc Try.prog W 0 (fun _ => true) true Try.f10.params.toList args.toList ds p := hA0
  obtain ⟨rfl, rfl⟩ := trodVars_none hV
  have hlt : ∀ x ∈ p, x.block < W.heap.size := fun x hx => hW'.lt x (by simpa using hx)
  have fin : ∀ W', Below W.heap.size W W' → (Rows.lzNoneSpec.fn H (ds ++ [])).results = [.lit (.bool true)] → (Rows.lzNoneSpec.fn H (ds ++ [])).args = ds → (Rows.lzNoneSpec.fn H (ds ++ [])).vars = [] → Rows.lzNoneSpec.post enc Try.prog Try.f10 false true false false W args (.bool true) W' := by
    intro W' hb h1 h2 h3
    refine ⟨ds, [], _, [], p, [], hW', ?_, ?_, ?_, hb.frame _, fun h => by cases h⟩
    · rw [h1]; exact trodAll_mk1 (shut_bool Try.underlying4 _)
    · rw [h2]; exact Cls.trodAll_below Cls.laidOut hb _ _ _ _ hA (Cls.readable _ (by kernel_rfl)) hlt
    · rw [h3]; rfl
  rw [Try.params10] at hA hval
  obtain ⟨v0, v1, v2, d0, d1, d2, p0, p1, p2, rfl, rfl, rfl, ⟨m0, h0⟩, h1, h2⟩ := trodAll_three hA
  obtain ⟨a0, l0, c0, rfl⟩ := okWide_slice Try.underlying32 (hval 0 _ v0 rfl rfl)
  obtain ⟨ab, bs, cb, e0, hs, -, hw0⟩ := bytes_of_trod h0
  have hl := hw0 _ (reach_of hsz (j := 0) rfl rfl)
  obtain ⟨z, rfl, rfl, rfl, hz⟩ := open_int Try.underlying5 (hval 1 5 v1 rfl rfl) h1
  obtain ⟨x, rfl, rfl, rfl, _⟩ := open_int Try.underlying3 (hval 2 3 v2 rfl rfl) h2
  simp only [Value.cells, List.cons.injEq, and_true] at e0
  rw [e0] at fin ⊢
  rw [← byteOf_val z hz] at fin ⊢
  refine (lawNone W ab cb bs (byteOf z) x hs (by omega)).mono fun e W' ⟨he, hb⟩ => ?_
  subst he
  exact ⟨_, rfl, fin W' hb rfl rfl rfl⟩

theorem saidLzNone : Rows.LzNoneSaid :=
  OpenClaim.holds_of_wide 10 Try.f10 rfl rfl rfl rfl rfl rfl rfl ⟨rfl, rfl, rfl, rfl, rfl⟩ rfl rfl rfl rfl rfl (by kernel_rfl) Try.func10 (by kernel_rfl)
    (of_decide_eq_true (by kernel_rfl)) (by unfold Func.isWrapper; first | (rw [if_pos (by decide +kernel)]; kernel_rfl) | (rw [if_neg (by decide +kernel)]; exact ⟨rfl, rfl⟩))
    (fun os started H enc _ => liftedLzNone os started H enc)
end Go.Proofs.Ytenkbmkecgnfmaa.Lz
namespace Go.Proofs.Ytenkbmkecgnfmaa
open Go

theorem lzNone_holds : Rows.LzNoneSaid := Lz.saidLzNone
end Go.Proofs.Ytenkbmkecgnfmaa
