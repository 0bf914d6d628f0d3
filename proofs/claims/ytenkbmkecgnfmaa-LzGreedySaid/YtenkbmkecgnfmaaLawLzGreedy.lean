/- The statement LzGreedy: each piece is the most that is alike. -/
import Derived.Test.YtenkbmkecgnfmaaLzGr
import Derived.Test.YtenkbmkecgnfmaaLzX
import Derived.Test.YtenkbmkecgnfmaaLzBk
import Derived.Test.YtenkbmkecgnfmaaLzZ
import Derived.Test.YtenkbmkecgnfmaaLzU
import Derived.Test.YtenkbmkecgnfmaaLzQ
namespace Go.Proofs.Ytenkbmkecgnfmaa.Lz
open Go.RowKit Go.Shelf Go.Lib Go.Proofs.Ytenkbmkecgnfmaa.Mem Go.Proofs.Ytenkbmkecgnfmaa.Huf
open Go.ChangeShapes Go.WideShapes Go.ChangeAt

set_option maxHeartbeats 16000000 in
set_option maxRecDepth 100000 in
theorem lawGreedy (W : World) (ao : Option Addr) (c : Nat) (b : List UInt8) (window : Int) (hs : Src W (.slice ao b.length c) b) (hc : b.length ≤ c) :
    Calls Try.prog 8 #[.slice ao b.length c, .int .i64 window] W fun e w' => e = .returned (.bool true) ∧ Below W.heap.size W w' := by
  have HN := fun n w => Lib.hid (num_any n w)
  have HK := fun w => Lib.hid (knows_any w)
  have mixed : Try.prog.follows .mixedOrders = true := by kernel_rfl
  have main : ∃ (ao' : Option Addr) (b' : List UInt8), Src W (.slice ao' b'.length c) b' ∧ b'.length ≤ 400 ∧ (b.length > 400 ∧ b'.length = 400 ∧ (∃ a, ao = some a ∧ ao' = some a) ∨ ¬ b.length > 400 ∧ ao' = ao ∧ b' = b) := by
    by_cases hb : b.length > 400
    · have e : (b.take 400).length = 400 := by rw [List.length_take]; omega
      obtain ⟨a, rfl⟩ : ∃ a, ao = some a := by
        obtain ⟨ao', c', e, h⟩ := src_shape hs
        cases e
        exact h (by omega)
      exact ⟨some a, b.take 400, by rw [e]; exact src_take hs (by omega), by omega, .inl ⟨hb, e, a, rfl, rfl⟩⟩
    · exact ⟨ao, b, hs, by omega, .inr ⟨hb, rfl, rfl⟩⟩
  obtain ⟨ao', b', hs', hl', hcase⟩ := main
  have HX : Aside (Src W (.slice ao' b'.length c) b') := hs'
  have HA : Aside (0 < b'.length → ∃ a, ao' = some a) := by
    obtain ⟨ao2, c', e, h⟩ := src_shape hs'
    cases e
    exact h
  obtain ⟨v1, W1, hr1, ho1, hb1⟩ := fresh_any W (.slice ao' b'.length c) 32 b' hs' (by omega)
  obtain ⟨a1, c1, rfl, hcap1, -, -⟩ := own_shape ho1
  have HP := Lib.hid (pieces_any W1 a1 c1 b' window 4096 (Src.of_own ho1 rfl) hcap1)
  have HB1 : Aside (Below W.heap.size W W1) := hb1
  clear ho1 hb1 hs' hcap1 hs
  have HC : Aside (piecesR b' window 4096 = piecesR b' window 4096) := rfl
  have hcs := piecesR_cases b' window 4096
  generalize hpr : piecesR b' window 4096 = r at hcs HP
  have HPR : Aside (piecesR b' window 4096 = r) := hpr
  clear hpr HC
  go_enter Try.func8, Try.ntmps8
  rcases hcase with ⟨hb, hb', a, rfl, hao⟩ | ⟨hb, rfl, rfl⟩
  case' inl =>
    have hbz : (b.length : Int) > 400 := by omega
    have hcz : (400 : Int) ≤ (c : Int) := by omega
    have hc4 : 400 ≤ c := by omega
    go_upto_region 3 with fail
    rw [show Value.slice (some a) 400 c = Value.slice ao' b'.length c by rw [hb', hao]]
    clear hbz hcz hc4 hb hb' hao hc
    generalize Value.slice (some a) b.length c = x1
    generalize (b.length : Int) = x2
    generalize Value.bool true = x3
  case' inr =>
    have hbz : ¬ (b'.length : Int) > 400 := by omega
    go_upto_region 3 with fail
    clear hbz hb hc
  all_goals
    rcases hcs with ⟨h1, h2, -⟩ | ⟨wd, dp, rfl, hdp, h1, h2, h3, h4, h5⟩
    · obtain ⟨xs, er⟩ := r
      simp only at h1 h2 HP
      subst h2
      have he : (er != 0) = true := by rw [bne_iff_ne]; exact h1
      clear HPR
      go_wp2_with (first
        | (at_builtin; refine wpList_append_at _ rfl _ _ _ _ rfl _ _ rfl rfl _ _ hr1 ?_)
        | (go_at_call 17; refine HP.out.mono ?_; rintro e w2 ⟨v2, rfl, ho2, hb2⟩; obtain ⟨a2, c2, rfl, -, -, -⟩ := own_shape ho2; have HB2 : Aside (Below W.heap.size W w2) := HB1.out.trans (hb2.mono HB1.out.size); clear ho2 hb2)
        | (go_at_call 20; refine (HN _ _).out.mono ?_; rintro e w3 ⟨rfl, rfl⟩)
        | (go_at_call 22; refine (HK _).out.mono ?_; rintro e w4 ⟨rfl, hb4⟩))
      go_ret
      exact ⟨rfl, HB2.out.trans (hb4.mono HB2.out.size)⟩
    · subst h5
      obtain rfl : dp = 4096 := by omega
      clear hdp HPR
      have hlen := pcs_len b' wd 4096 b'.length 0 (by omega)
      have HST : Aside (∀ j, j < b'.length → pcs b' wd 4096 j = pcAt b' wd 4096 j :: pcs b' wd 4096 (j + stepN b' wd 4096 j)) := fun j h => pcs_step b' wd 4096 j h
      have HDN : Aside (∀ j, b'.length ≤ j → pcs b' wd 4096 j = []) := fun j h => pcs_done b' wd 4096 j h
      obtain ⟨ps, hps⟩ : ∃ ps, ps = pcs b' wd 4096 0 := ⟨_, rfl⟩
      rw [← hps] at HP hlen
      have HPS : Aside (ps = pcs b' wd 4096 0) := hps
      clear hps
      simp only at HP
      go_upto_region 6 with (first
        | (at_builtin; refine wpList_append_at _ rfl _ _ _ _ rfl _ _ rfl rfl _ _ hr1 ?_)
        | (go_at_call 17; refine HP.out.mono ?_; rintro e w2 ⟨v2, rfl, ho2, hb2⟩; have HO2 : Aside (w2.ownsRow W1.heap.size 45 3 v2 ps.length (pcsCells ps) ∧ Below W.heap.size W w2) := ⟨ho2, HB1.out.trans (hb2.mono HB1.out.size)⟩; clear ho2 hb2)
        | (go_at_call 20; refine (HN _ _).out.mono ?_; rintro e w3 ⟨rfl, rfl⟩)
        | (go_at_call 22; refine (HK _).out.mono ?_; rintro e w4 ⟨rfl, hb4⟩))
      have hbW4 : Below W.heap.size W w4 := HO2.out.2.trans (hb4.mono HO2.out.2.size)
      have hsp : SrcP w4 v2 ps := SrcP.of_own (own_below HO2.out.1 hb4) rfl
      obtain ⟨vo, vc, rfl, hvo⟩ := hsp.shape
      have H4 : Aside (Below W.heap.size W w4 ∧ SrcP w4 (.slice vo ps.length vc) ps) := ⟨hbW4, hsp⟩
      have HV : Aside (0 < ps.length → ∃ a, vo = some a) := hvo
      have HX4 : Aside (Src w4 (.slice ao' b'.length c) b') := HX.out.below hbW4
      clear hbW4 hsp hvo hb4
      go_upto_region 8 with fail
      go_loopg [7, 8] ps.length (fun kx s7 s8 wr => ∃ (i j : Nat), s7 = .int .i64 j ∧ s8 = .int .i64 i ∧ i ≤ ps.length ∧ ps.length - i ≤ kx ∧ j ≤ b'.length ∧ Aside (ps.drop i = pcs b' wd 4096 j ∧ Drew w4 wr))
      case atStart => exact ⟨0, 0, rfl, rfl, Nat.zero_le _, Nat.le_refl _, Nat.zero_le _, HPS.out, Drew.refl _⟩
      case round =>
        obtain ⟨i, j, rfl, rfl, hi, hkx, hj, HR⟩ := hrel
        by_cases hlt : i < ps.length
        · have hltz : (i : Int) < (ps.length : Int) := by omega
          have hjl : j < b'.length := by
            rcases Nat.lt_or_ge j b'.length with q | q
            · exact q
            · have e := HR.out.1
              rw [HDN.out j q, List.drop_eq_getElem_cons hlt] at e
              cases e
          have hi0 : (0 : Int) ≤ (i : Int) := by omega
          have wi : IntKind.i64.wrap ((i : Int) + 1) = (i : Int) + 1 := by rw [IntKind.wrap_i64]; omega
          obtain ⟨p, rfl⟩ := HV.out (by omega)
          obtain ⟨a, rfl⟩ := HA.out (by omega)
          obtain ⟨hpi, hnx⟩ : ps[i] = pcAt b' wd 4096 j ∧ ps.drop (i + 1) = pcs b' wd 4096 (j + stepN b' wd 4096 j) := by
            have e := HR.out.1
            rw [HST.out j hjl, List.drop_eq_getElem_cons hlt] at e
            injection e with e1 e2
            exact ⟨e1, e2⟩
          have hcut := pcAt_cut b' j wd 4096 (by omega)
          have hst := pcAt_step b' wd 4096 j
          have hsl := stepN_le b' wd 4096 j hjl
          have hcl := (srcp_cells (H4.out.2.drew HR.out.2) i hlt).1
          rw [hpi, hcut] at hcl
          rw [hcut] at hst
          have HNX : Aside (ps.drop (i + 1) = pcs b' wd 4096 (j + stepN b' wd 4096 j)) := hnx
          have HRD : Aside (Drew w4 wr) := HR.out.2
          have HCL : Aside (wr.cell? (p.add (i * 3)) = some (.int .i64 ((cut3 (mxN b' j (min wd j)) : Nat) : Int))) := hcl
          obtain ⟨t, ht⟩ : ∃ t, t = min wd j := ⟨_, rfl⟩
          rw [← ht] at hst HCL
          generalize stepN b' wd 4096 j = st at *
          have HSTP : Aside (max ((cut3 (mxN b' j t) : Nat) : Int) 1 = (st : Int) ∧ j + st ≤ b'.length) := ⟨hst, hsl.1⟩
          clear hpi hnx hcut hst hsl hcl HR
          go_upto_region 12 with fail
          have HWR : Aside (Src wr (.slice (some a) b'.length c) b') := HX4.out.drew HRD.out
          obtain ⟨w5, hw5⟩ : ∃ w, w = wr := ⟨_, rfl⟩
          rw [← hw5] at HRD HCL HWR ⊢
          clear hw5
          go_loopg [9, 10] (t + 1) (fun kx s9 s10 wr => ∃ (d : Nat), s9 = .int .i64 (mxN b' j d : Nat) ∧ s10 = .int .i64 ((d : Int) + 1) ∧ d ≤ t ∧ t - d ≤ kx ∧ Aside (Drew w5 wr))
          case atStart => exact ⟨0, rfl, rfl, Nat.zero_le _, by omega, Drew.refl _⟩
          case round =>
            obtain ⟨d, rfl, rfl, hd, hkx', HQ⟩ := hrel
            by_cases hdt : d < t
            · have hd1 : (d : Int) + 1 ≤ (wd : Int) := by omega
              have hd2 : (d : Int) + 1 ≤ (j : Int) := by omega
              have wd1 : IntKind.i64.wrap ((d : Int) + 1 + 1) = (d : Int) + 1 + 1 := by rw [IntKind.wrap_i64]; omega
              obtain ⟨k, hk⟩ : ∃ k, k = j - (d + 1) := ⟨_, rfl⟩
              have wk : IntKind.i64.wrap ((j : Int) - ((d : Int) + 1)) = (k : Int) := by rw [IntKind.wrap_i64]; omega
              have hkj : k < j := by omega
              have hmx := mxN_succ b' j d
              rw [← hk] at hmx
              have HMX : Aside (mxN b' j (d + 1) = max (mxN b' j d) (alikeN b' k j)) := hmx
              generalize mxN b' j d = M at *
              have HQ5 : Aside (Drew w5 wr) := HQ.out
              clear hk hmx HQ
              go_upto_region 15 with fail
              obtain ⟨w6, hw6⟩ : ∃ w, w = wr := ⟨_, rfl⟩
              rw [← hw6] at HQ5 ⊢
              clear hw6
              go_loopg [11] 258 (fun kx s11 wr => ∃ (n : Nat), s11 = .int .i64 n ∧ n ≤ 258 ∧ 258 - n ≤ kx ∧ j + n ≤ b'.length ∧ Aside ((∀ q, q < n → b'[k + q]? = b'[j + q]?) ∧ Drew w6 wr))
              case atStart => exact ⟨0, rfl, by omega, by omega, by omega, fun q hq => by omega, Drew.refl _⟩
              case round =>
                obtain ⟨n, rfl, hn, hkx'', hl, HI⟩ := hrel
                have fin : ∀ w, Drew wr w → (n = 258 ∨ j + n = b'.length ∨ b'[k + n]? ≠ b'[j + n]?) → Aside (mxN b' j (d + 1) = max M n ∧ Drew w5 w) := fun w hd he => ⟨by rw [HMX.out, alike_is b' k j n hkj hn hl HI.out.1 he], HQ5.out.trans (HI.out.2.trans hd)⟩
                have FIN := Lib.hid fin
                clear fin
                have FE : ∀ w, Aside (mxN b' j (d + 1) = max M n ∧ Drew w5 w) → max (M : Int) (n : Int) = (mxN b' j (d + 1) : Nat) := fun w h => by rw [h.out.1]; omega
                have FEH := Lib.hid FE
                clear FE
                by_cases h1 : n = 258
                · have hF := FIN.out (wr.drewN 0) (Drew.drewN _ _) (.inl h1)
                  have hM := FEH.out _ hF
                  subst h1
                  clear HI hF
                  go_wp2_with fail
                  go_quiet (fail)
                  go_wp2_with fail
                  go_roundg (t - (d + 1))
                  case measure => omega
                  case rel => exact ⟨d + 1, by rw [← hM]; rfl, by go_num, by omega, Nat.le_refl _, (FIN.out (wr.drewN nq) (Drew.drewN _ _) (by simp)).out.2⟩
                · have h1z : (n : Int) < 258 := by omega
                  by_cases h2 : j + n = b'.length
                  · have w1 : IntKind.i64.wrap ((j : Int) + (n : Int)) = (b'.length : Int) := by rw [IntKind.wrap_i64]; omega
                    have h2z : ¬ (b'.length : Int) < (b'.length : Int) := by omega
                    have hM := FEH.out _ (FIN.out (wr.drewN 0) (Drew.drewN _ _) (.inr (.inl h2)))
                    clear HI
                    go_wp2_with fail
                    go_quiet (fail)
                    go_wp2_with fail
                    go_roundg (t - (d + 1))
                    case measure => omega
                    case rel => exact ⟨d + 1, by rw [← hM], by go_num, by omega, Nat.le_refl _, (FIN.out (wr.drewN nq) (Drew.drewN _ _) (.inr (.inl h2))).out.2⟩
                  · obtain ⟨p1, hp⟩ : ∃ p, p = k + n := ⟨_, rfl⟩
                    obtain ⟨q1, hq⟩ : ∃ q, q = j + n := ⟨_, rfl⟩
                    have hpl : p1 < b'.length := by omega
                    have hql : q1 < b'.length := by omega
                    have w1 : IntKind.i64.wrap ((j : Int) + (n : Int)) = (q1 : Int) := by rw [IntKind.wrap_i64]; omega
                    have w2' : IntKind.i64.wrap ((k : Int) + (n : Int)) = (p1 : Int) := by rw [IntKind.wrap_i64]; omega
                    have w3' : IntKind.i64.wrap ((n : Int) + 1) = (n : Int) + 1 := by rw [IntKind.wrap_i64]; omega
                    have p0 : (0 : Int) ≤ (p1 : Int) := by omega
                    have q0 : (0 : Int) ≤ (q1 : Int) := by omega
                    have p1z : (p1 : Int) < (b'.length : Int) := by omega
                    have q1z : (q1 : Int) < (b'.length : Int) := by omega
                    have hS := HWR.out.drew (HQ5.out.trans HI.out.2)
                    have c1 : ∀ m, (wr.drewN m).cell? (a.add p1) = some (.int .u8 ((b'[p1]).toNat : Int)) := fun m => src_cell hS p1 hpl
                    have c2 : ∀ m, (wr.drewN m).cell? (a.add q1) = some (.int .u8 ((b'[q1]).toNat : Int)) := fun m => src_cell hS q1 hql
                    have HN : Aside (b'[p1] = b'[q1] → ∀ q, q < n + 1 → b'[k + q]? = b'[j + q]?) := fun h q hq' => by
                      rcases Nat.lt_or_ge q n with r | r
                      · exact HI.out.1 q r
                      · obtain rfl : q = n := by omega
                        rw [← hp, ← hq, List.getElem?_eq_getElem hpl, List.getElem?_eq_getElem hql, h]
                    have HD : Aside (b'[p1] ≠ b'[q1] → b'[k + n]? ≠ b'[j + n]?) := fun h => by
                      rw [← hp, ← hq, List.getElem?_eq_getElem hpl, List.getElem?_eq_getElem hql]
                      simpa using h
                    have HRD6 : Aside (Drew w6 wr) := HI.out.2
                    have HQQ : Aside (q1 = j + n) := hq
                    generalize b'[p1] = u at *
                    generalize b'[q1] = v at *
                    clear hS HI hp hq
                    by_cases huv : u = v
                    · subst huv
                      have hB : (((u.toNat : Nat) : Int) == (u.toNat : Int)) = true := by simp
                      have HN2 : Aside _ := HN.out rfl
                      clear HN HD FIN FEH
                      go_wp2_with fail
                      go_quiet (fail)
                      go_wp2_with fail
                      go_roundg (258 - (n + 1))
                      case measure => omega
                      case rel => exact ⟨n + 1, by go_num, by omega, Nat.le_refl _, by have := HQQ.out; omega, HN2.out, HRD6.out.trans (Drew.drewN _ _)⟩
                    · have hz := u8_ne huv
                      have hB : (((u.toNat : Nat) : Int) == (v.toNat : Int)) = false := by rw [beq_eq_false_iff_ne]; exact hz
                      have HD2 : Aside _ := HD.out huv
                      have hM := FEH.out _ (FIN.out (wr.drewN 0) (Drew.drewN _ _) (.inr (.inr HD2.out)))
                      clear HN HD
                      go_wp2_with fail
                      go_quiet (fail)
                      go_wp2_with fail
                      go_roundg (t - (d + 1))
                      case measure => omega
                      case rel => exact ⟨d + 1, by rw [← hM], by go_num, by omega, Nat.le_refl _, (FIN.out (wr.drewN nq) (Drew.drewN _ _) (.inr (.inr HD2.out))).out.2⟩
            · obtain rfl : d = t := by omega
              have HQ5 : Aside (Drew w4 wr) := HRD.out.trans HQ.out
              have hcl : wr.cell? (p.add (i * 3)) = some (.int .i64 ((cut3 (mxN b' j d) : Nat) : Int)) := by
                have := HCL.out
                rw [← HQ.out.cell] at this
                exact this
              have HJ : Aside (j + st ≤ b'.length) := HSTP.out.2
              have hst := HSTP.out.1
              have wst : IntKind.i64.wrap ((j : Int) + (st : Int)) = ((j + st : Nat) : Int) := by
                have := HJ.out
                rw [IntKind.wrap_i64]; omega
              have hstop : ¬ ((d : Int) + 1 ≤ (wd : Int) ∧ (d : Int) + 1 ≤ (j : Int)) := by omega
              generalize mxN b' j d = M at *
              clear HQ HCL HSTP HWR HX4 ht
              have fin9 : ∀ w, Aside (Drew w5 w) → True := fun _ _ => trivial
              clear fin9
              by_cases hM : M < 3
              · have hMz : (M : Int) < 3 := by omega
                have hc0 : cut3 M = 0 := if_pos hM
                rw [hc0] at hcl hst
                have hst' : max (1 : Int) 0 = (st : Int) := by omega
                have hs1 : (st : Int) = 1 := by omega
                by_cases g1 : (d : Int) + 1 ≤ (wd : Int)
                · have g2 : ¬ (d : Int) + 1 ≤ (j : Int) := fun h => hstop ⟨g1, h⟩
                  go_wp2_with fail
                  go_roundg (ps.length - (i + 1))
                  case measure => omega
                  case rel => exact ⟨i + 1, j + st, by go_num, by go_num, by omega, Nat.le_refl _, HJ.out, HNX.out, HQ5.out⟩
                · go_wp2_with fail
                  go_roundg (ps.length - (i + 1))
                  case measure => omega
                  case rel => exact ⟨i + 1, j + st, by go_num, by go_num, by omega, Nat.le_refl _, HJ.out, HNX.out, HQ5.out⟩
              · have hMz : ¬ (M : Int) < 3 := by omega
                have hc0 : cut3 M = M := if_neg hM
                rw [hc0] at hcl hst
                have hMM : ((M : Int) != (M : Int)) = false := by simp
                have hst' : max (1 : Int) (M : Int) = (st : Int) := by omega
                have hst2 : (M : Int) = (st : Int) := by omega
                have hst3 : max (1 : Int) (st : Int) = (st : Int) := by omega
                clear hst'
                by_cases g1 : (d : Int) + 1 ≤ (wd : Int)
                · have g2 : ¬ (d : Int) + 1 ≤ (j : Int) := fun h => hstop ⟨g1, h⟩
                  go_wp2_with fail
                  go_roundg (ps.length - (i + 1))
                  case measure => omega
                  case rel => exact ⟨i + 1, j + st, by go_num, by go_num, by omega, Nat.le_refl _, HJ.out, HNX.out, HQ5.out⟩
                · go_wp2_with fail
                  go_roundg (ps.length - (i + 1))
                  case measure => omega
                  case rel => exact ⟨i + 1, j + st, by go_num, by go_num, by omega, Nat.le_refl _, HJ.out, HNX.out, HQ5.out⟩
        · obtain rfl : i = ps.length := by omega
          have hltz : ¬ (ps.length : Int) < (ps.length : Int) := by omega
          have hjl : j = b'.length := by
            rcases Nat.lt_or_ge j b'.length with q | q
            · have e := HR.out.1
              rw [HST.out j q, List.drop_length] at e
              cases e
            · omega
          subst hjl
          have heq : ((b'.length : Int) == (b'.length : Int)) = true := by simp
          go_wp2_with fail
          go_ret
          exact ⟨rfl, H4.out.1.trans (HR.out.2.below _)⟩

set_option maxRecDepth 100000 in
theorem liftedLzGreedy (os : Os) (started : os.Started) (H : Type) (enc : TypeId × Value → H) :
    ReturnsInHanded {} Try.checked os 8 .any (Rows.lzGreedySpec.pre6 enc Try.prog Try.f8 [] false) (Rows.lzGreedySpec.post enc Try.prog Try.f8 false true false false) := by
  have wit : ∃ (w : World) (tape : Tape) (i : Input), w.os = os ∧ (w.forCall tape i).Shaped Try.checked.prog ∧ i.vars = [] ∧ Input.okWide Try.checked.prog (w.forCall tape i) .any w.heap.size 8 i ∧
      Rows.lzGreedySpec.pre6 enc Try.checked.prog Try.f8 [] false (w.forCall tape i).memory i.args ∧ ({} : Assume).holds Try.checked.prog (lone (Frame.enter Try.checked.prog 8 i.args .normal) [] (w.forCall tape i)) := by
    obtain ⟨w, tape, i, h1, h2, h3, h4, ⟨⟨h5, -⟩, h6⟩, h7⟩ := ChangeSpec.witness_shaped (enc := enc) (C := Try.checked) (os := os) (f := 8) (fn := Try.f8) (s := Rows.lzGreedySpec) (conds := []) (apart := false) (X := fun _ _ => True) false (World.laidAll Try.prog os []) #[.slice none 0 0, .int .i64 0] 8 (World.laidAll_os _ _ _)
      (World.shaped_of_ZipB (by kernel_rfl) (by kernel_rfl)) (by kernel_rfl) (by kernel_rfl) (by kernel_rfl) trivial
    exact ⟨w, tape, i, h1, h2, h3, h4, ⟨h5, h6⟩, h7⟩
  refine returnsInHanded_of_change_sized (C := Try.checked) Cls.own started (by kernel_rfl) Try.func8 wit ?_
  intro W base args ds gs before hval0 hW _ hsz _
  have hval : ∀ (j : Nat) t v, Try.f8.params[j]? = some t → args[j]? = some v → Value.okWide Try.prog W .any base t v := hval0
  have hW' := hW
  obtain ⟨p, q, hA0, hV, rfl, _, _⟩ := hW
  have hA : DataW.TrodAll enc Try.prog W 0 (fun _ => true) true Try.f8.params.toList args.toList ds p := hA0
  obtain ⟨rfl, rfl⟩ := trodVars_none hV
  have hlt : ∀ x ∈ p, x.block < W.heap.size := fun x hx => hW'.lt x (by simpa using hx)
  have fin : ∀ W', Below W.heap.size W W' → (Rows.lzGreedySpec.fn H (ds ++ [])).results = [.lit (.bool true)] → (Rows.lzGreedySpec.fn H (ds ++ [])).args = ds → (Rows.lzGreedySpec.fn H (ds ++ [])).vars = [] → Rows.lzGreedySpec.post enc Try.prog Try.f8 false true false false W args (.bool true) W' := by
    intro W' hb h1 h2 h3
    refine ⟨ds, [], _, [], p, [], hW', ?_, ?_, ?_, hb.frame _, fun h => by cases h⟩
    · rw [h1]; exact trodAll_mk1 (shut_bool Try.underlying4 _)
    · rw [h2]; exact Cls.trodAll_below Cls.laidOut hb _ _ _ _ hA (Cls.readable _ (by kernel_rfl)) hlt
    · rw [h3]; rfl
  rw [Try.params8] at hA hval
  obtain ⟨v0, v1, d0, d1, p0, p1, rfl, rfl, rfl, ⟨m0, h0⟩, h1⟩ := trodAll_two hA
  obtain ⟨a0, l0, c0, rfl⟩ := okWide_slice Try.underlying32 (hval 0 _ v0 rfl rfl)
  obtain ⟨ab, bs, cb, e0, hs, hcb, -⟩ := bytes_of_trod h0
  obtain ⟨n, rfl, rfl, rfl, _⟩ := open_int Try.underlying3 (hval 1 3 v1 rfl rfl) h1
  simp only [Value.cells, List.cons.injEq, and_true] at e0
  rw [e0] at fin ⊢
  refine (lawGreedy W ab cb bs n hs hcb).mono fun e W' ⟨he, hb⟩ => ?_
  subst he
  exact ⟨_, rfl, fin W' hb rfl rfl rfl⟩

theorem saidLzGreedy : Rows.LzGreedySaid :=
  OpenClaim.holds_of_wide 8 Try.f8 rfl rfl rfl rfl rfl rfl rfl ⟨rfl, rfl, rfl, rfl, rfl⟩ rfl rfl rfl rfl rfl (by kernel_rfl) Try.func8 (by kernel_rfl)
    (of_decide_eq_true (by kernel_rfl)) (by unfold Func.isWrapper; first | (rw [if_pos (by decide +kernel)]; kernel_rfl) | (rw [if_neg (by decide +kernel)]; exact ⟨rfl, rfl⟩))
    (fun os started H enc _ => liftedLzGreedy os started H enc)
end Go.Proofs.Ytenkbmkecgnfmaa.Lz
namespace Go.Proofs.Ytenkbmkecgnfmaa
open Go

theorem lzGreedy_holds : Rows.LzGreedySaid := Lz.saidLzGreedy
end Go.Proofs.Ytenkbmkecgnfmaa
