/- The law InflateFixed, walked. -/
import Derived.Test.YtdgfhbeofidbnaaDoorPkInfY
import Derived.Test.YtdgfhbeofidbnaaDoorPkLzH
import Derived.Test.YtdgfhbeofidbnaaDoorPkLzZ
import Derived.Test.YtdgfhbeofidbnaaDoorPkHufN
import Derived.Test.YtdgfhbeofidbnaaDoorPkBitE
import Derived.BigRegion
import Derived.Deep.RegionLaw
namespace Go.Proofs.YtdgfhbeofidbnaaDoor.Inf
open Go.RowKit Go.Shelf Go.Lib Go.Proofs.YtdgfhbeofidbnaaDoor.Mem Go.Proofs.YtdgfhbeofidbnaaDoor.Bit Go.Proofs.YtdgfhbeofidbnaaDoor.Huf Go.Proofs.YtdgfhbeofidbnaaDoor.Lz

/-- The fixed codes. -/
theorem codesR_len {l : List Int} (hf : Fine l) : (codesR l).2 = 0 := by unfold codesR; rw [if_pos ((fine_iff l).2 hf)]
theorem putH_known {l : List Int} (hf : Fine l) (L : List Bool) (hL : L.length ≤ 100000) (s : Nat) (hk : Known l s) : putH (codesR l).1 l (s : Int) L = (0, L ++ symB l s) := by
  have hcl : (codesR l).1.length = l.length := by unfold codesR; rw [if_pos ((fine_iff l).2 hf)]; simp
  rcases put_known hf L hL (s : Int) with ⟨s', e, h1, h2, h3⟩ | h
  · obtain rfl : s = s' := by omega
    exact h3
  · exfalso
    have hs := hk.1
    have hlen := hf.len hs
    have hnum : numAt (codesR l).1 s = (codeL l s : Int) := by
      rw [numAt_eq _ s (by omega)]
      unfold codesR at *
      simp only [(fine_iff l).2 hf, if_true]
      rw [List.getElem_map, List.getElem_range]
    have hlt := codeN_lt (lenN l) l.length s hs (by have := hk.2; omega) hlen.2 hf.w
    have h0 := hk.2
    unfold putH at h
    rw [if_pos ⟨by omega, by omega, by omega⟩, Int.toNat_natCast, ← hlen.1, hnum, Int.toNat_natCast] at h
    have hlt2 : (codeL l s : Int) < 2 ^ lenN l s := by
      have := Int.ofNat_lt.2 hlt
      rw [Int.natCast_pow] at this
      exact this
    rw [if_pos ⟨by omega, by omega, by omega, by rw [Int.toNat_natCast]; exact hlt2⟩] at h
    have hb := rev_bd (codeL l s : Int) (lenN l s)
    unfold putL at h
    rw [if_pos ⟨by omega, by omega, hb.1, by rw [Int.toNat_natCast]; exact hb.2⟩, Int.toNat_natCast, if_neg (by omega)] at h
    cases congrArg Prod.fst h
theorem putL_known (L : List Bool) (hL : L.length ≤ 100000) (n k : Nat) (hk : k ≤ 32) (hn : n < 2 ^ k) : putL L (n : Int) (k : Int) = (0, L ++ bitsOf (n : Int) k) := by
  unfold putL
  rw [if_pos ⟨by omega, by omega, by omega, by rw [Int.toNat_natCast]; have := Int.ofNat_lt.2 hn; rw [Int.natCast_pow] at this; exact this⟩, Int.toNat_natCast, if_neg (by omega)]

set_option maxHeartbeats 1000000 in
/-- A symbol, and the bits behind it. -/
theorem lput_any (W : World) (B b g : Nat) (v1 v2 : Value) (l : List Int) (s n k : Nat) (L : List Bool) (h : WB W B b g L) (hm : Masks W B) (hL : L.length ≤ 99000) (h1 : SrcI W v1 (codesR l).1) (h2 : SrcI W v2 l) (hf : Fine l) (hs : Known l s) (hk : k ≤ 32) (hn : n < 2 ^ k) :
    Calls Tryd.prog 22 #[.pointer (some ⟨b, 0, none⟩), v1, v2, .int .i64 (s : Int), .int .i64 (k : Int), .int .i64 (n : Int)] W fun e w' => e = .returned (.bool true) ∧ WStep W w' B b g (L ++ symB l s ++ bitsOf (n : Int) k) := by
  have HP := hput_any W B b g v1 v2 (codesR l).1 l (s : Int) L h hm (by omega) h1 h2
  rw [putH_known hf L (by omega) s hs] at HP
  have HPP : Hid (Calls Tryd.prog 42 #[.pointer (some ⟨b, 0, none⟩), v1, v2, .int .i64 (s : Int)] W fun e w' => e = .returned (.int .i64 0) ∧ WStep W w' B b g (L ++ symB l s)) := Lib.hid HP
  have hl15 := (hf.len hs.1).2
  have HW : Aside (∀ w, WStep W w B b g (L ++ symB l s) → Calls Tryd.prog 21 #[.pointer (some ⟨b, 0, none⟩), .int .i64 (n : Int), .int .i64 (k : Int)] w fun e w' => e = .returned (.int .i64 0) ∧ WStep W w' B b g (L ++ symB l s ++ bitsOf (n : Int) k)) := fun w q => by
    obtain ⟨g', q1, q2, q3⟩ := q
    have hm' : Masks w B := hm.only q3 (by rintro i (rfl | rfl); exact h.leb; exact h.leg)
    have := wput_any w B b g' (n : Int) (k : Int) _ q1 hm' (by rw [List.length_append, symB_len]; omega)
    rw [putL_known _ (by rw [List.length_append, symB_len]; omega) n k hk hn] at this
    exact this.mono fun e w' z => ⟨z.1, WStep.trans q1 q2 q3 z.2⟩
  clear HP h hm h1 h2 hn hf
  go_enter Tryd.func22, Tryd.ntmps22
  go_wp2_with (first
    | (go_at_call 42; refine HPP.out.mono ?_; rintro e w1 ⟨rfl, q1⟩)
    | (go_at_call 12; refine (num_any _ _).mono ?_; rintro e w2 ⟨rfl, rfl⟩)
    | (go_at_call 21; refine (HW.out _ q1).mono ?_; rintro e w3 ⟨rfl, q3⟩))
  go_ret
  exact ⟨rfl, q3⟩
theorem lenS_nat (n : Nat) (h1 : 3 ≤ n) (h2 : n ≤ 258) : lenS (n : Int) = (((lenS (n : Int)).1.toNat : Int), ((lenS (n : Int)).2.1.toNat : Int), ((lenS (n : Int)).2.2.toNat : Int)) := by
  have : ∀ k : _root_.Fin 256, 0 ≤ (lenS ((k.val + 3 : Nat) : Int)).1 ∧ 0 ≤ (lenS ((k.val + 3 : Nat) : Int)).2.1 ∧ 0 ≤ (lenS ((k.val + 3 : Nat) : Int)).2.2 := by decide +kernel
  have h := this ⟨n - 3, by omega⟩
  simp only [show n - 3 + 3 = n by omega] at h
  obtain ⟨a, b, c⟩ := h
  rw [Int.toNat_of_nonneg a, Int.toNat_of_nonneg b, Int.toNat_of_nonneg c]
theorem distS_nat (n : Nat) (h1 : 1 ≤ n) (h2 : n ≤ 32768) : distS (n : Int) = (((distS (n : Int)).1.toNat : Int), ((distS (n : Int)).2.1.toNat : Int), ((distS (n : Int)).2.2.toNat : Int)) := by
  have e : distS (n : Int) = (((symN (n - 1) 2).1 : Int), ((symN (n - 1) 2).2.1 : Int), ((symN (n - 1) 2).2.2 : Int)) := by
    unfold distS
    rw [if_neg (by omega), show ((n : Int) - 1).toNat = n - 1 by omega]
  rw [e]
  simp only [Int.toNat_natCast]
theorem WStep.draw {U V W : World} {B b g : Nat} {l : List Bool} (h : WStep U V B b g l) (d : Drew V W) : WStep U W B b g l := by
  obtain ⟨g', q1, q2, q3⟩ := h
  exact ⟨g', q1.drew d, q2, q3.trans (S' := fun _ => False) d.only (fun i q => q.elim)⟩
/-- The symbols of a piece that is a copy. -/
theorem copy_syms {p : Pc} (hm : mayB p = true) (h0 : p.len ≠ 0) : lenS p.len = (((pS p).1 : Int), ((pS p).2.1 : Int), ((pS p).2.2 : Int)) ∧ distS p.dist = (((pT p).1 : Int), ((pT p).2.1 : Int), ((pT p).2.2 : Int)) ∧ Known fixL (pS p).1 ∧ Known fixD (pT p).1 ∧ (pS p).2.1 ≤ 32 ∧ (pS p).2.2 < 2 ^ (pS p).2.1 ∧ (pT p).2.1 ≤ 32 ∧ (pT p).2.2 < 2 ^ (pT p).2.1 := by
  obtain ⟨n, k, en, ekk, n1, n2, k1, k2⟩ := may_len hm h0
  have hk := fix_pcK p hm
  unfold pcK at hk
  rw [if_neg h0] at hk
  have hS := lenS_spec n n1 n2
  have hT := distS_spec k k1 k2
  have hS : (pS p).1 < 286 ∧ 257 ≤ (pS p).1 ∧ (pS p).2.1 = (lnB (pS p).1).2 ∧ (lnB (pS p).1).1 + (pS p).2.2 = n ∧ (pS p).2.2 < 2 ^ (pS p).2.1 := by unfold pS; rw [en]; exact hS
  have hT : (pT p).1 ≤ 29 ∧ (pT p).2.1 = (dsB (pT p).1).2 ∧ (dsB (pT p).1).1 + (pT p).2.2 = k ∧ (pT p).2.2 < 2 ^ (pT p).2.1 := by unfold pT; rw [ekk]; exact hT
  have a1 := (lnB_at hS.2.1 (by omega)).2.2.2
  have a2 := (dsB_at hT.1).2.2.2
  refine ⟨?_, ?_, hk.1, hk.2, by omega, hS.2.2.2.2, by omega, hT.2.2.2⟩
  · unfold pS; rw [en]; exact lenS_nat n n1 n2
  · unfold pT; rw [ekk]; exact distS_nat k k1 k2

set_option maxRecDepth 100000 in
set_option maxHeartbeats 16000000 in
theorem lawIFixed (W : World) (ab : Option Addr) (cb B0 : Nat) (ps : List Pc) (hs : SrcP W (.slice ab ps.length cb) ps) (hok : ∀ p ∈ ps, okPc p) (hl : ps.length ≤ 5864062014800) (hk : Masks W B0) (hod : Ords W B0) (hB0 : B0 ≤ W.heap.size) :
    Calls Tryd.prog 5 #[.slice ab ps.length cb] W fun e w' => e = .returned (.bool true) ∧ Below W.heap.size W w' := by
  have HX : Aside (SrcP W (.slice ab ps.length cb) ps) := hs
  have HA : Aside (0 < ps.length → ∃ a, ab = some a) := by
    obtain ⟨ao', c', e, h⟩ := hs.shape
    cases e
    exact h
  obtain ⟨N, hN⟩ : ∃ N, N = min ps.length 2000 := ⟨_, rfl⟩
  have hN1 : N ≤ ps.length := by omega
  have hN2 : N ≤ 2000 := by omega
  have hN3 : ∀ i, i < N ↔ i < ps.length ∧ i < 2000 := fun i => by omega
  obtain ⟨qs, hqs⟩ : ∃ qs, qs = ps.take N := ⟨_, rfl⟩
  have hql : qs.length = N := by rw [hqs, List.length_take]; omega
  have hqok : ∀ p ∈ qs, okPc p := fun p hp => hok p (List.mem_of_mem_take (hqs ▸ hp))
  have HKN : Aside (∀ w, Below W.heap.size W w → Calls Tryd.prog 15 #[] w fun e w' => e = .returned (.bool true) ∧ Below w.heap.size w w' ∧ Below W.heap.size W w') := fun w hb =>
    (knows_any w B0 (hk.below (hb.mono hB0)) (hod.below (hb.mono hB0)) (Nat.le_trans hB0 hb.size)).mono (fun e w' h => ⟨h.1, h.2, hb.trans (h.2.mono hb.size)⟩)
  have HMK : Aside (∀ w, Below W.heap.size W w → Masks w B0 ∧ Ords w B0 ∧ B0 ≤ w.heap.size) := fun w hb => ⟨hk.below (hb.mono hB0), hod.below (hb.mono hB0), Nat.le_trans hB0 hb.size⟩
  have HEX : Aside (∀ w v, SrcP w v qs → Calls Tryd.prog 18 #[v, .int .i64 1048576] w fun e w' => ∃ v5, e = .returned (.tuple #[v5, .int .i64 (expandR qs 1048576).2]) ∧ w'.ownsRow w.heap.size 5 1 v5 (expandR qs 1048576).1.length (bVs (expandR qs 1048576).1) ∧ Below w.heap.size w w') := fun w v h => expand_any w v qs 1048576 h hqok (by omega)
  have HMQ := HMK
  clear hs hok hk hod hB0 hqok
  go_enter Tryd.func5, Tryd.ntmps5
  go_upto_region 3 with fail
  go_loopg [3, 4] N (fun kx s3 s4 wr => ∃ (i : Nat) (u : Value), u = s3 ∧ s4 = .int .i64 i ∧ i ≤ N ∧ N - i ≤ kx ∧ Aside (wr.ownsRow W.heap.size 50 3 u (ps.take i).length (pcsCells (ps.take i)) ∧ Below W.heap.size W wr))
  case atStart => exact ⟨0, _, rfl, rfl, Nat.zero_le _, Nat.le_refl _, ⟨rfl, .inl ⟨rfl, rfl⟩⟩, Below.refl _ _⟩
  case round =>
    obtain ⟨i, u, rfl, rfl, hi, hkx, HQ⟩ := hrel
    by_cases hlt : i < N
    · have hlp : i < ps.length := by omega
      have hltz : (i : Int) < (ps.length : Int) := by omega
      have hltk : (i : Int) < 2000 := by omega
      have i0 : (0 : Int) ≤ (i : Int) := by omega
      have wi : IntKind.i64.wrap ((i : Int) + 1) = (i : Int) + 1 := by rw [IntKind.wrap_i64]; omega
      obtain ⟨a, rfl⟩ := HA.out (by omega)
      obtain ⟨r1, r2⟩ := HQ.out
      have hD : Drew wr wr.drew := ⟨rfl, rfl, rfl, rfl⟩
      obtain ⟨c1, c2, c3⟩ := srcp_cells (HX.out.below r2) i hlp
      have htk : ps.take (i + 1) = ps.take i ++ [ps[i]] := List.take_succ_eq_append_getElem hlp
      have hlen : (ps.take i).length = i := by rw [List.length_take]; omega
      generalize ps[i] = q at *
      obtain ⟨l, di, y⟩ := q
      simp only at c1 c2 c3
      obtain ⟨v', W', q1, q2, q3, q4, q5⟩ := push_pc Tryd.underlying47 info_pc wr.drew W.heap.size _ (ps.take i) ⟨l, di, y⟩ (own_below r1 (hD.below _)) (show W.heap.size ≤ wr.heap.size from r2.size) (by omega)
      have HE : Aside (W'.ownsRow W.heap.size 50 3 v' (ps.take (i + 1)).length (pcsCells (ps.take (i + 1))) ∧ Below W.heap.size W W') := by
        rw [htk]
        exact ⟨q2, r2.trans ((hD.below _).trans q3)⟩
      simp only at q1
      clear r1 r2 q2 q3 q4 q5 htk HQ hD hN3 hlen
      have C1 : ∀ m, (wr.drewN m).cell? (a.add (i * 3)) = some (.int .i64 l) := fun m => c1
      have C2 : ∀ m, (wr.drewN m).cell? ⟨(a.add (i * 3)).block, (a.add (i * 3)).off + 1, none⟩ = some (.int .i64 di) := fun m => c2
      have C3 : ∀ m, (wr.drewN m).cell? ⟨(a.add (i * 3)).block, (a.add (i * 3)).off + 2, none⟩ = some (.int .u8 (y.toNat : Int)) := fun m => c3
      have D1 : wr.drew.cell? (a.add (i * 3)) = some (.int .i64 l) := c1
      have D2 : wr.drew.cell? ⟨(a.add (i * 3)).block, (a.add (i * 3)).off + 1, none⟩ = some (.int .i64 di) := c2
      have D3 : wr.drew.cell? ⟨(a.add (i * 3)).block, (a.add (i * 3)).off + 2, none⟩ = some (.int .u8 (y.toNat : Int)) := c3
      go_wp2_with fail
      go_region_law (refine step_append_run rfl _ _ _ _ rfl _ _ rfl rfl _ _ q1 ?_)
      all_goals
        go_wp2_with fail
        go_roundg (N - (i + 1))
        case measure => omega
        case rel => exact ⟨i + 1, v', rfl, by go_num, by omega, Nat.le_refl _, HE.out⟩
    · obtain rfl : i = N := by omega
      have HQ2 : Aside (SrcP wr u qs ∧ Below W.heap.size W wr) := by
        obtain ⟨r1, r2⟩ := HQ.out
        rw [← hqs] at r1
        exact ⟨SrcP.of_own r1 rfl, r2⟩
      have hex : (¬ (i : Int) < (ps.length : Int)) ∨ (i : Int) < (ps.length : Int) ∧ ¬ (i : Int) < 2000 := by have := hN3 i; omega
      obtain ⟨wo, hwo⟩ : ∃ wo, wo = wr := ⟨_, rfl⟩
      rw [← hwo] at HQ2 ⊢
      have HE1 := Lib.hid (HEX.out wo u HQ2.out.1)
      obtain ⟨want, hwant⟩ : ∃ y, y = (expandR qs 1048576).1 := ⟨_, rfl⟩
      obtain ⟨er, her⟩ : ∃ y, y = (expandR qs 1048576).2 := ⟨_, rfl⟩
      rw [← hwant, ← her] at HE1
      have HEQ : Aside (er = 0 → expR qs ((1048576 : Nat) : Int) [] = (want, 0)) := fun e => by
        have : expandR qs 1048576 = expR qs ((1048576 : Nat) : Int) [] := expandR_of (by omega)
        rw [← this, hwant, ← e, her]
      have HQL : Aside (qs.length ≤ 2000) := by show qs.length ≤ 2000; omega
      clear HEX HQ hqs hN1 hN2 hlt hkx hi hN3 hN hwo hwant her HX HA hl
      subst hql
      have hstart : ∀ K : Prop, ((¬ (qs.length : Int) < (ps.length : Int)) → K) → ((qs.length : Int) < (ps.length : Int) → ¬ (qs.length : Int) < 2000 → K) → K := fun K h1 h2 => by
        rcases hex with h | ⟨h, h'⟩
        · exact h1 h
        · exact h2 h h'
      clear hex
      refine hstart _ (fun hz1 => ?_) (fun hz1 hz2 => ?_)
      all_goals
        go_upto_region 7 with (go_at_call 18; refine HE1.out.mono ?_; rintro e w5 ⟨v5, rfl, p5, d5⟩)
        have b5 : Below W.heap.size W w5 := HQ2.out.2.trans (d5.mono HQ2.out.2.size)
        have HF5 := Lib.hid (fixedL_any w5)
        go_upto_region 8 with (go_at_call 10; refine HF5.out.mono ?_; rintro e w6 ⟨x6, y6, rfl, p6, q6, d6⟩)
        have sx6 := SrcI.of_own p6
        have sy6 := SrcI.of_own q6
        have HC6 := codes_any w6 x6 fixL sx6 (by rw [fixL_len]; decide)
        rw [codesR_len fixL_fine] at HC6
        have HC6 := Lib.hid HC6
        go_upto_region 9 with (go_at_call 19; refine HC6.out.mono ?_; rintro e w7 ⟨u7, rfl, p7, d7⟩)
        have HC7 := codes_any w7 y6 fixD (sy6.below d7) (by rw [fixD_len]; decide)
        rw [codesR_len fixD_fine] at HC7
        have HC7 := Lib.hid HC7
        go_upto_region 10 with (go_at_call 19; refine HC7.out.mono ?_; rintro e w8 ⟨u8, rfl, p8, d8⟩)
        have HN8 := Lib.hid (newWriter_any w8 w8.heap.size (Nat.le_refl _))
        have d68 : Below w6.heap.size w6 w8 := d7.trans (d8.mono d7.size)
        have d58 : Below w5.heap.size w5 w8 := d6.trans (d68.mono d6.size)
        have b8 : Below W.heap.size W w8 := b5.trans (d58.mono b5.size)
        have HW8 : Aside (SrcP w8 u qs ∧ SrcI w8 u7 (codesR fixL).1 ∧ SrcI w8 x6 fixL ∧ SrcI w8 u8 (codesR fixD).1 ∧ SrcI w8 y6 fixD ∧ Mem.Src w8 v5 want ∧ Below W.heap.size W w8) :=
          ⟨(HQ2.out.1.below d5).below d58, (SrcI.of_own p7).below d8, sx6.below d68, SrcI.of_own p8, sy6.below d68, (Src.of_own p5 rfl).below d58, b8⟩
        clear HE1 HF5 HC6 HC7 p5 d5 b5 p6 q6 d6 sx6 sy6 p7 d7 p8 d8 d68 d58 b8 HQ2
        try clear hz1
        try clear hz2
        go_upto_region 11 with (go_at_call 20; refine HN8.out.mono ?_; rintro e w9 ⟨rfl, q9, d9⟩)
        have hnn : ∀ w, (binOp .eql 55 (.pointer (some ⟨w8.heap.size, 0, none⟩)) (.pointer none)).run Tryd.prog w = .ok (.bool false) w := fun _ => by kernel_rfl
        have b9 : Below W.heap.size W w9 := HW8.out.2.2.2.2.2.2.trans (d9.mono HW8.out.2.2.2.2.2.2.size)
        have HK9 := Lib.hid (HKN.out w9 b9)
        by_cases he : er = 0
        · have HEX0 := Lib.hid (HEQ.out he)
          subst he
          have Q9 : Aside (WB w9 w8.heap.size w8.heap.size w8.heap.size [] ∧ Below w8.heap.size w8 w9) := ⟨q9, d9⟩
          clear q9 d9 b9 HN8 HEQ
          go_upto_region 13 with (first
            | (go_at_call 12; refine (num_any _ _).mono ?_; rintro e wa ⟨rfl, rfl⟩)
            | (go_at_call 15; refine HK9.out.mono ?_; rintro e w10 ⟨rfl, d10, b10⟩))
          clear HK9
          have q10 := Q9.out.1.below d10
          obtain ⟨b, hb⟩ : ∃ b, b = w8.heap.size := ⟨_, rfl⟩
          rw [← hb] at hnn q10 ⊢
          have HMK10 := HMK.out w10 b10
          have HB0b : B0 ≤ b := by rw [hb]; exact (HMK.out w8 HW8.out.2.2.2.2.2.2).2.2
          have HBW : Aside (∀ w L, WStep w10 w b b b L → Below b w8 w ∧ Below W.heap.size W w) := fun w L q => by
            obtain ⟨g', z1, z2, z3⟩ := q
            have e1 : Below b w10 w := z3.below (by rw [hb]; exact Nat.le_trans Q9.out.2.size d10.size) (by rintro k (rfl | rfl) <;> exact Nat.le_refl _)
            have e2 : Below b w8 w := by
              rw [hb] at e1 ⊢
              exact (Q9.out.2.trans (d10.mono Q9.out.2.size)).trans e1
            have e3 := HW8.out.2.2.2.2.2.2
            exact ⟨e2, e3.trans (e2.mono (by rw [hb]; exact e3.size))⟩
          have HRW : Aside (∀ w L, WStep w10 w b b b L → SrcP w u qs ∧ SrcI w u7 (codesR fixL).1 ∧ SrcI w x6 fixL ∧ SrcI w u8 (codesR fixD).1 ∧ SrcI w y6 fixD ∧ Mem.Src w v5 want) := fun w L q => by
            have e2 := (HBW.out w L q).1
            rw [hb] at e2
            obtain ⟨z1, z2, z3, z4, z5, z6, z7⟩ := HW8.out
            exact ⟨z1.below e2, z2.below e2, z3.below e2, z4.below e2, z5.below e2, z6.below e2⟩
          have HMB : Aside (∀ w L, WStep w10 w b b b L → Masks w b) := fun w L q => by
            have := (HMK.out w (HBW.out w L q).2).1
            exact ⟨Nat.lt_of_lt_of_le this.1 HB0b, this.2⟩
          have HPL : Aside (∀ w L (s n k : Nat), WStep w10 w b b b L → L.length ≤ 99000 → Known fixL s → k ≤ 32 → n < 2 ^ k → Calls Tryd.prog 22 #[.pointer (some ⟨b, 0, none⟩), u7, x6, .int .i64 (s : Int), .int .i64 (k : Int), .int .i64 (n : Int)] w fun e w' => e = .returned (.bool true) ∧ WStep w10 w' b b b (L ++ symB fixL s ++ bitsOf (n : Int) k)) := fun w L s n k q hL hs hk hn => by
            obtain ⟨r1, r2, r3, r4, r5, r6⟩ := HRW.out w L q
            have hm := HMB.out w L q
            obtain ⟨g', z1, z2, z3⟩ := q
            exact (lput_any w b b g' u7 x6 fixL s n k L z1 hm hL r2 r3 fixL_fine hs hk hn).mono fun e w' z => ⟨z.1, WStep.trans z1 z2 z3 z.2⟩
          have HPD : Aside (∀ w L (s n k : Nat), WStep w10 w b b b L → L.length ≤ 99000 → Known fixD s → k ≤ 32 → n < 2 ^ k → Calls Tryd.prog 22 #[.pointer (some ⟨b, 0, none⟩), u8, y6, .int .i64 (s : Int), .int .i64 (k : Int), .int .i64 (n : Int)] w fun e w' => e = .returned (.bool true) ∧ WStep w10 w' b b b (L ++ symB fixD s ++ bitsOf (n : Int) k)) := fun w L s n k q hL hs hk hn => by
            obtain ⟨r1, r2, r3, r4, r5, r6⟩ := HRW.out w L q
            have hm := HMB.out w L q
            obtain ⟨g', z1, z2, z3⟩ := q
            exact (lput_any w b b g' u8 y6 fixD s n k L z1 hm hL r4 r5 fixD_fine hs hk hn).mono fun e w' z => ⟨z.1, WStep.trans z1 z2 z3 z.2⟩
          have HP3 : Hid (Calls Tryd.prog 21 #[.pointer (some ⟨b, 0, none⟩), .int .i64 3, .int .i64 3] w10 fun e w' => e = .returned (.int .i64 0) ∧ WStep w10 w' b b b (bitsOf 3 3)) := by
            have := wput_any w10 b b b ((3 : Nat) : Int) ((3 : Nat) : Int) [] q10 ⟨Nat.lt_of_lt_of_le HMK10.1.1 HB0b, HMK10.1.2⟩ (by show 0 ≤ _; omega)
            rw [putL_known [] (by show 0 ≤ _; omega) 3 3 (by decide) (by decide)] at this
            exact Lib.hid this
          have HMAY : Aside (∀ p ∈ qs, mayB p = true) := expR_may qs _ _ _ HEX0.out
          have HLEN : Aside (∀ i, (bitsOf 3 3 ++ (qs.take i).flatMap (pcB fixL fixD)).length ≤ 96003) := fun i => by
            have h1 := flat_len (qs.take i) (fun p hp => HMAY.out p (List.mem_of_mem_take hp))
            have h2 := HQL.out
            rw [List.length_append, bitsOf_len]
            rw [List.length_take] at h1
            omega
          clear HMK10 HB0b q10 d10 b10 HW8 HMK HMB hb
          go_upto_region 15 with (first
            | (go_at_call 12; refine (num_any _ _).mono ?_; rintro e wa ⟨rfl, rfl⟩)
            | (go_at_call 21; refine HP3.out.mono ?_; rintro e w11 ⟨rfl, q11⟩))
          obtain ⟨uo, uc, rfl, hua⟩ := (HRW.out w11 _ q11).1.shape
          have H11 : Aside (WStep w10 w11 b b b (bitsOf 3 3 ++ (qs.take 0).flatMap (pcB fixL fixD))) := by rw [List.take_zero, List.flatMap_nil, List.append_nil]; exact q11
          have HUA : Aside (0 < qs.length → ∃ a, uo = some a) := hua
          clear q11 HP3 hua hnn
          have hqz : (qs.length : Int) ≤ 2000 := by have := HQL.out; omega
          go_upto_region 16 with fail
          go_loopg [14, 15, 16, 17, 18, 19, 20] qs.length (fun kx s14 s15 s16 s17 s18 s19 s20 wr => ∃ (j : Nat), s14 = .int .i64 (j : Int) ∧ j ≤ qs.length ∧ qs.length - j ≤ kx ∧ Aside (WStep w10 wr b b b (bitsOf 3 3 ++ (qs.take j).flatMap (pcB fixL fixD))))
          case atStart => exact ⟨0, rfl, Nat.zero_le _, Nat.le_refl _, H11.out⟩
          case round =>
            clear H11
            obtain ⟨j, rfl, hj, hkj, HS⟩ := hrel
            by_cases hlj : j < qs.length
            · have hljz : (j : Int) < (qs.length : Int) := by omega
              have j0 : (0 : Int) ≤ (j : Int) := by omega
              have wj : IntKind.i64.wrap ((j : Int) + 1) = (j : Int) + 1 := by rw [IntKind.wrap_i64]; omega
              obtain ⟨ua, rfl⟩ := HUA.out (by omega)
              have htk : (qs.take (j + 1)).flatMap (pcB fixL fixD) = (qs.take j).flatMap (pcB fixL fixD) ++ pcB fixL fixD qs[j] := by
                rw [List.take_succ_eq_append_getElem hlj, List.flatMap_append, List.flatMap_cons, List.flatMap_nil, List.append_nil]
              have HCL : Aside (∀ w L, WStep w10 w b b b L → w.cell? (ua.add (j * 3)) = some (.int .i64 (qs[j]).len) ∧ w.cell? ⟨(ua.add (j * 3)).block, (ua.add (j * 3)).off + 1, none⟩ = some (.int .i64 (qs[j]).dist) ∧ w.cell? ⟨(ua.add (j * 3)).block, (ua.add (j * 3)).off + 2, none⟩ = some (.int .u8 ((qs[j]).byte.toNat : Int))) := fun w L q => srcp_cells (HRW.out w L q).1 j hlj
              have hm := HMAY.out qs[j] (List.getElem_mem hlj)
              have hlen := HLEN.out j
              have hs := HS.out
              obtain ⟨L0, hL0⟩ : ∃ L0, L0 = bitsOf 3 3 ++ (qs.take j).flatMap (pcB fixL fixD) := ⟨_, rfl⟩
              have HNX : Aside (∀ w, WStep w10 w b b b (L0 ++ pcB fixL fixD qs[j]) → WStep w10 w b b b (bitsOf 3 3 ++ (qs.take (j + 1)).flatMap (pcB fixL fixD))) := fun w q => by
                rw [htk, ← List.append_assoc, ← hL0]
                exact q
              rw [← hL0] at hs hlen
              clear htk HS hL0
              generalize qs[j] = p at *
              by_cases h0 : p.len = 0
              · have hc := HCL.out wr L0 hs
                obtain ⟨c1, c2, c3⟩ := hc
                have HPX := HPL.out wr L0 p.byte.toNat 0 0 hs (by omega) (fix_known _ (by have := p.byte.toNat_lt; omega)) (by decide) (by decide)
                have HNY : Aside (∀ w, WStep w10 w b b b (L0 ++ symB fixL p.byte.toNat ++ bitsOf ((0 : Nat) : Int) 0) → WStep w10 w b b b (bitsOf 3 3 ++ (qs.take (j + 1)).flatMap (pcB fixL fixD))) := fun w q => HNX.out w (by
                  have e : pcB fixL fixD p = symB fixL p.byte.toNat := by unfold pcB; rw [if_pos h0]
                  rw [e]
                  have e2 : bitsOf ((0 : Nat) : Int) 0 = [] := rfl
                  rw [e2, List.append_nil] at q
                  exact q)
                have HPX := Lib.hid HPX
                rw [h0] at c1
                have hbb : ((p.byte.toNat : Nat) : Int) ≤ 255 := by have := p.byte.toNat_lt; omega
                have wb : IntKind.i64.wrap ((p.byte.toNat : Nat) : Int) = ((p.byte.toNat : Nat) : Int) := by rw [IntKind.wrap_i64]; omega
                clear hs hm hlen HCL HNX h0
                generalize p.byte.toNat = y at *
                go_wp2_with (go_at_call 22; refine HPX.out.mono ?_; rintro e w12 ⟨rfl, q12⟩)
                go_roundg (qs.length - (j + 1))
                case measure => omega
                case rel => exact ⟨j + 1, by go_num, by omega, Nat.le_refl _, HNY.out _ q12⟩
              · obtain ⟨g1, g2, k1, k2, k3, k4, k5, k6⟩ := copy_syms hm h0
                have eb : pcB fixL fixD p = symB fixL (pS p).1 ++ bitsOf ((pS p).2.2 : Int) (pS p).2.1 ++ symB fixD (pT p).1 ++ bitsOf ((pT p).2.2 : Int) (pT p).2.1 := by unfold pcB; rw [if_neg h0]
                have HLE := fun w => Lib.hid (length_any w p.len)
                rw [g1] at HLE
                have HDI := fun w => Lib.hid (distance_any w p.dist)
                rw [g2] at HDI
                have h0z : (p.len == 0) = false := by rw [beq_eq_false_iff_ne]; exact h0
                obtain ⟨c1, c2, c3⟩ := HCL.out wr L0 hs
                have HST : Aside (∀ w w', WStep w10 w b b b L0 → Drew w w' → WStep w10 w' b b b L0) := fun w w' q d => WStep.draw q d
                have HP1 : Aside (∀ w, WStep w10 w b b b L0 → Calls Tryd.prog 22 #[.pointer (some ⟨b, 0, none⟩), u7, x6, .int .i64 ((pS p).1 : Int), .int .i64 ((pS p).2.1 : Int), .int .i64 ((pS p).2.2 : Int)] w fun e w' => e = .returned (.bool true) ∧ WStep w10 w' b b b (L0 ++ symB fixL (pS p).1 ++ bitsOf ((pS p).2.2 : Int) (pS p).2.1)) := fun w q => HPL.out w L0 _ _ _ q (by omega) k1 k3 k4
                have hsl : (symB fixL (pS p).1).length ≤ 15 := by rw [symB_len]; exact (fixL_fine.len k1.1).2
                have HP2 : Aside (∀ w, WStep w10 w b b b (L0 ++ symB fixL (pS p).1 ++ bitsOf ((pS p).2.2 : Int) (pS p).2.1) → Calls Tryd.prog 22 #[.pointer (some ⟨b, 0, none⟩), u8, y6, .int .i64 ((pT p).1 : Int), .int .i64 ((pT p).2.1 : Int), .int .i64 ((pT p).2.2 : Int)] w fun e w' => e = .returned (.bool true) ∧ WStep w10 w' b b b (bitsOf 3 3 ++ (qs.take (j + 1)).flatMap (pcB fixL fixD))) := fun w q =>
                  (HPD.out w _ _ _ _ q (by rw [List.length_append, List.length_append, bitsOf_len]; omega) k2 k5 k6).mono fun e w' z => ⟨z.1, HNX.out _ (by rw [eb, ← List.append_assoc, ← List.append_assoc, ← List.append_assoc]; exact z.2)⟩
                clear hm hlen HNX eb k1 k2 k3 k4 k5 k6 hsl g1 g2 h0
                generalize p.len = pl at *
                generalize p.dist = pd at *
                generalize (pS p).1 = z1 at *
                generalize (pS p).2.1 = z2 at *
                generalize (pS p).2.2 = z3 at *
                generalize (pT p).1 = z4 at *
                generalize (pT p).2.1 = z5 at *
                generalize (pT p).2.2 = z6 at *
                go_upto_region 22 with (go_at_call 23; refine (HLE _).out.mono ?_; rintro e w12 ⟨rfl, d12⟩)
                have s12 := HST.out _ _ hs d12
                clear c1 c2 c3
                obtain ⟨c1, c2, c3⟩ := HCL.out w12 L0 s12
                go_upto_region 23 with (go_at_call 24; refine (HDI _).out.mono ?_; rintro e w13 ⟨rfl, d13⟩)
                have s13 := HST.out _ _ s12 d13
                have HP1' := Lib.hid (HP1.out w13 s13)
                clear c1 c2 c3 HCL hs s12 s13 d12 d13 HLE HDI HST HP1
                go_wp2_with (first
                  | (go_at_call 22; (with_reducible refine HP1'.out.mono ?_); rintro e w14 ⟨rfl, q14⟩)
                  | (go_at_call 22; (with_reducible refine (HP2.out _ q14).mono ?_); rintro e w15 ⟨rfl, q15⟩))
                go_roundg (qs.length - (j + 1))
                case measure => omega
                case rel => exact ⟨j + 1, by go_num, by omega, Nat.le_refl _, q15⟩
            · obtain rfl : j = qs.length := by omega
              have hljz : ¬ (qs.length : Int) < (qs.length : Int) := by omega
              have hs := HS.out
              have hlen := HLEN.out qs.length
              rw [List.take_length] at hs hlen
              have HPX : Hid (Calls Tryd.prog 22 #[.pointer (some ⟨b, 0, none⟩), u7, x6, .int .i64 256, .int .i64 0, .int .i64 0] wr fun e w' => e = .returned (.bool true) ∧ WStep w10 w' b b b (fixB qs)) := by
                have := HPL.out wr _ 256 0 0 hs (by omega) (fix_known 256 (by decide)) (by decide) (by decide)
                have e2 : bitsOf ((0 : Nat) : Int) 0 = [] := rfl
                rw [e2, List.append_nil] at this
                exact Lib.hid this
              have hbk := fix_back qs want HQL.out HEX0.out
              have hfl : (fixB qs).length ≤ 8388608 := by
                have h9 : (symB fixL 256).length ≤ 15 := by rw [symB_len]; exact (fixL_fine.len (by rw [fixL_len]; decide)).2
                have e : fixB qs = bitsOf 3 3 ++ qs.flatMap (pcB fixL fixD) ++ symB fixL 256 := rfl
                rw [e, List.length_append]
                omega
              clear HS hs hlen HPL HPD HLEN HMAY HUA
              go_upto_region 27 with (go_at_call 22; refine HPX.out.mono ?_; rintro e w16 ⟨rfl, q16⟩)
              have HBY : Aside (∃ ao cap, True) := ⟨0, 0, trivial⟩
              obtain ⟨z1, z2⟩ := HBW.out w16 _ q16
              have hsw := (HRW.out w16 _ q16).2.2.2.2.2
              obtain ⟨g', y1, y2, y3⟩ := q16
              have HBYT := Lib.hid (bytes_any w16 b b g' (fixB qs) y1 hfl)
              obtain ⟨bs, hbs⟩ : ∃ bs, bs = pk (fixB qs) := ⟨_, rfl⟩
              rw [← hbs] at HBYT hbk
              have HIN : Aside (∀ w ao cap, Below w16.heap.size w16 w → Mem.Src w (.slice ao bs.length cap) bs → Calls Tryd.prog 8 #[.slice ao bs.length cap, .int .i64 1048576] w fun e w' => ∃ v us, e = .returned (.tuple #[v, .int .i64 us, .int .i64 0]) ∧ Mem.Src w' v want ∧ Below w16.heap.size w16 w') := fun w ao cap hb hsrc => by
                have hb2 := z2.trans (hb.mono z2.size)
                obtain ⟨m1, m2, m3⟩ := HMQ.out w hb2
                exact (inflate_any w ao bs.length cap B0 1048576 bs hsrc rfl m1 m2 m3).mono (fun e w' h => by
                  obtain ⟨v, h1, h2, h3⟩ := h
                  rw [hbk.2] at h1
                  rw [hbk.1] at h2
                  exact ⟨v, _, h1, h2, hb.trans (h3.mono hb.size)⟩)
              have HFI : Aside (∀ w, Below w16.heap.size w16 w → Mem.Src w v5 want ∧ Below W.heap.size W w) := fun w hb => ⟨hsw.below hb, z2.trans (hb.mono z2.size)⟩
              clear z1 z2 hsw y1 y2 y3 hbk hbs hfl HPX HRW HBW HBY
              go_upto_region 28 with (first
                | (go_at_call 25; refine HBYT.out.mono ?_; rintro e w17 ⟨v17, rfl, p17, d17⟩; obtain ⟨o17, c17, rfl, -, -, -⟩ := own_shape p17; have HI17 := Lib.hid (HIN.out w17 o17 c17 d17 (Src.of_own p17 rfl)))
                | (go_at_call 8; refine HI17.out.mono ?_; rintro e w18 ⟨v18, us, rfl, p18, d18⟩))
              have cv1 := conv_src w18 _ _ p18
              have cv2 := conv_src w18 _ _ (HFI.out _ d18).1
              have HB18 : Aside (Below W.heap.size W w18) := (HFI.out _ d18).2
              clear p18 d18 HFI HIN
              go_wp2_with (go_at_call 12; refine (num_any _ _).mono ?_; rintro e wa ⟨rfl, rfl⟩)
              go_ret
              exact ⟨by simp, HB18.out⟩
        · have hb1 : (er == 0) = false := by rw [beq_eq_false_iff_ne]; exact he
          have hb2 : (er != 0) = true := by rw [bne_iff_ne]; exact he
          clear q9 d9 b9 HN8 HEQ
          go_wp2_with (first
            | (go_at_call 12; refine (num_any _ _).mono ?_; rintro e wa ⟨rfl, rfl⟩)
            | (go_at_call 15; refine HK9.out.mono ?_; rintro e w10 ⟨rfl, d10, b10⟩))
          go_ret
          exact ⟨rfl, b10⟩
end Go.Proofs.YtdgfhbeofidbnaaDoor.Inf
