/- Package deflate: the blocks of a text that is compressed. Package deflate: the one block of no bytes, compressed. -/
import Derived.Test.YthmbbpfgbpacnaaGreatDoorPmDefZb
namespace Go.Proofs.YthmbbpfgbpacnaaGreatDoor.Def
open Go.RowKit Go.Shelf Go.Lib Mem Bit Huf Lz Inf
set_option maxRecDepth 100000 in
set_option maxHeartbeats 8000000 in
theorem blocks_1n (W : World) (ao : Option Addr) (c : Nat) (b : List UInt8) (lv : Nat) (last : Bool) (hs : Mem.Src W (.slice ao b.length c) b) (hc : b.length <= c) (hb : b.length <= 524288) (hl : lv <= 9) (hbk : ∀ a, ao = some a -> a.block < W.heap.size) (h0 : lv ≠ 0) (hD0 : 0 < (piecesD b lv).length) :
  Calls Tryz.prog 27 #[.slice ao b.length c, .int .i64 (lv : Int), .bool last] W fun e w' => ∃ lo lc xs W1, e = .returned (.slice lo xs.length lc) /\ xs.map Blk.p = blocksF lv 3 (if last then 1 else 0) ((piecesD b lv).length + 2) (piecesD b lv) b /\ w'.ownsRow W1.heap.size 79 5 (.slice lo xs.length lc) xs.length (bksCells xs) /\ Below W.heap.size W W1 /\ Below W1.heap.size W1 w' /\ (∀ x ∈ xs, Listed W W1 ao x) := by
 have HP := Lib.hid (piecesOf_any W ao c b lv hs hc (by omega) hl)
 have HE : Aside (expR (piecesD b lv) ((1048576 : Nat) : Int) [] = (b, 0) /\ (lv = 0 -> ∀ p ∈ piecesD b lv, p.len = 0)) := ⟨piecesD_exp b lv (by omega) hl, fun e => absurd e h0⟩
 have HS : Aside (Mem.Src W (.slice ao b.length c) b /\ b.length <= c /\ ∀ a, ao = some a -> a.block < W.heap.size) := ⟨hs, hc, hbk⟩
 have hDl := exp_len _ _ _ _ HE.out.1
 have hDg := sumP_ge (piecesD b lv)
 have hDn : (piecesD b lv).length <= 524288 := by rw [List.length_nil] at hDl; omega
 have h0z : ¬ (lv : Int) = 0 := by omega
 have h0b : ((lv : Int) == 0) = false := by rw [beq_eq_false_iff_ne]; exact h0z
 obtain ⟨D, hD⟩ : ∃ D, D = piecesD b lv := ⟨_, rfl⟩
 rw [<- hD] at HP HE hDn hD0
 obtain ⟨R, hR⟩ : ∃ R, R = blocksF lv 3 0 (D.length + 2) D b := ⟨_, rfl⟩
 have HR0 : Aside (blocksF lv 3 0 (D.length + 2) D b = R) := hR.symm
 have HR1 : Aside (D = piecesD b lv /\ R = blocksF lv 3 0 ((piecesD b lv).length + 2) (piecesD b lv) b) := ⟨hD, by rw [hR, hD]⟩
 clear hs hc hbk hDl hDg hD hR
 go_enter Tryz.func27, Tryz.ntmps27
 go_upto_region 6 with (go_at_call 39; refine HP.out.mono ?_; rintro e W1 ⟨v, rfl, y1, y2⟩; obtain ⟨pa, pc, rfl, pc1, pc2, pc3⟩ := own_shape y1; have HY := Lib.hid (And.intro y1 y2); clear y1 y2)
 have HL0 : Aside (Left W W1 lv ao pa ao pc c D b /\ Below W.heap.size W W1 /\ W1.ownsRow W1.heap.size 79 5 (.slice none 0 0) 0 (bksCells [])) := by
  obtain ⟨y1, y2⟩ := HY.out
  obtain ⟨s1, s2, s3⟩ := HS.out
  refine ⟨⟨SrcP.of_own y1 rfl, s1.below y2, pc1, s2, fun a e => ?_, fun a e => ⟨⟨a, e, rfl⟩, Nat.lt_of_lt_of_le (s3 a e) y2.size⟩, ⟨[], by rw [List.nil_append]; exact HE.out.1⟩, by first | exact HE.out.2 | exact fun _ => HE.out.2 trivial⟩, y2, ⟨rfl, .inl ⟨rfl, rfl⟩⟩⟩
  subst e
  obtain ⟨g, rfl, g1, g2⟩ := own_block y1
  exact ⟨g1, g2⟩
 have HX0 : Aside (∀ x ∈ ([] : List Blk), Listed W W1 ao x) := fun x hx => by cases hx
 clear HP HS HE HY pc1 pc2 pc3
 go_loopg [0, 8, 9, 10, 11] (D.length + 2) (fun kx s0 s8 s9 s10 s11 wr => ∃ (zs : List Blk) (ps : List Pc) (bb : List UInt8) (f : Nat) (ta lo pa : Option Addr) (tc lc pc : Nat), s0 = .slice ta bb.length tc /\ s8 = .slice lo zs.length lc /\ s9 = .slice pa ps.length pc /\ f <= kx /\ ps.length < f /\ f + zs.length <= D.length + 2 /\ (zs.length = 0 -> 2 <= f) /\ (zs.length = 0 -> 0 < ps.length) /\ Aside (Left W W1 lv ao pa ta pc tc ps bb) /\ Aside (wr.ownsRow W1.heap.size 79 5 (.slice lo zs.length lc) zs.length (bksCells zs) /\ Below W1.heap.size W1 wr) /\ Aside (∀ x ∈ zs, Listed W W1 ao x) /\ Aside ((if zs.length = 0 \/ 0 < ps.length then zs.map Blk.p ++ blocksF lv 3 0 f ps bb else zs.map Blk.p) = R))
 case atStart => exact ⟨[], D, b, D.length + 2, ao, none, pa, c, 0, pc, rfl, rfl, by first | rfl | rw [hD0], Nat.le_refl _, by omega, Nat.le_refl _, fun _ => by omega, fun _ => hD0, HL0.out.1, ⟨HL0.out.2.2, Below.refl _ _⟩, HX0.out, by rw [if_pos (.inl rfl)]; exact HR0.out⟩
 case round =>
  have HWW : Aside (Below W.heap.size W W1) := HL0.out.2.1
  clear HL0 HR0 HX0
  obtain ⟨zs, ps, bb, f, ta, lo, pa, tc, lc, pc, rfl, rfl, rfl, hfk, hpf, hfz, hf2, hIV, HLE, HOW, HLI, HRR⟩ := hrel
  by_cases hgo : zs.length = 0 \/ 0 < ps.length
  ·have hRR := HRR.out
   rw [if_pos hgo] at hRR
   obtain ⟨f, rfl⟩ : ∃ f', f = f' + 1 := ⟨f - 1, by omega⟩
   obtain ⟨n1, n2, n3, n4⟩ := HLE.out.fill
   have cp := HLE.out.cp
   have ct := HLE.out.ct
   have HFI := fun w => fun (hb : Below W1.heap.size W1 w) => Lib.hid (fill_any w (.slice pa ps.length pc) ps lv (HLE.out.sp.below hb) (by obtain ⟨out, he⟩ := HLE.out.ex; exact expR_may _ _ _ _ he) (by omega))
   have HN : Aside (Left W W1 lv ao _ _ _ _ (ps.drop (fillF lv ps 0 0).1) (bb.drop (fillF lv ps 0 0).2)) := HLE.out.next
   have HBK : Aside (Listed W W1 ao ⟨pa, pc, ta, tc, ⟨ps.take (fillF lv ps 0 0).1, bb.take (fillF lv ps 0 0).2, 0, 3⟩⟩) := HLE.out.block
   have HSTEP : Aside ((if (zs ++ [(⟨pa, pc, ta, tc, ⟨ps.take (fillF lv ps 0 0).1, bb.take (fillF lv ps 0 0).2, 0, 3⟩⟩ : Blk)]).length = 0 \/ 0 < (ps.drop (fillF lv ps 0 0).1).length then (zs ++ [(⟨pa, pc, ta, tc, ⟨ps.take (fillF lv ps 0 0).1, bb.take (fillF lv ps 0 0).2, 0, 3⟩⟩ : Blk)]).map Blk.p ++ blocksF lv 3 0 f (ps.drop (fillF lv ps 0 0).1) (bb.drop (fillF lv ps 0 0).2) else (zs ++ [(⟨pa, pc, ta, tc, ⟨ps.take (fillF lv ps 0 0).1, bb.take (fillF lv ps 0 0).2, 0, 3⟩⟩ : Blk)]).map Blk.p) = R) := by
    rw [<- hRR]
    rw [blocksF_succ, List.length_append, List.length_singleton, List.length_drop, List.map_append, List.map_singleton]
    by_cases hc : (fillF lv ps 0 0).1 < ps.length
    ·rw [if_pos hc, if_pos (.inr (by omega)), List.append_assoc]
     exact rfl
    ·rw [if_neg hc, if_neg (by omega)]
     exact rfl
   have hps : 0 < ps.length -> 1 <= (fillF lv ps 0 0).1 := fun h => by
    cases ps with
    | nil => cases h
    | cons p ps => exact fillF_pos lv p ps
   obtain ⟨n, hn⟩ : ∃ n, n = (fillF lv ps 0 0).1 := ⟨_, rfl⟩
   obtain ⟨s, hs⟩ : ∃ s, s = (fillF lv ps 0 0).2 := ⟨_, rfl⟩
   rw [<- hn, <- hs] at HN HBK HSTEP
   rw [<- hn] at n1 n3 hps
   rw [<- hs] at n2 n4
   simp only [<- hn, <- hs] at HFI
   have hfn : (ps.drop n).length < f := by
    rw [List.length_drop]
    by_cases hz : 0 < ps.length
    ·have := hps hz; omega
    ·have hfz' : zs.length = 0 := by omega
     omega
   have hlt : (ps.take n).length = n := by rw [List.length_take]; omega
   have hlb : (bb.take s).length = s := by rw [List.length_take]; omega
   clear hRR HRR hn hs
   have z1 : (n : Int) <= (ps.length : Int) := by omega
   have z2 : (n : Int) <= (pc : Int) := by omega
   have z3 : (s : Int) <= (bb.length : Int) := by omega
   have z4 : (s : Int) <= (tc : Int) := by omega
   have z5 : (0 : Int) <= (n : Int) := by omega
   have z6 : (0 : Int) <= (s : Int) := by omega
   have HF1 := HFI wr HOW.out.2
   obtain ⟨x, hx⟩ : ∃ x : Blk, x = ⟨pa, pc, ta, tc, ⟨ps.take n, bb.take s, 0, 3⟩⟩ := ⟨_, rfl⟩
   rw [<- hx] at HBK HSTEP
   have hq : 0 < ps.length := by
    rcases hgo with q | q
    ·exact hIV q
    ·exact q
   have hqz : (ps.length : Int) > 0 := by omega
   go_upto_region 8 with (go_at_call 40; refine HF1.out.mono ?_; rintro e w1 ⟨rfl, d1⟩; have HD1 := Lib.hid d1; clear d1)
   obtain ⟨b1, b2⟩ := HOW.out
   have dd : Drew wr w1.drew := HD1.out.trans ⟨rfl, rfl, rfl, rfl⟩
   obtain ⟨v', W5, q1, q2, q3, q4, q5⟩ := push_blk w1.drew W1.heap.size _ zs x (own_drew b1 dd) (Nat.le_trans b2.size (by rw [dd.heap]; exact Nat.le_refl _)) (by first | omega | (simp only [List.length_nil]; omega))
   obtain ⟨lo', lc', rfl, -, -, -⟩ := own_shape q2
   have hxl : (zs ++ [x]).length = zs.length + 1 := by rw [List.length_append, List.length_singleton]
   rw [hxl] at q1 q2
   have q1' : (Builtin.append_ #[59, 59] 59 #[.slice lo zs.length lc, .slice (some ⟨w1.heap.size, 0, none⟩) 1 1]).run Tryz.prog ((w1.alloc (.cells #[.slice pa n pc, .slice ta s tc, .int .i64 0, .int .i64 3, .int .i64 0] 79)).drew) = .ok (.slice lo' (zs.length + 1) lc') W5 := by
    rw [hx] at q1
    unfold bkCells Blk.pv Blk.tv at q1
    simp only [hlt, hlb] at q1
    exact q1
   have HO5 : Aside (W5.ownsRow W1.heap.size 79 5 (.slice lo' (zs.length + 1) lc') (zs.length + 1) (bksCells (zs ++ [x])) /\ Below W1.heap.size W1 W5) := ⟨q2, (b2.trans (dd.below _)).trans q3⟩
   have HOD : Aside (∀ k, (W5.drewN k).ownsRow W1.heap.size 79 5 (.slice lo' (zs ++ [x]).length lc') (zs ++ [x]).length (bksCells (zs ++ [x])) /\ Below W1.heap.size W1 (W5.drewN k)) := fun k => by
    rw [hxl]
    exact ⟨own_drew HO5.out.1 (Drew.drewN _ _), HO5.out.2.trans ((Drew.drewN _ _).below _)⟩
   have HXL : Aside ((zs ++ [x]).length = zs.length + 1) := hxl
   have HAL : Aside (∀ y ∈ zs ++ [x], Listed W W1 ao y) := fun y hy => (List.mem_append.1 hy).elim (HLI.out y) (fun h => by rw [List.mem_singleton.1 h]; exact HBK.out)
   have HFK := Lib.hid hfk
   have HFF : Aside (True /\ (ps.drop n).length < f /\ f + 1 + zs.length <= D.length + 2 /\ (True)) := ⟨trivial, hfn, hfz, trivial⟩
   clear q1 q2 q3 q4 q5 b1 b2 dd HOW hxl HO5 hx hlt hlb hf2 hps HFI HF1 HLI HBK hfk hfn hfz hpf hIV hgo HR1 HWW HLE HD1 n3 n4 
   by_cases hpc : pc = n
   ·by_cases htc : tc = s
    ·have HNN : Aside (Left W W1 lv ao pa ta 0 0 (ps.drop n) (bb.drop s)) := by
      have := HN.out
      rwa [if_pos hpc, if_pos htc, hpc, htc, Nat.sub_self, Nat.sub_self] at this
     clear HN
     subst hpc htc
     go_region_law (refine step_append_run rfl _ _ _ _ rfl _ _ rfl rfl _ _ q1' ?_)
     go_wp2_with fail
     go_quiet (fail)
     go_wp2_with fail
     go_roundg f
     case measure => have := HFK.out; omega
     case rel => exact ⟨zs ++ [x], ps.drop _, bb.drop _, f, _, lo', _, _, lc', _, (by first | rfl | (rw [List.length_drop]; try (rw [Nat.sub_eq_zero_of_le ct]))), by rw [HXL.out], (by first | rfl | (rw [List.length_drop]; try (rw [Nat.sub_eq_zero_of_le cp]))), Nat.le_refl _, HFF.out.2.1, by have := HFF.out.2.2.1; rw [HXL.out]; omega, fun h => by rw [HXL.out] at h; omega, fun h => by rw [HXL.out] at h; omega, HNN.out, HOD.out _, HAL.out, HSTEP.out⟩
    ·have HNN : Aside (Left W W1 lv ao pa (ta.map (·.add s)) 0 (tc - s) (ps.drop n) (bb.drop s)) := by
      have := HN.out
      rwa [if_pos hpc, if_neg htc, hpc, Nat.sub_self] at this
     clear HN
     subst hpc
     go_region_law (refine step_append_run rfl _ _ _ _ rfl _ _ rfl rfl _ _ q1' ?_)
     go_wp2_with fail
     go_quiet (fail)
     go_wp2_with fail
     go_roundg f
     case measure => have := HFK.out; omega
     case rel => exact ⟨zs ++ [x], ps.drop _, bb.drop _, f, _, lo', _, _, lc', _, (by first | rfl | (rw [List.length_drop]; try (rw [Nat.sub_eq_zero_of_le ct]))), by rw [HXL.out], (by first | rfl | (rw [List.length_drop]; try (rw [Nat.sub_eq_zero_of_le cp]))), Nat.le_refl _, HFF.out.2.1, by have := HFF.out.2.2.1; rw [HXL.out]; omega, fun h => by rw [HXL.out] at h; omega, fun h => by rw [HXL.out] at h; omega, HNN.out, HOD.out _, HAL.out, HSTEP.out⟩
   ·by_cases htc : tc = s
    ·have HNN : Aside (Left W W1 lv ao (pa.map (·.add (n * 3))) ta (pc - n) 0 (ps.drop n) (bb.drop s)) := by
      have := HN.out
      rwa [if_neg hpc, if_pos htc, htc, Nat.sub_self] at this
     clear HN
     subst htc
     go_region_law (refine step_append_run rfl _ _ _ _ rfl _ _ rfl rfl _ _ q1' ?_)
     go_wp2_with fail
     go_quiet (fail)
     go_wp2_with fail
     go_roundg f
     case measure => have := HFK.out; omega
     case rel => exact ⟨zs ++ [x], ps.drop _, bb.drop _, f, _, lo', _, _, lc', _, (by first | rfl | (rw [List.length_drop]; try (rw [Nat.sub_eq_zero_of_le ct]))), by rw [HXL.out], (by first | rfl | (rw [List.length_drop]; try (rw [Nat.sub_eq_zero_of_le cp]))), Nat.le_refl _, HFF.out.2.1, by have := HFF.out.2.2.1; rw [HXL.out]; omega, fun h => by rw [HXL.out] at h; omega, fun h => by rw [HXL.out] at h; omega, HNN.out, HOD.out _, HAL.out, HSTEP.out⟩
    ·have HNN : Aside (Left W W1 lv ao (pa.map (·.add (n * 3))) (ta.map (·.add s)) (pc - n) (tc - s) (ps.drop n) (bb.drop s)) := by
      have := HN.out
      rwa [if_neg hpc, if_neg htc] at this
     clear HN
     go_region_law (refine step_append_run rfl _ _ _ _ rfl _ _ rfl rfl _ _ q1' ?_)
     go_wp2_with fail
     go_quiet (fail)
     go_wp2_with fail
     go_roundg f
     case measure => have := HFK.out; omega
     case rel => exact ⟨zs ++ [x], ps.drop _, bb.drop _, f, _, lo', _, _, lc', _, (by first | rfl | (rw [List.length_drop]; try (rw [Nat.sub_eq_zero_of_le ct]))), by rw [HXL.out], (by first | rfl | (rw [List.length_drop]; try (rw [Nat.sub_eq_zero_of_le cp]))), Nat.le_refl _, HFF.out.2.1, by have := HFF.out.2.2.1; rw [HXL.out]; omega, fun h => by rw [HXL.out] at h; omega, fun h => by rw [HXL.out] at h; omega, HNN.out, HOD.out _, HAL.out, HSTEP.out⟩
  ·have hRR := HRR.out
   rw [if_neg hgo] at hRR
   have hqz : ¬ (ps.length : Int) > 0 := by omega
   have hps0 : ps.length = 0 := by omega
   have hzz : ¬ (zs.length : Int) = 0 := by omega
   have hzb : ((zs.length : Int) == 0) = false := by rw [beq_eq_false_iff_ne]; exact hzz
   obtain ⟨ys, y, rfl⟩ : ∃ ys y, zs = ys ++ [y] := by
    rcases List.eq_nil_or_concat zs with h | ⟨l, a, h⟩
    ·rw [h] at hgo; exact absurd (.inl rfl) hgo
    ·exact ⟨l, a, by rw [h, List.concat_eq_append]⟩
   cases last with
   | false =>
    have HEQ : Aside ((ys ++ [y]).map Blk.p = blocksF lv 3 0 ((piecesD b lv).length + 2) (piecesD b lv) b) := by rw [hRR]; exact HR1.out.2
    clear hRR HRR HR1
    go_wp2_with fail
    go_ret
    first
     | refine ⟨lo, lc, ys ++ [y], ?_, ?_, W1, HOW.out.1, HWW.out, HOW.out.2, HLI.out⟩
     | refine ⟨lo, lc, ys ++ [y], W1, ?_, ?_, HOW.out.1, HWW.out, HOW.out.2, HLI.out⟩
    ·rw [List.length_append, List.length_singleton]; rfl
    ·first | exact HEQ.out | (rw [if_neg (by decide)]; exact HEQ.out)
   | true =>
    obtain ⟨m, hm⟩ : ∃ m, m = ys.length := ⟨_, rfl⟩
    have hml : (ys ++ [y]).length = m + 1 := by rw [List.length_append, List.length_singleton, hm]
    have HEQ : Aside ((ys ++ [({ y with p := { y.p with last := 1 } } : Blk)]).map Blk.p = blocksF lv 3 1 ((piecesD b lv).length + 2) (piecesD b lv) b) := by
     obtain ⟨ys', x', e1, e2⟩ := blocksF_last lv 3 1 ((piecesD b lv).length + 2) (piecesD b lv) b (by omega)
     rw [<- HR1.out.2, <- hRR, List.map_append, List.map_singleton] at e1
     obtain ⟨e3, e4⟩ := List.append_inj' e1 rfl
     rw [e2, <- e3, List.map_append, List.map_singleton]
     have e5 : y.p = x' := by simpa using e4
     rw [<- e5]
     exact rfl
    have hlx : (ys ++ [({ y with p := { y.p with last := 1 } } : Blk)]).length = m + 1 := by rw [List.length_append, List.length_singleton, hm]
    obtain ⟨o1, o2⟩ := HOW.out
    rw [hml] at o1
    obtain ⟨lo2, lc2, e, -, -, hno⟩ := own_shape o1
    simp only [Value.slice.injEq] at e
    obtain ⟨rfl, -, rfl⟩ := e
    obtain ⟨a, rfl⟩ : ∃ a, lo = some a := by
     cases lo with
     | none => have := (hno rfl).1; omega
     | some a => exact ⟨a, rfl⟩
    obtain ⟨g, rfl, g1, g2⟩ := own_block o1
    have hset : (bksCells (ys ++ [y])).set (m * 5 + 2) (.int .i64 1) = bksCells (ys ++ [({ y with p := { y.p with last := 1 } } : Blk)]) := by
     rw [bksCells_append, bksCells_append, bksCells_single, bksCells_single, List.set_append_right _ _ (by rw [bksCells_len]; omega), bksCells_len, show m * 5 + 2 - ys.length * 5 = 2 by omega]
     rfl
    have st1 := (o1.stored (m * 5 + 2) (.int .i64 1)).1
    rw [hset] at st1
    have HN : Aside ((wr.setCell ⟨g, m * 5 + 2, none⟩ (.int .i64 1)).ownsRow W1.heap.size 79 5 (.slice (some ⟨g, 0, none⟩) (m + 1) lc) (m + 1) (bksCells (ys ++ [({ y with p := { y.p with last := 1 } } : Blk)])) /\ Below W1.heap.size W1 (wr.setCell ⟨g, m * 5 + 2, none⟩ (.int .i64 1))) := ⟨st1, o2.trans (Below.setCell (Below.refl _ _) g1 _)⟩
    have cc : ∃ z : Int, wr.cell? ⟨g, m * 5 + 2, none⟩ = some (.int .i64 z) := by
     refine ⟨(y.p.last : Int), ?_⟩
     rw [o1.cellAt (m * 5 + 2) (by omega)]
     exact bksCells_at (ys ++ [y]) m y 2 (by rw [hm, List.getElem?_append_right (Nat.le_refl _), Nat.sub_self]; rfl) (by decide)
    have ff : wr.frozen? ⟨g, m * 5 + 2, none⟩ = false := by
     rcases o1.2 with ⟨hv, _⟩ | ⟨g', cap', cur, hv, _, hh, _⟩
     ·cases hv
     ·cases hv
      simp [World.frozen?, hh]
    obtain ⟨z, cc⟩ := cc
    have HLX : Aside (∀ x ∈ ys ++ [({ y with p := { y.p with last := 1 } } : Blk)], Listed W W1 ao x) := fun x hx => (List.mem_append.1 hx).elim (fun h => HLI.out x (List.mem_append.2 (.inl h))) (fun h => by
     rw [List.mem_singleton.1 h]
     exact HLI.out y (List.mem_append.2 (.inr (List.mem_singleton.2 rfl))))
    have HLEN : Aside ((ys ++ [({ y with p := { y.p with last := 1 } } : Blk)]).length = m + 1) := hlx
    have i0 : (0 : Int) <= (m : Int) := by omega
    have i1 : (m : Int) < ((m + 1 : Nat) : Int) := by omega
    have i2 : (m : Int) < (m : Int) + 1 := by omega
    have w1 : IntKind.i64.wrap (((m + 1 : Nat) : Int) - 1) = (m : Int) := by rw [IntKind.wrap_i64]; omega
    have w2 : IntKind.i64.wrap ((m : Int) + 1 - 1) = (m : Int) := by rw [IntKind.wrap_i64]; omega
    have w3 : IntKind.i64.wrap (m : Int) = (m : Int) := by rw [IntKind.wrap_i64]; omega
    have hzz2 : ¬ ((m + 1 : Nat) : Int) = 0 := by omega
    have hzb2 : (((m + 1 : Nat) : Int) == 0) = false := by rw [beq_eq_false_iff_ne]; exact hzz2
    have hzz3 : ¬ (m : Int) + 1 = 0 := by omega
    have hzb3 : (((m : Int) + 1) == 0) = false := by rw [beq_eq_false_iff_ne]; exact hzz3
    rw [hml, hps0]
    clear hqz hzz hzb hgo hpf hfz hf2 hIV HLE o1 o2 hno hset st1 HOW HLI hRR HRR HR1 hml hlx hm
    go_wp2_with fail
    go_ret
    first
     | refine ⟨some ⟨g, 0, none⟩, lc, ys ++ [({ y with p := { y.p with last := 1 } } : Blk)], ?_, ?_, W1, ?_, HWW.out, HN.out.2, HLX.out⟩
     | refine ⟨some ⟨g, 0, none⟩, lc, ys ++ [({ y with p := { y.p with last := 1 } } : Blk)], W1, ?_, ?_, ?_, HWW.out, HN.out.2, HLX.out⟩
    ·rw [HLEN.out]; rfl
    ·first | exact HEQ.out | (rw [if_pos rfl]; exact HEQ.out)
    ·rw [HLEN.out]; exact HN.out.1
end Go.Proofs.YthmbbpfgbpacnaaGreatDoor.Def
namespace Go.Proofs.YthmbbpfgbpacnaaGreatDoor.Def
open Go.RowKit Go.Shelf Go.Lib Mem Bit Huf Lz Inf
set_option maxRecDepth 100000 in
set_option maxHeartbeats 8000000 in
theorem blocks_1e (W : World) (ao : Option Addr) (c : Nat) (b : List UInt8) (lv : Nat) (last : Bool) (hs : Mem.Src W (.slice ao b.length c) b) (hc : b.length <= c) (hb : b.length <= 524288) (hl : lv <= 9) (hbk : ∀ a, ao = some a -> a.block < W.heap.size) (h0 : lv ≠ 0) (hD0 : (piecesD b lv).length = 0) :
  Calls Tryz.prog 27 #[.slice ao b.length c, .int .i64 (lv : Int), .bool last] W fun e w' => ∃ lo lc xs W1, e = .returned (.slice lo xs.length lc) /\ xs.map Blk.p = blocksF lv 3 (if last then 1 else 0) ((piecesD b lv).length + 2) (piecesD b lv) b /\ w'.ownsRow W1.heap.size 79 5 (.slice lo xs.length lc) xs.length (bksCells xs) /\ Below W.heap.size W W1 /\ Below W1.heap.size W1 w' /\ (∀ x ∈ xs, Listed W W1 ao x) := by
 have HP := Lib.hid (piecesOf_any W ao c b lv hs hc (by omega) hl)
 have HE : Aside (expR (piecesD b lv) ((1048576 : Nat) : Int) [] = (b, 0) /\ (lv = 0 -> ∀ p ∈ piecesD b lv, p.len = 0)) := ⟨piecesD_exp b lv (by omega) hl, fun e => absurd e h0⟩
 have HS : Aside (Mem.Src W (.slice ao b.length c) b /\ b.length <= c /\ ∀ a, ao = some a -> a.block < W.heap.size) := ⟨hs, hc, hbk⟩
 have hDl := exp_len _ _ _ _ HE.out.1
 have hDg := sumP_ge (piecesD b lv)
 have hDn : (piecesD b lv).length <= 524288 := by rw [List.length_nil] at hDl; omega
 have h0z : ¬ (lv : Int) = 0 := by omega
 have h0b : ((lv : Int) == 0) = false := by rw [beq_eq_false_iff_ne]; exact h0z
 obtain ⟨D, hD⟩ : ∃ D, D = piecesD b lv := ⟨_, rfl⟩
 rw [<- hD] at HP HE hDn hD0
 obtain ⟨R, hR⟩ : ∃ R, R = blocksF lv 3 0 (D.length + 2) D b := ⟨_, rfl⟩
 have HR0 : Aside (blocksF lv 3 0 (D.length + 2) D b = R) := hR.symm
 have HR1 : Aside (D = piecesD b lv /\ R = blocksF lv 3 0 ((piecesD b lv).length + 2) (piecesD b lv) b) := ⟨hD, by rw [hR, hD]⟩
 clear hs hc hbk hDl hDg hD hR
 go_enter Tryz.func27, Tryz.ntmps27
 go_upto_region 6 with (go_at_call 39; refine HP.out.mono ?_; rintro e W1 ⟨v, rfl, y1, y2⟩; obtain ⟨pa, pc, rfl, pc1, pc2, pc3⟩ := own_shape y1; have HY := Lib.hid (And.intro y1 y2); clear y1 y2)
 have HL0 : Aside (Left W W1 lv ao pa ao pc c D b /\ Below W.heap.size W W1 /\ W1.ownsRow W1.heap.size 79 5 (.slice none 0 0) 0 (bksCells [])) := by
  obtain ⟨y1, y2⟩ := HY.out
  obtain ⟨s1, s2, s3⟩ := HS.out
  refine ⟨⟨SrcP.of_own y1 rfl, s1.below y2, pc1, s2, fun a e => ?_, fun a e => ⟨⟨a, e, rfl⟩, Nat.lt_of_lt_of_le (s3 a e) y2.size⟩, ⟨[], by rw [List.nil_append]; exact HE.out.1⟩, by first | exact HE.out.2 | exact fun _ => HE.out.2 trivial⟩, y2, ⟨rfl, .inl ⟨rfl, rfl⟩⟩⟩
  subst e
  obtain ⟨g, rfl, g1, g2⟩ := own_block y1
  exact ⟨g1, g2⟩
 have HX0 : Aside (∀ x ∈ ([] : List Blk), Listed W W1 ao x) := fun x hx => by cases hx
 clear HP HS HE HY pc1 pc2 pc3
 go_loopg [0, 8, 9, 10, 11] (D.length + 2) (fun kx s0 s8 s9 s10 s11 wr => ∃ (zs : List Blk) (ps : List Pc) (bb : List UInt8) (f : Nat) (ta lo pa : Option Addr) (tc lc pc : Nat), s0 = .slice ta bb.length tc /\ s8 = .slice lo zs.length lc /\ s9 = .slice pa ps.length pc /\ f <= kx /\ ps.length < f /\ f + zs.length <= D.length + 2 /\ (zs.length = 0 -> 2 <= f) /\ (ps.length = 0) /\ Aside (Left W W1 lv ao pa ta pc tc ps bb) /\ Aside (wr.ownsRow W1.heap.size 79 5 (.slice lo zs.length lc) zs.length (bksCells zs) /\ Below W1.heap.size W1 wr) /\ Aside (∀ x ∈ zs, Listed W W1 ao x) /\ Aside ((if zs.length = 0 \/ 0 < ps.length then zs.map Blk.p ++ blocksF lv 3 0 f ps bb else zs.map Blk.p) = R))
 case atStart => exact ⟨[], D, b, D.length + 2, ao, none, pa, c, 0, pc, rfl, rfl, by first | rfl | rw [hD0], Nat.le_refl _, by omega, Nat.le_refl _, fun _ => by omega, hD0, HL0.out.1, ⟨HL0.out.2.2, Below.refl _ _⟩, HX0.out, by rw [if_pos (.inl rfl)]; exact HR0.out⟩
 case round =>
  have HWW : Aside (Below W.heap.size W W1) := HL0.out.2.1
  clear HL0 HR0 HX0
  obtain ⟨zs, ps, bb, f, ta, lo, pa, tc, lc, pc, rfl, rfl, rfl, hfk, hpf, hfz, hf2, hIV, HLE, HOW, HLI, HRR⟩ := hrel
  by_cases hgo : zs.length = 0 \/ 0 < ps.length
  ·have hRR := HRR.out
   rw [if_pos hgo] at hRR
   obtain ⟨f, rfl⟩ : ∃ f', f = f' + 1 := ⟨f - 1, by omega⟩
   obtain ⟨n1, n2, n3, n4⟩ := HLE.out.fill
   have cp := HLE.out.cp
   have ct := HLE.out.ct
   have HFI := fun w => fun (hb : Below W1.heap.size W1 w) => Lib.hid (fill_any w (.slice pa ps.length pc) ps lv (HLE.out.sp.below hb) (by obtain ⟨out, he⟩ := HLE.out.ex; exact expR_may _ _ _ _ he) (by omega))
   have HN : Aside (Left W W1 lv ao _ _ _ _ (ps.drop (fillF lv ps 0 0).1) (bb.drop (fillF lv ps 0 0).2)) := HLE.out.next
   have HBK : Aside (Listed W W1 ao ⟨pa, pc, ta, tc, ⟨ps.take (fillF lv ps 0 0).1, bb.take (fillF lv ps 0 0).2, 0, 3⟩⟩) := HLE.out.block
   have HSTEP : Aside ((if (zs ++ [(⟨pa, pc, ta, tc, ⟨ps.take (fillF lv ps 0 0).1, bb.take (fillF lv ps 0 0).2, 0, 3⟩⟩ : Blk)]).length = 0 \/ 0 < (ps.drop (fillF lv ps 0 0).1).length then (zs ++ [(⟨pa, pc, ta, tc, ⟨ps.take (fillF lv ps 0 0).1, bb.take (fillF lv ps 0 0).2, 0, 3⟩⟩ : Blk)]).map Blk.p ++ blocksF lv 3 0 f (ps.drop (fillF lv ps 0 0).1) (bb.drop (fillF lv ps 0 0).2) else (zs ++ [(⟨pa, pc, ta, tc, ⟨ps.take (fillF lv ps 0 0).1, bb.take (fillF lv ps 0 0).2, 0, 3⟩⟩ : Blk)]).map Blk.p) = R) := by
    rw [<- hRR]
    rw [blocksF_succ, List.length_append, List.length_singleton, List.length_drop, List.map_append, List.map_singleton]
    by_cases hc : (fillF lv ps 0 0).1 < ps.length
    ·rw [if_pos hc, if_pos (.inr (by omega)), List.append_assoc]
     exact rfl
    ·rw [if_neg hc, if_neg (by omega)]
     exact rfl
   have hps : 0 < ps.length -> 1 <= (fillF lv ps 0 0).1 := fun h => by
    cases ps with
    | nil => cases h
    | cons p ps => exact fillF_pos lv p ps
   obtain ⟨n, hn⟩ : ∃ n, n = (fillF lv ps 0 0).1 := ⟨_, rfl⟩
   obtain ⟨s, hs⟩ : ∃ s, s = (fillF lv ps 0 0).2 := ⟨_, rfl⟩
   rw [<- hn, <- hs] at HN HBK HSTEP
   rw [<- hn] at n1 n3 hps
   rw [<- hs] at n2 n4
   simp only [<- hn, <- hs] at HFI
   have hfn : (ps.drop n).length < f := by
    rw [List.length_drop]
    by_cases hz : 0 < ps.length
    ·have := hps hz; omega
    ·have hfz' : zs.length = 0 := by omega
     omega
   have hlt : (ps.take n).length = n := by rw [List.length_take]; omega
   have hlb : (bb.take s).length = s := by rw [List.length_take]; omega
   clear hRR HRR hn hs
   have z1 : (n : Int) <= (ps.length : Int) := by omega
   have z2 : (n : Int) <= (pc : Int) := by omega
   have z3 : (s : Int) <= (bb.length : Int) := by omega
   have z4 : (s : Int) <= (tc : Int) := by omega
   have z5 : (0 : Int) <= (n : Int) := by omega
   have z6 : (0 : Int) <= (s : Int) := by omega
   have HF1 := HFI wr HOW.out.2
   obtain ⟨x, hx⟩ : ∃ x : Blk, x = ⟨pa, pc, ta, tc, ⟨ps.take n, bb.take s, 0, 3⟩⟩ := ⟨_, rfl⟩
   rw [<- hx] at HBK HSTEP
   have hq2 : zs.length = 0 := by omega
   obtain rfl : ps = [] := List.eq_nil_of_length_eq_zero hIV
   obtain rfl : zs = [] := List.eq_nil_of_length_eq_zero hq2
   obtain rfl : bb = [] := by
    obtain ⟨out, he⟩ := HLE.out.ex
    have h1 := exp_len _ _ _ _ he
    rw [List.length_append] at h1
    have h2 : sumP [] = 0 := rfl
    exact List.eq_nil_of_length_eq_zero (by omega)
   have hf1 : 0 < f := Nat.lt_of_le_of_lt (Nat.zero_le _) hfn
   simp only [List.length_nil] at *
   obtain rfl : n = 0 := by omega
   obtain rfl : s = 0 := by omega
   clear z1 z2 z3 z4 z5 z6 hq2
   go_upto_region 8 with (go_at_call 40; refine HF1.out.mono ?_; rintro e w1 ⟨rfl, d1⟩; have HD1 := Lib.hid d1; clear d1)
   obtain ⟨b1, b2⟩ := HOW.out
   have dd : Drew wr w1.drew := HD1.out.trans ⟨rfl, rfl, rfl, rfl⟩
   obtain ⟨v', W5, q1, q2, q3, q4, q5⟩ := push_blk w1.drew W1.heap.size _ ([] : List Blk) x (own_drew b1 dd) (Nat.le_trans b2.size (by rw [dd.heap]; exact Nat.le_refl _)) (by first | omega | (simp only [List.length_nil]; omega))
   obtain ⟨lo', lc', rfl, -, -, -⟩ := own_shape q2
   have hxl : (([] : List Blk) ++ [x]).length = ([] : List Blk).length + 1 := by rw [List.length_append, List.length_singleton]
   rw [hxl] at q1 q2
   have q1' : (Builtin.append_ #[59, 59] 59 #[.slice lo ([] : List Blk).length lc, .slice (some ⟨w1.heap.size, 0, none⟩) 1 1]).run Tryz.prog ((w1.alloc (.cells #[.slice pa 0 pc, .slice ta 0 tc, .int .i64 0, .int .i64 3, .int .i64 0] 79)).drew) = .ok (.slice lo' (([] : List Blk).length + 1) lc') W5 := by
    rw [hx] at q1
    unfold bkCells Blk.pv Blk.tv at q1
    simp only [hlt, hlb] at q1
    exact q1
   have HO5 : Aside (W5.ownsRow W1.heap.size 79 5 (.slice lo' (([] : List Blk).length + 1) lc') (([] : List Blk).length + 1) (bksCells (([] : List Blk) ++ [x])) /\ Below W1.heap.size W1 W5) := ⟨q2, (b2.trans (dd.below _)).trans q3⟩
   have HOD : Aside (∀ k, (W5.drewN k).ownsRow W1.heap.size 79 5 (.slice lo' (([] : List Blk) ++ [x]).length lc') (([] : List Blk) ++ [x]).length (bksCells (([] : List Blk) ++ [x])) /\ Below W1.heap.size W1 (W5.drewN k)) := fun k => by
    rw [hxl]
    exact ⟨own_drew HO5.out.1 (Drew.drewN _ _), HO5.out.2.trans ((Drew.drewN _ _).below _)⟩
   have HNN : Aside (Left W W1 lv ao pa ta pc tc ([] : List Pc) ([] : List UInt8)) := HLE.out
   have HXL : Aside ((([] : List Blk) ++ [x]).length = ([] : List Blk).length + 1) := hxl
   have HAL : Aside (∀ y ∈ ([] : List Blk) ++ [x], Listed W W1 ao y) := fun y hy => (List.mem_append.1 hy).elim (HLI.out y) (fun h => by rw [List.mem_singleton.1 h]; exact HBK.out)
   have HFK := Lib.hid hfk
   have HFF : Aside (True /\ 0 < f /\ f + 1 + ([] : List Blk).length <= D.length + 2 /\ (True)) := ⟨trivial, hf1, hfz, trivial⟩
   clear HN q1 q2 q3 q4 q5 b1 b2 dd HOW hxl HO5 hx hlt hlb hf2 hps HFI HF1 HLI HBK hfk hfn hf1 hfz hpf hIV hgo HR1 HWW HLE HD1 n3 n4 
   go_region_law (refine step_append_run rfl _ _ _ _ rfl _ _ rfl rfl _ _ q1' ?_)
   go_wp2_with fail
   go_quiet (fail)
   go_wp2_with fail
   go_roundg f
   case measure => have := HFK.out; omega
   case rel => exact ⟨([] : List Blk) ++ [x], ([] : List Pc), ([] : List UInt8), f, ta, lo', pa, tc, lc', pc, rfl, by first | rfl | rw [HXL.out], rfl, Nat.le_refl _, HFF.out.2.1, by have := HFF.out.2.2.1; rw [HXL.out]; omega, fun h => by rw [HXL.out] at h; omega, rfl, HNN.out, HOD.out _, HAL.out, HSTEP.out⟩
  ·have hRR := HRR.out
   rw [if_neg hgo] at hRR
   have hqz : ¬ (ps.length : Int) > 0 := by omega
   have hps0 : ps.length = 0 := by omega
   have hzz : ¬ (zs.length : Int) = 0 := by omega
   have hzb : ((zs.length : Int) == 0) = false := by rw [beq_eq_false_iff_ne]; exact hzz
   obtain ⟨ys, y, rfl⟩ : ∃ ys y, zs = ys ++ [y] := by
    rcases List.eq_nil_or_concat zs with h | ⟨l, a, h⟩
    ·rw [h] at hgo; exact absurd (.inl rfl) hgo
    ·exact ⟨l, a, by rw [h, List.concat_eq_append]⟩
   cases last with
   | false =>
    have HEQ : Aside ((ys ++ [y]).map Blk.p = blocksF lv 3 0 ((piecesD b lv).length + 2) (piecesD b lv) b) := by rw [hRR]; exact HR1.out.2
    clear hRR HRR HR1
    go_wp2_with fail
    go_ret
    first
     | refine ⟨lo, lc, ys ++ [y], ?_, ?_, W1, HOW.out.1, HWW.out, HOW.out.2, HLI.out⟩
     | refine ⟨lo, lc, ys ++ [y], W1, ?_, ?_, HOW.out.1, HWW.out, HOW.out.2, HLI.out⟩
    ·rw [List.length_append, List.length_singleton]; rfl
    ·first | exact HEQ.out | (rw [if_neg (by decide)]; exact HEQ.out)
   | true =>
    obtain ⟨m, hm⟩ : ∃ m, m = ys.length := ⟨_, rfl⟩
    have hml : (ys ++ [y]).length = m + 1 := by rw [List.length_append, List.length_singleton, hm]
    have HEQ : Aside ((ys ++ [({ y with p := { y.p with last := 1 } } : Blk)]).map Blk.p = blocksF lv 3 1 ((piecesD b lv).length + 2) (piecesD b lv) b) := by
     obtain ⟨ys', x', e1, e2⟩ := blocksF_last lv 3 1 ((piecesD b lv).length + 2) (piecesD b lv) b (by omega)
     rw [<- HR1.out.2, <- hRR, List.map_append, List.map_singleton] at e1
     obtain ⟨e3, e4⟩ := List.append_inj' e1 rfl
     rw [e2, <- e3, List.map_append, List.map_singleton]
     have e5 : y.p = x' := by simpa using e4
     rw [<- e5]
     exact rfl
    have hlx : (ys ++ [({ y with p := { y.p with last := 1 } } : Blk)]).length = m + 1 := by rw [List.length_append, List.length_singleton, hm]
    obtain ⟨o1, o2⟩ := HOW.out
    rw [hml] at o1
    obtain ⟨lo2, lc2, e, -, -, hno⟩ := own_shape o1
    simp only [Value.slice.injEq] at e
    obtain ⟨rfl, -, rfl⟩ := e
    obtain ⟨a, rfl⟩ : ∃ a, lo = some a := by
     cases lo with
     | none => have := (hno rfl).1; omega
     | some a => exact ⟨a, rfl⟩
    obtain ⟨g, rfl, g1, g2⟩ := own_block o1
    have hset : (bksCells (ys ++ [y])).set (m * 5 + 2) (.int .i64 1) = bksCells (ys ++ [({ y with p := { y.p with last := 1 } } : Blk)]) := by
     rw [bksCells_append, bksCells_append, bksCells_single, bksCells_single, List.set_append_right _ _ (by rw [bksCells_len]; omega), bksCells_len, show m * 5 + 2 - ys.length * 5 = 2 by omega]
     rfl
    have st1 := (o1.stored (m * 5 + 2) (.int .i64 1)).1
    rw [hset] at st1
    have HN : Aside ((wr.setCell ⟨g, m * 5 + 2, none⟩ (.int .i64 1)).ownsRow W1.heap.size 79 5 (.slice (some ⟨g, 0, none⟩) (m + 1) lc) (m + 1) (bksCells (ys ++ [({ y with p := { y.p with last := 1 } } : Blk)])) /\ Below W1.heap.size W1 (wr.setCell ⟨g, m * 5 + 2, none⟩ (.int .i64 1))) := ⟨st1, o2.trans (Below.setCell (Below.refl _ _) g1 _)⟩
    have cc : ∃ z : Int, wr.cell? ⟨g, m * 5 + 2, none⟩ = some (.int .i64 z) := by
     refine ⟨(y.p.last : Int), ?_⟩
     rw [o1.cellAt (m * 5 + 2) (by omega)]
     exact bksCells_at (ys ++ [y]) m y 2 (by rw [hm, List.getElem?_append_right (Nat.le_refl _), Nat.sub_self]; rfl) (by decide)
    have ff : wr.frozen? ⟨g, m * 5 + 2, none⟩ = false := by
     rcases o1.2 with ⟨hv, _⟩ | ⟨g', cap', cur, hv, _, hh, _⟩
     ·cases hv
     ·cases hv
      simp [World.frozen?, hh]
    obtain ⟨z, cc⟩ := cc
    have HLX : Aside (∀ x ∈ ys ++ [({ y with p := { y.p with last := 1 } } : Blk)], Listed W W1 ao x) := fun x hx => (List.mem_append.1 hx).elim (fun h => HLI.out x (List.mem_append.2 (.inl h))) (fun h => by
     rw [List.mem_singleton.1 h]
     exact HLI.out y (List.mem_append.2 (.inr (List.mem_singleton.2 rfl))))
    have HLEN : Aside ((ys ++ [({ y with p := { y.p with last := 1 } } : Blk)]).length = m + 1) := hlx
    have i0 : (0 : Int) <= (m : Int) := by omega
    have i1 : (m : Int) < ((m + 1 : Nat) : Int) := by omega
    have i2 : (m : Int) < (m : Int) + 1 := by omega
    have w1 : IntKind.i64.wrap (((m + 1 : Nat) : Int) - 1) = (m : Int) := by rw [IntKind.wrap_i64]; omega
    have w2 : IntKind.i64.wrap ((m : Int) + 1 - 1) = (m : Int) := by rw [IntKind.wrap_i64]; omega
    have w3 : IntKind.i64.wrap (m : Int) = (m : Int) := by rw [IntKind.wrap_i64]; omega
    have hzz2 : ¬ ((m + 1 : Nat) : Int) = 0 := by omega
    have hzb2 : (((m + 1 : Nat) : Int) == 0) = false := by rw [beq_eq_false_iff_ne]; exact hzz2
    have hzz3 : ¬ (m : Int) + 1 = 0 := by omega
    have hzb3 : (((m : Int) + 1) == 0) = false := by rw [beq_eq_false_iff_ne]; exact hzz3
    rw [hml, hps0]
    clear hqz hzz hzb hgo hpf hfz hf2 hIV HLE o1 o2 hno hset st1 HOW HLI hRR HRR HR1 hml hlx hm
    go_wp2_with fail
    go_ret
    first
     | refine ⟨some ⟨g, 0, none⟩, lc, ys ++ [({ y with p := { y.p with last := 1 } } : Blk)], ?_, ?_, W1, ?_, HWW.out, HN.out.2, HLX.out⟩
     | refine ⟨some ⟨g, 0, none⟩, lc, ys ++ [({ y with p := { y.p with last := 1 } } : Blk)], W1, ?_, ?_, ?_, HWW.out, HN.out.2, HLX.out⟩
    ·rw [HLEN.out]; rfl
    ·first | exact HEQ.out | (rw [if_pos rfl]; exact HEQ.out)
    ·rw [HLEN.out]; exact HN.out.1
end Go.Proofs.YthmbbpfgbpacnaaGreatDoor.Def
