/- Package huff's coins, and their merging with pairs. Package huff's pairs. Package huff's rows, up to the last one; which counts may be. -/
import Derived.Test.YthmbbpfgbpacnaaGreatDoorPmHufJ
import Derived.Test.YthmbbpfgbpacnaaGreatDoorPmSrtH
import Derived.WalkMore
import Derived.Deep.RegionLaw
import Derived.Deep.RegionHeld3
import Derived.Deep.CutRange
import Derived.Deep.Cut
namespace Go.Proofs.YthmbbpfgbpacnaaGreatDoor.Huf
open Go.RowKit Go.Shelf Go.Lib Mem
theorem info_item : (Tryz.prog.info? 216).map (fun i => (i.zero, i.size, i.bytes)) = some (some (.agg #[.int .i64 0, .slice none 0 0]), 2, 32) := by kernel_rfl
def valOf (l : List Int) (s : Nat) : Nat := (numAt l s).toNat
set_option maxHeartbeats 4000000 in
theorem coinsOf_any (W : World) (v1 v2 : Value) (l : List Int) (r : List Nat) (h1 : SrcI W v1 l) (h2 : SrcI W v2 (natI r)) (hl : l.length <= 1048576) (hr : r.length <= 1048576) (hin : ∀ s ∈ r, s < l.length /\ 0 <= numAt l s) :
  Calls Tryz.prog 155 #[v1, v2] W fun e w' => ∃ u, e = .returned u /\ ∃ xs, OwnIt 216 w' W.heap.size u xs /\ xs.map ItV.item = r.map (coin (valOf l)) /\ (∀ x ∈ xs, ∀ a, x.ba = some a -> W.heap.size <= a.block) /\ Below W.heap.size W w' := by
 obtain ⟨ao1, c1, rfl, hao1⟩ := h1.shape
 obtain ⟨ao2, c2, rfl, hao2⟩ := h2.shape
 rw [natI_len] at hao2 h2
 rw [natI_len]
 have H1 : Aside (SrcI W (.slice ao1 l.length c1) l) := h1
 have H2 : Aside (SrcI W (.slice ao2 r.length c2) (natI r)) := h2
 have HL1 : Aside (0 < l.length -> ∃ a, ao1 = some a) := hao1
 have HL2 : Aside (0 < r.length -> ∃ a, ao2 = some a) := hao2
 have HIN : Aside (∀ s ∈ r, s < l.length /\ 0 <= numAt l s) := hin
 clear h1 h2 hao1 hao2 hin
 go_enter Tryz.func155, Tryz.ntmps155
 go_wp2_with fail
 go_loopg [5, 10] r.length (fun kx s5 s10 wr => ∃ (i : Nat) (u : Value), s10 = .int .i64 i /\ u = s5 /\ i <= r.length /\ r.length - i <= kx /\ Aside (Below W.heap.size W wr /\ ∃ xs, OwnIt 216 wr W.heap.size u xs /\ xs.map ItV.item = (r.take i).map (coin (valOf l)) /\ (∀ x ∈ xs, ∀ a, x.ba = some a -> W.heap.size <= a.block)))
 case atStart => exact ⟨0, _, rfl, rfl, Nat.zero_le _, Nat.le_refl _, Below.refl _ _, [], OwnIt.nil _ _ _, rfl, fun x hx => by cases hx⟩
 case round =>
  obtain ⟨i, u, rfl, rfl, hi, hkx, HR⟩ := hrel
  by_cases hlt : i < r.length
  ·have hltz : (i : Int) < (r.length : Int) := by omega
   obtain ⟨p, rfl⟩ := HL2.out (by omega)
   obtain ⟨hb, xs, hx1, hx2, hx3⟩ := HR.out
   have hin := HIN.out r[i] (List.getElem_mem hlt)
   obtain ⟨a, rfl⟩ := HL1.out (by omega)
   have cs : wr.cell? (p.add i) = some (.int .i64 ((r[i] : Nat) : Int)) := by
    have := srci_cell (H2.out.below hb) i (by rw [natI_len]; exact hlt)
    rw [this]
    unfold natI
    rw [List.getElem_map]
    rfl
   have cc : wr.cell? (a.add r[i]) = some (.int .i64 ((valOf l r[i] : Nat) : Int)) := by
    have := srci_cell (H1.out.below hb) r[i] hin.1
    rw [this, <- numAt_eq l _ hin.1]
    unfold valOf
    rw [Int.toNat_of_nonneg hin.2]
   have htk : r.take (i + 1) = r.take i ++ [r[i]] := List.take_succ_eq_append_getElem hlt
   obtain ⟨s, hs⟩ : ∃ s, s = r[i] := ⟨_, rfl⟩
   rw [<- hs] at hin cs cc htk
   obtain ⟨cn, hcn⟩ : ∃ c, c = valOf l s := ⟨_, rfl⟩
   rw [<- hcn] at cc
   have hA := (Below.refl wr.heap.size wr).alloc (Nat.le_refl _) (.cells #[.int .i64 (s : Int)] 3)
   have hszA : (wr.alloc (.cells #[.int .i64 (s : Int)] 3)).heap.size = wr.heap.size + 1 := by simp
   have hsrc : SrcI (wr.alloc (.cells #[.int .i64 (s : Int)] 3)) (.slice (some ⟨wr.heap.size, 0, none⟩) 1 1) [(s : Int)] := .inr ⟨_, 1, rfl, fun j v hj => by
    rw [Lib.addr_add, cell_of_row _ _ _ _ _ (0, 0) (heap_alloc_new _ _), Nat.zero_add]
    cases j with
    | zero => simpa [iVs, iV] using hj
    | succ j => simp [iVs] at hj⟩
   obtain ⟨v', W', q1, q2, q3, q4, q5, q6⟩ := (hx1.below hA).push Tryz.underlying212 info_item (Nat.le_trans hb.size hA.size) ⟨cn, [s], some ⟨wr.heap.size, 0, none⟩, 1⟩ ⟨hsrc, Nat.zero_lt_one⟩ (fun a ha e => by
    cases ha
    have := (hx1.row.lt _ e).2
    exact Nat.lt_irrefl _ this) (by
     have := congrArg List.length hx2
     rw [List.length_map, List.length_map, List.length_take] at this
     omega)
   rw [hszA] at q1
   have HQ : Aside (Below W.heap.size W W' /\ ∃ xs, OwnIt 216 W' W.heap.size v' xs /\ xs.map ItV.item = (r.take (i + 1)).map (coin (valOf l)) /\ (∀ x ∈ xs, ∀ a, x.ba = some a -> W.heap.size <= a.block)) := by
    refine ⟨hb.trans ((hA.mono hb.size).trans q3), _, q2, ?_, fun x hx a ha => ?_⟩
    rotate_left
    ·rcases List.mem_append.1 hx with hx | hx
     ·exact hx3 x hx a ha
     ·rw [List.mem_singleton.1 hx] at ha
      cases ha
      exact hb.size
    rw [List.map_append, hx2, htk, List.map_append]
    simp [ItV.item, coin, hcn]
   have hsl : (s : Int) < (l.length : Int) := by omega
   clear hb hx1 hx2 hx3 q2 q3 q4 q5 q6 hA hsrc hszA htk hs hcn hin HR xs
   go_wp2_with (at_builtin; refine wpList_append_at _ rfl _ _ _ _ rfl _ _ rfl rfl _ _ q1 ?_)
   go_roundg (r.length - (i + 1))
   case measure => omega
   case rel => exact ⟨i + 1, _, by go_num, rfl, by omega, Nat.le_refl _, HQ⟩
  ·obtain rfl : i = r.length := by omega
   have hltz : ¬ (r.length : Int) < (r.length : Int) := by omega
   go_wp2_with fail
   go_ret
   obtain ⟨hb, xs, hx1, hx2, hx3⟩ := HR.out
   rw [List.take_length] at hx2
   exact ⟨_, rfl, xs, hx1, hx2, hx3, hb⟩
theorem mergeS_cons (x y : Item) (a b : List Item) : mergeS (x :: a) (y :: b) = if x.1 <= y.1 then x :: mergeS a (y :: b) else y :: mergeS (x :: a) b := by
 rw [mergeS]
 by_cases h : x.1 <= y.1
 ·rw [if_pos h, if_neg (by omega)]
 ·rw [if_neg h, if_pos (by omega)]
theorem mergeS_nil (a : List Item) : mergeS a [] = a := by cases a <;> rw [mergeS]
theorem nil_mergeS (b : List Item) : mergeS [] b = b := by rw [mergeS]
set_option maxHeartbeats 8000000 in
set_option maxRecDepth 100000 in
theorem merged_any (W : World) (v1 v2 : Value) (cs ps : List ItV) (h1 : SrcIt W v1 cs) (h2 : SrcIt W v2 ps) (hlim : cs.length + ps.length <= 1048576) (hcap : ∀ x ∈ cs ++ ps, x.n <= 4611686018427387904) :
  Calls Tryz.prog 163 #[v1, v2] W fun e w' => ∃ u, e = .returned u /\ ∃ xs, OwnIt 216 w' W.heap.size u xs /\ xs.map ItV.item = mergeS (cs.map ItV.item) (ps.map ItV.item) /\ (∀ x ∈ xs, x ∈ cs ++ ps) /\ Below W.heap.size W w' := by
 have H0 : Aside (SrcIt W v1 cs /\ SrcIt W v2 ps /\ (∀ x ∈ cs ++ ps, ItS W x)) := ⟨h1, h2, fun x hx => (List.mem_append.1 hx).elim (h1.its x) (h2.its x)⟩
 clear h1 h2
 go_enter Tryz.func163, Tryz.ntmps163
 go_wp2_with fail
 go_step3
 go_wp2_with fail
 go_step3
 go_wp2_with fail
 go_loopg [0, 1, 5] (cs.length + ps.length) (fun kx s0 s1 s5 wr => ∃ (u0 u1 u5 : Value) (cr pr d : List ItV), u0 = s0 /\ u1 = s1 /\ u5 = s5 /\ cr.length + pr.length <= kx /\ Aside (Below W.heap.size W wr /\ SrcIt W u0 cr /\ SrcIt W u1 pr /\ OwnIt 216 wr W.heap.size u5 d /\
  d.map ItV.item ++ mergeS (cr.map ItV.item) (pr.map ItV.item) = mergeS (cs.map ItV.item) (ps.map ItV.item) /\ d.length + cr.length + pr.length = cs.length + ps.length /\ (∀ x ∈ cr, x ∈ cs ++ ps) /\ (∀ x ∈ pr, x ∈ cs ++ ps) /\ (∀ x ∈ d, x ∈ cs ++ ps)))
 case atStart => exact ⟨_, _, _, cs, ps, [], rfl, rfl, rfl, Nat.le_refl _, Below.refl _ _, H0.out.1, H0.out.2.1, OwnIt.nil _ _ _, rfl, by simp, fun x hx => List.mem_append_left _ hx, fun x hx => List.mem_append_right _ hx, fun x hx => by cases hx⟩
 case round =>
  obtain ⟨u0, u1, u5, cr, pr, d, rfl, rfl, rfl, hkx, HR⟩ := hrel
  obtain ⟨r1, r2, r3, r4, r5, r6, r7, r8, r9⟩ := HR.out
  have sepd : ∀ x ∈ cs ++ ps, ∀ a, x.ba = some a -> u5.ownBlock ≠ some a.block := fun x hx a ha e => by
   have l1 := (H0.out.2.2 x hx).lt ha
   have l2 := (r4.row.lt _ e).1
   omega
  obtain ⟨ao0, c0, hv0, k1, k2, k3⟩ := r2.sh
  obtain ⟨ao1, c1, hv1, m1, m2, m3⟩ := r3.sh
  subst hv0 hv1
  cases cr with
  | nil =>
   obtain ⟨v', W', q1, q2, q3, q4⟩ := r4.pushAll Tryz.underlying212 info_item r1.size (r3.below r1) (fun x hx => sepd x (r8 x hx)) (by omega)
   have HQ : Aside (OwnIt 216 W' W.heap.size v' (d ++ pr) /\ (d ++ pr).map ItV.item = mergeS (cs.map ItV.item) (ps.map ItV.item) /\ (∀ x ∈ d ++ pr, x ∈ cs ++ ps) /\ Below W.heap.size W W') := by
    refine ⟨q2, ?_, fun x hx => (List.mem_append.1 hx).elim (r9 x) (r8 x), r1.trans q3⟩
    rw [List.map_append, <- r5, List.map_nil, nil_mergeS]
   clear r1 r2 r3 r4 r5 r6 r7 r8 r9 q2 q3 q4 sepd k1 k2 k3 m1 m2 m3 HR
   go_wp2_with (at_builtin; refine wpList_append_at _ rfl _ _ _ _ rfl _ _ rfl rfl _ _ q1 ?_)
   rw [Exit.noGoto_ret]
   go_ret
   exact ⟨_, rfl, _, HQ.out⟩
  | cons x cr =>
   cases pr with
   | nil =>
    obtain ⟨v', W', q1, q2, q3, q4⟩ := r4.pushAll Tryz.underlying212 info_item r1.size (r2.below r1) (fun x hx => sepd x (r7 x hx)) (by simp only [List.length_cons, List.length_nil] at r6 ⊢; omega)
    have HQ : Aside (OwnIt 216 W' W.heap.size v' (d ++ x :: cr) /\ (d ++ x :: cr).map ItV.item = mergeS (cs.map ItV.item) (ps.map ItV.item) /\ (∀ y ∈ d ++ x :: cr, y ∈ cs ++ ps) /\ Below W.heap.size W W') := by
     refine ⟨q2, ?_, fun y hy => (List.mem_append.1 hy).elim (r9 y) (r7 y), r1.trans q3⟩
     rw [List.map_append, <- r5, List.map_nil, mergeS_nil]
    have hlp : ((x :: cr).length : Int) = (cr.length : Int) + 1 := by simp
    have hne : ¬ ((cr.length : Int) + 1 = 0) := by omega
    clear r1 r2 r3 r4 r5 r6 r7 r8 r9 q2 q3 q4 sepd k1 k2 k3 m1 m2 m3 HR
    go_wp2_with (at_builtin; refine wpList_append_at _ rfl _ _ _ _ rfl _ _ rfl rfl _ _ q1 ?_)
    rw [Exit.noGoto_ret]
    go_ret
    exact ⟨_, rfl, _, HQ.out⟩
   | cons y pr =>
    obtain ⟨a0, cc0, e0, k4, k5, k6⟩ := (r2.below r1).at 0 (by simp)
    obtain ⟨a1, cc1, e1, m4, m5, m6⟩ := (r3.below r1).at 0 (by simp)
    cases e0
    cases e1
    have hx0 := hcap x (r7 x (List.mem_cons_self ..))
    have hy0 := hcap y (r8 y (List.mem_cons_self ..))
    simp only [List.getElem_cons_zero, Nat.zero_mul, Nat.zero_add] at k5 k6 m5 m6
    have hne0 : ¬ ((cr.length : Int) + 1 = 0) := by omega
    have hne1 : ¬ ((pr.length : Int) + 1 = 0) := by omega
    have hp0 : (0 : Int) < (cr.length : Int) + 1 := by omega
    have hp1 : (0 : Int) < (pr.length : Int) + 1 := by omega
    have K5 : ∀ q, (wr.drewN q).cell? a0 = some (.int .i64 (x.n : Int)) := fun q => k5
    have M5 : ∀ q, (wr.drewN q).cell? a1 = some (.int .i64 (y.n : Int)) := fun q => m5
    go_wp2_with fail
    go_quiet (fail)
    have hdr : Drew wr (wr.drewN nq) := Drew.drewN _ _
    have R0 : Aside (Below W.heap.size W wr /\ SrcIt W (.slice (some a0) (x :: cr).length c0) (x :: cr) /\ SrcIt W (.slice (some a1) (y :: pr).length c1) (y :: pr) /\ OwnIt 216 wr W.heap.size u5 d /\ (∀ x ∈ cs ++ ps, ∀ a, x.ba = some a -> u5.ownBlock ≠ some a.block) /\ (x :: cr).length <= c0 /\ (y :: pr).length <= c1) := ⟨r1, r2, r3, r4, sepd, k1, m1⟩
    have R1 : Aside (d.map ItV.item ++ mergeS ((x :: cr).map ItV.item) ((y :: pr).map ItV.item) = mergeS (cs.map ItV.item) (ps.map ItV.item) /\ d.length + (x :: cr).length + (y :: pr).length = cs.length + ps.length /\ (∀ z ∈ x :: cr, z ∈ cs ++ ps) /\ (∀ z ∈ y :: pr, z ∈ cs ++ ps) /\ (∀ z ∈ d, z ∈ cs ++ ps)) := ⟨r5, r6, r7, r8, r9⟩
    clear r1 r2 r3 r4 r5 r6 r7 r8 r9 sepd k1 k2 k3 m1 m2 m3 k4 m4 K5 M5 hx0 hy0 HR
    by_cases hle : x.n <= y.n
    ·skip
     have hd2 : Drew wr (wr.drewN nq).drew := hdr.trans ⟨rfl, rfl, rfl, rfl⟩
     have K5 : (wr.drewN nq).cell? a0 = some (.int .i64 (x.n : Int)) := k5
     have K6 : (wr.drewN nq).cell? ⟨a0.block, a0.off + 1, none⟩ = some (.slice x.ba x.s.length x.bc) := k6
     obtain ⟨v', W', q1, q2, q3, q4, q5, q6⟩ := (R0.out.2.2.2.1.below (hd2.below _)).push Tryz.underlying212 info_item (show W.heap.size <= wr.heap.size from R0.out.1.size) x ((H0.out.2.2 x (R1.out.2.2.1 x (List.mem_cons_self ..))).below (R0.out.1.trans (hd2.below _))) (R0.out.2.2.2.2.1 x (R1.out.2.2.1 x (List.mem_cons_self ..))) (by have := R1.out.2.1; simp only [List.length_cons] at this; omega)
     have HQ : Aside (OwnIt 216 W' W.heap.size v' (d ++ [x]) /\ Below W.heap.size W W') := ⟨q2, R0.out.1.trans ((hd2.below _).trans q3)⟩
     have HM : Aside ((d ++ [x]).map ItV.item ++ mergeS ((cr).map ItV.item) ((y :: pr).map ItV.item) = mergeS (cs.map ItV.item) (ps.map ItV.item) /\ (d ++ [x]).length + (cr).length + (y :: pr).length = cs.length + ps.length) := by
      obtain ⟨e1, e2, -, -, -⟩ := R1.out
      refine ⟨?_, by simp only [List.length_append, List.length_cons, List.length_nil] at e2 ⊢; omega⟩
      rw [<- e1, List.map_cons, List.map_cons, mergeS_cons, if_pos (show x.item.fst <= y.item.fst from hle), List.map_append, List.append_assoc]
      rfl
     have HX : Aside ((∀ z ∈ cr, z ∈ cs ++ ps) /\ (∀ z ∈ y :: pr, z ∈ cs ++ ps) /\ (∀ z ∈ d ++ [x], z ∈ cs ++ ps)) := by
      obtain ⟨-, -, e3, e4, e5⟩ := R1.out
      exact ⟨fun z hz => e3 z (List.mem_cons_of_mem _ hz), fun z hz => e4 z hz, fun z hz => (List.mem_append.1 hz).elim (e5 z) (fun h => by rw [List.mem_singleton.1 h]; exact R1.out.2.2.1 x (List.mem_cons_self ..))⟩
     have hc0 : (cr.length : Int) + 1 <= (c0 : Int) := by have := R0.out.2.2.2.2.2.1; simp only [List.length_cons] at this; omega
     have hc4 : (1 : Int) <= (cr.length : Int) + 1 := by omega
     have hc2 : cr.length + 1 <= c0 := by omega
     have hc3 : 1 <= c0 := by omega
     generalize wr.drewN nq = w1 at hdr hd2 K5 K6 q1 q2 q3 q4 q5 q6 ⊢
     clear q2 q3 q4 q5 q6
     by_cases hcx : c0 = 1
     ·have hcz : cr.length = 0 := by omega
      have HD : Aside (SrcIt W (.slice (some a0) cr.length 0) cr) := by
       have := R0.out.2.1.drop 1 (by simp) a0 0 (by simp only [List.length_cons]; omega) (fun h => by simp only [List.length_cons] at h; omega)
       exact this
      clear hcz
      go_wp2_with fail
      go_region_law (refine step_append_run rfl _ _ _ _ rfl _ _ rfl rfl _ _ q1 ?_)
      go_wp2_with fail
      go_roundg (cr.length + (y :: pr).length)
      case measure => simp only [List.length_cons] at hkx ⊢; omega
      case rel =>
       obtain ⟨e1, e2⟩ := HM.out
       obtain ⟨e3, e4, e5⟩ := HX.out
       exact ⟨_, _, _, cr, y :: pr, d ++ [x], rfl, rfl, rfl, Nat.le_refl _, HQ.out.2, HD.out, R0.out.2.2.1, HQ.out.1, e1, e2, e3, e4, e5⟩
     ·have HD : Aside (SrcIt W (.slice (some ⟨a0.block, a0.off + 2, none⟩) cr.length (c0 - 1)) cr) := by
       have := R0.out.2.1.drop 1 (by simp) ⟨a0.block, a0.off + 2, none⟩ (c0 - 1) (by simp only [List.length_cons]; omega) (fun h => rfl)
       exact this
      go_wp2_with fail
      go_region_law (refine step_append_run rfl _ _ _ _ rfl _ _ rfl rfl _ _ q1 ?_)
      go_wp2_with fail
      go_roundg (cr.length + (y :: pr).length)
      case measure => simp only [List.length_cons] at hkx ⊢; omega
      case rel =>
       obtain ⟨e1, e2⟩ := HM.out
       obtain ⟨e3, e4, e5⟩ := HX.out
       exact ⟨_, _, _, cr, y :: pr, d ++ [x], rfl, rfl, rfl, Nat.le_refl _, HQ.out.2, HD.out, R0.out.2.2.1, HQ.out.1, e1, e2, e3, e4, e5⟩
    ·skip
     have hd2 : Drew wr (wr.drewN nq).drew := hdr.trans ⟨rfl, rfl, rfl, rfl⟩
     have K5 : (wr.drewN nq).cell? a1 = some (.int .i64 (y.n : Int)) := m5
     have K6 : (wr.drewN nq).cell? ⟨a1.block, a1.off + 1, none⟩ = some (.slice y.ba y.s.length y.bc) := m6
     obtain ⟨v', W', q1, q2, q3, q4, q5, q6⟩ := (R0.out.2.2.2.1.below (hd2.below _)).push Tryz.underlying212 info_item (show W.heap.size <= wr.heap.size from R0.out.1.size) y ((H0.out.2.2 y (R1.out.2.2.2.1 y (List.mem_cons_self ..))).below (R0.out.1.trans (hd2.below _))) (R0.out.2.2.2.2.1 y (R1.out.2.2.2.1 y (List.mem_cons_self ..))) (by have := R1.out.2.1; simp only [List.length_cons] at this; omega)
     have HQ : Aside (OwnIt 216 W' W.heap.size v' (d ++ [y]) /\ Below W.heap.size W W') := ⟨q2, R0.out.1.trans ((hd2.below _).trans q3)⟩
     have HM : Aside ((d ++ [y]).map ItV.item ++ mergeS ((x :: cr).map ItV.item) ((pr).map ItV.item) = mergeS (cs.map ItV.item) (ps.map ItV.item) /\ (d ++ [y]).length + (x :: cr).length + (pr).length = cs.length + ps.length) := by
      obtain ⟨e1, e2, -, -, -⟩ := R1.out
      refine ⟨?_, by simp only [List.length_append, List.length_cons, List.length_nil] at e2 ⊢; omega⟩
      rw [<- e1, List.map_cons, List.map_cons, mergeS_cons, if_neg (show ¬ x.item.fst <= y.item.fst from hle), List.map_append, List.append_assoc]
      rfl
     have HX : Aside ((∀ z ∈ x :: cr, z ∈ cs ++ ps) /\ (∀ z ∈ pr, z ∈ cs ++ ps) /\ (∀ z ∈ d ++ [y], z ∈ cs ++ ps)) := by
      obtain ⟨-, -, e3, e4, e5⟩ := R1.out
      exact ⟨fun z hz => e3 z hz, fun z hz => e4 z (List.mem_cons_of_mem _ hz), fun z hz => (List.mem_append.1 hz).elim (e5 z) (fun h => by rw [List.mem_singleton.1 h]; exact R1.out.2.2.2.1 y (List.mem_cons_self ..))⟩
     have hc0 : (pr.length : Int) + 1 <= (c1 : Int) := by have := R0.out.2.2.2.2.2.2; simp only [List.length_cons] at this; omega
     have hc4 : (1 : Int) <= (pr.length : Int) + 1 := by omega
     have hc2 : pr.length + 1 <= c1 := by omega
     have hc3 : 1 <= c1 := by omega
     generalize wr.drewN nq = w1 at hdr hd2 K5 K6 q1 q2 q3 q4 q5 q6 ⊢
     clear q2 q3 q4 q5 q6
     by_cases hcx : c1 = 1
     ·have hcz : pr.length = 0 := by omega
      have HD : Aside (SrcIt W (.slice (some a1) pr.length 0) pr) := by
       have := R0.out.2.2.1.drop 1 (by simp) a1 0 (by simp only [List.length_cons]; omega) (fun h => by simp only [List.length_cons] at h; omega)
       exact this
      clear hcz
      go_wp2_with fail
      go_region_law (refine step_append_run rfl _ _ _ _ rfl _ _ rfl rfl _ _ q1 ?_)
      go_wp2_with fail
      go_roundg ((x :: cr).length + pr.length)
      case measure => simp only [List.length_cons] at hkx ⊢; omega
      case rel =>
       obtain ⟨e1, e2⟩ := HM.out
       obtain ⟨e3, e4, e5⟩ := HX.out
       exact ⟨_, _, _, x :: cr, pr, d ++ [y], rfl, rfl, rfl, Nat.le_refl _, HQ.out.2, R0.out.2.1, HD.out, HQ.out.1, e1, e2, e3, e4, e5⟩
     ·have HD : Aside (SrcIt W (.slice (some ⟨a1.block, a1.off + 2, none⟩) pr.length (c1 - 1)) pr) := by
       have := R0.out.2.2.1.drop 1 (by simp) ⟨a1.block, a1.off + 2, none⟩ (c1 - 1) (by simp only [List.length_cons]; omega) (fun h => rfl)
       exact this
      go_wp2_with fail
      go_region_law (refine step_append_run rfl _ _ _ _ rfl _ _ rfl rfl _ _ q1 ?_)
      go_wp2_with fail
      go_roundg ((x :: cr).length + pr.length)
      case measure => simp only [List.length_cons] at hkx ⊢; omega
      case rel =>
       obtain ⟨e1, e2⟩ := HM.out
       obtain ⟨e3, e4, e5⟩ := HX.out
       exact ⟨_, _, _, x :: cr, pr, d ++ [y], rfl, rfl, rfl, Nat.le_refl _, HQ.out.2, R0.out.2.1, HD.out, HQ.out.1, e1, e2, e3, e4, e5⟩
end Go.Proofs.YthmbbpfgbpacnaaGreatDoor.Huf
namespace Go.Proofs.YthmbbpfgbpacnaaGreatDoor.Huf
open Go.RowKit Go.Shelf Go.Lib Mem
theorem pairS_at : ∀ (l : List Item) (j : Nat) (x y : Item), l[2 * j]? = some x -> l[2 * j + 1]? = some y -> (pairS l)[j]? = some (x.1 + y.1, x.2 ++ y.2)
 | [], j, x, y, h, _ => by simp at h
 | [z], j, x, y, h, k => by simp at k
 | a :: b :: l, 0, x, y, h, k => by
  obtain rfl : a = x := by simpa using h
  obtain rfl : b = y := by simpa using k
  rfl
 | a :: b :: l, j + 1, x, y, h, k => by
  unfold pairS
  rw [List.getElem?_cons_succ]
  refine pairS_at l j x y ?_ ?_
  ·rw [show 2 * (j + 1) = 2 * j + 1 + 1 by omega, List.getElem?_cons_succ, List.getElem?_cons_succ] at h; exact h
  ·rw [show 2 * (j + 1) + 1 = 2 * j + 1 + 1 + 1 by omega, List.getElem?_cons_succ, List.getElem?_cons_succ] at k; exact k
theorem boxes (w : World) (e : TypeId) (v1 v2 v3 v4 : Value) : ((w.alloc (.cells #[v1, v2] e)).alloc (.cells #[v3, v4] e)).drew.cell? ⟨w.heap.size, 0, none⟩ = some v1 /\ ((w.alloc (.cells #[v1, v2] e)).alloc (.cells #[v3, v4] e)).drew.cell? ⟨w.heap.size, 1, none⟩ = some v2 /\
  ((w.alloc (.cells #[v1, v2] e)).alloc (.cells #[v3, v4] e)).drew.cell? ⟨w.heap.size + 1, 0, none⟩ = some v3 /\ ((w.alloc (.cells #[v1, v2] e)).alloc (.cells #[v3, v4] e)).drew.cell? ⟨w.heap.size + 1, 1, none⟩ = some v4 /\ Below w.heap.size w ((w.alloc (.cells #[v1, v2] e)).alloc (.cells #[v3, v4] e)).drew := by
 have hA1 := (Below.refl w.heap.size w).alloc (Nat.le_refl _) (.cells #[v1, v2] e)
 have hs : (w.alloc (.cells #[v1, v2] e)).heap.size = w.heap.size + 1 := by simp
 have h1 : ((w.alloc (.cells #[v1, v2] e)).alloc (.cells #[v3, v4] e)).drew.heap[w.heap.size]? = some (.cells #[v1, v2] e (0, 0)) := by
  have := (((Below.refl (w.heap.size + 1) (w.alloc (.cells #[v1, v2] e))).alloc (by rw [hs]; exact Nat.le_refl _) (.cells #[v3, v4] e)).block w.heap.size (by omega))
  exact this.trans (heap_alloc_new _ _)
 have h2 : ((w.alloc (.cells #[v1, v2] e)).alloc (.cells #[v3, v4] e)).drew.heap[w.heap.size + 1]? = some (.cells #[v3, v4] e (0, 0)) := by
  rw [<- hs]; exact heap_alloc_new _ _
 refine ⟨by rw [Lib.cell_of_heap h1]; rfl, by rw [Lib.cell_of_heap h1]; rfl, by rw [Lib.cell_of_heap h2]; rfl, by rw [Lib.cell_of_heap h2]; rfl, hA1.trans ?_⟩
 have := ((Below.refl (w.alloc (.cells #[v1, v2] e)).heap.size (w.alloc (.cells #[v1, v2] e))).alloc (Nat.le_refl _) (.cells #[v3, v4] e)).mono hA1.size
 exact ⟨this.os, this.tape, this.output, this.size, this.block⟩
theorem boxes' (w : World) (e : TypeId) (v1 v2 v3 v4 : Value) : ((w.alloc (.cells #[v1, v2] e)).alloc (.cells #[v3, v4] e)).drew.cell? ⟨w.heap.size + 1, 0, none⟩ = some v3 /\ ((w.alloc (.cells #[v1, v2] e)).alloc (.cells #[v3, v4] e)).drew.cell? ⟨w.heap.size + 1, 1, none⟩ = some v4 /\
  ((w.alloc (.cells #[v1, v2] e)).alloc (.cells #[v3, v4] e)).drew.cell? ⟨w.heap.size, 0, none⟩ = some v1 /\ ((w.alloc (.cells #[v1, v2] e)).alloc (.cells #[v3, v4] e)).drew.cell? ⟨w.heap.size, 1, none⟩ = some v2 /\ Below w.heap.size w ((w.alloc (.cells #[v1, v2] e)).alloc (.cells #[v3, v4] e)).drew := by
 obtain ⟨h1, h2, h3, h4, h5⟩ := boxes w e v1 v2 v3 v4
 exact ⟨h3, h4, h1, h2, h5⟩
set_option maxHeartbeats 8000000 in
set_option maxRecDepth 100000 in
theorem paired_any (W : World) (v : Value) (xs : List ItV) (h : SrcIt W v xs) (hlim : xs.length ≤ 1048576) (hcap : ∀ x ∈ xs, x.n ≤ 2305843009213693951) (hsy : ∀ x ∈ xs, x.s.length ≤ 262144) :
    Calls Tryz.prog 164 #[v] W fun e w' => ∃ u, e = .returned u ∧ ∃ ys, OwnIt 216 w' W.heap.size u ys ∧ ys.map ItV.item = pairS (xs.map ItV.item) ∧ (∀ y ∈ ys, ∀ a, y.ba = some a → W.heap.size ≤ a.block) ∧ Below W.heap.size W w' := by
  obtain ⟨ao, c, rfl, h1, h2, h3⟩ := h.sh
  have H : Aside (SrcIt W (.slice ao xs.length c) xs) := h
  clear h h3
  have hxl : (xs.length : Int) ≤ 1048576 := by omega
  go_enter Tryz.func164, Tryz.ntmps164
  go_wp2_with fail
  go_loopg [3, 4] xs.length (fun kx s3 s4 wr => ∃ (j k : Nat) (u : Value), s4 = .int .i64 k ∧ u = s3 ∧ k = 2 * j + 1 ∧ k ≤ xs.length + 1 ∧ xs.length + 1 - k ≤ kx ∧ Aside (Below W.heap.size W wr ∧ ∃ ys, OwnIt 216 wr W.heap.size u ys ∧ ys.map ItV.item = (pairS (xs.map ItV.item)).take j ∧ ys.length = j ∧ (∀ y ∈ ys, ∀ a, y.ba = some a → W.heap.size ≤ a.block)))
  case atStart => exact ⟨0, 1, _, rfl, rfl, rfl, by omega, by omega, Below.refl _ _, [], OwnIt.nil _ _ _, rfl, rfl, fun y hy => by cases hy⟩
  case round =>
    obtain ⟨j, k, u, rfl, rfl, hk, hkl, hkx, HR⟩ := hrel
    by_cases hlt : k < xs.length
    · have hltz : (k : Int) < (xs.length : Int) := by omega
      obtain ⟨r1, ys, r2, r3, r4, r5⟩ := HR.out
      obtain ⟨a, cc0, e0, k4, k5, k6⟩ := (H.out.below r1).at (2 * j) (by omega)
      cases e0
      obtain ⟨a', cc1, e1, m4, m5, m6⟩ := (H.out.below r1).at (2 * j + 1) (by omega)
      cases e1
      have hi1 := hcap _ (List.getElem_mem (show 2 * j < xs.length by omega))
      have hi2 := hcap _ (List.getElem_mem (show 2 * j + 1 < xs.length by omega))
      have hs1 := hsy _ (List.getElem_mem (show 2 * j < xs.length by omega))
      have hs2 := hsy _ (List.getElem_mem (show 2 * j + 1 < xs.length by omega))
      have ht1 := (H.out.its _ (List.getElem_mem (show 2 * j < xs.length by omega)))
      have ht2 := (H.out.its _ (List.getElem_mem (show 2 * j + 1 < xs.length by omega)))
      have hpa := pairS_at (xs.map ItV.item) j (xs[2 * j].item) (xs[2 * j + 1].item) (by rw [List.getElem?_map, List.getElem?_eq_getElem (show 2 * j < xs.length by omega)]; rfl) (by rw [List.getElem?_map, List.getElem?_eq_getElem (show 2 * j + 1 < xs.length by omega)]; rfl)
      obtain ⟨x, hx⟩ : ∃ x, x = xs[2 * j] := ⟨_, rfl⟩
      obtain ⟨y, hy⟩ : ∃ y, y = xs[2 * j + 1] := ⟨_, rfl⟩
      rw [← hx] at k5 k6 hi1 hs1 ht1 hpa
      rw [← hy] at m5 m6 hi2 hs2 ht2 hpa
      obtain ⟨k1, hk1⟩ : ∃ q, q = 2 * j := ⟨_, rfl⟩
      have hkk : k = k1 + 1 := by omega
      rw [← hk1] at k5 k6
      rw [show (2 * j + 1) = k by omega] at m5 m6
      have zk : (k : Int) - 1 = (k1 : Int) := by omega
      have wk : IntKind.i64.wrap ((k : Int) - 1) = (k1 : Int) := by rw [IntKind.wrap_i64]; omega
      have wk2 : IntKind.i64.wrap ((k : Int) + 2) = (k : Int) + 2 := by rw [IntKind.wrap_i64]; omega
      have hk1z : (k1 : Int) < (xs.length : Int) := by omega
      have K5 : wr.cell? (a.add (k1 * 2)) = some (.int .i64 (x.n : Int)) := k5
      have K6 : wr.cell? ⟨(a.add (k1 * 2)).block, (a.add (k1 * 2)).off + 1, none⟩ = some (.slice x.ba x.s.length x.bc) := by
        have e := Deep.add_add a (k1 * 2) 1
        have : (⟨(a.add (k1 * 2)).block, (a.add (k1 * 2)).off + 1, none⟩ : Addr) = (a.add (k1 * 2)).add 1 := rfl
        rw [this, e]; exact k6
      have M5 : wr.cell? (a.add (k * 2)) = some (.int .i64 (y.n : Int)) := m5
      have M6 : wr.cell? ⟨(a.add (k * 2)).block, (a.add (k * 2)).off + 1, none⟩ = some (.slice y.ba y.s.length y.bc) := by
        have e := Deep.add_add a (k * 2) 1
        have : (⟨(a.add (k * 2)).block, (a.add (k * 2)).off + 1, none⟩ : Addr) = (a.add (k * 2)).add 1 := rfl
        rw [this, e]; exact m6
      have HK : Aside (k = k1 + 1 ∧ k1 = 2 * j) := ⟨hkk, hk1⟩
      clear hx hy hkk hk1 hk k5 k6 m5 m6 r1 r2 r3 r4 r5
      have wk1 : IntKind.i64.wrap (k1 : Int) = (k1 : Int) := by rw [IntKind.wrap_i64]; omega
      have wk0 : IntKind.i64.wrap (k : Int) = (k : Int) := by rw [IntKind.wrap_i64]; omega
      have mv1 : ∀ p u, wr.cell? p = some u → ∀ o1, (wr.alloc o1).cell? p = some u := fun p u hp o1 => (((Below.refl wr.heap.size wr).alloc (Nat.le_refl _) o1).cell (block_lt_of_cell hp)).trans hp
      have mv2 : ∀ p u, wr.cell? p = some u → ∀ o1 o2, ((wr.alloc o1).alloc o2).cell? p = some u := fun p u hp o1 o2 => ((((Below.refl wr.heap.size wr).alloc (Nat.le_refl _) o1).alloc ((Below.refl wr.heap.size wr).alloc (Nat.le_refl _) o1).size o2).cell (block_lt_of_cell hp)).trans hp
      have K5a := mv1 _ _ K5
      have K6a := mv1 _ _ K6
      have M5a := mv1 _ _ M5
      have M6a := mv1 _ _ M6
      have K5b := mv2 _ _ K5
      have K6b := mv2 _ _ K6
      have M5b := mv2 _ _ M5
      have M6b := mv2 _ _ M6
      clear mv1 mv2
      go_upto_region 5 with fail
      go_cut [5, 6] from 7 to 36 (fun s5 s6 wx => ∃ b1 b2 : Nat, s5 = .pointer (some ⟨b1, 0, none⟩) ∧ s6 = .pointer (some ⟨b2, 0, none⟩) ∧ wr.heap.size ≤ b1 ∧ wr.heap.size ≤ b2 ∧ Aside (wx.cell? ⟨b1, 0, none⟩ = some (.int .i64 (x.n : Int)) ∧ wx.cell? ⟨b1, 1, none⟩ = some (.slice x.ba x.s.length x.bc) ∧ wx.cell? ⟨b2, 0, none⟩ = some (.int .i64 (y.n : Int)) ∧ wx.cell? ⟨b2, 1, none⟩ = some (.slice y.ba y.s.length y.bc) ∧ Below wr.heap.size wr wx))
      case first =>
        go_region
        · go_wp2_with fail
          go_meet
          case rel => exact ⟨wr.heap.size, wr.heap.size + 1, rfl, rfl, Nat.le_refl _, Nat.le_succ _, boxes wr _ _ _ _ _⟩
        · go_wp2_with fail
          go_meet
          case rel => exact ⟨wr.heap.size + 1, wr.heap.size, rfl, rfl, Nat.le_succ _, Nat.le_refl _, boxes' wr _ _ _ _ _⟩
      case rest =>
        obtain ⟨b1, b2, rfl, rfl, hb1, hb2', HB⟩ := hcut
        obtain ⟨d1, d2, d3, d4, d5⟩ := HB.out
        obtain ⟨r1, ys, r2, r3, r4, r5⟩ := HR.out
        have rb : Below W.heap.size W wc := r1.trans (d5.mono r1.size)
        have hdr : Drew wc wc.drew := ⟨rfl, rfl, rfl, rfl⟩
        have own1 := r2.below d5
        obtain ⟨U, hU⟩ : ∃ U, U = wc.drew.alloc (.cells #[.slice x.ba x.s.length x.bc, .slice y.ba y.s.length y.bc] 111) := ⟨_, rfl⟩
        have hbU : Below wc.heap.size wc U := by rw [hU]; exact (hdr.below _).trans ((Below.refl wc.drew.heap.size wc.drew).alloc (Nat.le_refl _) _)
        have hUs : U.heap.size = wc.heap.size + 1 := by rw [hU]; simp
        have hUh : U.heap[wc.heap.size]? = some (.cells #[.slice x.ba x.s.length x.bc, .slice y.ba y.s.length y.bc] 111 (0, 0)) := by rw [hU]; exact heap_alloc_new wc.drew _
        have tx : ItS U x := (ht1.below (rb.trans (hbU.mono rb.size)))
        have ty : ItS U y := (ht2.below (rb.trans (hbU.mono rb.size)))
        have hcc := concat_any U wc.heap.size (.slice x.ba x.s.length x.bc) (.slice y.ba y.s.length y.bc) (natI x.s) (natI y.s) (by rw [Lib.cell_of_heap hUh]; rfl) (by rw [Lib.cell_of_heap hUh]; rfl) tx.1 ty.1 (by rw [natI_len]; exact tx.2) (by rw [natI_len, natI_len]; omega)
        rw [hU] at hcc
        have keepU : U.cell? ⟨b1, 0, none⟩ = some (.int .i64 (x.n : Int)) ∧ U.cell? ⟨b1, 1, none⟩ = some (.slice x.ba x.s.length x.bc) ∧ U.cell? ⟨b2, 0, none⟩ = some (.int .i64 (y.n : Int)) ∧ U.cell? ⟨b2, 1, none⟩ = some (.slice y.ba y.s.length y.bc) :=
          ⟨(hbU.cell (block_lt_of_cell d1)).trans d1, (hbU.cell (block_lt_of_cell d2)).trans d2, (hbU.cell (block_lt_of_cell d3)).trans d3, (hbU.cell (block_lt_of_cell d4)).trans d4⟩
        have keep2 : ∀ w2, Below U.heap.size U w2 → w2.cell? ⟨b1, 0, none⟩ = some (.int .i64 (x.n : Int)) ∧ w2.cell? ⟨b1, 1, none⟩ = some (.slice x.ba x.s.length x.bc) ∧ w2.cell? ⟨b2, 0, none⟩ = some (.int .i64 (y.n : Int)) ∧ w2.cell? ⟨b2, 1, none⟩ = some (.slice y.ba y.s.length y.bc) := fun w2 hb2 =>
          ⟨(hb2.cell (block_lt_of_cell keepU.1)).trans keepU.1, (hb2.cell (block_lt_of_cell keepU.2.1)).trans keepU.2.1, (hb2.cell (block_lt_of_cell keepU.2.2.1)).trans keepU.2.2.1, (hb2.cell (block_lt_of_cell keepU.2.2.2)).trans keepU.2.2.2⟩
        have hyl : ys.length + 1 ≤ 1048576 := by
          have := HK.out
          omega
        have hpush : ∀ w2 u2, w2.ownsRow U.heap.size 3 1 u2 (natI x.s ++ natI y.s).length (iVs (natI x.s ++ natI y.s)) → Below U.heap.size U w2 → ∃ ao2 n2 c2, u2 = .slice ao2 n2 c2 ∧ ∃ v' W', (Builtin.append_ #[212, 212] 212 #[u, .slice (some ⟨w2.heap.size, 0, none⟩) 1 1]).run Tryz.prog (w2.alloc (.cells #[.int .i64 ((x.n : Int) + (y.n : Int)), .slice ao2 n2 c2] 216)) = .ok v' W' ∧ (W'.cell? ⟨b1, 0, none⟩ = some (.int .i64 (x.n : Int)) ∧ W'.cell? ⟨b1, 1, none⟩ = some (.slice x.ba x.s.length x.bc) ∧ W'.cell? ⟨b2, 0, none⟩ = some (.int .i64 (y.n : Int)) ∧ W'.cell? ⟨b2, 1, none⟩ = some (.slice y.ba y.s.length y.bc)) ∧
            Aside (Below W.heap.size W W' ∧ ∃ ys, OwnIt 216 W' W.heap.size v' ys ∧ ys.map ItV.item = (pairS (xs.map ItV.item)).take (j + 1) ∧ ys.length = j + 1 ∧ (∀ y ∈ ys, ∀ a, y.ba = some a → W.heap.size ≤ a.block)) := fun w2 u2 hu1 hu2 => by
          obtain ⟨ao2, c2, rfl, -, -, -⟩ := own_shape hu1
          refine ⟨ao2, _, c2, rfl, ?_⟩
          have hn2 : (natI x.s ++ natI y.s).length = (x.s ++ y.s).length := by rw [← natI_append, natI_len]
          have hb2 : Below wc.heap.size wc w2 := hbU.trans (hu2.mono hbU.size)
          have hits : ItS w2 ⟨x.n + y.n, x.s ++ y.s, ao2, c2⟩ := by
            refine ⟨?_, by simp only [List.length_append]; have := tx.2; omega⟩
            have := SrcI.of_own hu1
            rw [hn2, ← natI_append] at this
            exact this
          obtain ⟨v', W', q1, q2, q3, q4, q5, q6⟩ := (own1.below hb2).push Tryz.underlying212 info_item (Nat.le_trans rb.size hb2.size) ⟨x.n + y.n, x.s ++ y.s, ao2, c2⟩ hits (fun p hp hk => by
            cases hp
            have l1 := (own1.row.lt _ hk).2
            have l2 := (hu1.lt p.block rfl).1
            omega) hyl
          have hu : ∀ b : Nat, wr.heap.size ≤ b → ¬ (u.ownBlock = some b) := fun b hb e => by
            have := (r2.row.lt _ e).2
            omega
          obtain ⟨z1, z2, z3, z4⟩ := keep2 w2 hu2
          refine ⟨v', W', ?_, ⟨q5.cell z1 (hu _ hb1), q5.cell z2 (hu _ hb1), q5.cell z3 (hu _ hb2'), q5.cell z4 (hu _ hb2')⟩, rb.trans ((hb2.mono rb.size).trans q3), ys ++ [⟨x.n + y.n, x.s ++ y.s, ao2, c2⟩], q2, ?_, by rw [List.length_append, r4]; rfl, fun z hz p hp => ?_⟩
          · rw [hn2]
            exact q1
          · have hjl : j < (pairS (xs.map ItV.item)).length := (List.getElem?_eq_some_iff.1 hpa).1
            rw [List.map_append, r3, List.take_succ_eq_append_getElem hjl]
            congr 1
            have := (List.getElem?_eq_some_iff.1 hpa).2
            rw [this]
            rfl
          · rcases List.mem_append.1 hz with hz | hz
            · exact r5 z hz p hp
            · rw [List.mem_singleton.1 hz] at hp
              have hp' : ao2 = some p := hp
              subst hp'
              have l2 := (hu1.lt p.block rfl).1
              have l3 := rb.size
              omega
        rw [hU] at hpush keep2 keepU
        have HCc := Lib.hid hcc
        have HP : Aside _ := hpush
        have HK2 : Aside _ := keep2
        have wsum : IntKind.i64.wrap ((x.n : Int) + (y.n : Int)) = (x.n : Int) + (y.n : Int) := by rw [IntKind.wrap_i64]; omega
        have mixed : Tryz.prog.follows .mixedOrders = true := by kernel_rfl
        clear hcc hpush keep2 hbU hUs hUh hU tx ty own1 rb r1 r2 r3 r4 r5 hyl HR HB d5 hdr ht1 ht2 hpa K5 K6 M5 M6 K5a K6a M5a M6a K5b K6b M5b M6b
        obtain ⟨k1', k2', k3', k4'⟩ := keepU
        go_wp2_with fail
        go_region_held3 (fun w' => w'.cell? ⟨b1, 0, none⟩ = some (.int .i64 (x.n : Int)) ∧ w'.cell? ⟨b1, 1, none⟩ = some (.slice x.ba x.s.length x.bc) ∧ w'.cell? ⟨b2, 0, none⟩ = some (.int .i64 (y.n : Int)) ∧ w'.cell? ⟨b2, 1, none⟩ = some (.slice y.ba y.s.length y.bc)) (first | go_keep | exact ⟨k1', k2', k3', k4'⟩ | exact HK2.out _ hb2 | exact hS)
         (first
          | (go_at_call 115
             refine HCc.out.mono ?_
             rintro e w2 ⟨u2, rfl, hu1, hb2⟩
             obtain ⟨ao2, n2, c2, rfl, v', W', q1, hS, HQ⟩ := HP.out w2 u2 hu1 hb2
             clear hu1)
          | (refine step_append_run rfl _ _ _ _ rfl _ _ rfl rfl _ _ q1 ?_))
        clear hS
        go_wp2_with fail
        go_roundg (xs.length + 1 - (k + 2))
        case measure => omega
        case rel => exact ⟨j + 1, k + 2, _, by go_num, rfl, by have := HK.out; omega, by omega, Nat.le_refl _, HQ⟩
    · have hltz : ¬ (k : Int) < (xs.length : Int) := by omega
      go_wp2_with fail
      go_ret
      obtain ⟨r1, ys, r2, r3, r4, r5⟩ := HR.out
      refine ⟨_, rfl, ys, r2, ?_, r5, r1⟩
      rw [r3, List.take_of_length_le]
      rw [pairS_len, List.length_map]
      omega
end Go.Proofs.YthmbbpfgbpacnaaGreatDoor.Huf
namespace Go.Proofs.YthmbbpfgbpacnaaGreatDoor.Huf
open Go.RowKit Go.Shelf Go.Lib Mem
def Bnd (N S : Nat) (l : List Item) : Prop := ∀ x ∈ l, x.1 <= N /\ x.2.length <= S
theorem Bnd.pairs {N S : Nat} : ∀ l : List Item, Bnd N S l -> Bnd (2 * N) (2 * S) (pairS l)
 | [], _ => fun x hx => by cases hx
 | [_], _ => fun x hx => by cases hx
 | a :: b :: l, h => fun x hx => by
  unfold pairS at hx
  rcases List.mem_cons.1 hx with rfl | hx
  ·have h1 := h a (List.mem_cons_self ..)
   have h2 := h b (List.mem_cons_of_mem _ (List.mem_cons_self ..))
   simp only [List.length_append]
   omega
  ·exact Bnd.pairs l (fun y hy => h y (List.mem_cons_of_mem _ (List.mem_cons_of_mem _ hy))) x hx
theorem Bnd.merge {N S : Nat} {a b : List Item} (h : Bnd N S a) (k : Bnd N S b) : Bnd N S (mergeS a b) := fun x hx =>
 (List.mem_append.1 ((mergeS_perm a b).mem_iff.2 hx)).elim (h x) (k x)
theorem Bnd.mono {N S N' S' : Nat} {l : List Item} (h : Bnd N S l) (h1 : N <= N') (h2 : S <= S') : Bnd N' S' l := fun x hx => ⟨Nat.le_trans (h x hx).1 h1, Nat.le_trans (h x hx).2 h2⟩
theorem row_bnd {N S : Nat} {C : List Item} (h : Bnd N S C) : ∀ t, Bnd (N * 2 ^ t) (S * 2 ^ t) (rowS C (t + 1))
 | 0 => by
  show Bnd _ _ (mergeS C (pairS []))
  rw [show pairS [] = [] from rfl, mergeS_nil, Nat.pow_zero, Nat.mul_one, Nat.mul_one]
  exact h
 | t + 1 => by
  have ih := (row_bnd h t).pairs
  show Bnd _ _ (mergeS C (pairS (rowS C (t + 1))))
  have hp : 1 <= 2 ^ (t + 1) := Nat.one_le_two_pow
  refine Bnd.merge (h.mono ?_ ?_) (ih.mono ?_ ?_)
  ·exact Nat.le_mul_of_pos_right _ hp
  ·exact Nat.le_mul_of_pos_right _ hp
  ·rw [Nat.pow_succ, Nat.mul_comm 2 (_ * _), Nat.mul_assoc]; exact Nat.le_refl _
  ·rw [Nat.pow_succ, Nat.mul_comm 2 (_ * _), Nat.mul_assoc]; exact Nat.le_refl _
theorem row_len (C : List Item) : ∀ t, (rowS C t).length <= 2 * C.length
 | 0 => Nat.zero_le _
 | t + 1 => by
  have ih := row_len C t
  show (mergeS C (pairS (rowS C t))).length <= _
  rw [<- (mergeS_perm _ _).length_eq, List.length_append, pairS_len]
  omega
theorem bnd_items {N S : Nat} {xs : List ItV} {l : List Item} (h : xs.map ItV.item = l) (hb : Bnd N S l) : ∀ x ∈ xs, x.n <= N /\ x.s.length <= S := fun x hx =>
 hb x.item (by rw [<- h]; exact List.mem_map.2 ⟨x, hx, rfl⟩)
def LocIt (B : Nat) (v : Value) (xs : List ItV) : Prop := (∀ g, v.ownBlock = some g -> B <= g) /\ ∀ x ∈ xs, ∀ a, x.ba = some a -> B <= a.block
set_option maxHeartbeats 4000000 in
theorem lastRow_any (W : World) (B : Nat) (v : Value) (cs : List ItV) (m : Nat) (h : SrcIt W v cs) (hloc : LocIt B v cs) (hB : B <= W.heap.size) (hlim : cs.length <= 320) (hbnd : Bnd 1099511627776 1 (cs.map ItV.item)) (hm : m <= 14) :
  Calls Tryz.prog 154 #[v, .int .i64 ((m : Int) + 1)] W fun e w' => ∃ u, e = .returned u /\ ∃ xs, SrcIt w' u xs /\ LocIt B u xs /\ xs.map ItV.item = rowS (cs.map ItV.item) (m + 1) /\ Below W.heap.size W w' := by
 have H0 : Aside (SrcIt W v cs /\ LocIt B v cs /\ Bnd 1099511627776 1 (cs.map ItV.item)) := ⟨h, hloc, hbnd⟩
 have wm : IntKind.i64.wrap ((m : Int) + 1 - 1) = (m : Int) := by rw [IntKind.wrap_i64]; omega
 have zm : (m : Int) + 1 - 1 = (m : Int) := by omega
 have wm2 : IntKind.i64.wrap (m : Int) = (m : Int) := by rw [IntKind.wrap_i64]; omega
 clear h hloc hbnd
 go_enter Tryz.func154, Tryz.ntmps154
 go_wp2_with fail
 go_loopg [5, 9] m (fun kx s5 s9 wr => ∃ (i : Nat) (u : Value), s9 = .int .i64 i /\ u = s5 /\ i <= m /\ m - i <= kx /\ Aside (Below W.heap.size W wr /\ ∃ xs, SrcIt wr u xs /\ LocIt B u xs /\ xs.map ItV.item = rowS (cs.map ItV.item) (i + 1)))
 case atStart =>
  refine ⟨0, _, rfl, rfl, Nat.zero_le _, Nat.le_refl _, Below.refl _ _, cs, H0.out.1, H0.out.2.1, ?_⟩
  show _ = mergeS (cs.map ItV.item) (pairS [])
  rw [show pairS [] = [] from rfl, mergeS_nil]
 case round =>
  obtain ⟨i, u, rfl, rfl, hi, hkx, HR⟩ := hrel
  by_cases hlt : i < m
  ·have hltz : (i : Int) < (m : Int) := by omega
   obtain ⟨r1, xs, r2, r3, r4⟩ := HR.out
   have hb := bnd_items r4 (row_bnd H0.out.2.2 i)
   have hp : (2 : Nat) ^ i <= 2 ^ 13 := Nat.pow_le_pow_right (by decide) (by omega)
   have hpe : (2 : Nat) ^ 13 = 8192 := rfl
   have hlx : xs.length <= 640 := by
    have := congrArg List.length r4
    rw [List.length_map] at this
    have h2 := row_len (cs.map ItV.item) (i + 1)
    rw [List.length_map] at h2
    omega
   have hpa := paired_any wr u xs r2 (by omega) (fun x hx => by have := (hb x hx).1; omega) (fun x hx => by have := (hb x hx).2; omega)
   have hme : ∀ (w1 : World) (u1 : Value) (ys : List ItV), OwnIt 216 w1 wr.heap.size u1 ys -> ys.map ItV.item = pairS (xs.map ItV.item) -> (∀ y ∈ ys, ∀ a, y.ba = some a -> wr.heap.size <= a.block) -> Below wr.heap.size wr w1 ->
     Calls Tryz.prog 163 #[v, u1] w1 fun e w' => ∃ u2, e = .returned u2 /\ Aside (Below W.heap.size W w' /\ ∃ zs, SrcIt w' u2 zs /\ LocIt B u2 zs /\ zs.map ItV.item = rowS (cs.map ItV.item) (i + 1 + 1)) := fun w1 u1 ys y1 y2 y3 y4 => by
    have hyl : ys.length <= 320 := by
     have := congrArg List.length y2
     rw [List.length_map, pairS_len, List.length_map] at this
     omega
    have hbW : Below W.heap.size W w1 := r1.trans (y4.mono r1.size)
    have hbp := bnd_items y2 (by rw [r4]; exact (row_bnd H0.out.2.2 i).pairs)
    have hbc := bnd_items rfl H0.out.2.2
    refine (merged_any w1 v u1 cs ys (H0.out.1.below hbW) y1.src (by omega) (fun x hx => ?_)).mono ?_
    ·rcases List.mem_append.1 hx with hx | hx
     ·have := (hbc x hx).1; omega
     ·have := (hbp x hx).1; omega
    ·rintro e w' ⟨u2, rfl, zs, z1, z2, z3, z4⟩
     refine ⟨u2, rfl, hbW.trans (z4.mono hbW.size), zs, z1.src, ⟨fun g hg => ?_, fun x hx a ha => ?_⟩, ?_⟩
     ·have := (z1.row.lt g hg).1
      have := hbW.size
      omega
     ·rcases List.mem_append.1 (z3 x hx) with hx | hx
      ·exact H0.out.2.1.2 x hx a ha
      ·have := y3 x hx a ha
       have := r1.size
       omega
     ·rw [z2, y2, r4]
      rfl
   have HP := Lib.hid hpa
   have HM : Aside _ := hme
   clear hpa hme hb r1 r2 r3 r4 HR hp hpe hlx
   go_wp2_with (first
    | (go_at_call 164; refine HP.out.mono ?_; rintro e w1 ⟨u1, rfl, ys, y1, y2, y3, y4⟩)
    | (go_at_call 163; refine (HM.out w1 u1 ys y1 y2 y3 y4).mono ?_; rintro e w2 ⟨u2, rfl, hz⟩))
   go_roundg (m - (i + 1))
   case measure => omega
   case rel => exact ⟨i + 1, _, by go_num, rfl, by omega, Nat.le_refl _, hz⟩
  ·obtain rfl : i = m := by omega
   have hltz : ¬ (i : Int) < (i : Int) := by omega
   go_wp2_with fail
   go_ret
   obtain ⟨r1, xs, r2, r3, r4⟩ := HR.out
   exact ⟨_, rfl, xs, r2, r3, r4, r1⟩
def okCount (z : Int) : Bool := decide (0 <= z /\ z <= 1099511627776)
set_option maxHeartbeats 4000000 in
theorem mayCount_any (W : World) (v : Value) (l : List Int) (hs : SrcI W v l) (hl : l.length <= 17592186044416) :
  Calls Tryz.prog 153 #[v] W fun e w' => e = .returned (.bool (l.all okCount && decide (l.length <= 320))) /\ W = w' := by
 obtain ⟨ao, c, rfl, hao⟩ := hs.shape
 have HS : Aside (SrcI W (.slice ao l.length c) l) := hs
 have HL : Aside (0 < l.length -> ∃ a, ao = some a) := hao
 clear hs hao
 go_enter Tryz.func153, Tryz.ntmps153
 go_wp2_with fail
 go_loopg [7] l.length (fun kx s7 wr => ∃ (i : Nat), s7 = .int .i64 i /\ i <= l.length /\ l.length - i <= kx /\ wr = W /\ Aside ((l.take i).all okCount = true))
 case atStart => exact ⟨0, rfl, Nat.zero_le _, Nat.le_refl _, rfl, rfl⟩
 case round =>
  obtain ⟨i, rfl, hi, hkx, rfl, HR⟩ := hrel
  by_cases hlt : i < l.length
  ·obtain ⟨a, rfl⟩ := HL.out (by omega)
   have hc : wr.cell? (a.add i) = some (.int .i64 (numAt l i)) := by rw [numAt_eq l i hlt]; exact srci_cell HS.out i hlt
   obtain ⟨z, hz⟩ : ∃ z, z = numAt l i := ⟨_, rfl⟩
   rw [<- hz] at hc
   have HZ : Aside (z = numAt l i) := hz
   have hltz : (i : Int) < (l.length : Int) := by omega
   have bad : ¬ okCount z = true -> (l.all okCount && decide (l.length <= 320)) = false := fun hb => by
    have : l.all okCount = false := by
     cases q : l.all okCount with
     | false => rfl
     | true =>
      rw [List.all_eq_true] at q
      have := q _ (List.getElem_mem hlt)
      rw [<- numAt_eq l i hlt, <- HZ.out] at this
      exact absurd this hb
    rw [this, Bool.false_and]
   have HB : Aside _ := bad
   clear hz bad
   by_cases hneg : z < 0
   ·go_wp2_with fail
    go_ret
    exact ⟨by rw [HB.out (fun q => by have := of_decide_eq_true q; omega)]; rfl, rfl⟩
   ·by_cases hbig : z > 1099511627776
    ·have hbig2 : (1099511627776 : Int) < z := hbig
     go_wp2_with fail
     go_ret
     exact ⟨by rw [HB.out (fun q => by have := of_decide_eq_true q; omega)]; rfl, rfl⟩
    ·have hbig2 : ¬ (1099511627776 : Int) < z := hbig
     go_wp2_with fail
     go_roundg (l.length - (i + 1))
     case measure => omega
     case rel =>
      refine ⟨i + 1, by go_num, by omega, Nat.le_refl _, rfl, ?_⟩
      show (l.take (i + 1)).all okCount = true
      rw [List.take_succ_eq_append_getElem hlt, List.all_append, HR.out, <- numAt_eq l i hlt, <- HZ.out]
      simp only [List.all_cons, List.all_nil, Bool.and_true, Bool.true_and]
      exact decide_eq_true (by omega)
  ·obtain rfl : i = l.length := by omega
   have hltz : ¬ (l.length : Int) < (l.length : Int) := by omega
   have hall := HR.out
   rw [List.take_length] at hall
   have HA : Aside (l.all okCount = true) := hall
   clear hall HR
   by_cases h320 : l.length <= 320
   ·have hz : (l.length : Int) <= 320 := by omega
    go_wp2_with fail
    go_ret
    exact ⟨by rw [HA.out]; simp, rfl⟩
   ·have hz : ¬ (l.length : Int) <= 320 := by omega
    go_wp2_with fail
    go_ret
    exact ⟨by simp, rfl⟩
end Go.Proofs.YthmbbpfgbpacnaaGreatDoor.Huf
