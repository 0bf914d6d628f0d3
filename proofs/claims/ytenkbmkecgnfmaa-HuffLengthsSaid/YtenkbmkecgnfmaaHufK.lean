/- Package huff's coins, and their merging with pairs. -/
import Derived.Test.YtenkbmkecgnfmaaHufJ
import Derived.Test.YtenkbmkecgnfmaaHufO
import Derived.Test.YtenkbmkecgnfmaaHufD
import Derived.WalkMore
import Derived.Deep.RegionLaw
namespace Go.Proofs.Ytenkbmkecgnfmaa.Huf
open Go.RowKit Go.Shelf Go.Lib Go.Proofs.Ytenkbmkecgnfmaa.Mem

theorem info_item : (Try.prog.info? 66).map (fun i => (i.zero, i.size, i.bytes)) = some (some (.agg #[.int .i64 0, .slice none 0 0]), 2, 32) := by kernel_rfl

def valOf (l : List Int) (s : Nat) : Nat := (numAt l s).toNat

set_option maxHeartbeats 4000000 in
theorem coinsOf_any (W : World) (v1 v2 : Value) (l : List Int) (r : List Nat) (h1 : SrcI W v1 l) (h2 : SrcI W v2 (natI r)) (hl : l.length ≤ 1048576) (hr : r.length ≤ 1048576) (hin : ∀ s ∈ r, s < l.length ∧ 0 ≤ numAt l s) :
    Calls Try.prog 36 #[v1, v2] W fun e w' => ∃ u, e = .returned u ∧ ∃ xs, OwnIt 66 w' W.heap.size u xs ∧ xs.map ItV.item = r.map (coin (valOf l)) ∧ (∀ x ∈ xs, ∀ a, x.ba = some a → W.heap.size ≤ a.block) ∧ Below W.heap.size W w' := by
  obtain ⟨ao1, c1, rfl, hao1⟩ := h1.shape
  obtain ⟨ao2, c2, rfl, hao2⟩ := h2.shape
  rw [natI_len] at hao2 h2
  rw [natI_len]
  have H1 : Aside (SrcI W (.slice ao1 l.length c1) l) := h1
  have H2 : Aside (SrcI W (.slice ao2 r.length c2) (natI r)) := h2
  have HL1 : Aside (0 < l.length → ∃ a, ao1 = some a) := hao1
  have HL2 : Aside (0 < r.length → ∃ a, ao2 = some a) := hao2
  have HIN : Aside (∀ s ∈ r, s < l.length ∧ 0 ≤ numAt l s) := hin
  clear h1 h2 hao1 hao2 hin
  go_enter Try.func36, Try.ntmps36
  go_wp2_with fail
  go_loopg [5, 10] r.length (fun kx s5 s10 wr => ∃ (i : Nat) (u : Value), s10 = .int .i64 i ∧ u = s5 ∧ i ≤ r.length ∧ r.length - i ≤ kx ∧ Aside (Below W.heap.size W wr ∧ ∃ xs, OwnIt 66 wr W.heap.size u xs ∧ xs.map ItV.item = (r.take i).map (coin (valOf l)) ∧ (∀ x ∈ xs, ∀ a, x.ba = some a → W.heap.size ≤ a.block)))
  case atStart => exact ⟨0, _, rfl, rfl, Nat.zero_le _, Nat.le_refl _, Below.refl _ _, [], OwnIt.nil _ _ _, rfl, fun x hx => by cases hx⟩
  case round =>
    obtain ⟨i, u, rfl, rfl, hi, hkx, HR⟩ := hrel
    by_cases hlt : i < r.length
    · have hltz : (i : Int) < (r.length : Int) := by omega
      obtain ⟨p, rfl⟩ := HL2.out (by omega)
      obtain ⟨hb, xs, hx1, hx2, hx3⟩ := HR.out
      have hin := HIN.out r[i] (List.getElem_mem hlt)
      obtain ⟨a, rfl⟩ := HL1.out (by omega)
      have cs : wr.cell? (p.add i) = some (.int .i64 ((r[i] : Nat) : Int)) := by
        have := srci_cell (H2.out.below hb) i (by rw [natI_len]; exact hlt)
        rw [this]
        unfold natI
        rw [List.getElem_map]
        rfl
      have cc : wr.cell? (a.add r[i]) = some (.int .i64 ((valOf l r[i] : Nat) : Int)) := by
        have := srci_cell (H1.out.below hb) r[i] hin.1
        rw [this, ← numAt_eq l _ hin.1]
        unfold valOf
        rw [Int.toNat_of_nonneg hin.2]
      have htk : r.take (i + 1) = r.take i ++ [r[i]] := List.take_succ_eq_append_getElem hlt
      obtain ⟨s, hs⟩ : ∃ s, s = r[i] := ⟨_, rfl⟩
      rw [← hs] at hin cs cc htk
      obtain ⟨cn, hcn⟩ : ∃ c, c = valOf l s := ⟨_, rfl⟩
      rw [← hcn] at cc
      have hA := (Below.refl wr.heap.size wr).alloc (Nat.le_refl _) (.cells #[.int .i64 (s : Int)] 3)
      have hszA : (wr.alloc (.cells #[.int .i64 (s : Int)] 3)).heap.size = wr.heap.size + 1 := by simp
      have hsrc : SrcI (wr.alloc (.cells #[.int .i64 (s : Int)] 3)) (.slice (some ⟨wr.heap.size, 0, none⟩) 1 1) [(s : Int)] := .inr ⟨_, 1, rfl, fun j v hj => by
        rw [Lib.addr_add, cell_of_row _ _ _ _ _ (0, 0) (heap_alloc_new _ _), Nat.zero_add]
        cases j with
        | zero => simpa [iVs, iV] using hj
        | succ j => simp [iVs] at hj⟩
      obtain ⟨v', W', q1, q2, q3, q4, q5, q6⟩ := (hx1.below hA).push Try.underlying62 info_item (Nat.le_trans hb.size hA.size) ⟨cn, [s], some ⟨wr.heap.size, 0, none⟩, 1⟩ ⟨hsrc, Nat.zero_lt_one⟩ (fun a ha e => by
        cases ha
        have := (hx1.row.lt _ e).2
        exact Nat.lt_irrefl _ this) (by
          have := congrArg List.length hx2
          rw [List.length_map, List.length_map, List.length_take] at this
          omega)
      rw [hszA] at q1
      have HQ : Aside (Below W.heap.size W W' ∧ ∃ xs, OwnIt 66 W' W.heap.size v' xs ∧ xs.map ItV.item = (r.take (i + 1)).map (coin (valOf l)) ∧ (∀ x ∈ xs, ∀ a, x.ba = some a → W.heap.size ≤ a.block)) := by
        refine ⟨hb.trans ((hA.mono hb.size).trans q3), _, q2, ?_, fun x hx a ha => ?_⟩
        rotate_left
        · rcases List.mem_append.1 hx with hx | hx
          · exact hx3 x hx a ha
          · rw [List.mem_singleton.1 hx] at ha
            cases ha
            exact hb.size
        rw [List.map_append, hx2, htk, List.map_append]
        simp [ItV.item, coin, hcn]
      have hsl : (s : Int) < (l.length : Int) := by omega
      clear hb hx1 hx2 hx3 q2 q3 q4 q5 q6 hA hsrc hszA htk hs hcn hin HR xs
      go_wp2_with (at_builtin; refine wpList_append_at _ rfl _ _ _ _ rfl _ _ rfl rfl _ _ q1 ?_)
      go_roundg (r.length - (i + 1))
      case measure => omega
      case rel => exact ⟨i + 1, _, by go_num, rfl, by omega, Nat.le_refl _, HQ⟩
    · obtain rfl : i = r.length := by omega
      have hltz : ¬ (r.length : Int) < (r.length : Int) := by omega
      go_wp2_with fail
      go_ret
      obtain ⟨hb, xs, hx1, hx2, hx3⟩ := HR.out
      rw [List.take_length] at hx2
      exact ⟨_, rfl, xs, hx1, hx2, hx3, hb⟩

theorem mergeS_cons (x y : Item) (a b : List Item) : mergeS (x :: a) (y :: b) = if x.1 ≤ y.1 then x :: mergeS a (y :: b) else y :: mergeS (x :: a) b := by
  rw [mergeS]
  by_cases h : x.1 ≤ y.1
  · rw [if_pos h, if_neg (by omega)]
  · rw [if_neg h, if_pos (by omega)]
theorem mergeS_nil (a : List Item) : mergeS a [] = a := by cases a <;> rw [mergeS]
theorem nil_mergeS (b : List Item) : mergeS [] b = b := by rw [mergeS]

set_option maxHeartbeats 8000000 in
set_option maxRecDepth 100000 in
theorem merged_any (W : World) (v1 v2 : Value) (cs ps : List ItV) (h1 : SrcIt W v1 cs) (h2 : SrcIt W v2 ps) (hlim : cs.length + ps.length ≤ 1048576) (hcap : ∀ x ∈ cs ++ ps, x.n ≤ 4611686018427387904) :
    Calls Try.prog 51 #[v1, v2] W fun e w' => ∃ u, e = .returned u ∧ ∃ xs, OwnIt 66 w' W.heap.size u xs ∧ xs.map ItV.item = mergeS (cs.map ItV.item) (ps.map ItV.item) ∧ (∀ x ∈ xs, x ∈ cs ++ ps) ∧ Below W.heap.size W w' := by
  have H0 : Aside (SrcIt W v1 cs ∧ SrcIt W v2 ps ∧ (∀ x ∈ cs ++ ps, ItS W x)) := ⟨h1, h2, fun x hx => (List.mem_append.1 hx).elim (h1.its x) (h2.its x)⟩
  clear h1 h2
  go_enter Try.func51, Try.ntmps51
  go_wp2_with fail
  go_step3
  go_wp2_with fail
  go_step3
  go_wp2_with fail
  go_loopg [0, 1, 5] (cs.length + ps.length) (fun kx s0 s1 s5 wr => ∃ (u0 u1 u5 : Value) (cr pr d : List ItV), u0 = s0 ∧ u1 = s1 ∧ u5 = s5 ∧ cr.length + pr.length ≤ kx ∧ Aside (Below W.heap.size W wr ∧ SrcIt W u0 cr ∧ SrcIt W u1 pr ∧ OwnIt 66 wr W.heap.size u5 d ∧
    d.map ItV.item ++ mergeS (cr.map ItV.item) (pr.map ItV.item) = mergeS (cs.map ItV.item) (ps.map ItV.item) ∧ d.length + cr.length + pr.length = cs.length + ps.length ∧ (∀ x ∈ cr, x ∈ cs ++ ps) ∧ (∀ x ∈ pr, x ∈ cs ++ ps) ∧ (∀ x ∈ d, x ∈ cs ++ ps)))
  case atStart => exact ⟨_, _, _, cs, ps, [], rfl, rfl, rfl, Nat.le_refl _, Below.refl _ _, H0.out.1, H0.out.2.1, OwnIt.nil _ _ _, rfl, by simp, fun x hx => List.mem_append_left _ hx, fun x hx => List.mem_append_right _ hx, fun x hx => by cases hx⟩
  case round =>
    obtain ⟨u0, u1, u5, cr, pr, d, rfl, rfl, rfl, hkx, HR⟩ := hrel
    obtain ⟨r1, r2, r3, r4, r5, r6, r7, r8, r9⟩ := HR.out
    have sepd : ∀ x ∈ cs ++ ps, ∀ a, x.ba = some a → u5.ownBlock ≠ some a.block := fun x hx a ha e => by
      have l1 := (H0.out.2.2 x hx).lt ha
      have l2 := (r4.row.lt _ e).1
      omega
    obtain ⟨ao0, c0, hv0, k1, k2, k3⟩ := r2.sh
    obtain ⟨ao1, c1, hv1, m1, m2, m3⟩ := r3.sh
    subst hv0 hv1
    cases cr with
    | nil =>
      obtain ⟨v', W', q1, q2, q3, q4⟩ := r4.pushAll Try.underlying62 info_item r1.size (r3.below r1) (fun x hx => sepd x (r8 x hx)) (by omega)
      have HQ : Aside (OwnIt 66 W' W.heap.size v' (d ++ pr) ∧ (d ++ pr).map ItV.item = mergeS (cs.map ItV.item) (ps.map ItV.item) ∧ (∀ x ∈ d ++ pr, x ∈ cs ++ ps) ∧ Below W.heap.size W W') := by
        refine ⟨q2, ?_, fun x hx => (List.mem_append.1 hx).elim (r9 x) (r8 x), r1.trans q3⟩
        rw [List.map_append, ← r5, List.map_nil, nil_mergeS]
      clear r1 r2 r3 r4 r5 r6 r7 r8 r9 q2 q3 q4 sepd k1 k2 k3 m1 m2 m3 HR
      go_wp2_with (at_builtin; refine wpList_append_at _ rfl _ _ _ _ rfl _ _ rfl rfl _ _ q1 ?_)
      rw [Exit.noGoto_ret]
      go_ret
      exact ⟨_, rfl, _, HQ.out⟩
    | cons x cr =>
      cases pr with
      | nil =>
        obtain ⟨v', W', q1, q2, q3, q4⟩ := r4.pushAll Try.underlying62 info_item r1.size (r2.below r1) (fun x hx => sepd x (r7 x hx)) (by simp only [List.length_cons, List.length_nil] at r6 ⊢; omega)
        have HQ : Aside (OwnIt 66 W' W.heap.size v' (d ++ x :: cr) ∧ (d ++ x :: cr).map ItV.item = mergeS (cs.map ItV.item) (ps.map ItV.item) ∧ (∀ y ∈ d ++ x :: cr, y ∈ cs ++ ps) ∧ Below W.heap.size W W') := by
          refine ⟨q2, ?_, fun y hy => (List.mem_append.1 hy).elim (r9 y) (r7 y), r1.trans q3⟩
          rw [List.map_append, ← r5, List.map_nil, mergeS_nil]
        have hlp : ((x :: cr).length : Int) = (cr.length : Int) + 1 := by simp
        have hne : ¬ ((cr.length : Int) + 1 = 0) := by omega
        clear r1 r2 r3 r4 r5 r6 r7 r8 r9 q2 q3 q4 sepd k1 k2 k3 m1 m2 m3 HR
        go_wp2_with (at_builtin; refine wpList_append_at _ rfl _ _ _ _ rfl _ _ rfl rfl _ _ q1 ?_)
        rw [Exit.noGoto_ret]
        go_ret
        exact ⟨_, rfl, _, HQ.out⟩
      | cons y pr =>
        obtain ⟨a0, cc0, e0, k4, k5, k6⟩ := (r2.below r1).at 0 (by simp)
        obtain ⟨a1, cc1, e1, m4, m5, m6⟩ := (r3.below r1).at 0 (by simp)
        cases e0
        cases e1
        have hx0 := hcap x (r7 x (List.mem_cons_self ..))
        have hy0 := hcap y (r8 y (List.mem_cons_self ..))
        simp only [List.getElem_cons_zero, Nat.zero_mul, Nat.zero_add] at k5 k6 m5 m6
        have hne0 : ¬ ((cr.length : Int) + 1 = 0) := by omega
        have hne1 : ¬ ((pr.length : Int) + 1 = 0) := by omega
        have hp0 : (0 : Int) < (cr.length : Int) + 1 := by omega
        have hp1 : (0 : Int) < (pr.length : Int) + 1 := by omega
        have K5 : ∀ q, (wr.drewN q).cell? a0 = some (.int .i64 (x.n : Int)) := fun q => k5
        have M5 : ∀ q, (wr.drewN q).cell? a1 = some (.int .i64 (y.n : Int)) := fun q => m5
        go_wp2_with fail
        go_quiet (fail)
        have hdr : Drew wr (wr.drewN nq) := Drew.drewN _ _
        have R0 : Aside (Below W.heap.size W wr ∧ SrcIt W (.slice (some a0) (x :: cr).length c0) (x :: cr) ∧ SrcIt W (.slice (some a1) (y :: pr).length c1) (y :: pr) ∧ OwnIt 66 wr W.heap.size u5 d ∧ (∀ x ∈ cs ++ ps, ∀ a, x.ba = some a → u5.ownBlock ≠ some a.block) ∧ (x :: cr).length ≤ c0 ∧ (y :: pr).length ≤ c1) := ⟨r1, r2, r3, r4, sepd, k1, m1⟩
        have R1 : Aside (d.map ItV.item ++ mergeS ((x :: cr).map ItV.item) ((y :: pr).map ItV.item) = mergeS (cs.map ItV.item) (ps.map ItV.item) ∧ d.length + (x :: cr).length + (y :: pr).length = cs.length + ps.length ∧ (∀ z ∈ x :: cr, z ∈ cs ++ ps) ∧ (∀ z ∈ y :: pr, z ∈ cs ++ ps) ∧ (∀ z ∈ d, z ∈ cs ++ ps)) := ⟨r5, r6, r7, r8, r9⟩
        clear r1 r2 r3 r4 r5 r6 r7 r8 r9 sepd k1 k2 k3 m1 m2 m3 k4 m4 K5 M5 hx0 hy0 HR
        by_cases hle : x.n ≤ y.n
        · skip
          have hd2 : Drew wr (wr.drewN nq).drew := hdr.trans ⟨rfl, rfl, rfl, rfl⟩
          have K5 : (wr.drewN nq).cell? a0 = some (.int .i64 (x.n : Int)) := k5
          have K6 : (wr.drewN nq).cell? ⟨a0.block, a0.off + 1, none⟩ = some (.slice x.ba x.s.length x.bc) := k6
          obtain ⟨v', W', q1, q2, q3, q4, q5, q6⟩ := (R0.out.2.2.2.1.below (hd2.below _)).push Try.underlying62 info_item (show W.heap.size ≤ wr.heap.size from R0.out.1.size) x ((H0.out.2.2 x (R1.out.2.2.1 x (List.mem_cons_self ..))).below (R0.out.1.trans (hd2.below _))) (R0.out.2.2.2.2.1 x (R1.out.2.2.1 x (List.mem_cons_self ..))) (by have := R1.out.2.1; simp only [List.length_cons] at this; omega)
          have HQ : Aside (OwnIt 66 W' W.heap.size v' (d ++ [x]) ∧ Below W.heap.size W W') := ⟨q2, R0.out.1.trans ((hd2.below _).trans q3)⟩
          have HM : Aside ((d ++ [x]).map ItV.item ++ mergeS ((cr).map ItV.item) ((y :: pr).map ItV.item) = mergeS (cs.map ItV.item) (ps.map ItV.item) ∧ (d ++ [x]).length + (cr).length + (y :: pr).length = cs.length + ps.length) := by
            obtain ⟨e1, e2, -, -, -⟩ := R1.out
            refine ⟨?_, by simp only [List.length_append, List.length_cons, List.length_nil] at e2 ⊢; omega⟩
            rw [← e1, List.map_cons, List.map_cons, mergeS_cons, if_pos (show x.item.fst ≤ y.item.fst from hle), List.map_append, List.append_assoc]
            rfl
          have HX : Aside ((∀ z ∈ cr, z ∈ cs ++ ps) ∧ (∀ z ∈ y :: pr, z ∈ cs ++ ps) ∧ (∀ z ∈ d ++ [x], z ∈ cs ++ ps)) := by
            obtain ⟨-, -, e3, e4, e5⟩ := R1.out
            exact ⟨fun z hz => e3 z (List.mem_cons_of_mem _ hz), fun z hz => e4 z hz, fun z hz => (List.mem_append.1 hz).elim (e5 z) (fun h => by rw [List.mem_singleton.1 h]; exact R1.out.2.2.1 x (List.mem_cons_self ..))⟩
          have hc0 : (cr.length : Int) + 1 ≤ (c0 : Int) := by have := R0.out.2.2.2.2.2.1; simp only [List.length_cons] at this; omega
          have hc4 : (1 : Int) ≤ (cr.length : Int) + 1 := by omega
          have hc2 : cr.length + 1 ≤ c0 := by omega
          have hc3 : 1 ≤ c0 := by omega
          generalize wr.drewN nq = w1 at hdr hd2 K5 K6 q1 q2 q3 q4 q5 q6 ⊢
          clear q2 q3 q4 q5 q6
          by_cases hcx : c0 = 1
          · have hcz : cr.length = 0 := by omega
            have HD : Aside (SrcIt W (.slice (some a0) cr.length 0) cr) := by
              have := R0.out.2.1.drop 1 (by simp) a0 0 (by simp only [List.length_cons]; omega) (fun h => by simp only [List.length_cons] at h; omega)
              exact this
            clear hcz
            go_wp2_with fail
            go_region_law (refine step_append_run rfl _ _ _ _ rfl _ _ rfl rfl _ _ q1 ?_)
            go_wp2_with fail
            go_roundg (cr.length + (y :: pr).length)
            case measure => simp only [List.length_cons] at hkx ⊢; omega
            case rel =>
              obtain ⟨e1, e2⟩ := HM.out
              obtain ⟨e3, e4, e5⟩ := HX.out
              exact ⟨_, _, _, cr, y :: pr, d ++ [x], rfl, rfl, rfl, Nat.le_refl _, HQ.out.2, HD.out, R0.out.2.2.1, HQ.out.1, e1, e2, e3, e4, e5⟩
          · have HD : Aside (SrcIt W (.slice (some ⟨a0.block, a0.off + 2, none⟩) cr.length (c0 - 1)) cr) := by
              have := R0.out.2.1.drop 1 (by simp) ⟨a0.block, a0.off + 2, none⟩ (c0 - 1) (by simp only [List.length_cons]; omega) (fun h => rfl)
              exact this
            go_wp2_with fail
            go_region_law (refine step_append_run rfl _ _ _ _ rfl _ _ rfl rfl _ _ q1 ?_)
            go_wp2_with fail
            go_roundg (cr.length + (y :: pr).length)
            case measure => simp only [List.length_cons] at hkx ⊢; omega
            case rel =>
              obtain ⟨e1, e2⟩ := HM.out
              obtain ⟨e3, e4, e5⟩ := HX.out
              exact ⟨_, _, _, cr, y :: pr, d ++ [x], rfl, rfl, rfl, Nat.le_refl _, HQ.out.2, HD.out, R0.out.2.2.1, HQ.out.1, e1, e2, e3, e4, e5⟩
        · skip
          have hd2 : Drew wr (wr.drewN nq).drew := hdr.trans ⟨rfl, rfl, rfl, rfl⟩
          have K5 : (wr.drewN nq).cell? a1 = some (.int .i64 (y.n : Int)) := m5
          have K6 : (wr.drewN nq).cell? ⟨a1.block, a1.off + 1, none⟩ = some (.slice y.ba y.s.length y.bc) := m6
          obtain ⟨v', W', q1, q2, q3, q4, q5, q6⟩ := (R0.out.2.2.2.1.below (hd2.below _)).push Try.underlying62 info_item (show W.heap.size ≤ wr.heap.size from R0.out.1.size) y ((H0.out.2.2 y (R1.out.2.2.2.1 y (List.mem_cons_self ..))).below (R0.out.1.trans (hd2.below _))) (R0.out.2.2.2.2.1 y (R1.out.2.2.2.1 y (List.mem_cons_self ..))) (by have := R1.out.2.1; simp only [List.length_cons] at this; omega)
          have HQ : Aside (OwnIt 66 W' W.heap.size v' (d ++ [y]) ∧ Below W.heap.size W W') := ⟨q2, R0.out.1.trans ((hd2.below _).trans q3)⟩
          have HM : Aside ((d ++ [y]).map ItV.item ++ mergeS ((x :: cr).map ItV.item) ((pr).map ItV.item) = mergeS (cs.map ItV.item) (ps.map ItV.item) ∧ (d ++ [y]).length + (x :: cr).length + (pr).length = cs.length + ps.length) := by
            obtain ⟨e1, e2, -, -, -⟩ := R1.out
            refine ⟨?_, by simp only [List.length_append, List.length_cons, List.length_nil] at e2 ⊢; omega⟩
            rw [← e1, List.map_cons, List.map_cons, mergeS_cons, if_neg (show ¬ x.item.fst ≤ y.item.fst from hle), List.map_append, List.append_assoc]
            rfl
          have HX : Aside ((∀ z ∈ x :: cr, z ∈ cs ++ ps) ∧ (∀ z ∈ pr, z ∈ cs ++ ps) ∧ (∀ z ∈ d ++ [y], z ∈ cs ++ ps)) := by
            obtain ⟨-, -, e3, e4, e5⟩ := R1.out
            exact ⟨fun z hz => e3 z hz, fun z hz => e4 z (List.mem_cons_of_mem _ hz), fun z hz => (List.mem_append.1 hz).elim (e5 z) (fun h => by rw [List.mem_singleton.1 h]; exact R1.out.2.2.2.1 y (List.mem_cons_self ..))⟩
          have hc0 : (pr.length : Int) + 1 ≤ (c1 : Int) := by have := R0.out.2.2.2.2.2.2; simp only [List.length_cons] at this; omega
          have hc4 : (1 : Int) ≤ (pr.length : Int) + 1 := by omega
          have hc2 : pr.length + 1 ≤ c1 := by omega
          have hc3 : 1 ≤ c1 := by omega
          generalize wr.drewN nq = w1 at hdr hd2 K5 K6 q1 q2 q3 q4 q5 q6 ⊢
          clear q2 q3 q4 q5 q6
          by_cases hcx : c1 = 1
          · have hcz : pr.length = 0 := by omega
            have HD : Aside (SrcIt W (.slice (some a1) pr.length 0) pr) := by
              have := R0.out.2.2.1.drop 1 (by simp) a1 0 (by simp only [List.length_cons]; omega) (fun h => by simp only [List.length_cons] at h; omega)
              exact this
            clear hcz
            go_wp2_with fail
            go_region_law (refine step_append_run rfl _ _ _ _ rfl _ _ rfl rfl _ _ q1 ?_)
            go_wp2_with fail
            go_roundg ((x :: cr).length + pr.length)
            case measure => simp only [List.length_cons] at hkx ⊢; omega
            case rel =>
              obtain ⟨e1, e2⟩ := HM.out
              obtain ⟨e3, e4, e5⟩ := HX.out
              exact ⟨_, _, _, x :: cr, pr, d ++ [y], rfl, rfl, rfl, Nat.le_refl _, HQ.out.2, R0.out.2.1, HD.out, HQ.out.1, e1, e2, e3, e4, e5⟩
          · have HD : Aside (SrcIt W (.slice (some ⟨a1.block, a1.off + 2, none⟩) pr.length (c1 - 1)) pr) := by
              have := R0.out.2.2.1.drop 1 (by simp) ⟨a1.block, a1.off + 2, none⟩ (c1 - 1) (by simp only [List.length_cons]; omega) (fun h => rfl)
              exact this
            go_wp2_with fail
            go_region_law (refine step_append_run rfl _ _ _ _ rfl _ _ rfl rfl _ _ q1 ?_)
            go_wp2_with fail
            go_roundg ((x :: cr).length + pr.length)
            case measure => simp only [List.length_cons] at hkx ⊢; omega
            case rel =>
              obtain ⟨e1, e2⟩ := HM.out
              obtain ⟨e3, e4, e5⟩ := HX.out
              exact ⟨_, _, _, x :: cr, pr, d ++ [y], rfl, rfl, rfl, Nat.le_refl _, HQ.out.2, R0.out.2.1, HD.out, HQ.out.1, e1, e2, e3, e4, e5⟩
end Go.Proofs.Ytenkbmkecgnfmaa.Huf
