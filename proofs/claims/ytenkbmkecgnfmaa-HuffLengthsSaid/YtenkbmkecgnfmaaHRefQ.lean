/- The document's own Lengths: its walk. -/
import Derived.Test.YtenkbmkecgnfmaaHRefP
import Derived.BigRegion
namespace Go.Proofs.Ytenkbmkecgnfmaa.Huf
open Go.RowKit Go.Shelf Go.Lib Go.Proofs.Ytenkbmkecgnfmaa.Mem

theorem lengthsR_bad {l : List Int} {limit : Int} {i : Nat} (hi : i < l.length) (h : okCount (numAt l i) = false) : lengthsR l limit = ([], 1) := by
  unfold lengthsR
  rw [if_neg]
  rintro ⟨ha, -⟩
  have := List.all_eq_true.1 ha l[i] (List.getElem_mem hi)
  rw [← numAt_eq l i hi, h] at this
  cases this
theorem all_of {l : List Int} (h : ∀ s, s < l.length → okCount (numAt l s) = true) : l.all okCount = true := by
  rw [List.all_eq_true]
  intro x hx
  obtain ⟨i, hi, rfl⟩ := List.getElem_of_mem hx
  rw [← numAt_eq l i hi]
  exact h i hi

set_option maxHeartbeats 16000000 in
set_option maxRecDepth 100000 in
theorem refLengths_ok (W : World) (v : Value) (l : List Int) (L : Nat) (hs : SrcI W v l) (h1 : l.length ≤ 320) (h2 : 1 ≤ L) (h3 : L ≤ 15) :
    Calls Try.prog 12 #[v, .int .i64 (L : Int)] W fun e w' => ∃ u, e = .returned (.tuple #[u, .int .i64 (lengthsR l L).2]) ∧ w'.ownsRow W.heap.size 3 1 u (lengthsR l L).1.length (iVs (lengthsR l L).1) ∧ Below W.heap.size W w' := by
  obtain ⟨ao, c, rfl, hao⟩ := hs.shape
  have HS : Aside (SrcI W (.slice ao l.length c) l) := hs
  have HA : Aside (0 < l.length → ∃ a, ao = some a) := hao
  have b1 : ¬ (l.length : Int) > 320 := by omega
  have b2 : ¬ (L : Int) < 1 := by omega
  have b3 : ¬ (L : Int) > 15 := by omega
  obtain ⟨r, hr⟩ : ∃ r, r = lengthsR l (L : Int) := ⟨_, rfl⟩
  have HRR : Aside (r = lengthsR l (L : Int)) := hr
  rw [← hr]
  clear hs hao hr
  go_enter Try.func12, Try.ntmps12
  go_upto_region 5 with fail
  clear b1 b2 b3
  go_loopg [6, 7] l.length (fun kx s6 s7 wr => ∃ (i : Nat), s6 = .int .i64 (cntN l i : Nat) ∧ s7 = .int .i64 i ∧ i ≤ l.length ∧ l.length - i ≤ kx ∧ Aside ((∀ s, s < i → okCount (numAt l s) = true) ∧ W = wr))
  case atStart => exact ⟨0, rfl, rfl, Nat.zero_le _, Nat.le_refl _, fun s hs => by omega, rfl⟩
  case round =>
    obtain ⟨i, rfl, rfl, hi, hkx, HQ⟩ := hrel
    obtain rfl : W = wr := HQ.out.2
    by_cases hlt : i < l.length
    · have hltz : (i : Int) < (l.length : Int) := by omega
      have i0 : (0 : Int) ≤ (i : Int) := by omega
      have wi : IntKind.i64.wrap ((i : Int) + 1) = (i : Int) + 1 := by rw [IntKind.wrap_i64]; omega
      obtain ⟨a, rfl⟩ := HA.out (by omega)
      have cc : W.cell? (a.add i) = some (.int .i64 (numAt l i)) := by rw [srci_cell HS.out i hlt, ← numAt_eq l i hlt]
      have hsc := cntN_succ l i
      have hcl := cntN_le l i
      have HB : Aside (okCount (numAt l i) = false → r = ([], 1)) := fun h => HRR.out.trans (lengthsR_bad hlt h)
      have HG : Aside (okCount (numAt l i) = true → ∀ s, s < i + 1 → okCount (numAt l s) = true) := fun h s hs => by
        rcases Nat.lt_or_ge s i with q | q
        · exact HQ.out.1 s q
        · obtain rfl : s = i := by omega
          exact h
      obtain ⟨n1, hn1⟩ : ∃ n, n = cntN l (i + 1) := ⟨_, rfl⟩
      rw [← hn1] at hsc
      have HN1 : Aside (n1 = cntN l (i + 1)) := hn1
      clear hn1
      generalize cntN l i = n0 at *
      generalize numAt l i = z at *
      by_cases g1 : z < 0
      · have e := HB.out (decide_eq_false (by omega))
        subst e
        go_wp2_with fail
        go_ret2
        exact ⟨_, rfl, ⟨rfl, .inl ⟨rfl, rfl⟩⟩, Below.refl _ _⟩
      · by_cases g2 : z > 1099511627776
        · have e := HB.out (decide_eq_false (by omega))
          subst e
          go_wp2_with fail
          go_ret2
          exact ⟨_, rfl, ⟨rfl, .inl ⟨rfl, rfl⟩⟩, Below.refl _ _⟩
        · have HG2 : Aside _ := HG.out (decide_eq_true (by omega))
          clear HB HG
          by_cases g3 : z > 0
          · rw [if_neg (by omega)] at hsc
            have wn : IntKind.i64.wrap ((n0 : Int) + 1) = (n0 : Int) + 1 := by rw [IntKind.wrap_i64]; omega
            go_wp2_with fail
            go_roundg (l.length - (i + 1))
            case measure => omega
            case rel => exact ⟨i + 1, by rw [← HN1.out, hsc]; rfl, by go_num, by omega, Nat.le_refl _, HG2.out, rfl⟩
          · rw [if_pos (by omega)] at hsc
            go_wp2_with fail
            go_roundg (l.length - (i + 1))
            case measure => omega
            case rel => exact ⟨i + 1, by rw [← HN1.out, hsc]; rfl, by go_num, by omega, Nat.le_refl _, HG2.out, rfl⟩
    · obtain rfl : i = l.length := by omega
      have hltz : ¬ (l.length : Int) < (l.length : Int) := by omega
      rw [← rank_count]
      obtain ⟨k, hkk⟩ : ∃ k, k = (rankL l).length := ⟨_, rfl⟩
      have HK : Aside (k = (rankL l).length) := hkk
      rw [← hkk]
      have hall := all_of HQ.out.1
      have hkl := rankL_len l
      rw [← hkk] at hkl
      obtain ⟨P, hP⟩ : ∃ P, P = 2 ^ L := ⟨_, rfl⟩
      have hP2 : P ≤ 32768 := by
        rw [hP]
        exact Nat.le_trans (Nat.pow_le_pow_right (by decide) h3) (by decide)
      have zP : (2 : Int) ^ L = (P : Int) := by rw [hP, Int.natCast_pow]; rfl
      have wP : IntKind.i64.wrap (P : Int) = (P : Int) := by rw [IntKind.wrap_i64]; omega


      by_cases hbig : k > P
      · have e : r = ([], 1) := by
          rw [HRR.out]
          unfold lengthsR
          rw [if_neg]
          rintro ⟨-, -, -, -, h⟩
          rw [Int.toNat_natCast, ← hkk, ← hP] at h
          omega
        subst e
        have hbz : (k : Int) > (P : Int) := by omega
        clear hkk HQ
        clear hP
        go_wp2_with fail
        go_ret2
        exact ⟨_, rfl, ⟨rfl, .inl ⟨rfl, rfl⟩⟩, Below.refl _ _⟩
      · have hbz : ¬ (k : Int) > (P : Int) := by omega
        have hAb : Able l L := ⟨hall, h1, h2, h3, by rw [← hkk, ← hP]; omega⟩
        have e : r = (lensOut l L, 0) := HRR.out.trans (lengthsR_able hAb)
        subst e
        have HAB : Aside (Able l L) := hAb
        clear hP hAb hkk hall HQ
        have hmk : Aside (∃ g vm W2, vm = .slice (some ⟨g, 0, none⟩) l.length l.length ∧ (Instr.makeSlice 22 (.int .i64 (l.length : Int)) (.int .i64 (l.length : Int))).run Try.prog W = .ok vm W2 ∧ W2.ownsRow W.heap.size 3 1 vm l.length (iVs (List.replicate l.length 0)) ∧ Below W.heap.size W W2) := by
          obtain ⟨vm, W2, h1, h2, h3, g, hg⟩ := makeI_any W l.length (by omega)
          exact ⟨g, vm, W2, hg, h1, h2, h3⟩
        obtain ⟨g, vm, W2, rfl, m1, m2, m3⟩ := hmk.out
        have hg : W.heap.size ≤ g ∧ g < W2.heap.size := by
          obtain ⟨g', e1, e2, e3⟩ := own_block m2
          cases e1
          exact ⟨e2, e3⟩
        have HCO := Lib.hid (refCoins_any W2 (.slice ao l.length c) l (HS.out.below m3) h1 (fun s => by
          by_cases hsl : s < l.length
          · exact (okCount_at HAB.out.all hsl).1
          · unfold numAt; rw [List.getD_eq_getElem?_getD, List.getElem?_eq_none (by omega)]; exact Int.le_refl _))
        have HW2 : Aside (W2.ownsRow W.heap.size 3 1 (.slice (some ⟨g, 0, none⟩) l.length l.length) l.length (iVs (List.replicate l.length 0)) ∧ Below W.heap.size W W2 ∧ W.heap.size ≤ g ∧ g < W2.heap.size) := ⟨m2, m3, hg⟩
        clear m2 m3 hg hmk
        go_upto_region 14 with (first | (refine wpList_makeSlice_run rfl m1 ?_) | (simp only [m1]))
        go_upto_region 15 with (first
          | (go_at_call 37; refine HCO.out.mono ?_; rintro e w3 ⟨u, rfl, cs, y1, y2, y3, y4⟩; obtain ⟨uo, cap, rfl, hcap, hcm, hnone⟩ := own_shape y1.row))
        have hcl : cs.length = k := by
          have h := congrArg List.length y2
          rw [List.length_map, List.length_map] at h
          rw [h, ← HK.out]
        have HC3 : Aside (OwnIt 70 w3 W2.heap.size (.slice uo cs.length cap) cs ∧ cs.map ItV.item = (rankL l).map (coin (valOf l)) ∧ (∀ x ∈ cs, ∀ a, x.ba = some a → W2.heap.size ≤ a.block) ∧ Below W2.heap.size W2 w3) := ⟨y1, y2, y3, y4⟩
        clear y1 y2 y3 y4 HCO hnone hcm
        by_cases hk1 : k = 1
        · have hkb : ((k : Int) == 1) = true := by rw [beq_iff_eq]; omega
          obtain ⟨y1, y2, y3, y4⟩ := HC3.out
          obtain ⟨p, cp, e, _, x1, x2⟩ := y1.src.at 0 (by omega)
          cases e
          obtain ⟨x, hx⟩ : ∃ x, x = cs[0]'(by omega) := ⟨_, rfl⟩
          rw [← hx] at x1 x2
          have hk0 : 0 < (rankL l).length := by rw [← HK.out]; omega
          obtain ⟨s, hs⟩ : ∃ s, s = (rankL l)[0] := ⟨_, rfl⟩
          have hit : x.item = coin (valOf l) s := by
            have h1 : (cs.map ItV.item)[0]? = some x.item := by rw [List.getElem?_map, List.getElem?_eq_getElem (by omega), hx]; rfl
            rw [y2, List.getElem?_map, List.getElem?_eq_getElem hk0, ← hs] at h1
            have h2 : coin (valOf l) s = x.item := by simpa using h1
            exact h2.symm
          have hxs : x.s = [s] := congrArg Prod.snd hit
          have hits := (y1.its _ (List.getElem_mem (show 0 < cs.length by omega)))
          rw [← hx] at hits
          have hits1 := hits.1
          rw [hxs] at hits1
          have hsl : x.sl = .slice x.ba 1 x.bc := by unfold ItV.sl; rw [hxs]; rfl
          rw [hsl] at hits1 x2
          obtain ⟨qo, qc, eq, hqa⟩ := hits1.shape
          cases eq
          obtain ⟨q, hq⟩ := hqa (by simp [natI])
          rw [hq] at hits1 x2
          have cq0 := srci_cell hits1 0 (by simp [natI])
          have cq : w3.cell? q = some (.int .i64 (s : Int)) := cq0
          have X2 : w3.cell? ⟨p.block, p.off + 1, none⟩ = some (.slice (some q) 1 x.bc) := x2
          have hm := (rankL_mem l _).1 (List.getElem_mem hk0)
          have hrow := own_below HW2.out.1 y4
          obtain ⟨cc, ff⟩ := own_cellI hrow (rankL l)[0] (by rw [List.length_replicate]; exact hm.1)
          have hset := own_setI hrow (rankL l)[0] 1
          rw [lens_one (L := L) (by rw [← HK.out]; exact hk1)] at hset
          have hss : Only (fun i => i = g) w3 (w3.setCell ⟨g, (rankL l)[0], none⟩ (.int .i64 1)) := Only.setCell (S := fun i => i = g) rfl _ _
          have hb3 : Below W.heap.size W w3 := HW2.out.2.1.trans (y4.mono HW2.out.2.1.size)
          have hlen : (lensOut l L).length = l.length := by unfold lensOut; split <;> simp
          have HQ2 : Aside ((w3.setCell ⟨g, (rankL l)[0], none⟩ (.int .i64 1)).ownsRow W.heap.size 3 1 (.slice (some ⟨g, 0, none⟩) l.length l.length) (lensOut l L).length (iVs (lensOut l L)) ∧ Below W.heap.size W (w3.setCell ⟨g, (rankL l)[0], none⟩ (.int .i64 1))) :=
            ⟨by rw [hlen]; exact hset, hb3.trans (hss.below hb3.size (fun i hi => by rw [hi]; exact HW2.out.2.2.1))⟩
          have cc' : ∃ old : Int, w3.cell? ⟨g, (rankL l)[0], none⟩ = some (.int .i64 old) := ⟨_, cc⟩
          have hml := hm.1
          rw [← hs] at cc' ff HQ2 hml
          obtain ⟨old, hold⟩ := cc'
          have hslz : (s : Int) < (l.length : Int) := by omega
          have hs0 : (0 : Int) ≤ (s : Int) := by omega
          have hcz : (0 : Int) < (cs.length : Int) := by omega
          have hc0 : 0 < cs.length := by omega
          clear y1 y2 y3 y4 hrow cc hset hss hs hm hk0 hk1 hits hits1 hit hx x1 x2 hsl hxs hb3 hlen cq0 HC3 hcl
          go_wp2_with fail
          go_ret2
          exact ⟨_, rfl, HQ2.out.1, HQ2.out.2⟩
        · have hkb : ((k : Int) == 1) = false := by rw [beq_eq_false_iff_ne]; omega
          have HBN : Aside (Bnd 1099511627776 1 (cs.map ItV.item)) := by
            rw [HC3.out.2.1]; exact rank_bnd HAB.out.all
          have hb03 : Below W2.heap.size W2 w3 := HC3.out.2.2.2
          have HLC : Aside (LocIt W2.heap.size (.slice uo cs.length cap) cs) := ⟨fun g' hg' => (HC3.out.1.row.lt g' hg').1, HC3.out.2.2.1⟩
          have HSC : Aside (SrcIt w3 (.slice uo cs.length cap) cs ∧ W2.heap.size ≤ w3.heap.size) := ⟨HC3.out.1.src, hb03.size⟩
          have hcs320 : cs.length ≤ 320 := by omega
          have HCK : Aside (cs.length = k) := hcl
          clear hb03 hcl
          go_upto_region 20 with fail
          go_loopg [10, 11] L (fun kx s10 s11 wr => ∃ (j : Nat) (u : Value), s11 = .int .i64 ((j : Int) + 1) ∧ u = s10 ∧ j + 1 ≤ L ∧ L - (j + 1) ≤ kx ∧ Aside (Below w3.heap.size w3 wr ∧ ∃ xs, SrcIt wr u xs ∧ LocIt W2.heap.size u xs ∧ xs.map ItV.item = rowS (cs.map ItV.item) (j + 1)))
          case atStart =>
            refine ⟨0, _, rfl, rfl, h2, by omega, Below.refl _ _, cs, HSC.out.1, HLC.out, ?_⟩
            show _ = mergeS (cs.map ItV.item) (pairS [])
            rw [show pairS [] = [] from rfl, mergeS_nil]
          case round =>
            obtain ⟨j, u, rfl, rfl, hj, hkx, HR⟩ := hrel
            by_cases hlt : j + 1 < L
            · have hltz : (j : Int) + 1 < (L : Int) := by omega
              have wj : IntKind.i64.wrap ((j : Int) + 1 + 1) = (j : Int) + 1 + 1 := by rw [IntKind.wrap_i64]; omega
              obtain ⟨r1, xs, r2, r3, r4⟩ := HR.out
              have hlx : xs.length ≤ 640 := by
                have := congrArg List.length r4
                rw [List.length_map] at this
                have h2 := row_len (cs.map ItV.item) (j + 1)
                rw [List.length_map] at h2
                omega
              have hbx := bnd_items r4 (row_bnd HBN.out j)
              have hp : (2 : Nat) ^ j ≤ 2 ^ 13 := Nat.pow_le_pow_right (by decide) (by omega)
              have hpe : (2 : Nat) ^ 13 = 8192 := rfl
              have HBX : Aside (∀ x ∈ xs, x.n ≤ 9007199254740992 ∧ x.s.length ≤ 8192) := fun x hx => by
                have := hbx x hx
                constructor <;> omega
              obtain ⟨ro, rc, rfl, hrc, hrn, -⟩ := r2.sh
              have HX : Aside (SrcIt wr (.slice ro xs.length rc) xs ∧ LocIt W2.heap.size (.slice ro xs.length rc) xs ∧ xs.map ItV.item = rowS (cs.map ItV.item) (j + 1) ∧ Below w3.heap.size w3 wr ∧ (ro = none → rc = 0)) := ⟨r2, r3, r4, r1, hrn⟩
              clear r1 r2 r3 r4 hbx hp hpe hrn HR
              go_upto_region 24 with fail
              obtain ⟨w5, hw5⟩ : ∃ w, w = wr := ⟨_, rfl⟩
              rw [← hw5] at HX ⊢
              clear hw5
              go_loopg [12, 13] (xs.length + 1) (fun kx s12 s13 wr => ∃ (m q : Nat) (u : Value), s13 = .int .i64 q ∧ u = s12 ∧ q = 2 * m ∧ q ≤ xs.length + 1 ∧ xs.length + 1 - q ≤ kx ∧ Aside (Below w5.heap.size w5 wr ∧ ∃ ys, OwnIt 70 wr w5.heap.size u ys ∧ ys.map ItV.item = (pairS (xs.map ItV.item)).take m ∧ ys.length = m ∧ (∀ y ∈ ys, ∀ a, y.ba = some a → w5.heap.size ≤ a.block)))
              case atStart => exact ⟨0, 0, _, rfl, rfl, rfl, Nat.zero_le _, by omega, Below.refl _ _, [], OwnIt.nil _ _ _, rfl, rfl, fun y hy => (by cases hy)⟩
              case round =>
                obtain ⟨m, q, u, rfl, rfl, hq, hql, hkx', HQ⟩ := hrel
                obtain ⟨q1, hq1⟩ : ∃ n, n = q + 1 := ⟨_, rfl⟩
                have wq : IntKind.i64.wrap ((q : Int) + 1) = (q1 : Int) := by rw [IntKind.wrap_i64]; omega
                have wq2 : IntKind.i64.wrap ((q : Int) + 2) = (q : Int) + 2 := by rw [IntKind.wrap_i64]; omega
                have HQ1 : Aside (q1 = q + 1 ∧ q = 2 * m) := ⟨hq1, hq⟩
                have hq1b : q1 ≤ xs.length + 2 := by omega
                by_cases hq1l : q1 < xs.length
                · have hq1z : (q1 : Int) < (xs.length : Int) := by omega
                  have hqz : (q : Int) < (xs.length : Int) := by omega
                  have hqq : q < xs.length := by omega
                  obtain ⟨t1, ys, t2, t3, t4, t5⟩ := HQ.out
                  obtain ⟨p, rc', e0, _, k5, k6⟩ := HX.out.1.at q hqq
                  cases e0
                  obtain ⟨p', rc'', e1, _, m5, m6⟩ := HX.out.1.at q1 hq1l
                  cases e1
                  obtain ⟨x, hx⟩ : ∃ x, x = xs[q] := ⟨_, rfl⟩
                  obtain ⟨y, hy⟩ : ∃ y, y = xs[q1] := ⟨_, rfl⟩
                  rw [← hx] at k5 k6
                  rw [← hy] at m5 m6
                  have hbx := HBX.out x (by rw [hx]; exact List.getElem_mem hqq)
                  have hby := HBX.out y (by rw [hy]; exact List.getElem_mem hq1l)
                  have hix : ItS wr x := (by rw [hx]; exact HX.out.1.its _ (List.getElem_mem hqq) : ItS w5 x).below t1
                  have hiy : ItS wr y := (by rw [hy]; exact HX.out.1.its _ (List.getElem_mem hq1l) : ItS w5 y).below t1
                  have hpa := pairS_at (xs.map ItV.item) m x.item y.item (by rw [← hq, List.getElem?_map, List.getElem?_eq_getElem hqq, hx]; rfl) (by rw [← hq, ← hq1, List.getElem?_map, List.getElem?_eq_getElem hq1l, hy]; rfl)
                  obtain ⟨u1, W1, a1, a2, ao1, c1, W2', a3, a4, v', W3, a5, a6, a7, a8⟩ := pair_step t1.size t2 hix hiy (by omega) (by omega)
                  have HSS : ∀ w, Below wr.heap.size wr w → (fun w' => w'.cell? (p.add (q * 2)) = some (.int .i64 (x.n : Int)) ∧ w'.cell? ⟨(p.add (q * 2)).block, (p.add (q * 2)).off + 1, none⟩ = some (.slice x.ba x.s.length x.bc) ∧ w'.cell? (p.add (q1 * 2)) = some (.int .i64 (y.n : Int)) ∧ w'.cell? ⟨(p.add (q1 * 2)).block, (p.add (q1 * 2)).off + 1, none⟩ = some (.slice y.ba y.s.length y.bc)) w := fun w hb => by
                    have hb5 : Below w5.heap.size w5 w := t1.trans (hb.mono t1.size)
                    refine ⟨(hb5.cell (block_lt_of_cell k5)).trans k5, ?_, (hb5.cell (block_lt_of_cell m5)).trans m5, ?_⟩
                    · rw [second]; exact (hb5.cell (block_lt_of_cell k6)).trans k6
                    · rw [second]; exact (hb5.cell (block_lt_of_cell m6)).trans m6
                  have hS3 : (fun w' => w'.cell? (p.add (q * 2)) = some (.int .i64 (x.n : Int)) ∧ w'.cell? ⟨(p.add (q * 2)).block, (p.add (q * 2)).off + 1, none⟩ = some (.slice x.ba x.s.length x.bc) ∧ w'.cell? (p.add (q1 * 2)) = some (.int .i64 (y.n : Int)) ∧ w'.cell? ⟨(p.add (q1 * 2)).block, (p.add (q1 * 2)).off + 1, none⟩ = some (.slice y.ba y.s.length y.bc)) W3 := by
                    have hb5 : Below w5.heap.size w5 W3 := t1.trans a8
                    refine ⟨(hb5.cell (block_lt_of_cell k5)).trans k5, ?_, (hb5.cell (block_lt_of_cell m5)).trans m5, ?_⟩
                    · rw [second]; exact (hb5.cell (block_lt_of_cell k6)).trans k6
                    · rw [second]; exact (hb5.cell (block_lt_of_cell m6)).trans m6
                  have HNX : Aside (Below w5.heap.size w5 W3 ∧ ∃ ys, OwnIt 70 W3 w5.heap.size v' ys ∧ ys.map ItV.item = (pairS (xs.map ItV.item)).take (m + 1) ∧ ys.length = m + 1 ∧ (∀ y ∈ ys, ∀ a, y.ba = some a → w5.heap.size ≤ a.block)) := by
                    refine ⟨t1.trans a8, _, a6, ?_, by rw [List.length_append, t4]; rfl, fun z hz b hb => ?_⟩
                    · have hjl : m < (pairS (xs.map ItV.item)).length := (List.getElem?_eq_some_iff.1 hpa).1
                      rw [List.map_append, t3, List.take_succ_eq_append_getElem hjl]
                      congr 1
                      rw [(List.getElem?_eq_some_iff.1 hpa).2]
                      rfl
                    · rcases List.mem_append.1 hz with hz | hz
                      · exact t5 z hz b hb
                      · rw [List.mem_singleton.1 hz] at hb
                        exact Nat.le_trans t1.size (a7 b hb)
                  have hdw := (show Drew wr wr.drew from ⟨rfl, rfl, rfl, rfl⟩).below wr.heap.size
                  have hS0 := HSS wr (Below.refl _ _)
                  have hS1 := HSS W1 a2
                  have hS2 := HSS W2' a4
                  have hSa : ∀ o, (fun w' => w'.cell? (p.add (q * 2)) = some (.int .i64 (x.n : Int)) ∧ w'.cell? ⟨(p.add (q * 2)).block, (p.add (q * 2)).off + 1, none⟩ = some (.slice x.ba x.s.length x.bc) ∧ w'.cell? (p.add (q1 * 2)) = some (.int .i64 (y.n : Int)) ∧ w'.cell? ⟨(p.add (q1 * 2)).block, (p.add (q1 * 2)).off + 1, none⟩ = some (.slice y.ba y.s.length y.bc)) (wr.drew.alloc o) := fun o => HSS _ (hdw.trans (((Below.refl _ wr.drew).alloc (Nat.le_refl _) o).mono hdw.size))
                  have hSb : ∀ o, (fun w' => w'.cell? (p.add (q * 2)) = some (.int .i64 (x.n : Int)) ∧ w'.cell? ⟨(p.add (q * 2)).block, (p.add (q * 2)).off + 1, none⟩ = some (.slice x.ba x.s.length x.bc) ∧ w'.cell? (p.add (q1 * 2)) = some (.int .i64 (y.n : Int)) ∧ w'.cell? ⟨(p.add (q1 * 2)).block, (p.add (q1 * 2)).off + 1, none⟩ = some (.slice y.ba y.s.length y.bc)) (W2'.alloc o) := fun o => HSS _ (a4.trans (((Below.refl _ W2').alloc (Nat.le_refl _) o).mono a4.size))
                  have wsum : IntKind.i64.wrap ((x.n : Int) + (y.n : Int)) = (x.n : Int) + (y.n : Int) := by rw [IntKind.wrap_i64]; omega
                  have mixed : Try.prog.follows .mixedOrders = true := by kernel_rfl
                  clear t1 t2 t3 t4 t5 k5 k6 m5 m6 hx hy hbx hby hix hiy hpa a2 a4 a6 a7 a8 HSS hdw hq hq1 HQ
                  obtain ⟨s1, s2, s3, s4⟩ := hS0
                  go_wp2_with fail
                  go_region_held3 (fun w' => w'.cell? (p.add (q * 2)) = some (.int .i64 (x.n : Int)) ∧ w'.cell? ⟨(p.add (q * 2)).block, (p.add (q * 2)).off + 1, none⟩ = some (.slice x.ba x.s.length x.bc) ∧ w'.cell? (p.add (q1 * 2)) = some (.int .i64 (y.n : Int)) ∧ w'.cell? ⟨(p.add (q1 * 2)).block, (p.add (q1 * 2)).off + 1, none⟩ = some (.slice y.ba y.s.length y.bc)) (first | go_keep | exact ⟨s1, s2, s3, s4⟩ | exact hSa _ | exact hS1 | exact hS2 | exact hSb _ | exact hS3)
                   (first
                    | (refine step_append_run rfl _ _ _ _ rfl _ _ rfl rfl _ _ a1 ?_)
                    | (refine step_append_run rfl _ _ _ _ rfl _ _ rfl rfl _ _ a3 ?_)
                    | (refine step_append_run rfl _ _ _ _ rfl _ _ rfl rfl _ _ a5 ?_))
                  clear s1 s2 s3 s4 hS1 hS2 hS3 hSa hSb
                  go_wp2_with fail
                  go_roundg (xs.length + 1 - (q + 2))
                  case measure => omega
                  case rel => exact ⟨m + 1, q + 2, v', by go_num, rfl, by have := HQ1.out; omega, by omega, Nat.le_refl _, HNX.out⟩
                · have hq1z : ¬ (q1 : Int) < (xs.length : Int) := by omega
                  obtain ⟨t1, ys, t2, t3, t4, t5⟩ := HQ.out
                  have hall2 : ys.map ItV.item = pairS (xs.map ItV.item) := by
                    rw [t3, List.take_of_length_le]
                    rw [pairS_len, List.length_map]
                    omega
                  clear hq1
                  have hyl : ys.length ≤ 320 := by
                    have := congrArg List.length hall2
                    rw [List.length_map, pairS_len, List.length_map] at this
                    omega
                  have hb35 : Below w3.heap.size w3 wr := HX.out.2.2.2.1.trans (t1.mono HX.out.2.2.2.1.size)
                  have hme := refMerged_any wr (.slice uo cs.length cap) u cs ys (HSC.out.1.below hb35) t2.src (by omega)
                  have HME := Lib.hid hme
                  have HT : Aside (Below w3.heap.size w3 wr ∧ ys.map ItV.item = pairS (xs.map ItV.item) ∧ (∀ y ∈ ys, ∀ a, y.ba = some a → w5.heap.size ≤ a.block) ∧ w3.heap.size ≤ w5.heap.size) := ⟨hb35, hall2, t5, HX.out.2.2.2.1.size⟩
                  clear t1 t2 t3 t4 t5 hall2 hyl hb35 hme HQ hq wq2
                  go_wp2_with (first
                    | (go_at_call 38; refine HME.out.mono ?_; rintro e w6 ⟨u6, rfl, zs, z1, z2, z3, z4⟩))
                  have HZ : Aside (Below w3.heap.size w3 w6 ∧ ∃ xs, SrcIt w6 u6 xs ∧ LocIt W2.heap.size u6 xs ∧ xs.map ItV.item = rowS (cs.map ItV.item) (j + 1 + 1)) := by
                    refine ⟨HT.out.1.trans (z4.mono HT.out.1.size), zs, z1.src, ⟨fun g' hg' => ?_, fun x hx a ha => ?_⟩, ?_⟩
                    · have h1 := (z1.row.lt g' hg').1
                      have h2 := HT.out.1.size
                      have h3 := HSC.out.2
                      omega
                    · rcases List.mem_append.1 (z3 x hx) with hx | hx
                      · exact HLC.out.2 x hx a ha
                      · have h1 := HT.out.2.2.1 x hx a ha
                        have h2 := HT.out.2.2.2
                        have h3 := HSC.out.2
                        omega
                    · rw [z2, HT.out.2.1, HX.out.2.2.1]
                      rfl
                  clear z1 z2 z3 z4
                  go_roundg (L - (j + 1 + 1))
                  case measure => omega
                  case rel => exact ⟨j + 1, u6, by go_num, rfl, by omega, Nat.le_refl _, HZ.out⟩
            · have hjL : j + 1 = L := by omega
              have hltz : ¬ (j : Int) + 1 < (L : Int) := by omega
              obtain ⟨r1, xs, r2, r3, r4⟩ := HR.out
              rw [HC3.out.2.1, hjL] at r4
              obtain ⟨w4, hw4⟩ : ∃ w, w = wr := ⟨_, rfl⟩
              rw [← hw4] at r1 r2 HR ⊢
              clear hw4
              have hb24 : Below W2.heap.size W2 w4 := HC3.out.2.2.2.trans (r1.mono HSC.out.2)
              have hbW4 : Below W.heap.size W w4 := HW2.out.2.1.trans (hb24.mono HW2.out.2.1.size)
              have hrow4 := own_below HW2.out.1 hb24
              by_cases hk0 : k = 0
              · have HF : Aside (w4.ownsRow W.heap.size 3 1 (.slice (some ⟨g, 0, none⟩) l.length l.length) (lensOut l L).length (iVs (lensOut l L)) ∧ Below W.heap.size W w4) := by
                  rw [← lens_none (L := L) (by rw [← HK.out]; exact hk0), List.length_replicate]
                  exact ⟨hrow4, hbW4⟩
                clear r1 r2 r3 r4 HR hrow4 hbW4 hb24 hjL
                have hkz : (k : Int) = 0 := by omega
                subst hk0
                go_upto_region 29 with fail
                go_loopg [14] 0 (fun kx s14 wr => s14 = .int .i64 0 ∧ w4 = wr)
                case atStart => exact ⟨rfl, rfl⟩
                case round =>
                  obtain ⟨rfl, rfl⟩ := hrel
                  go_wp2_with fail
                  go_ret2
                  exact ⟨_, rfl, HF.out.1, HF.out.2⟩
              · obtain ⟨k2, hk2e⟩ : ∃ q, q = 2 * k - 2 := ⟨_, rfl⟩
                have wk2 : IntKind.i64.wrap (2 * (k : Int)) = 2 * (k : Int) := by rw [IntKind.wrap_i64]; omega
                have wk3 : IntKind.i64.wrap (2 * (k : Int) - 2) = (k2 : Int) := by rw [IntKind.wrap_i64]; omega
                have hk2b : k2 ≤ 640 := by omega
                obtain ⟨R, hR⟩ : ∃ R, R = rowS ((rankL l).map (coin (valOf l))) L := ⟨_, rfl⟩
                rw [← hR] at r4
                have hk2x : k2 ≤ xs.length := by
                  have hroom := best_room (valOf l) (rankL l) (rank_rising HAB.out.all) L HAB.out.k
                  have hxl := congrArg List.length r4
                  rw [List.length_map, hR] at hxl
                  have := HK.out
                  omega
                have hbnd : ∀ x ∈ R, x.2.length ≤ 16384 := by
                  intro x hx
                  rw [hR, ← hjL] at hx
                  have := (row_bnd (rank_bnd HAB.out.all) j x hx).2
                  have hp : (2 : Nat) ^ j ≤ 2 ^ 14 := Nat.pow_le_pow_right (by decide) (by omega)
                  have hpe : (2 : Nat) ^ 14 = 16384 := rfl
                  omega
                have hsym : ∀ x ∈ R, ∀ i ∈ x.2, i < l.length := by
                  intro x hx i hi
                  rw [hR] at hx
                  exact ((rankL_mem l i).1 (row_worth (valOf l) (rankL l) L x hx i hi).1).1
                obtain ⟨ro, rc, rfl, hrc, hrn, -⟩ := r2.sh
                obtain ⟨a, rfl⟩ : ∃ a, ro = some a := by
                  cases ro with
                  | none => have := hrn rfl; omega
                  | some a => exact ⟨a, rfl⟩
                have HX : Aside (SrcIt w4 (.slice (some a) xs.length rc) xs ∧ LocIt W2.heap.size (.slice (some a) xs.length rc) xs ∧ xs.map ItV.item = R ∧ (∀ x ∈ R, x.2.length ≤ 16384) ∧ ∀ x ∈ R, ∀ i ∈ x.2, i < l.length) := ⟨r2, r3, r4, hbnd, hsym⟩
                have HW4 : Aside (w4.ownsRow W.heap.size 3 1 (.slice (some ⟨g, 0, none⟩) l.length l.length) l.length (iVs (lensI l.length R 0 [])) ∧ Below W.heap.size W w4) := by
                  rw [lensI_zero]
                  exact ⟨hrow4, hbW4⟩
                have HRR2 : Aside (R = rowS ((rankL l).map (coin (valOf l))) L) := hR
                have HK2 : Aside (k2 = 2 * k - 2 ∧ k ≠ 0 ∧ k ≠ 1) := ⟨hk2e, hk0, hk1⟩
                clear r1 r2 r3 r4 HR hrow4 hbW4 hb24 hjL hR hbnd hsym hrn hk2e
                go_upto_region 29 with fail
                go_loopg [14] k2 (fun kx s14 wr => ∃ (j : Nat), s14 = .int .i64 j ∧ j ≤ k2 ∧ k2 - j ≤ kx ∧ Aside (wr.ownsRow W.heap.size 3 1 (.slice (some ⟨g, 0, none⟩) l.length l.length) l.length (iVs (lensI l.length R j [])) ∧ Only (fun b => b = g) w4 wr))
                case atStart => exact ⟨0, rfl, Nat.zero_le _, Nat.le_refl _, HW4.out.1, Only.refl _ _⟩
                case round =>
                  obtain ⟨j, rfl, hj, hkx, HO⟩ := hrel
                  obtain ⟨wo, hwo⟩ : ∃ w, w = wr := ⟨_, rfl⟩
                  rw [← hwo] at HO ⊢
                  clear hwo
                  by_cases hlt : j < k2
                  · have hltz : (j : Int) < (k2 : Int) := by omega
                    have hjx : j < xs.length := by omega
                    have hjz : (j : Int) < (xs.length : Int) := by omega
                    have wj1 : IntKind.i64.wrap ((j : Int) + 1) = (j : Int) + 1 := by rw [IntKind.wrap_i64]; omega
                    have hag : a.block ≠ g := by
                      have := HX.out.2.1.1 a.block rfl
                      have := HW2.out.2.2.2
                      omega
                    obtain ⟨a', rc', ea, e1, e2, e3⟩ := HX.out.1.at j hjx
                    cases ea
                    have hit := HX.out.1.its _ (List.getElem_mem hjx)
                    have hloc := HX.out.2.1.2 _ (List.getElem_mem hjx)
                    have hjR : j < R.length := by rw [← HX.out.2.2.1, List.length_map]; exact hjx
                    have hRj : R[j] = (xs[j]).item := by
                      have : R[j]? = some (xs[j]).item := by rw [← HX.out.2.2.1, List.getElem?_map, List.getElem?_eq_getElem hjx]; rfl
                      exact (List.getElem?_eq_some_iff.1 this).2
                    have hxR : (xs[j]).item ∈ R := by rw [← hRj]; exact List.getElem_mem hjR
                    have hsl := HX.out.2.2.2.1 _ hxR
                    have hsy := HX.out.2.2.2.2 _ hxR
                    have hfin : lensI l.length R j (xs[j]).s = lensI l.length R (j + 1) [] := by
                      rw [← lensI_item l.length R j hjR, hRj]
                      rfl
                    obtain ⟨x, hx⟩ : ∃ x, x = xs[j] := ⟨_, rfl⟩
                    rw [← hx] at e3 hit hloc hsl hsy hfin
                    obtain ⟨p, hp⟩ : ∃ p, x.ba = some p := by
                      obtain ⟨ao3, c3, e4, e5⟩ := hit.1.shape
                      unfold ItV.sl at e4
                      injection e4 with e6 _ _
                      obtain ⟨q, hq⟩ := e5 (by rw [natI_len]; exact hit.2)
                      exact ⟨q, by rw [e6, hq]⟩
                    have hpb : p.block ≠ g := by
                      have := hloc p hp
                      have := HW2.out.2.2.2
                      omega
                    have hsrc : SrcI w4 (.slice (some p) x.s.length x.bc) (natI x.s) := by
                      have := hit.1
                      unfold ItV.sl at this
                      rw [hp] at this
                      exact this
                    have K6 : ∀ w, Only (fun b => b = g) w4 w → w.cell? ⟨(a.add (j * 2)).block, (a.add (j * 2)).off + 1, none⟩ = some (.slice (some p) x.s.length x.bc) := fun w ho => by
                      rw [second]
                      have h := ho.cell e3 (by rw [Lib.block_add]; exact hag)
                      unfold ItV.sl at h
                      rw [hp] at h
                      exact h
                    have HK6 : Aside _ := K6
                    have HXX : Aside (SrcI w4 (.slice (some p) x.s.length x.bc) (natI x.s) ∧ p.block ≠ g ∧ x.s.length ≤ 16384 ∧ (∀ i ∈ x.s, i < l.length) ∧ lensI l.length R j x.s = lensI l.length R (j + 1) []) := ⟨hsrc, hpb, hsl, hsy, hfin⟩
                    have hocc : ∀ s, occ s (R.take j) ≤ 640 * 16384 := fun s => by
                      refine Nat.le_trans (occ_bound 16384 s _ (fun y hy => HX.out.2.2.2.1 y (List.mem_of_mem_take hy))) (Nat.mul_le_mul_right _ ?_)
                      rw [List.length_take]
                      omega
                    have HOC : Aside (∀ s, occ s (R.take j) ≤ 640 * 16384) := hocc
                    have hsl2 : x.s.length ≤ 16384 := hsl
                    clear hx hfin hsy hsl hsrc hpb hp hit hloc hjR hRj hxR e1 e2 e3 hocc hag K6
                    go_upto_region 32 with fail
                    go_loopg [15] x.s.length (fun kx s15 wi => ∃ (q : Nat), s15 = .int .i64 q ∧ q ≤ x.s.length ∧ x.s.length - q ≤ kx ∧ Aside (wi.ownsRow W.heap.size 3 1 (.slice (some ⟨g, 0, none⟩) l.length l.length) l.length (iVs (lensI l.length R j (x.s.take q))) ∧ Only (fun b => b = g) w4 wi))
                    case atStart => exact ⟨0, rfl, Nat.zero_le _, Nat.le_refl _, HO.out.1, HO.out.2⟩
                    case round =>
                      obtain ⟨q, rfl, hq, hkq, HI⟩ := hrel
                      have k6 := HK6.out wr HI.out.2
                      by_cases hqt : q < x.s.length
                      · have hqz : (q : Int) < (x.s.length : Int) := by omega
                        have wq1 : IntKind.i64.wrap ((q : Int) + 1) = (q : Int) + 1 := by rw [IntKind.wrap_i64]; omega
                        obtain ⟨i1, i2⟩ := HI.out
                        have hsrc := HXX.out.1
                        have hsn := HXX.out.2.2.2.1 _ (List.getElem_mem hqt)
                        have cs' : wr.cell? (p.add q) = some (.int .i64 ((x.s[q] : Nat) : Int)) := by
                          have := i2.cell (srci_cell hsrc q (by rw [natI_len]; exact hqt)) (by rw [Lib.block_add]; exact HXX.out.2.1)
                          rw [this]
                          unfold natI
                          rw [List.getElem_map]
                          rfl
                        obtain ⟨cc, ff⟩ := own_cellI i1 x.s[q] (by rw [lensI_len]; exact hsn)
                        rw [lensI_at _ _ _ _ _ hsn] at cc
                        have hstep := lensI_step l.length R j (x.s.take q) x.s[q]
                        have htk : x.s.take (q + 1) = x.s.take q ++ [x.s[q]] := List.take_succ_eq_append_getElem hqt
                        rw [← htk] at hstep
                        have hob := HOC.out x.s[q]
                        have hcb : (x.s.take q).count x.s[q] ≤ 16384 := by
                          refine Nat.le_trans List.count_le_length ?_
                          rw [List.length_take]
                          omega
                        obtain ⟨cz, hcz⟩ : ∃ cz, cz = occ x.s[q] (R.take j) + (x.s.take q).count x.s[q] := ⟨_, rfl⟩
                        rw [← hcz] at cc hstep
                        obtain ⟨s, hs⟩ : ∃ s, s = x.s[q] := ⟨_, rfl⟩
                        rw [← hs] at hsn cs' cc ff hstep
                        have hss : Only (fun i => i = g) wr (wr.setCell ⟨g, s, none⟩ (.int .i64 ((cz : Int) + 1))) := Only.setCell (S := fun i => i = g) rfl _ _
                        have HQ : Aside ((wr.setCell ⟨g, s, none⟩ (.int .i64 ((cz : Int) + 1))).ownsRow W.heap.size 3 1 (.slice (some ⟨g, 0, none⟩) l.length l.length) l.length (iVs (lensI l.length R j (x.s.take (q + 1)))) ∧ Only (fun b => b = g) w4 (wr.setCell ⟨g, s, none⟩ (.int .i64 ((cz : Int) + 1)))) := by
                          refine ⟨?_, i2.trans hss (fun i hi => .inl hi)⟩
                          rw [← hstep]
                          exact own_setI i1 s _
                        have hcz2 : cz ≤ 640 * 16384 + 16384 := by omega
                        have wcz : IntKind.i64.wrap ((cz : Int) + 1) = (cz : Int) + 1 := by rw [IntKind.wrap_i64]; omega
                        have hsz : (s : Int) < (l.length : Int) := by omega
                        clear i1 i2 hsrc hstep htk hob hcb hcz hs hss HI
                        go_wp2_with fail
                        go_roundg (x.s.length - (q + 1))
                        case measure => omega
                        case rel => exact ⟨q + 1, by go_num, by omega, Nat.le_refl _, HQ⟩
                      · obtain rfl : q = x.s.length := by omega
                        have hqz : ¬ (x.s.length : Int) < (x.s.length : Int) := by omega
                        obtain ⟨i1, i2⟩ := HI.out
                        rw [List.take_length, HXX.out.2.2.2.2] at i1
                        have HQ : Aside (wr.ownsRow W.heap.size 3 1 (.slice (some ⟨g, 0, none⟩) l.length l.length) l.length (iVs (lensI l.length R (j + 1) [])) ∧ Only (fun b => b = g) w4 wr) := ⟨i1, i2⟩
                        clear i1 i2 HI
                        go_wp2_with fail
                        go_roundg (k2 - (j + 1))
                        case measure => omega
                        case rel => exact ⟨j + 1, by go_num, by omega, Nat.le_refl _, HQ⟩
                  · obtain rfl : j = k2 := by omega
                    have hltz : ¬ (j : Int) < (j : Int) := by omega
                    have hrow := HO.out.1
                    rw [HK2.out.1, HK.out, HRR2.out, lens_best (by rw [← HK.out]; have := HK2.out.2; omega)] at hrow
                    have hlen : (lensOut l L).length = l.length := by unfold lensOut; split <;> simp
                    have HF : Aside (wo.ownsRow W.heap.size 3 1 (.slice (some ⟨g, 0, none⟩) l.length l.length) (lensOut l L).length (iVs (lensOut l L)) ∧ Below W.heap.size W wo) :=
                      ⟨by rw [hlen]; exact hrow, HW4.out.2.trans (HO.out.2.below (HW4.out.2.size) (fun b hb => by rw [hb]; exact HW2.out.2.2.1))⟩
                    clear hrow hlen
                    go_wp2_with fail
                    go_ret2
                    exact ⟨_, rfl, HF.out.1, HF.out.2⟩
end Go.Proofs.Ytenkbmkecgnfmaa.Huf
