/- Package huff's Lengths. -/
import Derived.Test.YtenkbmkecgnfmaaHufT
namespace Go.Proofs.Ytenkbmkecgnfmaa.Huf
open Go.RowKit Go.Shelf Go.Lib Go.Proofs.Ytenkbmkecgnfmaa.Mem

set_option maxHeartbeats 16000000 in
set_option maxRecDepth 100000 in
theorem lengths_able (W : World) (v : Value) (l : List Int) (L : Nat) (hs : SrcI W v l) (ha : Able l L) :
    Calls Try.prog 11 #[v, .int .i64 (L : Int)] W fun e w' => ∃ u, e = .returned (.tuple #[u, .int .i64 0]) ∧ w'.ownsRow W.heap.size 3 1 u (lensOut l L).length (iVs (lensOut l L)) ∧ Below W.heap.size W w' := by
  have hn := ha.n
  have hL1 := ha.lo
  have hL2 := ha.hi
  have hk := ha.k
  have HA : Aside (Able l L) := ha
  have hmc := mayCount_any W v l hs (by omega)
  rw [ha.all, decide_eq_true hn] at hmc
  have HMC := Lib.hid hmc
  have HR := Lib.hid (ranked_any W v l hs (by omega))
  have hlen : (lensOut l L).length = l.length := by unfold lensOut; split <;> simp
  rw [hlen]
  obtain ⟨ao, c, rfl, hao⟩ := hs.shape
  have HS : Aside (SrcI W (.slice ao l.length c) l) := hs
  obtain ⟨P, hP⟩ : ∃ P, P = 2 ^ L := ⟨_, rfl⟩
  have hP2 : P ≤ 32768 := by
    rw [hP]
    exact Nat.le_trans (Nat.pow_le_pow_right (by decide) hL2) (by decide)
  have zP : (2 : Int) ^ L = (P : Int) := by rw [hP, Int.natCast_pow]; rfl
  have wP : IntKind.i64.wrap (P : Int) = (P : Int) := by rw [IntKind.wrap_i64]; omega
  rw [← hP] at hk
  have hL1z : ¬ (L : Int) < 1 := by omega
  have hL2z : ¬ (L : Int) > 15 := by omega
  have hL3z : ¬ (15 : Int) < (L : Int) := by omega
  have hL0 : (0 : Int) ≤ (L : Int) := by omega
  have HMK : Aside (∀ W1 : World, ∃ g vm W2, vm = .slice (some ⟨g, 0, none⟩) l.length l.length ∧ (Instr.makeSlice 22 (.int .i64 (l.length : Int)) (.int .i64 (l.length : Int))).run Try.prog W1 = .ok vm W2 ∧ W2.ownsRow W1.heap.size 3 1 vm l.length (iVs (List.replicate l.length 0)) ∧ Below W1.heap.size W1 W2) := fun W1 => by
    obtain ⟨vm, W2, h1, h2, h3, g, hg⟩ := makeI_any W1 l.length (by omega)
    exact ⟨g, vm, W2, hg, h1, h2, h3⟩
  have hrl := rankL_len l
  obtain ⟨k, hkk⟩ : ∃ k, k = (rankL l).length := ⟨_, rfl⟩
  rw [← hkk] at hk hrl
  have HK : Aside (k = (rankL l).length) := hkk
  have hkP : ¬ (k : Int) > (P : Int) := by omega
  have hkP2 : ¬ (P : Int) < (k : Int) := by omega
  clear hs hao hmc ha hP hlen
  rw [← hkk] at HR
  clear hkk
  go_enter Try.func11, Try.ntmps11
  go_upto_region 4 with (first
    | (go_at_call 33; refine HMC.out.mono ?_; rintro e w1 ⟨rfl, rfl⟩)
    | (go_at_call 34; refine HR.out.mono ?_; rintro e w2 ⟨u, rfl, hu, hb⟩; obtain ⟨uo, cap, rfl, hcap, hcm, hnone⟩ := own_shape hu))
  obtain ⟨g, vm, W2, rfl, m1, m2, m3⟩ := HMK.out w2
  have hg : W.heap.size ≤ w2.heap.size ∧ w2.heap.size ≤ g ∧ g < W2.heap.size := by
    obtain ⟨g', e1, e2, e3⟩ := own_block m2
    cases e1
    exact ⟨hb.size, e2, e3⟩
  have HW2 : Aside (W2.ownsRow W.heap.size 3 1 (.slice (some ⟨g, 0, none⟩) l.length l.length) l.length (iVs (List.replicate l.length 0)) ∧ W2.ownsRow W.heap.size 3 1 (.slice uo k cap) k (iVs ((rankL l).map Int.ofNat)) ∧ Below W.heap.size W W2) :=
    ⟨ownsRow_mono m2 hb.size, own_below hu m3, hb.trans (m3.mono hb.size)⟩
  have HG : Aside (W.heap.size ≤ g ∧ g < W2.heap.size ∧ ∀ b, (Value.slice uo k cap).ownBlock = some b → b ≠ g) := ⟨by omega, hg.2.2, fun b hb e => by
    have := (hu.lt b hb).2
    omega⟩
  have HN : Aside (uo = none → k = 0 ∧ cap = 0) := hnone
  clear m2 m3 hu hb hnone hg HMK HMC HR
  by_cases hk1 : k = 1
  · have hk1z : (k : Int) = 1 := by omega
    obtain ⟨p, rfl⟩ : ∃ p, uo = some p := by
      cases uo with
      | none => have := (HN.out rfl).1; omega
      | some p => exact ⟨p, rfl⟩
    obtain ⟨h1, h2, h3⟩ := HW2.out
    obtain ⟨g2, rfl, hg2, -⟩ := own_block h2
    have hk0 : 0 < (rankL l).length := by rw [← HK.out]; omega
    have hm := (rankL_mem l _).1 (List.getElem_mem hk0)
    have cr : W2.cell? ⟨g2, 0, none⟩ = some (.int .i64 (((rankL l)[0] : Nat) : Int)) := by
      have := (own_cellI h2 0 (by rw [List.length_map]; exact hk0)).1
      rw [this, List.getElem_map]
      rfl
    obtain ⟨cc, ff⟩ := own_cellI h1 (rankL l)[0] (by rw [List.length_replicate]; exact hm.1)
    have hset := own_setI h1 (rankL l)[0] 1
    rw [lens_one (L := L) (by rw [← HK.out]; exact hk1)] at hset
    have hss : Only (fun i => i = g) W2 (W2.setCell ⟨g, (rankL l)[0], none⟩ (.int .i64 1)) := Only.setCell (S := fun i => i = g) rfl _ _
    have HQ : Aside ((W2.setCell ⟨g, (rankL l)[0], none⟩ (.int .i64 1)).ownsRow W.heap.size 3 1 (.slice (some ⟨g, 0, none⟩) l.length l.length) l.length (iVs (lensOut l L)) ∧ Below W.heap.size W (W2.setCell ⟨g, (rankL l)[0], none⟩ (.int .i64 1))) :=
      ⟨hset, h3.trans (hss.below h3.size (fun i hi => by rw [hi]; exact HG.out.1))⟩
    have cc' : ∃ old : Int, W2.cell? ⟨g, (rankL l)[0], none⟩ = some (.int .i64 old) := ⟨_, cc⟩
    have hml := hm.1
    obtain ⟨s, hs⟩ : ∃ s, s = (rankL l)[0] := ⟨_, rfl⟩
    rw [← hs] at cr HQ cc' ff hml
    obtain ⟨old, hold⟩ := cc'
    have hslz : (s : Int) < (l.length : Int) := by omega
    have hpz : (0 : Int) < (k : Int) := by omega
    clear h1 h2 h3 cc hset hss hs hm hk0 hk1
    go_wp2_with fail
    go_ret2
    exact ⟨_, rfl, HQ.out.1, HQ.out.2⟩
  · by_cases hk2 : 1 < k
    · have hk1z : ¬ (k : Int) = 1 := by omega
      have hk2z : (k : Int) > 1 := by omega
      have hk3z : (1 : Int) < (k : Int) := by omega
      obtain ⟨h1, h2, h3⟩ := HW2.out
      have hall := HA.out.all
      have hco := coinsOf_any W2 (.slice ao l.length c) (.slice uo k cap) l (rankL l) (HS.out.below h3) (by
        have := SrcI.of_own (l := natI (rankL l)) (by rw [natI_len, ← HK.out]; exact h2)
        exact this) (by omega) (by rw [← HK.out]; omega) (fun s hs => ⟨((rankL_mem l s).1 hs).1, (okCount_at hall ((rankL_mem l s).1 hs).1).1⟩)
      obtain ⟨m, hm⟩ : ∃ m, m + 1 = L := ⟨L - 1, by omega⟩
      have hlast : ∀ (w1 : World) (u : Value) (cs : List ItV), OwnIt 66 w1 W2.heap.size u cs → cs.map ItV.item = (rankL l).map (coin (valOf l)) → (∀ x ∈ cs, ∀ a, x.ba = some a → W2.heap.size ≤ a.block) → Below W2.heap.size W2 w1 →
          Calls Try.prog 35 #[u, .int .i64 (L : Int)] w1 fun e w' => ∃ a rn rc, e = .returned (.slice (some a) rn rc) ∧ 2 * k - 2 ≤ rc ∧ Aside (∃ xs, rn = xs.length ∧ SrcIt w' (.slice (some a) rn rc) xs ∧ LocIt W2.heap.size (.slice (some a) rn rc) xs ∧ xs.map ItV.item = rowS ((rankL l).map (coin (valOf l))) L ∧ Below W2.heap.size W2 w') := fun w1 u cs y1 y2 y3 y4 => by
        have hl : cs.length ≤ 320 := by
          have := congrArg List.length y2
          rw [List.length_map, List.length_map, ← HK.out] at this
          omega
        have := lastRow_any w1 W2.heap.size u cs m y1.src ⟨fun g hg => (y1.row.lt g hg).1, y3⟩ y4.size hl (by rw [y2]; exact rank_bnd hall) (by omega)
        rw [show ((m : Int) + 1) = (L : Int) by omega] at this
        refine this.mono ?_
        rintro e w' ⟨u2, rfl, xs, z1, z2, z3, z4⟩
        obtain ⟨ro, rc, rfl, hrc, hrn, -⟩ := z1.sh
        have hroom := best_room (valOf l) (rankL l) (rank_rising hall) L HA.out.k
        have hxl := congrArg List.length z3
        rw [List.length_map, y2, hm] at hxl
        have hrc2 : 2 * k - 2 ≤ rc := by
          rw [HK.out]
          omega
        cases ro with
        | none => have := hrn rfl; omega
        | some a => exact ⟨a, _, rc, rfl, hrc2, xs, rfl, z1, z2, by rw [z3, y2, hm], y4.trans (z4.mono y4.size)⟩
      have HCO := Lib.hid hco
      have HLA : Aside _ := hlast
      obtain ⟨k2, hk2e⟩ : ∃ q, q = 2 * k - 2 := ⟨_, rfl⟩
      have zk2 : 2 * (k : Int) - 2 = (k2 : Int) := by omega
      have wk2 : IntKind.i64.wrap (2 * (k : Int)) = 2 * (k : Int) := by rw [IntKind.wrap_i64]; omega
      have wk3 : IntKind.i64.wrap (2 * (k : Int) - 2) = (k2 : Int) := by rw [IntKind.wrap_i64]; omega
      have wk4 : IntKind.i64.wrap (k2 : Int) = (k2 : Int) := by rw [IntKind.wrap_i64]; omega
      have k20 : (0 : Int) ≤ (k2 : Int) := by omega
      have HK2 : Aside (k2 = 2 * k - 2 ∧ 1 < k) := ⟨hk2e, hk2⟩
      have hk2b : k2 ≤ 640 := by omega
      rw [← hk2e] at HLA
      clear hco hlast h1 h2 h3 hm hk2e hk1 hk2 m
      go_upto_region 12 with (first
        | (go_at_call 36; refine HCO.out.mono ?_; rintro e w3 ⟨u, rfl, cs, y1, y2, y3, y4⟩)
        | (go_at_call 35; refine (HLA.out w3 u cs y1 y2 y3 y4).mono ?_; rintro e w4 ⟨a, rn, rc, rfl, hrc, hz⟩; have hrcz : (k2 : Int) ≤ (rc : Int) := (by omega); have hrc0 : ¬ rc = 0 := (by have := HK2.out; omega)))
      obtain ⟨R, hR⟩ : ∃ R, R = rowS ((rankL l).map (coin (valOf l))) L := ⟨_, rfl⟩
      rw [← hR] at hz
      have HRR : Aside (R = rowS ((rankL l).map (coin (valOf l))) L) := hR
      obtain ⟨xs, hrn, z1, z2, z3, z4⟩ := hz.out
      subst hrn
      have hk2x : k2 ≤ xs.length := by
        have hroom := best_room (valOf l) (rankL l) (rank_rising HA.out.all) L HA.out.k
        have hxl := congrArg List.length z3
        rw [List.length_map, hR] at hxl
        have := HK2.out
        rw [HK.out] at this
        omega
      have hbnd : ∀ x ∈ R, x.2.length ≤ 16384 := by
        intro x hx
        obtain ⟨m, hm⟩ : ∃ m, m + 1 = L := ⟨L - 1, by omega⟩
        rw [hR, ← hm] at hx
        have := (row_bnd (rank_bnd HA.out.all) m x hx).2
        have hp : (2 : Nat) ^ m ≤ 2 ^ 14 := Nat.pow_le_pow_right (by decide) (by omega)
        have hpe : (2 : Nat) ^ 14 = 16384 := rfl
        omega
      have hsym : ∀ x ∈ R, ∀ i ∈ x.2, i < l.length := by
        intro x hx i hi
        rw [hR] at hx
        exact ((rankL_mem l i).1 (row_worth (valOf l) (rankL l) L x hx i hi).1).1
      have HX : Aside (SrcIt w4 (.slice (some a) xs.length rc) xs ∧ LocIt W2.heap.size (.slice (some a) xs.length rc) xs ∧ xs.map ItV.item = R ∧ (∀ x ∈ R, x.2.length ≤ 16384) ∧ ∀ x ∈ R, ∀ i ∈ x.2, i < l.length) := ⟨z1, z2, z3, hbnd, hsym⟩
      have HW4 : Aside (w4.ownsRow W.heap.size 3 1 (.slice (some ⟨g, 0, none⟩) l.length l.length) l.length (iVs (lensI l.length R 0 [])) ∧ Below W.heap.size W w4) := by
        obtain ⟨h1, -, h3⟩ := HW2.out
        rw [lensI_zero]
        exact ⟨own_below h1 z4, h3.trans (z4.mono h3.size)⟩
      clear hR z1 z2 z3 z4 hbnd hsym y1 y2 y3 y4 hz
      go_loopg [57] k2 (fun kx s57 wr => ∃ (j : Nat), s57 = .int .i64 j ∧ j ≤ k2 ∧ k2 - j ≤ kx ∧ Aside (wr.ownsRow W.heap.size 3 1 (.slice (some ⟨g, 0, none⟩) l.length l.length) l.length (iVs (lensI l.length R j [])) ∧ Only (fun b => b = g) w4 wr))
      case atStart => exact ⟨0, rfl, Nat.zero_le _, Nat.le_refl _, HW4.out.1, Only.refl _ _⟩
      case round =>
        obtain ⟨j, rfl, hj, hkx, HO⟩ := hrel
        by_cases hlt : j < k2
        · have hltz : (j : Int) < (k2 : Int) := by omega
          have hjx : j < xs.length := by omega
          have hag : a.block ≠ g := by
            have := HX.out.2.1.1 a.block rfl
            have := HG.out.2.1
            omega
          obtain ⟨a', rc', ea, e1, e2, e3⟩ := HX.out.1.at j hjx
          cases ea
          have hit := HX.out.1.its _ (List.getElem_mem hjx)
          have hloc := HX.out.2.1.2 _ (List.getElem_mem hjx)
          have hjR : j < R.length := by rw [← HX.out.2.2.1, List.length_map]; exact hjx
          have hRj : R[j] = (xs[j]).item := by
            have : R[j]? = some (xs[j]).item := by rw [← HX.out.2.2.1, List.getElem?_map, List.getElem?_eq_getElem hjx]; rfl
            exact (List.getElem?_eq_some_iff.1 this).2
          have K5 : wr.cell? (a.add (j * 2)) = some (.int .i64 ((xs[j]).n : Int)) := HO.out.2.cell e2 (by rw [Lib.block_add]; exact hag)
          have K6 : wr.cell? ⟨(a.add (j * 2)).block, (a.add (j * 2)).off + 1, none⟩ = some (.slice (xs[j]).ba (xs[j]).s.length (xs[j]).bc) := by
            have e := Deep.add_add a (j * 2) 1
            have h : (⟨(a.add (j * 2)).block, (a.add (j * 2)).off + 1, none⟩ : Addr) = (a.add (j * 2)).add 1 := rfl
            rw [h, e]
            exact HO.out.2.cell e3 (by rw [Lib.block_add]; exact hag)
          have hxR : (xs[j]).item ∈ R := by rw [← hRj]; exact List.getElem_mem hjR
          have hsl := HX.out.2.2.2.1 _ hxR
          have hsy := HX.out.2.2.2.2 _ hxR
          have hfin : lensI l.length R j (xs[j]).s = lensI l.length R (j + 1) [] := by
            rw [← lensI_item l.length R j hjR, hRj]
            rfl
          obtain ⟨x, hx⟩ : ∃ x, x = xs[j] := ⟨_, rfl⟩
          rw [← hx] at K5 K6 hit hloc hsl hsy hfin
          obtain ⟨p, hp⟩ : ∃ p, x.ba = some p := by
            obtain ⟨ao3, c3, e4, e5⟩ := hit.1.shape
            unfold ItV.sl at e4
            injection e4 with e6 _ _
            obtain ⟨q, hq⟩ := e5 (by rw [natI_len]; exact hit.2)
            exact ⟨q, by rw [e6, hq]⟩
          have hpb : p.block ≠ g := by
            have := hloc p hp
            have := HG.out.2.1
            omega
          have hsrc : SrcI w4 (.slice (some p) x.s.length x.bc) (natI x.s) := by
            have := hit.1
            unfold ItV.sl at this
            rw [hp] at this
            exact this
          rw [hp] at K6
          have HXX : Aside (SrcI w4 (.slice (some p) x.s.length x.bc) (natI x.s) ∧ p.block ≠ g ∧ x.s.length ≤ 16384 ∧ (∀ i ∈ x.s, i < l.length) ∧ lensI l.length R j x.s = lensI l.length R (j + 1) []) := ⟨hsrc, hpb, hsl, hsy, hfin⟩
          have hocc : ∀ s, occ s (R.take j) ≤ 640 * 16384 := fun s => by
            refine Nat.le_trans (occ_bound 16384 s _ (fun y hy => HX.out.2.2.2.1 y (List.mem_of_mem_take hy))) (Nat.mul_le_mul_right _ ?_)
            rw [List.length_take]
            omega
          have HOC : Aside (∀ s, occ s (R.take j) ≤ 640 * 16384) := hocc
          have hsl2 : x.s.length ≤ 16384 := hsl
          have H5 : Aside ((wr.alloc (.cells #[.int .i64 (x.n : Int), .slice (some p) x.s.length x.bc] 66)).ownsRow W.heap.size 3 1 (.slice (some ⟨g, 0, none⟩) l.length l.length) l.length (iVs (lensI l.length R j [])) ∧ Only (fun b => b = g) w4 (wr.alloc (.cells #[.int .i64 (x.n : Int), .slice (some p) x.s.length x.bc] 66))) := by
            have hA := (Below.refl wr.heap.size wr).alloc (Nat.le_refl _) (.cells #[.int .i64 (x.n : Int), .slice (some p) x.s.length x.bc] 66)
            exact ⟨own_below HO.out.1 hA, HO.out.2.trans (Only.of_below (S := fun b => b = g) hA) (fun i hi => .inl hi)⟩
          clear hx hfin hsy hsl hsrc hpb hp hit hloc hjR hRj hxR e1 e2 e3 hocc hag HO hjx
          go_upto_region 15 with fail
          generalize wr.alloc (.cells #[.int .i64 (x.n : Int), .slice (some p) x.s.length x.bc] 66) = wb at H5 ⊢
          go_loopg [64] x.s.length (fun kx s64 wi => ∃ (q : Nat), s64 = .int .i64 q ∧ q ≤ x.s.length ∧ x.s.length - q ≤ kx ∧ Aside (wi.ownsRow W.heap.size 3 1 (.slice (some ⟨g, 0, none⟩) l.length l.length) l.length (iVs (lensI l.length R j (x.s.take q))) ∧ Only (fun b => b = g) w4 wi))
          case atStart => exact ⟨0, rfl, Nat.zero_le _, Nat.le_refl _, H5.out.1, H5.out.2⟩
          case round =>
            obtain ⟨q, rfl, hq, hkq, HI⟩ := hrel
            by_cases hqt : q < x.s.length
            · have hqz : (q : Int) < (x.s.length : Int) := by omega
              obtain ⟨i1, i2⟩ := HI.out
              have hsrc := HXX.out.1
              have hsn := HXX.out.2.2.2.1 _ (List.getElem_mem hqt)
              have cs : wr.cell? (p.add q) = some (.int .i64 ((x.s[q] : Nat) : Int)) := by
                have := i2.cell (srci_cell hsrc q (by rw [natI_len]; exact hqt)) (by rw [Lib.block_add]; exact HXX.out.2.1)
                rw [this]
                unfold natI
                rw [List.getElem_map]
                rfl
              obtain ⟨cc, ff⟩ := own_cellI i1 x.s[q] (by rw [lensI_len]; exact hsn)
              rw [lensI_at _ _ _ _ _ hsn] at cc
              have hstep := lensI_step l.length R j (x.s.take q) x.s[q]
              have htk : x.s.take (q + 1) = x.s.take q ++ [x.s[q]] := List.take_succ_eq_append_getElem hqt
              rw [← htk] at hstep
              have hob := HOC.out x.s[q]
              have hcb : (x.s.take q).count x.s[q] ≤ 16384 := by
                refine Nat.le_trans List.count_le_length ?_
                rw [List.length_take]
                omega
              obtain ⟨cz, hcz⟩ : ∃ cz, cz = occ x.s[q] (R.take j) + (x.s.take q).count x.s[q] := ⟨_, rfl⟩
              rw [← hcz] at cc hstep
              obtain ⟨s, hs⟩ : ∃ s, s = x.s[q] := ⟨_, rfl⟩
              rw [← hs] at hsn cs cc ff hstep
              have hss : Only (fun i => i = g) wr (wr.setCell ⟨g, s, none⟩ (.int .i64 ((cz : Int) + 1))) := Only.setCell (S := fun i => i = g) rfl _ _
              have HQ : Aside ((wr.setCell ⟨g, s, none⟩ (.int .i64 ((cz : Int) + 1))).ownsRow W.heap.size 3 1 (.slice (some ⟨g, 0, none⟩) l.length l.length) l.length (iVs (lensI l.length R j (x.s.take (q + 1)))) ∧ Only (fun b => b = g) w4 (wr.setCell ⟨g, s, none⟩ (.int .i64 ((cz : Int) + 1)))) := by
                refine ⟨?_, i2.trans hss (fun i hi => .inl hi)⟩
                rw [← hstep]
                exact own_setI i1 s _
              have hcz2 : cz ≤ 640 * 16384 + 16384 := by omega
              have wcz : IntKind.i64.wrap ((cz : Int) + 1) = (cz : Int) + 1 := by rw [IntKind.wrap_i64]; omega
              have hsz : (s : Int) < (l.length : Int) := by omega
              clear i1 i2 hsrc hstep htk hob hcb hcz hs hss HI
              go_wp2_with fail
              go_roundg (x.s.length - (q + 1))
              case measure => omega
              case rel => exact ⟨q + 1, by go_num, by omega, Nat.le_refl _, HQ⟩
            · obtain rfl : q = x.s.length := by omega
              have hqz : ¬ (x.s.length : Int) < (x.s.length : Int) := by omega
              obtain ⟨i1, i2⟩ := HI.out
              rw [List.take_length, HXX.out.2.2.2.2] at i1
              have HQ : Aside (wr.ownsRow W.heap.size 3 1 (.slice (some ⟨g, 0, none⟩) l.length l.length) l.length (iVs (lensI l.length R (j + 1) [])) ∧ Only (fun b => b = g) w4 wr) := ⟨i1, i2⟩
              clear i1 i2 HI
              go_wp2_with fail
              go_roundg (k2 - (j + 1))
              case measure => omega
              case rel => exact ⟨j + 1, by go_num, by omega, Nat.le_refl _, HQ⟩
        · obtain rfl : j = k2 := by omega
          have hltz : ¬ (j : Int) < (j : Int) := by omega
          go_wp2_with fail
          go_ret2
          refine ⟨_, rfl, ?_, HW4.out.2.trans (HO.out.2.below (HW4.out.2.size) (fun b hb => by rw [hb]; exact HG.out.1))⟩
          have := HO.out.1
          rw [HK2.out.1, HK.out, HRR.out, lens_best (by rw [← HK.out]; have := HK2.out.2; omega)] at this
          exact this
    · have hk0 : k = 0 := by omega
      have hk0z : ¬ (k : Int) = 1 := by omega
      have hk0y : ¬ (k : Int) > 1 := by omega
      have hk0x : ¬ (1 : Int) < (k : Int) := by omega
      have H0 : Aside (k = 0) := hk0
      clear hk0
      go_wp2_with fail
      go_ret2
      obtain ⟨h1, h2, h3⟩ := HW2.out
      refine ⟨_, rfl, ?_, h3⟩
      rw [← lens_none (L := L) (by rw [← HK.out]; exact H0.out)]
      exact h1
end Go.Proofs.Ytenkbmkecgnfmaa.Huf
