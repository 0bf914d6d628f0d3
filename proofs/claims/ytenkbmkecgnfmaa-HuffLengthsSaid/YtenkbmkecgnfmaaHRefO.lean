/- The document's own coins: its walk. -/
import Derived.Test.YtenkbmkecgnfmaaHRefN
import Derived.BigRegion
namespace Go.Proofs.Ytenkbmkecgnfmaa.Huf
open Go.RowKit Go.Shelf Go.Lib Go.Proofs.Ytenkbmkecgnfmaa.Mem

theorem build_noneR (w : World) : (Instr.buildSlice 67 0 #[]).run Try.prog w = .ok (.slice (some ⟨w.heap.size, 0, none⟩) 0 0) (w.alloc (.cells #[] 70)) := by
  obtain ⟨i0, hi, hz0, hz1, hz2⟩ := info_parts info_ritem
  simp [Instr.buildSlice, run_underlying Try.underlying67, sizeOf, typeInfo, hi, newRow, Instr.fill]
  rw [show Array.range 0 = #[] from Array.eq_empty_of_size_eq_zero (by simp), Array.map_empty]
theorem step_noneR {o : Oper} {a : Act} {w : World} {K : Act → World → Prop} {Q : Exit → Act → World → Prop} (ho : o.op = .buildSlice 67 0 #[])
    (h : K (a.put o.dst (.slice (some ⟨w.heap.size, 0, none⟩) 0 0)) (w.alloc (.cells #[] 70))) : o.wp Try.prog a w K Q := by
  unfold Oper.wp execOp
  have hb := build_noneR w
  simp only [ho, Sem.run_bind, Array.map_empty, hb, Result.andThen_ok]
  exact h

theorem of_drewx (W : World) : Below W.heap.size W W.drew := (show Drew W W.drew from ⟨rfl, rfl, rfl, rfl⟩).below _
theorem coin_step {W w6 : World} {uo : Option Addr} {cap k i cn : Nat} {l : List Int} {R : List Nat} {xs : List ItV} (hb6 : Below W.heap.size W w6) (hout6 : OwnIt 70 w6 W.heap.size (.slice uo xs.length cap) xs) (hk : k ≤ xs.length) (r1 : CoinsAt l i R) (r3 : xs.map ItV.item = R.map (coin (valOf l))) (r4 : ∀ x ∈ xs, ∀ a, x.ba = some a → W.heap.size ≤ a.block) (hcn : numAt l i = (cn : Int)) (hz : cn ≠ 0) (hT : ∀ s ∈ R.take k, numAt l s ≤ numAt l i) (hKD : ∀ s ∈ R.drop k, numAt l i < numAt l s) (hxl : xs.length ≤ 320) :
    ∀ (W9 : World) (v9 : Value), OwnIt 70 W9 w6.heap.size v9 (xs.drop k) → Below w6.heap.size w6 W9 →
    ∃ v' W1, (Builtin.append_ #[67, 67] 67 #[.slice uo k cap, .slice (some ⟨W9.heap.size + 1, 0, none⟩) 1 1]).run Try.prog ((W9.drew.alloc (.cells #[.int .i64 (i : Int)] 3)).alloc (.cells #[.int .i64 (cn : Int), .slice (some ⟨W9.heap.size, 0, none⟩) 1 1] 70)) = .ok v' W1 ∧
    ∃ v2 W2, (Builtin.append_ #[67, 67] 67 #[v', v9]).run Try.prog W1 = .ok v2 W2 ∧ Aside (∃ R' xs', CoinsAt l (i + 1) R' ∧ OwnIt 70 W2 W.heap.size v2 xs' ∧ xs'.map ItV.item = R'.map (coin (valOf l)) ∧ (∀ x ∈ xs', ∀ a, x.ba = some a → W.heap.size ≤ a.block) ∧ Below W.heap.size W W2) := fun W9 v9 z1 z2 => by
  have hdr : Drew W9 W9.drew := ⟨rfl, rfl, rfl, rfl⟩
  have hA := (hdr.below W9.heap.size).trans ((Below.refl W9.drew.heap.size W9.drew).alloc (Nat.le_refl _) (.cells #[.int .i64 (i : Int)] 3))
  have hszA : (W9.drew.alloc (.cells #[.int .i64 (i : Int)] 3)).heap.size = W9.heap.size + 1 := by simp
  have hsrc0 : SrcI (W9.drew.alloc (.cells #[.int .i64 (i : Int)] 3)) (.slice (some ⟨W9.drew.heap.size, 0, none⟩) 1 1) [(i : Int)] := .inr ⟨_, 1, rfl, fun j v hj => by
    rw [Lib.addr_add, cell_of_row _ _ _ _ _ (0, 0) (heap_alloc_new W9.drew _), Nat.zero_add]
    cases j with
    | zero => simpa [iVs, iV] using hj
    | succ j => simp [iVs] at hj⟩
  have hsrc : SrcI (W9.drew.alloc (.cells #[.int .i64 (i : Int)] 3)) (.slice (some ⟨W9.heap.size, 0, none⟩) 1 1) [(i : Int)] := hsrc0
  obtain ⟨v', W1, q1, v2, W2, q2, q3, q4⟩ := coin_put Try.underlying67 info_ritem hb6.size hout6 rfl hk z1 z2 hA (x := ⟨cn, [i], some ⟨W9.heap.size, 0, none⟩, 1⟩) ⟨hsrc, Nat.zero_lt_one⟩ (fun a ha => by cases ha; exact z2.size) (by omega)
  rw [hszA] at q1
  have hval : valOf l i = cn := by unfold valOf; rw [hcn]; rfl
  refine ⟨v', W1, q1, v2, W2, q2, _, _, r1.ins (k := k) (by rw [hcn]; omega) hT hKD, q3, ins_items r3 (by unfold ItV.item coin; rw [hval]), fun x hx a ha => ?_, hb6.trans q4⟩
  rcases List.mem_append.1 hx with hx | hx
  · rcases List.mem_append.1 hx with hx | hx
    · exact r4 x (List.mem_of_mem_take hx) a ha
    · rw [List.mem_singleton.1 hx] at ha
      cases ha
      exact Nat.le_trans hb6.size z2.size
  · exact r4 x (List.mem_of_mem_drop hx) a ha

theorem item_n {xs : List ItV} {R : List Nat} {l : List Int} (h : xs.map ItV.item = R.map (coin (valOf l))) (hin : ∀ s, 0 ≤ numAt l s) (k : Nat) (hk : k < xs.length) : ∃ hR : k < R.length, ((xs[k].n : Nat) : Int) = numAt l R[k] := by
  have hl := congrArg List.length h
  rw [List.length_map, List.length_map] at hl
  refine ⟨by omega, ?_⟩
  have h1 : (xs.map ItV.item)[k]? = some (xs[k]).item := by rw [List.getElem?_map, List.getElem?_eq_getElem hk]; rfl
  rw [h, List.getElem?_map, List.getElem?_eq_getElem (show k < R.length by omega)] at h1
  have h2 : coin (valOf l) R[k] = (xs[k]).item := by simpa using h1
  have h3 : valOf l R[k] = xs[k].n := congrArg Prod.fst h2
  rw [← h3]
  unfold valOf
  rw [Int.toNat_of_nonneg (hin _)]

set_option maxHeartbeats 8000000 in
set_option maxRecDepth 100000 in
theorem refCoins_any (W : World) (v : Value) (l : List Int) (h : SrcI W v l) (hl : l.length ≤ 320) (hin : ∀ s, 0 ≤ numAt l s) :
    Calls Try.prog 37 #[v] W fun e w' => ∃ u, e = .returned u ∧ ∃ xs, OwnIt 70 w' W.heap.size u xs ∧ xs.map ItV.item = (rankL l).map (coin (valOf l)) ∧ (∀ x ∈ xs, ∀ a, x.ba = some a → W.heap.size ≤ a.block) ∧ Below W.heap.size W w' := by
  obtain ⟨ao, c, rfl, hao⟩ := h.shape
  have HS : Aside (SrcI W (.slice ao l.length c) l) := h
  have HA : Aside (0 < l.length → ∃ a, ao = some a) := hao
  have HIN : Aside (∀ s, 0 ≤ numAt l s) := hin
  clear h hao hin
  go_enter Try.func37, Try.ntmps37
  go_upto_region 3 with fail
  go_loopg [3, 4] l.length (fun kx s3 s4 wr => ∃ (i : Nat) (R : List Nat) (xs : List ItV) (u : Value), u = s3 ∧ s4 = .int .i64 i ∧ i ≤ l.length ∧ l.length - i ≤ kx ∧ Aside (CoinsAt l i R ∧ OwnIt 70 wr W.heap.size u xs ∧ xs.map ItV.item = R.map (coin (valOf l)) ∧ (∀ x ∈ xs, ∀ a, x.ba = some a → W.heap.size ≤ a.block) ∧ Below W.heap.size W wr))
  case atStart => exact ⟨0, [], [], _, rfl, rfl, Nat.zero_le _, Nat.le_refl _, CoinsAt.nil l, OwnIt.nil _ _ _, rfl, fun x hx => (by cases hx), Below.refl _ _⟩
  case round =>
    obtain ⟨i, R, xs, u, rfl, rfl, hi, hkx, HR⟩ := hrel
    by_cases hlt : i < l.length
    · have hltz : (i : Int) < (l.length : Int) := by omega
      have i0 : (0 : Int) ≤ (i : Int) := by omega
      have wi : IntKind.i64.wrap ((i : Int) + 1) = (i : Int) + 1 := by rw [IntKind.wrap_i64]; omega
      obtain ⟨a, rfl⟩ := HA.out (by omega)
      obtain ⟨cn, hcn⟩ : ∃ cn : Nat, numAt l i = (cn : Int) := ⟨(numAt l i).toNat, (Int.toNat_of_nonneg (HIN.out i)).symm⟩
      have HC : Aside (∀ w, Below W.heap.size W w → w.cell? (a.add i) = some (.int .i64 (cn : Int))) := fun w hb => by
        rw [srci_cell (HS.out.below hb) i hlt, ← numAt_eq l i hlt, hcn]
      obtain ⟨r1, r2, r3, r4, r5⟩ := HR.out
      have cc := HC.out wr r5
      by_cases hz : cn = 0
      · have hzb : ((cn : Int) == 0) = true := by rw [beq_iff_eq]; omega
        have HN : Aside (CoinsAt l (i + 1) R) := r1.skip (by rw [hcn, hz]; rfl)
        clear r1 r2 r3 r4 r5
        go_wp2_with fail
        go_roundg (l.length - (i + 1))
        case measure => omega
        case rel => exact ⟨i + 1, R, xs, u, rfl, by go_num, by omega, Nat.le_refl _, HN.out, HR.out.2⟩
      · have hzb : ((cn : Int) == 0) = false := by rw [beq_eq_false_iff_ne]; omega
        obtain ⟨uo, cap, hu, hncap, hcapm, hnone⟩ := own_shape r2.row
        subst hu
        have HCN : Aside (numAt l i = (cn : Int) ∧ cn ≠ 0) := ⟨hcn, hz⟩
        have HNO : Aside (uo = none → xs.length = 0 ∧ cap = 0) := hnone
        have hxl : xs.length ≤ 320 := by
          have h1 := congrArg List.length r3
          rw [List.length_map, List.length_map] at h1
          have h2 := r1.2.2
          omega
        clear r1 r2 r3 r4 r5 hcn hnone
        go_upto_region 7 with fail
        obtain ⟨w5, hw5⟩ : ∃ w, w = wr := ⟨_, rfl⟩
        rw [← hw5] at HR cc ⊢
        clear hw5
        go_loopg [5] xs.length (fun kx s5 wr => ∃ (k : Nat), s5 = .int .i64 k ∧ k ≤ xs.length ∧ k ≤ kx ∧ Aside ((∀ s ∈ R.drop k, numAt l i < numAt l s) ∧ Drew w5 wr))
        case atStart => exact ⟨xs.length, rfl, Nat.le_refl _, Nat.le_refl _, fun s hs => (by
          have h1 := congrArg List.length HR.out.2.2.1
          rw [List.length_map, List.length_map] at h1
          rw [h1, List.drop_length] at hs
          cases hs), Drew.refl _⟩
        case round =>
          obtain ⟨k, rfl, hk, hkk, HK⟩ := hrel
          by_cases hk0 : k = 0
          · have hkz : ¬ (k : Int) > 0 := by omega
            have HT : Aside (∀ s ∈ R.take k, numAt l s ≤ numAt l i) := fun s hs => (by rw [hk0, List.take_zero] at hs; cases hs)
            have hkN : ¬ 0 < k := by omega
            clear hk0
            go_wp2_with fail
            go_quiet (fail)
            have hD5 : Drew w5 (wr.drewN nq) := HK.out.2.trans (Drew.drewN _ _)
            obtain ⟨w6, hw6⟩ : ∃ w, w = wr.drewN nq := ⟨_, rfl⟩
            rw [← hw6] at hD5 ⊢
            clear hw6
            obtain ⟨r1, r2, r3, r4, r5⟩ := HR.out
            have hb6 : Below W.heap.size W w6 := r5.trans (hD5.below _)
            have hout6 := r2.below (hD5.below _)
            have HKD : Aside (∀ s ∈ R.drop k, numAt l i < numAt l s) := HK.out.1
            have HF : Aside _ := coin_step hb6 hout6 hk r1 r3 r4 HCN.out.1 HCN.out.2 HT.out HKD.out hxl
            have HCC : Aside (∀ w, Below w6.heap.size w6 w → w.cell? (a.add i) = some (.int .i64 (cn : Int))) := fun w hb => HC.out w (hb6.trans (hb.mono hb6.size))
            have hkc : k ≤ cap := Nat.le_trans hk hncap
            have hkx3 : (k : Int) ≤ (xs.length : Int) := by omega
            have hdl : (xs.drop k).length ≤ 1048576 := by rw [List.length_drop]; omega
            have H6 : Aside (SrcIt w6 (.slice uo xs.length cap) xs) := hout6.src
            clear r1 r2 r3 r4 r5 hout6 HT HK HKD HR HC cc hb6 hD5
            have h3 : (uo = none ∧ xs = [] ∧ k = 0 ∧ cap = 0) ∨ (∃ p, uo = some p ∧ cap = k ∧ k = xs.length) ∨ (∃ p, uo = some p ∧ cap ≠ k) := by
              cases uo with
              | none =>
                have := HNO.out rfl
                exact .inl ⟨rfl, List.eq_nil_of_length_eq_zero this.1, by omega, this.2⟩
              | some p =>
                by_cases hck : cap = k
                · exact .inr (.inl ⟨p, rfl, hck, by omega⟩)
                · exact .inr (.inr ⟨p, rfl, hck⟩)
            rcases h3 with ⟨rfl, rfl, rfl, rfl⟩ | ⟨p, rfl, hck, rfl⟩ | ⟨p, rfl, hck⟩
            · have hsrc : SrcIt w6 (.slice none 0 0) (([] : List ItV).drop 0) := ⟨⟨none, 0, rfl, Nat.le_refl _, fun _ => rfl, fun a e => (by cases e)⟩, fun x hx => (by cases hx)⟩
              simp only [List.length_nil]
              obtain ⟨v9, W9, x1, x2, x3⟩ := fresh_it Try.underlying67 info_ritem w6 _ _ hsrc hdl
              obtain ⟨v', W1, q1, v2, W2, q2, HQ⟩ := HF.out W9 v9 x2 x3
              obtain ⟨ao9, c9, rfl, -, -, -⟩ := own_shape x2.row
              have hbd : Below w6.heap.size w6 W9.drew := x3.trans ((of_drewx W9).mono x3.size)
              have CD : W9.drew.cell? (a.add i) = some (.int .i64 (cn : Int)) := HCC.out _ hbd
              have CF : ∀ o, (W9.alloc o).cell? (a.add i) = some (.int .i64 (cn : Int)) := fun o => HCC.out _ (x3.trans (((Below.refl _ W9).alloc (Nat.le_refl _) o).mono x3.size))
              have CG : W9.cell? (a.add i) = some (.int .i64 (cn : Int)) := HCC.out _ x3
              have CE : ∀ o, (W9.drew.alloc o).cell? (a.add i) = some (.int .i64 (cn : Int)) := fun o => HCC.out _ (hbd.trans (((Below.refl _ W9.drew).alloc (Nat.le_refl _) o).mono hbd.size))
              simp only [List.drop_nil, List.length_nil] at q2
              clear x2 x3 hbd HCC HF H6 hsrc
              go_upto_region 9 with fail
              go_step
              go_step
              refine step_noneR rfl ?_
              go_upto_region 10 with (at_builtin; refine Lib.wpList_append_run _ rfl _ _ _ _ rfl _ _ rfl rfl _ _ x1 ?_)
              clear x1
              go_region_law (first
                | (refine step_append_run rfl _ _ _ _ rfl _ _ rfl rfl _ _ q1 ?_)
                | (refine step_append_run rfl _ _ _ _ rfl _ _ rfl rfl _ _ q2 ?_))
              all_goals
                go_wp2_with fail
                go_roundg (l.length - (i + 1))
                case measure => omega
                case rel =>
                  obtain ⟨R', xs', z⟩ := HQ.out
                  exact ⟨i + 1, R', xs', v2, rfl, by go_num, by omega, Nat.le_refl _, z⟩
            · subst hck
              have hsrc : SrcIt w6 (.slice (some p) (xs.length - xs.length) 0) (xs.drop xs.length) := H6.out.drop xs.length (Nat.le_refl _) p 0 (by omega) (fun h => by omega)
              rw [Nat.sub_self] at hsrc
              obtain ⟨v9, W9, x1, x2, x3⟩ := fresh_it Try.underlying67 info_ritem w6 _ _ hsrc hdl
              obtain ⟨v', W1, q1, v2, W2, q2, HQ⟩ := HF.out W9 v9 x2 x3
              obtain ⟨ao9, c9, rfl, -, -, -⟩ := own_shape x2.row
              have hbd : Below w6.heap.size w6 W9.drew := x3.trans ((of_drewx W9).mono x3.size)
              have CD : W9.drew.cell? (a.add i) = some (.int .i64 (cn : Int)) := HCC.out _ hbd
              have CF : ∀ o, (W9.alloc o).cell? (a.add i) = some (.int .i64 (cn : Int)) := fun o => HCC.out _ (x3.trans (((Below.refl _ W9).alloc (Nat.le_refl _) o).mono x3.size))
              have CG : W9.cell? (a.add i) = some (.int .i64 (cn : Int)) := HCC.out _ x3
              have CE : ∀ o, (W9.drew.alloc o).cell? (a.add i) = some (.int .i64 (cn : Int)) := fun o => HCC.out _ (hbd.trans (((Below.refl _ W9.drew).alloc (Nat.le_refl _) o).mono hbd.size))
              rw [List.length_drop, Nat.sub_self] at q2
              clear x2 x3 hbd HCC HF H6 hsrc
              go_upto_region 9 with fail
              go_step
              go_step
              refine step_noneR rfl ?_
              go_upto_region 10 with (at_builtin; refine Lib.wpList_append_run _ rfl _ _ _ _ rfl _ _ rfl rfl _ _ x1 ?_)
              clear x1
              go_region_law (first
                | (refine step_append_run rfl _ _ _ _ rfl _ _ rfl rfl _ _ q1 ?_)
                | (refine step_append_run rfl _ _ _ _ rfl _ _ rfl rfl _ _ q2 ?_))
              all_goals
                go_wp2_with fail
                go_roundg (l.length - (i + 1))
                case measure => omega
                case rel =>
                  obtain ⟨R', xs', z⟩ := HQ.out
                  exact ⟨i + 1, R', xs', v2, rfl, by go_num, by omega, Nat.le_refl _, z⟩
            · have hsrc : SrcIt w6 (.slice (some (p.add (k * 2))) (xs.length - k) (cap - k)) (xs.drop k) := H6.out.drop k hk _ (cap - k) (by omega) (fun h => rfl)
              obtain ⟨v9, W9, x1, x2, x3⟩ := fresh_it Try.underlying67 info_ritem w6 _ _ hsrc hdl
              obtain ⟨v', W1, q1, v2, W2, q2, HQ⟩ := HF.out W9 v9 x2 x3
              obtain ⟨ao9, c9, rfl, -, -, -⟩ := own_shape x2.row
              have hbd : Below w6.heap.size w6 W9.drew := x3.trans ((of_drewx W9).mono x3.size)
              have CD : W9.drew.cell? (a.add i) = some (.int .i64 (cn : Int)) := HCC.out _ hbd
              have CF : ∀ o, (W9.alloc o).cell? (a.add i) = some (.int .i64 (cn : Int)) := fun o => HCC.out _ (x3.trans (((Below.refl _ W9).alloc (Nat.le_refl _) o).mono x3.size))
              have CG : W9.cell? (a.add i) = some (.int .i64 (cn : Int)) := HCC.out _ x3
              have CE : ∀ o, (W9.drew.alloc o).cell? (a.add i) = some (.int .i64 (cn : Int)) := fun o => HCC.out _ (hbd.trans (((Below.refl _ W9.drew).alloc (Nat.le_refl _) o).mono hbd.size))
              rw [List.length_drop] at q2
              clear x2 x3 hbd HCC HF H6 hsrc
              go_upto_region 9 with fail
              go_step
              go_step
              refine step_noneR rfl ?_
              go_upto_region 10 with (at_builtin; refine Lib.wpList_append_run _ rfl _ _ _ _ rfl _ _ rfl rfl _ _ x1 ?_)
              clear x1
              go_region_law (first
                | (refine step_append_run rfl _ _ _ _ rfl _ _ rfl rfl _ _ q1 ?_)
                | (refine step_append_run rfl _ _ _ _ rfl _ _ rfl rfl _ _ q2 ?_))
              all_goals
                go_wp2_with fail
                go_roundg (l.length - (i + 1))
                case measure => omega
                case rel =>
                  obtain ⟨R', xs', z⟩ := HQ.out
                  exact ⟨i + 1, R', xs', v2, rfl, by go_num, by omega, Nat.le_refl _, z⟩
          · obtain ⟨k', hk'⟩ : ∃ k', k = k' + 1 := ⟨k - 1, by omega⟩
            have hkz : (k : Int) > 0 := by omega
            have hkN : 0 < k := by omega
            have wk : IntKind.i64.wrap ((k : Int) - 1) = (k' : Int) := by rw [IntKind.wrap_i64]; omega
            have hk1 : (k' : Int) < (xs.length : Int) := by omega
            have hk2 : (0 : Int) ≤ (k' : Int) := by omega
            have hkl : k' < xs.length := by omega
            obtain ⟨p, rfl⟩ : ∃ p, uo = some p := by
              cases uo with
              | none => have := (HNO.out rfl).1; omega
              | some p => exact ⟨p, rfl⟩
            obtain ⟨p', c', e, _, y1, -⟩ := HR.out.2.1.src.at k' hkl
            cases e
            obtain ⟨hkR, hyn⟩ := item_n HR.out.2.2.1 HIN.out k' hkl
            have Y1 : ∀ q, (wr.drewN q).cell? (p.add (k' * 2)) = some (.int .i64 ((xs[k']).n : Int)) := fun q => (HK.out.2.trans (Drew.drewN wr q)).cell.trans y1
            have C1 : ∀ q, (wr.drewN q).cell? (a.add i) = some (.int .i64 (cn : Int)) := fun q => (HK.out.2.trans (Drew.drewN wr q)).cell.trans cc
            generalize xs[k'].n = yn at *
            have HKE : Aside (k = k' + 1) := hk'
            by_cases hgt : yn > cn
            · have hgtz : (yn : Int) > (cn : Int) := by omega
              have HK2 : Aside (∀ s ∈ R.drop k', numAt l i < numAt l s) := drop_gt hkR (by rw [← hyn, HCN.out.1]; omega) (by rw [← hk']; exact HK.out.1)
              have HKD : Aside (Drew w5 wr) := HK.out.2
              clear HK y1 hk' hyn hkR
              go_wp2_with fail
              go_quiet (fail)
              go_wp2_with fail
              go_roundg k'
              case measure => have := HKE.out; omega
              case rel => exact ⟨k', by go_num, by omega, Nat.le_refl _, HK2.out, HKD.out.trans (Drew.drewN _ _)⟩
            · have hgtz : ¬ (yn : Int) > (cn : Int) := by omega
              have HT : Aside (∀ s ∈ R.take k, numAt l s ≤ numAt l i) := by rw [hk']; exact take_le HR.out.1.1 hkR (by rw [← hyn, HCN.out.1]; omega)
              clear hk' y1 hyn hkR
              go_wp2_with fail
              go_quiet (fail)
              have hD5 : Drew w5 (wr.drewN nq) := HK.out.2.trans (Drew.drewN _ _)
              obtain ⟨w6, hw6⟩ : ∃ w, w = wr.drewN nq := ⟨_, rfl⟩
              rw [← hw6] at hD5 ⊢
              clear hw6 Y1 C1
              obtain ⟨uo, huo⟩ : ∃ q, q = some p := ⟨_, rfl⟩
              rw [← huo] at HR HNO ⊢
              clear huo hgt hgtz
              obtain ⟨r1, r2, r3, r4, r5⟩ := HR.out
              have hb6 : Below W.heap.size W w6 := r5.trans (hD5.below _)
              have hout6 := r2.below (hD5.below _)
              have HKD : Aside (∀ s ∈ R.drop k, numAt l i < numAt l s) := HK.out.1
              have HF : Aside _ := coin_step hb6 hout6 hk r1 r3 r4 HCN.out.1 HCN.out.2 HT.out HKD.out hxl
              have HCC : Aside (∀ w, Below w6.heap.size w6 w → w.cell? (a.add i) = some (.int .i64 (cn : Int))) := fun w hb => HC.out w (hb6.trans (hb.mono hb6.size))
              have hkc : k ≤ cap := Nat.le_trans hk hncap
              have hkx3 : (k : Int) ≤ (xs.length : Int) := by omega
              have hdl : (xs.drop k).length ≤ 1048576 := by rw [List.length_drop]; omega
              have H6 : Aside (SrcIt w6 (.slice uo xs.length cap) xs) := hout6.src
              clear r1 r2 r3 r4 r5 hout6 HT HK HKD HR HC cc hb6 hD5
              have h3 : (uo = none ∧ xs = [] ∧ k = 0 ∧ cap = 0) ∨ (∃ p, uo = some p ∧ cap = k ∧ k = xs.length) ∨ (∃ p, uo = some p ∧ cap ≠ k) := by
                cases uo with
                | none =>
                  have := HNO.out rfl
                  exact .inl ⟨rfl, List.eq_nil_of_length_eq_zero this.1, by omega, this.2⟩
                | some p =>
                  by_cases hck : cap = k
                  · exact .inr (.inl ⟨p, rfl, hck, by omega⟩)
                  · exact .inr (.inr ⟨p, rfl, hck⟩)
              rcases h3 with ⟨rfl, rfl, rfl, rfl⟩ | ⟨p, rfl, hck, rfl⟩ | ⟨p, rfl, hck⟩
              · have hsrc : SrcIt w6 (.slice none 0 0) (([] : List ItV).drop 0) := ⟨⟨none, 0, rfl, Nat.le_refl _, fun _ => rfl, fun a e => (by cases e)⟩, fun x hx => (by cases hx)⟩
                exact absurd hkN (Nat.lt_irrefl _)
              · subst hck
                have hsrc : SrcIt w6 (.slice (some p) (xs.length - xs.length) 0) (xs.drop xs.length) := H6.out.drop xs.length (Nat.le_refl _) p 0 (by omega) (fun h => by omega)
                rw [Nat.sub_self] at hsrc
                obtain ⟨v9, W9, x1, x2, x3⟩ := fresh_it Try.underlying67 info_ritem w6 _ _ hsrc hdl
                obtain ⟨v', W1, q1, v2, W2, q2, HQ⟩ := HF.out W9 v9 x2 x3
                obtain ⟨ao9, c9, rfl, -, -, -⟩ := own_shape x2.row
                have hbd : Below w6.heap.size w6 W9.drew := x3.trans ((of_drewx W9).mono x3.size)
                have CD : W9.drew.cell? (a.add i) = some (.int .i64 (cn : Int)) := HCC.out _ hbd
                have CF : ∀ o, (W9.alloc o).cell? (a.add i) = some (.int .i64 (cn : Int)) := fun o => HCC.out _ (x3.trans (((Below.refl _ W9).alloc (Nat.le_refl _) o).mono x3.size))
                have CG : W9.cell? (a.add i) = some (.int .i64 (cn : Int)) := HCC.out _ x3
                have CE : ∀ o, (W9.drew.alloc o).cell? (a.add i) = some (.int .i64 (cn : Int)) := fun o => HCC.out _ (hbd.trans (((Below.refl _ W9.drew).alloc (Nat.le_refl _) o).mono hbd.size))
                rw [List.length_drop, Nat.sub_self] at q2
                clear x2 x3 hbd HCC HF H6 hsrc
                go_upto_region 9 with fail
                go_step
                go_step
                refine step_noneR rfl ?_
                go_upto_region 10 with (at_builtin; refine Lib.wpList_append_run _ rfl _ _ _ _ rfl _ _ rfl rfl _ _ x1 ?_)
                clear x1
                go_region_law (first
                  | (refine step_append_run rfl _ _ _ _ rfl _ _ rfl rfl _ _ q1 ?_)
                  | (refine step_append_run rfl _ _ _ _ rfl _ _ rfl rfl _ _ q2 ?_))
                all_goals
                  go_wp2_with fail
                  go_roundg (l.length - (i + 1))
                  case measure => omega
                  case rel =>
                    obtain ⟨R', xs', z⟩ := HQ.out
                    exact ⟨i + 1, R', xs', v2, rfl, by go_num, by omega, Nat.le_refl _, z⟩
              · have hsrc : SrcIt w6 (.slice (some (p.add (k * 2))) (xs.length - k) (cap - k)) (xs.drop k) := H6.out.drop k hk _ (cap - k) (by omega) (fun h => rfl)
                obtain ⟨v9, W9, x1, x2, x3⟩ := fresh_it Try.underlying67 info_ritem w6 _ _ hsrc hdl
                obtain ⟨v', W1, q1, v2, W2, q2, HQ⟩ := HF.out W9 v9 x2 x3
                obtain ⟨ao9, c9, rfl, -, -, -⟩ := own_shape x2.row
                have hbd : Below w6.heap.size w6 W9.drew := x3.trans ((of_drewx W9).mono x3.size)
                have CD : W9.drew.cell? (a.add i) = some (.int .i64 (cn : Int)) := HCC.out _ hbd
                have CF : ∀ o, (W9.alloc o).cell? (a.add i) = some (.int .i64 (cn : Int)) := fun o => HCC.out _ (x3.trans (((Below.refl _ W9).alloc (Nat.le_refl _) o).mono x3.size))
                have CG : W9.cell? (a.add i) = some (.int .i64 (cn : Int)) := HCC.out _ x3
                have CE : ∀ o, (W9.drew.alloc o).cell? (a.add i) = some (.int .i64 (cn : Int)) := fun o => HCC.out _ (hbd.trans (((Below.refl _ W9.drew).alloc (Nat.le_refl _) o).mono hbd.size))
                rw [List.length_drop] at q2
                clear x2 x3 hbd HCC HF H6 hsrc
                go_upto_region 9 with fail
                go_step
                go_step
                refine step_noneR rfl ?_
                go_upto_region 10 with (at_builtin; refine Lib.wpList_append_run _ rfl _ _ _ _ rfl _ _ rfl rfl _ _ x1 ?_)
                clear x1
                go_region_law (first
                  | (refine step_append_run rfl _ _ _ _ rfl _ _ rfl rfl _ _ q1 ?_)
                  | (refine step_append_run rfl _ _ _ _ rfl _ _ rfl rfl _ _ q2 ?_))
                all_goals
                  go_wp2_with fail
                  go_roundg (l.length - (i + 1))
                  case measure => omega
                  case rel =>
                    obtain ⟨R', xs', z⟩ := HQ.out
                    exact ⟨i + 1, R', xs', v2, rfl, by go_num, by omega, Nat.le_refl _, z⟩
    · obtain rfl : i = l.length := by omega
      have hltz : ¬ (l.length : Int) < (l.length : Int) := by omega
      go_wp2_with fail
      go_ret
      obtain ⟨r1, r2, r3, r4, r5⟩ := HR.out
      rw [r1.last] at r3
      exact ⟨_, rfl, xs, r2, r3, r4, r5⟩
end Go.Proofs.Ytenkbmkecgnfmaa.Huf
