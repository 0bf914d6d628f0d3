/- The document's own merged: its walk. -/
import Derived.Test.YtenkbmkecgnfmaaHRefC
namespace Go.Proofs.Ytenkbmkecgnfmaa.Huf
open Go.RowKit Go.Shelf Go.Lib Go.Proofs.Ytenkbmkecgnfmaa.Mem

set_option maxHeartbeats 8000000 in
set_option maxRecDepth 100000 in
theorem refMerged_any (W : World) (v1 v2 : Value) (cs ps : List ItV) (h1 : SrcIt W v1 cs) (h2 : SrcIt W v2 ps) (hlim : cs.length + ps.length ≤ 1048576) :
    Calls Try.prog 38 #[v1, v2] W fun e w' => ∃ u, e = .returned u ∧ ∃ xs, OwnIt 70 w' W.heap.size u xs ∧ xs.map ItV.item = mergeS (cs.map ItV.item) (ps.map ItV.item) ∧ (∀ x ∈ xs, x ∈ cs ++ ps) ∧ Below W.heap.size W w' := by
  obtain ⟨ao, c0, rfl, k1, k2, -⟩ := h1.sh
  obtain ⟨bo, c1, rfl, m1, m2, -⟩ := h2.sh
  have HI : Aside (∀ x ∈ cs ++ ps, ItS W x) := fun x hx => (List.mem_append.1 hx).elim (h1.its x) (h2.its x)
  have HA : Aside (∀ w, Below W.heap.size W w → SrcIt w (.slice ao cs.length c0) cs ∧ SrcIt w (.slice bo ps.length c1) ps) := fun w hb => ⟨h1.below hb, h2.below hb⟩
  have HZ : Aside ((ao = none → c0 = 0) ∧ (bo = none → c1 = 0)) := ⟨k2, m2⟩
  have H0 : Aside (RowM W W (.slice none 0 0) cs ps [] 0 0) := ⟨Below.refl _ _, OwnIt.nil _ _ _, rfl, rfl, fun x hx => by cases hx⟩
  clear h1 h2 k2 m2
  go_enter Try.func38, Try.ntmps38
  go_upto_region 4 with fail
  go_loopg [5, 6, 7] cs.length (fun kx s5 s6 s7 wr => ∃ (i k : Nat) (d : List ItV), s7 = .int .i64 i ∧ s6 = .int .i64 k ∧ i ≤ cs.length ∧ k ≤ ps.length ∧ cs.length - i ≤ kx ∧ Aside (RowM W wr s5 cs ps d i k))
  case atStart => exact ⟨0, 0, [], rfl, rfl, Nat.zero_le _, Nat.zero_le _, Nat.le_refl _, H0.out⟩
  case round =>
    clear H0
    obtain ⟨i, k, d, rfl, rfl, hi, hk, hkx, HS⟩ := hrel
    by_cases hlt : i < cs.length
    · have hltz : (i : Int) < (cs.length : Int) := by omega
      have wi : IntKind.i64.wrap ((i : Int) + 1) = (i : Int) + 1 := by rw [IntKind.wrap_i64]; omega
      obtain ⟨p, rfl⟩ : ∃ p, ao = some p := by
        cases ao with
        | none => have := HZ.out.1 rfl; omega
        | some p => exact ⟨p, rfl⟩
      obtain ⟨wo, hwo⟩ : ∃ wo, wo = wr := ⟨_, rfl⟩
      rw [← hwo] at HS ⊢
      clear hwo
      obtain ⟨x, hx⟩ : ∃ x, x = cs[i] := ⟨_, rfl⟩
      have HXM : Aside (x ∈ cs ++ ps ∧ x = cs[i]) := ⟨by rw [hx]; exact List.mem_append_left _ (List.getElem_mem hlt), hx⟩
      have HXC : Aside (∀ w, Below W.heap.size W w → w.cell? (p.add (i * 2)) = some (.int .i64 (x.n : Int)) ∧ w.cell? (p.add (i * 2 + 1)) = some x.sl) := fun w hb => by
        obtain ⟨a, c, e, _, q1, q2⟩ := (HA.out w hb).1.at i hlt
        cases e
        rw [hx]
        exact ⟨q1, q2⟩
      clear hx
      go_upto_region 6 with fail
      go_loopg [5, 6] ps.length (fun kx s5 s6 wr => ∃ (k : Nat) (d : List ItV), s6 = .int .i64 k ∧ k ≤ ps.length ∧ ps.length - k ≤ kx ∧ Aside (RowM W wr s5 cs ps d i k))
      case atStart => exact ⟨k, d, rfl, hk, by omega, HS.out⟩
      case round =>
        clear HS
        obtain ⟨k, d, rfl, hk, hkk, HS⟩ := hrel
        have wk : IntKind.i64.wrap ((k : Int) + 1) = (k : Int) + 1 := by rw [IntKind.wrap_i64]; omega
        have hbw := HS.out.1
        obtain ⟨x1, x2⟩ := HXC.out wr hbw
        have X1 : ∀ q, (wr.drewN q).cell? (p.add (i * 2)) = some (.int .i64 (x.n : Int)) := fun q => x1
        by_cases hkt : k < ps.length
        · have hktz : (k : Int) < (ps.length : Int) := by omega
          obtain ⟨p2, rfl⟩ : ∃ p, bo = some p := by
            cases bo with
            | none => have := HZ.out.2 rfl; omega
            | some p => exact ⟨p, rfl⟩
          obtain ⟨a, c, e, _, y1, y2⟩ := (HA.out wr hbw).2.at k hkt
          cases e
          obtain ⟨y, hy⟩ : ∃ y, y = ps[k] := ⟨_, rfl⟩
          rw [← hy] at y1 y2
          have Y1 : ∀ q, (wr.drewN q).cell? (p2.add (k * 2)) = some (.int .i64 (y.n : Int)) := fun q => y1
          have Y2 : ∀ q, (wr.drewN q).cell? ⟨(p2.add (k * 2)).block, (p2.add (k * 2)).off + 1, none⟩ = some (.slice y.ba y.s.length y.bc) := fun q => (by rw [second]; exact y2)
          have HYM : Aside (y ∈ cs ++ ps ∧ y = ps[k]) := ⟨by rw [hy]; exact List.mem_append_right _ (List.getElem_mem hkt), hy⟩
          clear hy y1 y2 x1 x2
          by_cases hlt2 : y.n < x.n
          · have hl2z : (y.n : Int) < (x.n : Int) := by omega
            go_wp2_with fail
            go_quiet (fail)
            obtain ⟨v', W', q1, q2⟩ := rowM_push (i' := i) (k' := k + 1) HS.out (Drew.drewN wr nq) HI.out HYM.out.1 (by rw [HYM.out.2]; exact leftM_b cs ps i k hlt hkt (by rw [← HYM.out.2, ← HXM.out.2]; exact hlt2)) (by omega) (by omega)
            have HQ := Lib.hid q2
            have Z1 := Y1 nq
            have Z2 := Y2 nq
            generalize wr.drewN nq = w9 at q1 Z1 Z2 ⊢
            clear q2 Y1 Y2 X1 HS
            go_wp2_with (at_builtin; refine Lib.wpList_append_run _ rfl _ _ _ _ rfl _ _ rfl rfl _ _ q1 ?_)
            go_roundg (ps.length - (k + 1))
            case measure => omega
            case rel => exact ⟨k + 1, d ++ [y], by go_num, by omega, Nat.le_refl _, HQ.out⟩
          · have hl2z : ¬ (y.n : Int) < (x.n : Int) := by omega
            have X2 : ∀ q, (wr.drewN q).cell? ⟨(p.add (i * 2)).block, (p.add (i * 2)).off + 1, none⟩ = some (.slice x.ba x.s.length x.bc) := fun q => (by rw [second]; exact (HXC.out wr hbw).2)
            go_wp2_with fail
            go_quiet (fail)
            obtain ⟨v', W', q1, q2⟩ := rowM_push (i' := i + 1) (k' := k) HS.out (Drew.drewN wr nq) HI.out HXM.out.1 (by rw [HXM.out.2]; exact leftM_a cs ps i k hlt (fun _ => by rw [← HYM.out.2, ← HXM.out.2]; exact hlt2)) (by omega) (by omega)
            have HQ := Lib.hid q2
            have Z1 := X1 nq
            have Z2 := X2 nq
            generalize wr.drewN nq = w9 at q1 Z1 Z2 ⊢
            clear q2 Y1 Y2 X1 X2 HS
            go_wp2_with (at_builtin; refine Lib.wpList_append_run _ rfl _ _ _ _ rfl _ _ rfl rfl _ _ q1 ?_)
            go_roundg (cs.length - (i + 1))
            case measure => omega
            case rel => exact ⟨i + 1, k, d ++ [x], by go_num, rfl, by omega, hk, Nat.le_refl _, HQ.out⟩
        · obtain rfl : k = ps.length := by omega
          have hktz : ¬ (ps.length : Int) < (ps.length : Int) := by omega
          have X2 : ∀ q, (wr.drewN q).cell? ⟨(p.add (i * 2)).block, (p.add (i * 2)).off + 1, none⟩ = some (.slice x.ba x.s.length x.bc) := fun q => (by rw [second]; exact (HXC.out wr hbw).2)
          go_wp2_with fail
          go_quiet (fail)
          obtain ⟨v', W', q1, q2⟩ := rowM_push (i' := i + 1) (k' := ps.length) HS.out (Drew.drewN wr nq) HI.out HXM.out.1 (by rw [HXM.out.2]; exact leftM_a cs ps i ps.length hlt (fun h => by omega)) (by omega) (by omega)
          have HQ := Lib.hid q2
          have Z1 := X1 nq
          have Z2 := X2 nq
          generalize wr.drewN nq = w9 at q1 Z1 Z2 ⊢
          clear q2 X1 X2 HS x1 x2
          go_wp2_with (at_builtin; refine Lib.wpList_append_run _ rfl _ _ _ _ rfl _ _ rfl rfl _ _ q1 ?_)
          go_roundg (cs.length - (i + 1))
          case measure => omega
          case rel => exact ⟨i + 1, ps.length, d ++ [x], by go_num, rfl, by omega, Nat.le_refl _, Nat.le_refl _, HQ.out⟩
    · obtain rfl : i = cs.length := by omega
      have hltz : ¬ (cs.length : Int) < (cs.length : Int) := by omega
      obtain ⟨r1, r2, r3, r4, r5⟩ := HS.out
      rw [leftM_end] at r3
      have hkz : (k : Int) ≤ (ps.length : Int) := by omega
      cases bo with
      | none =>
        have hp0 : ps.length = 0 := by have := HZ.out.2 rfl; omega
        obtain rfl : k = 0 := by omega
        have hd0 : (ps.drop 0).map ItV.item = [] := by rw [List.drop_zero, List.eq_nil_of_length_eq_zero hp0]; rfl
        rw [hd0, List.append_nil] at r3
        have hc1 := HZ.out.2 rfl
        subst hc1
        obtain ⟨v', W', q1, q2, q3, -⟩ := r2.pushAll (ys := []) (y := .slice none 0 0) Try.underlying67 info_ritem r1.size ⟨⟨none, 0, rfl, Nat.le_refl _, fun _ => rfl, fun a e => by cases e⟩, fun x hx => by cases hx⟩ (fun x hx => by cases hx) (by simp only [List.length_nil]; omega)
        rw [List.append_nil] at q2
        have HQ : Aside (OwnIt 70 W' W.heap.size v' d ∧ d.map ItV.item = mergeS (cs.map ItV.item) (ps.map ItV.item) ∧ (∀ x ∈ d, x ∈ cs ++ ps) ∧ Below W.heap.size W W') := ⟨q2, r3, r5, r1.trans q3⟩
        rw [hp0]
        clear r1 r2 r3 r4 r5 q2 q3 HS hd0
        go_wp2_with (at_builtin; refine Lib.wpList_append_run _ rfl _ _ _ _ rfl _ _ rfl rfl _ _ q1 ?_)
        go_ret
        exact ⟨_, rfl, _, HQ.out.1, HQ.out.2.1, fun x hx => List.mem_append.1 (HQ.out.2.2.1 x hx), HQ.out.2.2.2⟩
      | some p2 =>
        have hsep : ∀ x ∈ ps.drop k, ∀ a, x.ba = some a → u5.ownBlock ≠ some a.block := fun x hx a ha e => by
          have l1 := (HI.out x (List.mem_append_right _ (List.mem_of_mem_drop hx))).lt ha
          have l2 := (r2.row.lt _ e).1
          omega
        have hlim2 : d.length + (ps.drop k).length ≤ 1048576 := by rw [List.length_drop]; omega
        by_cases hc : c1 = k
        · have hsrc : SrcIt wr (.slice (some p2) (ps.length - k) (c1 - k)) (ps.drop k) := (HA.out wr r1).2.drop k hk p2 (c1 - k) (by omega) (fun h => by omega)
          obtain ⟨v', W', q1, q2, q3, -⟩ := r2.pushAll Try.underlying67 info_ritem r1.size hsrc hsep hlim2
          have HQ : Aside (OwnIt 70 W' W.heap.size v' (d ++ ps.drop k) ∧ (d ++ ps.drop k).map ItV.item = mergeS (cs.map ItV.item) (ps.map ItV.item) ∧ (∀ x ∈ d ++ ps.drop k, x ∈ cs ++ ps) ∧ Below W.heap.size W W') :=
            ⟨q2, by rw [List.map_append]; exact r3, fun x hx => (List.mem_append.1 hx).elim (r5 x) (fun h => List.mem_append_right _ (List.mem_of_mem_drop h)), r1.trans q3⟩
          obtain rfl : k = ps.length := by omega
          subst hc
          rw [Nat.sub_self] at q1
          clear r1 r2 r3 r4 r5 q2 q3 HS hsep hlim2 hsrc
          go_wp2_with (at_builtin; refine Lib.wpList_append_run _ rfl _ _ _ _ rfl _ _ rfl rfl _ _ q1 ?_)
          go_ret
          exact ⟨_, rfl, _, HQ.out.1, HQ.out.2.1, fun x hx => List.mem_append.1 (HQ.out.2.2.1 x hx), HQ.out.2.2.2⟩
        · have hsrc : SrcIt wr (.slice (some (p2.add (k * 2))) (ps.length - k) (c1 - k)) (ps.drop k) := (HA.out wr r1).2.drop k hk _ (c1 - k) (by omega) (fun h => rfl)
          obtain ⟨v', W', q1, q2, q3, -⟩ := r2.pushAll Try.underlying67 info_ritem r1.size hsrc hsep hlim2
          have HQ : Aside (OwnIt 70 W' W.heap.size v' (d ++ ps.drop k) ∧ (d ++ ps.drop k).map ItV.item = mergeS (cs.map ItV.item) (ps.map ItV.item) ∧ (∀ x ∈ d ++ ps.drop k, x ∈ cs ++ ps) ∧ Below W.heap.size W W') :=
            ⟨q2, by rw [List.map_append]; exact r3, fun x hx => (List.mem_append.1 hx).elim (r5 x) (fun h => List.mem_append_right _ (List.mem_of_mem_drop h)), r1.trans q3⟩
          clear r1 r2 r3 r4 r5 q2 q3 HS hsep hlim2 hsrc
          go_wp2_with (at_builtin; refine Lib.wpList_append_run _ rfl _ _ _ _ rfl _ _ rfl rfl _ _ q1 ?_)
          go_ret
          exact ⟨_, rfl, _, HQ.out.1, HQ.out.2.1, fun x hx => List.mem_append.1 (HQ.out.2.2.1 x hx), HQ.out.2.2.2⟩
end Go.Proofs.Ytenkbmkecgnfmaa.Huf
