/- The statement AsciiQueues: two queues, by turns. -/
import Derived.Test.YtaibehfpbcgijaaDoorAscZb
import Derived.Test.YtaibehfpbcgijaaDoorAscH
import Derived.Deep.RegionHeld3
import Derived.Deep.CutRange
import Derived.RegionTactic
namespace Go.Proofs.YtaibehfpbcgijaaDoor.Asc
open Go.RowKit Go.Shelf

set_option maxRecDepth 100000 in
set_option maxHeartbeats 16000000 in
theorem lawQueues (W : World) (B c1 c2 : Nat) (a b : Int) (a1 a2 : Option Addr) (os ps : List OpV) (hB : W.heap.size = B) (ho : ∀ r o, os[r]? = some o → OpAt W a1 r o) (hp : ∀ r o, ps[r]? = some o → OpAt W a2 r o) (hol : os.length ≤ 1048576) (hpl : ps.length ≤ 1048576) :
    Calls Tryd.prog 6 #[.int .i64 a, .int .i64 b, .slice a1 os.length c1, .slice a2 ps.length c2] W fun e w' => e = .returned (.bool true) ∧ Below B W w' := by
  have HBW := Lib.hid hB
  have HO := Lib.hid ho
  have HP := Lib.hid hp
  have HN := fun n w => Lib.hid (num_any n w)
  have hq1 : ∀ (n : Nat) w, (binOp .neq 39 (.pointer (some ⟨n, 0, none⟩)) (.pointer none)).run Tryd.prog w = .ok (.bool true) w := fun _ _ => by kernel_rfl
  have hq2 : ∀ (n : Nat) w, (binOp .eql 39 (.pointer (some ⟨n, 0, none⟩)) (.pointer none)).run Tryd.prog w = .ok (.bool false) w := fun _ _ => by kernel_rfl
  have hr1 : ∀ (n : Nat) w, (binOp .neq 42 (.pointer (some ⟨n, 0, none⟩)) (.pointer none)).run Tryd.prog w = .ok (.bool true) w := fun _ _ => by kernel_rfl
  have hr2 : ∀ (n : Nat) w, (binOp .eql 42 (.pointer (some ⟨n, 0, none⟩)) (.pointer none)).run Tryd.prog w = .ok (.bool false) w := fun _ _ => by kernel_rfl
  have hn1 : ∀ w, (binOp .neq 39 (.pointer none) (.pointer none)).run Tryd.prog w = .ok (.bool false) w := fun _ => by kernel_rfl
  have hn2 : ∀ w, (binOp .eql 39 (.pointer none) (.pointer none)).run Tryd.prog w = .ok (.bool true) w := fun _ => by kernel_rfl
  have hm1 : ∀ w, (binOp .neq 42 (.pointer none) (.pointer none)).run Tryd.prog w = .ok (.bool false) w := fun _ => by kernel_rfl
  have hm2 : ∀ w, (binOp .eql 42 (.pointer none) (.pointer none)).run Tryd.prog w = .ok (.bool true) w := fun _ => by kernel_rfl
  have HQ1 := Lib.hid (newQueue_opt W a)
  have HQ2 := fun w => Lib.hid (newQueue_opt w b)
  have HR1 := fun w => Lib.hid (refNew_opt w a)
  have HR2 := fun w => Lib.hid (refNew_opt w b)
  have HK := fun w => Lib.hid (knows_any w)
  have mixed : Tryd.prog.follows .mixedOrders = true := by kernel_rfl
  clear hB ho hp
  go_enter Tryd.func6, Tryd.ntmps6
  go_upto_region 5 with (first
    | (go_at_call 33; with_reducible refine HQ1.out.mono ?_; rintro e w1 ⟨q, e1, rfl, m1, b1⟩; have HM1 := Lib.hid (And.intro m1 b1); clear m1 b1)
    | (go_at_call 33; with_reducible refine (HQ2 _).out.mono ?_; rintro e w2 ⟨p, e2, rfl, m2, b2⟩; have HM2 := Lib.hid (And.intro m2 b2); clear m2 b2)
    | (go_at_call 34; with_reducible refine (HR1 _).out.mono ?_; rintro e w3 ⟨r, rfl, m3, b3⟩; have HM3 := Lib.hid (And.intro m3 b3); clear m3 b3)
    | (go_at_call 34; with_reducible refine (HR2 _).out.mono ?_; rintro e w4 ⟨t, rfl, m4, b4⟩; have HM4 := Lib.hid (And.intro m4 b4); clear m4 b4))
  go_cut [61] from 17 to 61 (fun c wx => c = .bool false ∧ Below w4.heap.size w4 wx)
  case first =>
    have g1 := HM1.out.1
    have g2 := HM2.out.1
    have g3 := HM3.out.1
    have g4 := HM4.out.1
    rcases g1 with ⟨la, rfl, rfl, -⟩ | ⟨la, rfl, rfl⟩ <;> rcases g3 with ⟨lc, rfl, -⟩ | ⟨lc, rfl⟩ <;> rcases g2 with ⟨lb, rfl, rfl, -⟩ | ⟨lb, rfl, rfl⟩ <;> rcases g4 with ⟨ld, rfl, -⟩ | ⟨ld, rfl⟩ <;> (try exact absurd la lc) <;> (try exact absurd lc la) <;> (try exact absurd lb ld) <;> (try exact absurd ld lb)
    all_goals
      go_wp2_with (first
        | (go_at_call 28; refine (HN _ _).out.mono ?_; rintro e w ⟨rfl, rfl⟩)
        | (go_at_call 14; refine (HK _).out.mono ?_; rintro e w5 ⟨rfl, b5⟩))
      go_meet
      exact ⟨rfl, b5⟩
  case rest =>
    obtain ⟨rfl, b5⟩ := hcut
    have hT := two_new HM1.out.1 HM1.out.2 HM2.out.1 HM2.out.2 HM3.out.1 HM3.out.2 HM4.out.1 HM4.out.2 b5
    rw [HBW.out] at hT
    have HT := Lib.hid hT
    clear hT b5 HM1 HM2 HM3 HM4 HQ1 HQ2 HR1 HR2 HK
    go_wp2_with fail
    go_loopw [15] (fun s15 wr => ∃ j : Nat, j ≤ 1048576 ∧ s15 = .int .i64 j ∧ Two W wr B q r p t) (fun i _ => max os.length ps.length - (RowKit.intOf i).toNat)
    case atStart => exact ⟨0, Nat.zero_le _, rfl, HT.out⟩
    case round =>
      obtain ⟨j, hj, rfl, hTj⟩ := hrel
      have HTj := Lib.hid hTj
      clear hTj HT
      go_upto_region 8 with fail
      go_cut [71] from 62 to 129 (fun c wx => c = .bool (decide (j < os.length ∨ j < ps.length)) ∧ wx = wr)
      case first =>
        by_cases h1 : j < os.length
        · go_wp2_with fail
          go_meet
          exact ⟨by rw [decide_eq_true (Or.inl h1)], rfl⟩
        · by_cases h2 : j < ps.length
          · go_wp2_with fail
            go_meet
            exact ⟨by rw [decide_eq_true (Or.inr h2)], rfl⟩
          · go_wp2_with fail
            go_meet
            exact ⟨by rw [decide_eq_false (fun h => h.elim h1 h2)], rfl⟩
      case rest =>
      obtain ⟨rfl, rfl⟩ := hcut
      by_cases hgo : j < os.length ∨ j < ps.length
      · rw [decide_eq_true hgo]
        go_upto_region 10 with fail
        go_cut [101] from 62 to 129 (fun c wx => c = .bool false ∧ Two W wx B q r p t)
        case first =>
          by_cases h1 : j < os.length
          · rcases HTj.out.q_shape with rfl | ⟨bb, rfl⟩
            · go_quiet (fail)
              go_wp2_with fail
              go_meet
              exact ⟨rfl, HTj.out.drew ⟨rfl, rfl, rfl, rfl⟩⟩
            · obtain ⟨aa, rfl, hob, hat⟩ := op_later HBW.out (HO.out j _ (List.getElem?_eq_getElem h1))
              generalize os[j] = o at hob hat
              have HAt := Lib.hid hat
              obtain ⟨x0, x1, x2, -⟩ := hat wc HTj.out.bel.1
              obtain ⟨cc, rfl, ⟨xx, hxx⟩, hst⟩ := HTj.out.step HBW.out o (fun w' hb => (hat w' hb).2.2.2) hob
              have HSt := Lib.hid (hst wc.drew ⟨rfl, rfl, rfl, rfl⟩)
              have xd : wc.drew.cell? (aa.add (j * 3)) = some (.int .i64 o.kind) ∧ wc.drew.cell? ⟨(aa.add (j * 3)).block, (aa.add (j * 3)).off + 1, none⟩ = some (.int .i64 o.n) ∧ wc.drew.cell? ⟨(aa.add (j * 3)).block, (aa.add (j * 3)).off + 2, none⟩ = some (.slice o.ba o.b.length o.bc) := ⟨x0, x1, x2⟩
              obtain ⟨xd0, xd1, xd2⟩ := xd
              clear hst hat hxx
              refine wp_region_held_drew (S := fun _ => True) (by kernel_rfl) True.intro (fun _ => ?_)
              try simp only [List.size_toArray, List.length_cons, List.length_nil]
              refine' wpAnyH_take (i := 0) (oi := _) (v := _) ?hh (by kernel_rfl) (by kernel_rfl) (by kernel_rfl) ?hq (Or.inl ⟨?hw, ?hy⟩) trivial ?hr
              case hh => simp only [List.getElem?_toArray, List.getElem?_cons_zero]; rfl
              case hq => exact fun _ _ _ h => h
              case hw => rfl
              case hy => (intro w _; go_simp; try (with_reducible rfl))
              case hr =>
              try simp only [Act.put, List.setIfInBounds_toArray, List.set_cons_zero, List.set_cons_succ]
              refine' wpAnyH_take (i := 1) (oi := _) (v := _) ?hh (by kernel_rfl) (by kernel_rfl) (by kernel_rfl) ?hq (Or.inl ⟨?hw, ?hy⟩) trivial ?hr
              case hh => simp only [List.getElem?_toArray, List.getElem?_cons_zero, List.getElem?_cons_succ]; rfl
              case hq => exact fun _ _ _ h => h
              case hw => rfl
              case hy => (intro w _; go_simp; try (with_reducible rfl))
              case hr =>
              try simp only [Act.put, List.setIfInBounds_toArray, List.set_cons_zero, List.set_cons_succ]
              refine' wpAnyH_take (i := 2) (oi := _) (v := _) ?hh (by kernel_rfl) (by kernel_rfl) (by kernel_rfl) ?hq (Or.inl ⟨?hw, ?hy⟩) trivial ?hr
              case hh => simp only [List.getElem?_toArray, List.getElem?_cons_zero, List.getElem?_cons_succ]; rfl
              case hq => exact fun _ _ _ h => h
              case hw => rfl
              case hy => (intro w _; go_simp; try (with_reducible rfl))
              case hr =>
              try simp only [Act.put, List.setIfInBounds_toArray, List.set_cons_zero, List.set_cons_succ]
              refine' wpAnyH_take (i := 3) (oi := _) (v := _) ?hh (by kernel_rfl) (by kernel_rfl) (by kernel_rfl) ?hq (Or.inl ⟨?hw, ?hy⟩) trivial ?hr
              case hh => simp only [List.getElem?_toArray, List.getElem?_cons_zero, List.getElem?_cons_succ]; rfl
              case hq => exact fun _ _ _ h => h
              case hw => rfl
              case hy => (intro w _; go_simp; try (with_reducible rfl))
              case hr =>
              try simp only [Act.put, List.setIfInBounds_toArray, List.set_cons_zero, List.set_cons_succ]
              refine' wpAnyH_take (i := 4) (oi := _) (v := _) ?hh (by kernel_rfl) (by kernel_rfl) (by kernel_rfl) ?hq (Or.inl ⟨?hw, ?hy⟩) trivial ?hr
              case hh => simp only [List.getElem?_toArray, List.getElem?_cons_zero, List.getElem?_cons_succ]; rfl
              case hq => exact fun _ _ _ h => h
              case hw => rfl
              case hy => (intro w _; go_simp; try (with_reducible rfl))
              case hr =>
              try simp only [Act.put, List.setIfInBounds_toArray, List.set_cons_zero, List.set_cons_succ]
              refine' wpAnyH_take (i := 5) (oi := _) (v := _) ?hh (by kernel_rfl) (by kernel_rfl) (by kernel_rfl) ?hq (Or.inl ⟨?hw, ?hy⟩) trivial ?hr
              case hh => simp only [List.getElem?_toArray, List.getElem?_cons_zero, List.getElem?_cons_succ]; rfl
              case hq => exact fun _ _ _ h => h
              case hw => rfl
              case hy => (intro w _; go_simp; try (with_reducible rfl))
              case hr =>
              try simp only [Act.put, List.setIfInBounds_toArray, List.set_cons_zero, List.set_cons_succ]
              refine' wpAnyH_take (i := 6) (oi := _) (v := _) ?hh (by kernel_rfl) (by kernel_rfl) (by kernel_rfl) ?hq (Or.inl ⟨?hw, ?hy⟩) trivial ?hr
              case hh => simp only [List.getElem?_toArray, List.getElem?_cons_zero, List.getElem?_cons_succ]; rfl
              case hq => exact fun _ _ _ h => h
              case hw => rfl
              case hy => (intro w _; go_simp; try (with_reducible rfl))
              case hr =>
              try simp only [Act.put, List.setIfInBounds_toArray, List.set_cons_zero, List.set_cons_succ]
              refine' wpAnyH_take (i := 7) (oi := _) (v := _) ?hh (by kernel_rfl) (by kernel_rfl) (by kernel_rfl) ?hq (Or.inl ⟨?hw, ?hy⟩) trivial ?hr
              case hh => simp only [List.getElem?_toArray, List.getElem?_cons_zero, List.getElem?_cons_succ]; rfl
              case hq => exact fun _ _ _ h => h
              case hw => rfl
              case hy => (intro w _; go_simp; try (with_reducible rfl))
              case hr =>
              try simp only [Act.put, List.setIfInBounds_toArray, List.set_cons_zero, List.set_cons_succ]
              refine' wpAnyH_take (i := 8) (oi := _) (v := _) ?hh (by kernel_rfl) (by kernel_rfl) (by kernel_rfl) ?hq (Or.inl ⟨?hw, ?hy⟩) trivial ?hr
              case hh => simp only [List.getElem?_toArray, List.getElem?_cons_zero, List.getElem?_cons_succ]; rfl
              case hq => exact fun _ _ _ h => h
              case hw => rfl
              case hy => (intro w _; go_simp; try (with_reducible rfl))
              case hr =>
              try simp only [Act.put, List.setIfInBounds_toArray, List.set_cons_zero, List.set_cons_succ]
              refine' wpAnyH_take (i := 9) (oi := _) (v := _) ?hh (by kernel_rfl) (by kernel_rfl) (by kernel_rfl) ?hq (Or.inl ⟨?hw, ?hy⟩) trivial ?hr
              case hh => simp only [List.getElem?_toArray, List.getElem?_cons_zero, List.getElem?_cons_succ]; rfl
              case hq => exact fun _ _ _ h => h
              case hw => rfl
              case hy => (intro w _; go_simp; try (with_reducible rfl))
              case hr =>
              try simp only [Act.put, List.setIfInBounds_toArray, List.set_cons_zero, List.set_cons_succ]
              refine' wpAnyH_take (i := 10) (oi := _) (v := _) ?hh (by kernel_rfl) (by kernel_rfl) (by kernel_rfl) ?hq (Or.inl ⟨?hw, ?hy⟩) trivial ?hr
              case hh => simp only [List.getElem?_toArray, List.getElem?_cons_zero, List.getElem?_cons_succ]; rfl
              case hq => exact fun _ _ _ h => h
              case hw => rfl
              case hy => (intro w _; go_simp; try (with_reducible rfl))
              case hr =>
              try simp only [Act.put, List.setIfInBounds_toArray, List.set_cons_zero, List.set_cons_succ]
              refine' wpAnyH_take (i := 11) (oi := _) (v := _) ?hh (by kernel_rfl) (by kernel_rfl) (by kernel_rfl) ?hq (Or.inl ⟨?hw, ?hy⟩) trivial ?hr
              case hh => simp only [List.getElem?_toArray, List.getElem?_cons_zero, List.getElem?_cons_succ]; rfl
              case hq => exact fun _ _ _ h => h
              case hw => rfl
              case hy => (intro w _; go_simp; try (with_reducible rfl))
              case hr =>
              try simp only [Act.put, List.setIfInBounds_toArray, List.set_cons_zero, List.set_cons_succ]
              refine' wpAnyH_take (i := 12) (oi := _) (v := _) ?hh (by kernel_rfl) (by kernel_rfl) (by kernel_rfl) ?hq (Or.inl ⟨?hw, ?hy⟩) trivial ?hr
              case hh => simp only [List.getElem?_toArray, List.getElem?_cons_zero, List.getElem?_cons_succ]; rfl
              case hq => exact fun _ _ _ h => h
              case hw => rfl
              case hy => (intro w _; go_simp; try (with_reducible rfl))
              case hr =>
              try simp only [Act.put, List.setIfInBounds_toArray, List.set_cons_zero, List.set_cons_succ]
              refine' wpAnyH_take (i := 13) (oi := _) (v := _) ?hh (by kernel_rfl) (by kernel_rfl) (by kernel_rfl) ?hq (Or.inl ⟨?hw, ?hy⟩) trivial ?hr
              case hh => simp only [List.getElem?_toArray, List.getElem?_cons_zero, List.getElem?_cons_succ]; rfl
              case hq => exact fun _ _ _ h => h
              case hw => rfl
              case hy => (intro w _; go_simp; try (with_reducible rfl))
              case hr =>
              try simp only [Act.put, List.setIfInBounds_toArray, List.set_cons_zero, List.set_cons_succ]
              refine wpAnyH_ready (rs := [14]) (by kernel_rfl) (by simp) ?_
              refine AllReadyH.cons (o := _) rfl (fun K hK => ?_) AllReadyH.nil
              go_simp
              refine hK.out _ _ trivial (fun _ => ?_)
              clear hK K
              try simp only [Act.put, List.setIfInBounds_toArray, List.set_cons_zero, List.set_cons_succ]
              refine wpAnyH_ready (rs := [15]) (by kernel_rfl) (by simp) ?_
              refine AllReadyH.cons (o := _) rfl (fun K hK => ?_) AllReadyH.nil
              go_simp
              refine HSt.out.mono ?_
              rintro e v1 ⟨rfl, ht1, n, x, hs⟩
              obtain ⟨xa, xc, rfl⟩ := hs.row
              have k1 := hs.cell cc rfl v1 (Drew.refl _)
              have HL1 := Lib.hid (hs.len v1 (Drew.refl _))
              have HC1 := Lib.hid (hs.cell cc rfl)
              have HT1 := Lib.hid ht1
              clear hs ht1
              refine hK.out _ _ trivial (fun _ => ?_)
              clear hK K
              try simp only [Act.put, List.setIfInBounds_toArray, List.set_cons_zero, List.set_cons_succ]
              refine' wpAnyH_take (i := 16) (oi := _) (v := _) ?hh (by kernel_rfl) (by kernel_rfl) (by kernel_rfl) ?hq (Or.inl ⟨?hw, ?hy⟩) trivial ?hr
              case hh => simp only [List.getElem?_toArray, List.getElem?_cons_zero, List.getElem?_cons_succ]; rfl
              case hq => exact fun _ _ _ h => h
              case hw => rfl
              case hy => (intro w _; go_simp; try (with_reducible rfl))
              case hr =>
              try simp only [Act.put, List.setIfInBounds_toArray, List.set_cons_zero, List.set_cons_succ]
              refine' wpAnyH_take (i := 17) (oi := _) (v := _) ?hh (by kernel_rfl) (by kernel_rfl) (by kernel_rfl) ?hq (Or.inl ⟨?hw, ?hy⟩) trivial ?hr
              case hh => simp only [List.getElem?_toArray, List.getElem?_cons_zero, List.getElem?_cons_succ]; rfl
              case hq => exact fun _ _ _ h => h
              case hw => rfl
              case hy => (intro w _; go_simp; try (with_reducible rfl))
              case hr =>
              try simp only [Act.put, List.setIfInBounds_toArray, List.set_cons_zero, List.set_cons_succ]
              refine' wpAnyH_take (i := 18) (oi := _) (v := _) ?hh (by kernel_rfl) (by kernel_rfl) (by kernel_rfl) ?hq (Or.inl ⟨?hw, ?hy⟩) trivial ?hr
              case hh => simp only [List.getElem?_toArray, List.getElem?_cons_zero, List.getElem?_cons_succ]; rfl
              case hq => exact fun _ _ _ h => h
              case hw => rfl
              case hy => (intro w _; go_simp; try (with_reducible rfl))
              case hr =>
              try simp only [Act.put, List.setIfInBounds_toArray, List.set_cons_zero, List.set_cons_succ]
              refine' wpAnyH_take (i := 20) (oi := _) (v := _) ?hh (by kernel_rfl) (by kernel_rfl) (by kernel_rfl) ?hq (Or.inl ⟨?hw, ?hy⟩) trivial ?hr
              case hh => simp only [List.getElem?_toArray, List.getElem?_cons_zero, List.getElem?_cons_succ]; rfl
              case hq => exact fun _ _ _ h => h
              case hw => rfl
              case hy => (intro w _; go_simp; try (with_reducible rfl))
              case hr =>
              try simp only [Act.put, List.setIfInBounds_toArray, List.set_cons_zero, List.set_cons_succ]
              refine' wpAnyH_take (i := 21) (oi := _) (v := _) ?hh (by kernel_rfl) (by kernel_rfl) (by kernel_rfl) ?hq (Or.inl ⟨?hw, ?hy⟩) trivial ?hr
              case hh => simp only [List.getElem?_toArray, List.getElem?_cons_zero, List.getElem?_cons_succ]; rfl
              case hq => exact fun _ _ _ h => h
              case hw => rfl
              case hy => (intro w _; go_simp; try (with_reducible rfl))
              case hr =>
              try simp only [Act.put, List.setIfInBounds_toArray, List.set_cons_zero, List.set_cons_succ]
              refine' wpAnyH_take (i := 22) (oi := _) (v := _) ?hh (by kernel_rfl) (by kernel_rfl) (by kernel_rfl) ?hq (Or.inl ⟨?hw, ?hy⟩) trivial ?hr
              case hh => simp only [List.getElem?_toArray, List.getElem?_cons_zero, List.getElem?_cons_succ]; rfl
              case hq => exact fun _ _ _ h => h
              case hw => rfl
              case hy => (intro w _; go_simp; try (with_reducible rfl))
              case hr =>
              try simp only [Act.put, List.setIfInBounds_toArray, List.set_cons_zero, List.set_cons_succ]
              refine wpAnyH_ready (rs := [19, 23]) (by kernel_rfl) (by simp) ?_
              refine AllReadyH.cons (o := _) rfl (fun K hK => ?_) (AllReadyH.cons (o := _) rfl (fun K hK => ?_) AllReadyH.nil)
              · go_simp
                refine HL1.out.mono ?_
                rintro e v2 ⟨rfl, hd⟩
                have k2 := HC1.out v2 hd
                have HT2 := Lib.hid (HT1.out.drew hd)
                clear hd
                refine hK.out _ _ trivial (fun _ => ?_)
                clear hK K
                try simp only [Act.put, List.setIfInBounds_toArray, List.set_cons_zero, List.set_cons_succ]
                refine wpAnyH_ready (rs := [23]) (by kernel_rfl) (by simp) ?_
                refine AllReadyH.cons (o := _) rfl (fun K hK => ?_) AllReadyH.nil
                go_simp
                refine hK.out _ _ trivial (fun _ => ?_)
                clear hK K
                try simp only [Act.put, List.setIfInBounds_toArray, List.set_cons_zero, List.set_cons_succ]
                refine' wpAnyH_take (i := 24) (oi := _) (v := _) ?hh (by kernel_rfl) (by kernel_rfl) (by kernel_rfl) ?hq (Or.inl ⟨?hw, ?hy⟩) trivial ?hr
                case hh => simp only [List.getElem?_toArray, List.getElem?_cons_zero, List.getElem?_cons_succ]; rfl
                case hq => exact fun _ _ _ h => h
                case hw => rfl
                case hy => (intro w _; go_simp; try (with_reducible rfl))
                case hr =>
                try simp only [Act.put, List.setIfInBounds_toArray, List.set_cons_zero, List.set_cons_succ]
                refine' wpAnyH_take (i := 25) (oi := _) (v := _) ?hh (by kernel_rfl) (by kernel_rfl) (by kernel_rfl) ?hq (Or.inl ⟨?hw, ?hy⟩) trivial ?hr
                case hh => simp only [List.getElem?_toArray, List.getElem?_cons_zero, List.getElem?_cons_succ]; rfl
                case hq => exact fun _ _ _ h => h
                case hw => rfl
                case hy => (intro w _; go_simp; try (with_reducible rfl))
                case hr =>
                try simp only [Act.put, List.setIfInBounds_toArray, List.set_cons_zero, List.set_cons_succ]
                refine' wpAnyH_take (i := 26) (oi := _) (v := _) ?hh (by kernel_rfl) (by kernel_rfl) (by kernel_rfl) ?hq (Or.inl ⟨?hw, ?hy⟩) trivial ?hr
                case hh => simp only [List.getElem?_toArray, List.getElem?_cons_zero, List.getElem?_cons_succ]; rfl
                case hq => exact fun _ _ _ h => h
                case hw => rfl
                case hy => (intro w _; go_simp; try (with_reducible rfl))
                case hr =>
                try simp only [Act.put, List.setIfInBounds_toArray, List.set_cons_zero, List.set_cons_succ]
                refine' wpAnyH_take (i := 27) (oi := _) (v := _) ?hh (by kernel_rfl) (by kernel_rfl) (by kernel_rfl) ?hq (Or.inl ⟨?hw, ?hy⟩) trivial ?hr
                case hh => simp only [List.getElem?_toArray, List.getElem?_cons_zero, List.getElem?_cons_succ]; rfl
                case hq => exact fun _ _ _ h => h
                case hw => rfl
                case hy => (intro w _; go_simp; try (with_reducible rfl))
                case hr =>
                try simp only [Act.put, List.setIfInBounds_toArray, List.set_cons_zero, List.set_cons_succ]
                refine wpAnyH_done (by kernel_rfl) ?_ _
                go_wp2_with fail
                go_meet
                exact ⟨rfl, HT2.out⟩
              · go_simp
                refine hK.out _ _ trivial (fun _ => ?_)
                clear hK K
                try simp only [Act.put, List.setIfInBounds_toArray, List.set_cons_zero, List.set_cons_succ]
                refine' wpAnyH_take (i := 24) (oi := _) (v := _) ?hh (by kernel_rfl) (by kernel_rfl) (by kernel_rfl) ?hq (Or.inl ⟨?hw, ?hy⟩) trivial ?hr
                case hh => simp only [List.getElem?_toArray, List.getElem?_cons_zero, List.getElem?_cons_succ]; rfl
                case hq => exact fun _ _ _ h => h
                case hw => rfl
                case hy => (intro w _; go_simp; try (with_reducible rfl))
                case hr =>
                try simp only [Act.put, List.setIfInBounds_toArray, List.set_cons_zero, List.set_cons_succ]
                refine wpAnyH_ready (rs := [19]) (by kernel_rfl) (by simp) ?_
                refine AllReadyH.cons (o := _) rfl (fun K hK => ?_) AllReadyH.nil
                go_simp
                refine HL1.out.mono ?_
                rintro e v2 ⟨rfl, hd⟩
                have k2 := HC1.out v2 hd
                have HT2 := Lib.hid (HT1.out.drew hd)
                clear hd
                refine hK.out _ _ trivial (fun _ => ?_)
                clear hK K
                try simp only [Act.put, List.setIfInBounds_toArray, List.set_cons_zero, List.set_cons_succ]
                refine' wpAnyH_take (i := 25) (oi := _) (v := _) ?hh (by kernel_rfl) (by kernel_rfl) (by kernel_rfl) ?hq (Or.inl ⟨?hw, ?hy⟩) trivial ?hr
                case hh => simp only [List.getElem?_toArray, List.getElem?_cons_zero, List.getElem?_cons_succ]; rfl
                case hq => exact fun _ _ _ h => h
                case hw => rfl
                case hy => (intro w _; go_simp; try (with_reducible rfl))
                case hr =>
                try simp only [Act.put, List.setIfInBounds_toArray, List.set_cons_zero, List.set_cons_succ]
                refine' wpAnyH_take (i := 26) (oi := _) (v := _) ?hh (by kernel_rfl) (by kernel_rfl) (by kernel_rfl) ?hq (Or.inl ⟨?hw, ?hy⟩) trivial ?hr
                case hh => simp only [List.getElem?_toArray, List.getElem?_cons_zero, List.getElem?_cons_succ]; rfl
                case hq => exact fun _ _ _ h => h
                case hw => rfl
                case hy => (intro w _; go_simp; try (with_reducible rfl))
                case hr =>
                try simp only [Act.put, List.setIfInBounds_toArray, List.set_cons_zero, List.set_cons_succ]
                refine' wpAnyH_take (i := 27) (oi := _) (v := _) ?hh (by kernel_rfl) (by kernel_rfl) (by kernel_rfl) ?hq (Or.inl ⟨?hw, ?hy⟩) trivial ?hr
                case hh => simp only [List.getElem?_toArray, List.getElem?_cons_zero, List.getElem?_cons_succ]; rfl
                case hq => exact fun _ _ _ h => h
                case hw => rfl
                case hy => (intro w _; go_simp; try (with_reducible rfl))
                case hr =>
                try simp only [Act.put, List.setIfInBounds_toArray, List.set_cons_zero, List.set_cons_succ]
                refine wpAnyH_done (by kernel_rfl) ?_ _
                go_wp2_with fail
                go_meet
                exact ⟨rfl, HT2.out⟩
          · go_quiet (fail)
            go_wp2_with fail
            go_meet
            exact ⟨rfl, HTj.out.drew ⟨rfl, rfl, rfl, rfl⟩⟩
        case rest =>
        obtain ⟨rfl, hTj⟩ := hcut
        have HTk := Lib.hid hTj
        clear hTj
        go_upto_region 12 with fail
        go_cut [129] from 62 to 129 (fun c wx => c = .bool false ∧ Two W wx B q r p t)
        case first =>
          by_cases h1 : j < ps.length
          · rcases HTk.out.swap.q_shape with rfl | ⟨bb, rfl⟩
            · go_quiet (fail)
              go_wp2_with fail
              go_meet
              exact ⟨rfl, HTk.out.drew ⟨rfl, rfl, rfl, rfl⟩⟩
            · obtain ⟨aa, rfl, hob, hat⟩ := op_later HBW.out (HP.out j _ (List.getElem?_eq_getElem h1))
              generalize ps[j] = o at hob hat
              have HAt := Lib.hid hat
              obtain ⟨x0, x1, x2, -⟩ := hat wc HTk.out.bel.1
              obtain ⟨cc, rfl, ⟨xx, hxx⟩, hst⟩ := HTk.out.swap.step HBW.out o (fun w' hb => (hat w' hb).2.2.2) hob
              have HSt := Lib.hid (hst wc.drew ⟨rfl, rfl, rfl, rfl⟩)
              have xd : wc.drew.cell? (aa.add (j * 3)) = some (.int .i64 o.kind) ∧ wc.drew.cell? ⟨(aa.add (j * 3)).block, (aa.add (j * 3)).off + 1, none⟩ = some (.int .i64 o.n) ∧ wc.drew.cell? ⟨(aa.add (j * 3)).block, (aa.add (j * 3)).off + 2, none⟩ = some (.slice o.ba o.b.length o.bc) := ⟨x0, x1, x2⟩
              obtain ⟨xd0, xd1, xd2⟩ := xd
              clear hst hat hxx
              refine wp_region_held_drew (S := fun _ => True) (by kernel_rfl) True.intro (fun _ => ?_)
              try simp only [List.size_toArray, List.length_cons, List.length_nil]
              refine' wpAnyH_take (i := 0) (oi := _) (v := _) ?hh (by kernel_rfl) (by kernel_rfl) (by kernel_rfl) ?hq (Or.inl ⟨?hw, ?hy⟩) trivial ?hr
              case hh => simp only [List.getElem?_toArray, List.getElem?_cons_zero]; rfl
              case hq => exact fun _ _ _ h => h
              case hw => rfl
              case hy => (intro w _; go_simp; try (with_reducible rfl))
              case hr =>
              try simp only [Act.put, List.setIfInBounds_toArray, List.set_cons_zero, List.set_cons_succ]
              refine' wpAnyH_take (i := 1) (oi := _) (v := _) ?hh (by kernel_rfl) (by kernel_rfl) (by kernel_rfl) ?hq (Or.inl ⟨?hw, ?hy⟩) trivial ?hr
              case hh => simp only [List.getElem?_toArray, List.getElem?_cons_zero, List.getElem?_cons_succ]; rfl
              case hq => exact fun _ _ _ h => h
              case hw => rfl
              case hy => (intro w _; go_simp; try (with_reducible rfl))
              case hr =>
              try simp only [Act.put, List.setIfInBounds_toArray, List.set_cons_zero, List.set_cons_succ]
              refine' wpAnyH_take (i := 2) (oi := _) (v := _) ?hh (by kernel_rfl) (by kernel_rfl) (by kernel_rfl) ?hq (Or.inl ⟨?hw, ?hy⟩) trivial ?hr
              case hh => simp only [List.getElem?_toArray, List.getElem?_cons_zero, List.getElem?_cons_succ]; rfl
              case hq => exact fun _ _ _ h => h
              case hw => rfl
              case hy => (intro w _; go_simp; try (with_reducible rfl))
              case hr =>
              try simp only [Act.put, List.setIfInBounds_toArray, List.set_cons_zero, List.set_cons_succ]
              refine' wpAnyH_take (i := 3) (oi := _) (v := _) ?hh (by kernel_rfl) (by kernel_rfl) (by kernel_rfl) ?hq (Or.inl ⟨?hw, ?hy⟩) trivial ?hr
              case hh => simp only [List.getElem?_toArray, List.getElem?_cons_zero, List.getElem?_cons_succ]; rfl
              case hq => exact fun _ _ _ h => h
              case hw => rfl
              case hy => (intro w _; go_simp; try (with_reducible rfl))
              case hr =>
              try simp only [Act.put, List.setIfInBounds_toArray, List.set_cons_zero, List.set_cons_succ]
              refine' wpAnyH_take (i := 4) (oi := _) (v := _) ?hh (by kernel_rfl) (by kernel_rfl) (by kernel_rfl) ?hq (Or.inl ⟨?hw, ?hy⟩) trivial ?hr
              case hh => simp only [List.getElem?_toArray, List.getElem?_cons_zero, List.getElem?_cons_succ]; rfl
              case hq => exact fun _ _ _ h => h
              case hw => rfl
              case hy => (intro w _; go_simp; try (with_reducible rfl))
              case hr =>
              try simp only [Act.put, List.setIfInBounds_toArray, List.set_cons_zero, List.set_cons_succ]
              refine' wpAnyH_take (i := 5) (oi := _) (v := _) ?hh (by kernel_rfl) (by kernel_rfl) (by kernel_rfl) ?hq (Or.inl ⟨?hw, ?hy⟩) trivial ?hr
              case hh => simp only [List.getElem?_toArray, List.getElem?_cons_zero, List.getElem?_cons_succ]; rfl
              case hq => exact fun _ _ _ h => h
              case hw => rfl
              case hy => (intro w _; go_simp; try (with_reducible rfl))
              case hr =>
              try simp only [Act.put, List.setIfInBounds_toArray, List.set_cons_zero, List.set_cons_succ]
              refine' wpAnyH_take (i := 6) (oi := _) (v := _) ?hh (by kernel_rfl) (by kernel_rfl) (by kernel_rfl) ?hq (Or.inl ⟨?hw, ?hy⟩) trivial ?hr
              case hh => simp only [List.getElem?_toArray, List.getElem?_cons_zero, List.getElem?_cons_succ]; rfl
              case hq => exact fun _ _ _ h => h
              case hw => rfl
              case hy => (intro w _; go_simp; try (with_reducible rfl))
              case hr =>
              try simp only [Act.put, List.setIfInBounds_toArray, List.set_cons_zero, List.set_cons_succ]
              refine' wpAnyH_take (i := 7) (oi := _) (v := _) ?hh (by kernel_rfl) (by kernel_rfl) (by kernel_rfl) ?hq (Or.inl ⟨?hw, ?hy⟩) trivial ?hr
              case hh => simp only [List.getElem?_toArray, List.getElem?_cons_zero, List.getElem?_cons_succ]; rfl
              case hq => exact fun _ _ _ h => h
              case hw => rfl
              case hy => (intro w _; go_simp; try (with_reducible rfl))
              case hr =>
              try simp only [Act.put, List.setIfInBounds_toArray, List.set_cons_zero, List.set_cons_succ]
              refine' wpAnyH_take (i := 8) (oi := _) (v := _) ?hh (by kernel_rfl) (by kernel_rfl) (by kernel_rfl) ?hq (Or.inl ⟨?hw, ?hy⟩) trivial ?hr
              case hh => simp only [List.getElem?_toArray, List.getElem?_cons_zero, List.getElem?_cons_succ]; rfl
              case hq => exact fun _ _ _ h => h
              case hw => rfl
              case hy => (intro w _; go_simp; try (with_reducible rfl))
              case hr =>
              try simp only [Act.put, List.setIfInBounds_toArray, List.set_cons_zero, List.set_cons_succ]
              refine' wpAnyH_take (i := 9) (oi := _) (v := _) ?hh (by kernel_rfl) (by kernel_rfl) (by kernel_rfl) ?hq (Or.inl ⟨?hw, ?hy⟩) trivial ?hr
              case hh => simp only [List.getElem?_toArray, List.getElem?_cons_zero, List.getElem?_cons_succ]; rfl
              case hq => exact fun _ _ _ h => h
              case hw => rfl
              case hy => (intro w _; go_simp; try (with_reducible rfl))
              case hr =>
              try simp only [Act.put, List.setIfInBounds_toArray, List.set_cons_zero, List.set_cons_succ]
              refine' wpAnyH_take (i := 10) (oi := _) (v := _) ?hh (by kernel_rfl) (by kernel_rfl) (by kernel_rfl) ?hq (Or.inl ⟨?hw, ?hy⟩) trivial ?hr
              case hh => simp only [List.getElem?_toArray, List.getElem?_cons_zero, List.getElem?_cons_succ]; rfl
              case hq => exact fun _ _ _ h => h
              case hw => rfl
              case hy => (intro w _; go_simp; try (with_reducible rfl))
              case hr =>
              try simp only [Act.put, List.setIfInBounds_toArray, List.set_cons_zero, List.set_cons_succ]
              refine' wpAnyH_take (i := 11) (oi := _) (v := _) ?hh (by kernel_rfl) (by kernel_rfl) (by kernel_rfl) ?hq (Or.inl ⟨?hw, ?hy⟩) trivial ?hr
              case hh => simp only [List.getElem?_toArray, List.getElem?_cons_zero, List.getElem?_cons_succ]; rfl
              case hq => exact fun _ _ _ h => h
              case hw => rfl
              case hy => (intro w _; go_simp; try (with_reducible rfl))
              case hr =>
              try simp only [Act.put, List.setIfInBounds_toArray, List.set_cons_zero, List.set_cons_succ]
              refine' wpAnyH_take (i := 12) (oi := _) (v := _) ?hh (by kernel_rfl) (by kernel_rfl) (by kernel_rfl) ?hq (Or.inl ⟨?hw, ?hy⟩) trivial ?hr
              case hh => simp only [List.getElem?_toArray, List.getElem?_cons_zero, List.getElem?_cons_succ]; rfl
              case hq => exact fun _ _ _ h => h
              case hw => rfl
              case hy => (intro w _; go_simp; try (with_reducible rfl))
              case hr =>
              try simp only [Act.put, List.setIfInBounds_toArray, List.set_cons_zero, List.set_cons_succ]
              refine' wpAnyH_take (i := 13) (oi := _) (v := _) ?hh (by kernel_rfl) (by kernel_rfl) (by kernel_rfl) ?hq (Or.inl ⟨?hw, ?hy⟩) trivial ?hr
              case hh => simp only [List.getElem?_toArray, List.getElem?_cons_zero, List.getElem?_cons_succ]; rfl
              case hq => exact fun _ _ _ h => h
              case hw => rfl
              case hy => (intro w _; go_simp; try (with_reducible rfl))
              case hr =>
              try simp only [Act.put, List.setIfInBounds_toArray, List.set_cons_zero, List.set_cons_succ]
              refine wpAnyH_ready (rs := [14]) (by kernel_rfl) (by simp) ?_
              refine AllReadyH.cons (o := _) rfl (fun K hK => ?_) AllReadyH.nil
              go_simp
              refine hK.out _ _ trivial (fun _ => ?_)
              clear hK K
              try simp only [Act.put, List.setIfInBounds_toArray, List.set_cons_zero, List.set_cons_succ]
              refine wpAnyH_ready (rs := [15]) (by kernel_rfl) (by simp) ?_
              refine AllReadyH.cons (o := _) rfl (fun K hK => ?_) AllReadyH.nil
              go_simp
              refine HSt.out.mono ?_
              rintro e v1 ⟨rfl, ht1, n, x, hs⟩
              obtain ⟨xa, xc, rfl⟩ := hs.row
              have k1 := hs.cell cc rfl v1 (Drew.refl _)
              have HL1 := Lib.hid (hs.len v1 (Drew.refl _))
              have HC1 := Lib.hid (hs.cell cc rfl)
              have HT1 := Lib.hid ht1
              clear hs ht1
              refine hK.out _ _ trivial (fun _ => ?_)
              clear hK K
              try simp only [Act.put, List.setIfInBounds_toArray, List.set_cons_zero, List.set_cons_succ]
              refine' wpAnyH_take (i := 16) (oi := _) (v := _) ?hh (by kernel_rfl) (by kernel_rfl) (by kernel_rfl) ?hq (Or.inl ⟨?hw, ?hy⟩) trivial ?hr
              case hh => simp only [List.getElem?_toArray, List.getElem?_cons_zero, List.getElem?_cons_succ]; rfl
              case hq => exact fun _ _ _ h => h
              case hw => rfl
              case hy => (intro w _; go_simp; try (with_reducible rfl))
              case hr =>
              try simp only [Act.put, List.setIfInBounds_toArray, List.set_cons_zero, List.set_cons_succ]
              refine' wpAnyH_take (i := 17) (oi := _) (v := _) ?hh (by kernel_rfl) (by kernel_rfl) (by kernel_rfl) ?hq (Or.inl ⟨?hw, ?hy⟩) trivial ?hr
              case hh => simp only [List.getElem?_toArray, List.getElem?_cons_zero, List.getElem?_cons_succ]; rfl
              case hq => exact fun _ _ _ h => h
              case hw => rfl
              case hy => (intro w _; go_simp; try (with_reducible rfl))
              case hr =>
              try simp only [Act.put, List.setIfInBounds_toArray, List.set_cons_zero, List.set_cons_succ]
              refine' wpAnyH_take (i := 18) (oi := _) (v := _) ?hh (by kernel_rfl) (by kernel_rfl) (by kernel_rfl) ?hq (Or.inl ⟨?hw, ?hy⟩) trivial ?hr
              case hh => simp only [List.getElem?_toArray, List.getElem?_cons_zero, List.getElem?_cons_succ]; rfl
              case hq => exact fun _ _ _ h => h
              case hw => rfl
              case hy => (intro w _; go_simp; try (with_reducible rfl))
              case hr =>
              try simp only [Act.put, List.setIfInBounds_toArray, List.set_cons_zero, List.set_cons_succ]
              refine' wpAnyH_take (i := 20) (oi := _) (v := _) ?hh (by kernel_rfl) (by kernel_rfl) (by kernel_rfl) ?hq (Or.inl ⟨?hw, ?hy⟩) trivial ?hr
              case hh => simp only [List.getElem?_toArray, List.getElem?_cons_zero, List.getElem?_cons_succ]; rfl
              case hq => exact fun _ _ _ h => h
              case hw => rfl
              case hy => (intro w _; go_simp; try (with_reducible rfl))
              case hr =>
              try simp only [Act.put, List.setIfInBounds_toArray, List.set_cons_zero, List.set_cons_succ]
              refine' wpAnyH_take (i := 21) (oi := _) (v := _) ?hh (by kernel_rfl) (by kernel_rfl) (by kernel_rfl) ?hq (Or.inl ⟨?hw, ?hy⟩) trivial ?hr
              case hh => simp only [List.getElem?_toArray, List.getElem?_cons_zero, List.getElem?_cons_succ]; rfl
              case hq => exact fun _ _ _ h => h
              case hw => rfl
              case hy => (intro w _; go_simp; try (with_reducible rfl))
              case hr =>
              try simp only [Act.put, List.setIfInBounds_toArray, List.set_cons_zero, List.set_cons_succ]
              refine' wpAnyH_take (i := 22) (oi := _) (v := _) ?hh (by kernel_rfl) (by kernel_rfl) (by kernel_rfl) ?hq (Or.inl ⟨?hw, ?hy⟩) trivial ?hr
              case hh => simp only [List.getElem?_toArray, List.getElem?_cons_zero, List.getElem?_cons_succ]; rfl
              case hq => exact fun _ _ _ h => h
              case hw => rfl
              case hy => (intro w _; go_simp; try (with_reducible rfl))
              case hr =>
              try simp only [Act.put, List.setIfInBounds_toArray, List.set_cons_zero, List.set_cons_succ]
              refine wpAnyH_ready (rs := [19, 23]) (by kernel_rfl) (by simp) ?_
              refine AllReadyH.cons (o := _) rfl (fun K hK => ?_) (AllReadyH.cons (o := _) rfl (fun K hK => ?_) AllReadyH.nil)
              · go_simp
                refine HL1.out.mono ?_
                rintro e v2 ⟨rfl, hd⟩
                have k2 := HC1.out v2 hd
                have HT2 := Lib.hid (HT1.out.drew hd)
                clear hd
                refine hK.out _ _ trivial (fun _ => ?_)
                clear hK K
                try simp only [Act.put, List.setIfInBounds_toArray, List.set_cons_zero, List.set_cons_succ]
                refine wpAnyH_ready (rs := [23]) (by kernel_rfl) (by simp) ?_
                refine AllReadyH.cons (o := _) rfl (fun K hK => ?_) AllReadyH.nil
                go_simp
                refine hK.out _ _ trivial (fun _ => ?_)
                clear hK K
                try simp only [Act.put, List.setIfInBounds_toArray, List.set_cons_zero, List.set_cons_succ]
                refine' wpAnyH_take (i := 24) (oi := _) (v := _) ?hh (by kernel_rfl) (by kernel_rfl) (by kernel_rfl) ?hq (Or.inl ⟨?hw, ?hy⟩) trivial ?hr
                case hh => simp only [List.getElem?_toArray, List.getElem?_cons_zero, List.getElem?_cons_succ]; rfl
                case hq => exact fun _ _ _ h => h
                case hw => rfl
                case hy => (intro w _; go_simp; try (with_reducible rfl))
                case hr =>
                try simp only [Act.put, List.setIfInBounds_toArray, List.set_cons_zero, List.set_cons_succ]
                refine' wpAnyH_take (i := 25) (oi := _) (v := _) ?hh (by kernel_rfl) (by kernel_rfl) (by kernel_rfl) ?hq (Or.inl ⟨?hw, ?hy⟩) trivial ?hr
                case hh => simp only [List.getElem?_toArray, List.getElem?_cons_zero, List.getElem?_cons_succ]; rfl
                case hq => exact fun _ _ _ h => h
                case hw => rfl
                case hy => (intro w _; go_simp; try (with_reducible rfl))
                case hr =>
                try simp only [Act.put, List.setIfInBounds_toArray, List.set_cons_zero, List.set_cons_succ]
                refine' wpAnyH_take (i := 26) (oi := _) (v := _) ?hh (by kernel_rfl) (by kernel_rfl) (by kernel_rfl) ?hq (Or.inl ⟨?hw, ?hy⟩) trivial ?hr
                case hh => simp only [List.getElem?_toArray, List.getElem?_cons_zero, List.getElem?_cons_succ]; rfl
                case hq => exact fun _ _ _ h => h
                case hw => rfl
                case hy => (intro w _; go_simp; try (with_reducible rfl))
                case hr =>
                try simp only [Act.put, List.setIfInBounds_toArray, List.set_cons_zero, List.set_cons_succ]
                refine' wpAnyH_take (i := 27) (oi := _) (v := _) ?hh (by kernel_rfl) (by kernel_rfl) (by kernel_rfl) ?hq (Or.inl ⟨?hw, ?hy⟩) trivial ?hr
                case hh => simp only [List.getElem?_toArray, List.getElem?_cons_zero, List.getElem?_cons_succ]; rfl
                case hq => exact fun _ _ _ h => h
                case hw => rfl
                case hy => (intro w _; go_simp; try (with_reducible rfl))
                case hr =>
                try simp only [Act.put, List.setIfInBounds_toArray, List.set_cons_zero, List.set_cons_succ]
                refine wpAnyH_done (by kernel_rfl) ?_ _
                go_wp2_with fail
                go_meet
                exact ⟨rfl, HT2.out.swap⟩
              · go_simp
                refine hK.out _ _ trivial (fun _ => ?_)
                clear hK K
                try simp only [Act.put, List.setIfInBounds_toArray, List.set_cons_zero, List.set_cons_succ]
                refine' wpAnyH_take (i := 24) (oi := _) (v := _) ?hh (by kernel_rfl) (by kernel_rfl) (by kernel_rfl) ?hq (Or.inl ⟨?hw, ?hy⟩) trivial ?hr
                case hh => simp only [List.getElem?_toArray, List.getElem?_cons_zero, List.getElem?_cons_succ]; rfl
                case hq => exact fun _ _ _ h => h
                case hw => rfl
                case hy => (intro w _; go_simp; try (with_reducible rfl))
                case hr =>
                try simp only [Act.put, List.setIfInBounds_toArray, List.set_cons_zero, List.set_cons_succ]
                refine wpAnyH_ready (rs := [19]) (by kernel_rfl) (by simp) ?_
                refine AllReadyH.cons (o := _) rfl (fun K hK => ?_) AllReadyH.nil
                go_simp
                refine HL1.out.mono ?_
                rintro e v2 ⟨rfl, hd⟩
                have k2 := HC1.out v2 hd
                have HT2 := Lib.hid (HT1.out.drew hd)
                clear hd
                refine hK.out _ _ trivial (fun _ => ?_)
                clear hK K
                try simp only [Act.put, List.setIfInBounds_toArray, List.set_cons_zero, List.set_cons_succ]
                refine' wpAnyH_take (i := 25) (oi := _) (v := _) ?hh (by kernel_rfl) (by kernel_rfl) (by kernel_rfl) ?hq (Or.inl ⟨?hw, ?hy⟩) trivial ?hr
                case hh => simp only [List.getElem?_toArray, List.getElem?_cons_zero, List.getElem?_cons_succ]; rfl
                case hq => exact fun _ _ _ h => h
                case hw => rfl
                case hy => (intro w _; go_simp; try (with_reducible rfl))
                case hr =>
                try simp only [Act.put, List.setIfInBounds_toArray, List.set_cons_zero, List.set_cons_succ]
                refine' wpAnyH_take (i := 26) (oi := _) (v := _) ?hh (by kernel_rfl) (by kernel_rfl) (by kernel_rfl) ?hq (Or.inl ⟨?hw, ?hy⟩) trivial ?hr
                case hh => simp only [List.getElem?_toArray, List.getElem?_cons_zero, List.getElem?_cons_succ]; rfl
                case hq => exact fun _ _ _ h => h
                case hw => rfl
                case hy => (intro w _; go_simp; try (with_reducible rfl))
                case hr =>
                try simp only [Act.put, List.setIfInBounds_toArray, List.set_cons_zero, List.set_cons_succ]
                refine' wpAnyH_take (i := 27) (oi := _) (v := _) ?hh (by kernel_rfl) (by kernel_rfl) (by kernel_rfl) ?hq (Or.inl ⟨?hw, ?hy⟩) trivial ?hr
                case hh => simp only [List.getElem?_toArray, List.getElem?_cons_zero, List.getElem?_cons_succ]; rfl
                case hq => exact fun _ _ _ h => h
                case hw => rfl
                case hy => (intro w _; go_simp; try (with_reducible rfl))
                case hr =>
                try simp only [Act.put, List.setIfInBounds_toArray, List.set_cons_zero, List.set_cons_succ]
                refine wpAnyH_done (by kernel_rfl) ?_ _
                go_wp2_with fail
                go_meet
                exact ⟨rfl, HT2.out.swap⟩
          · go_quiet (fail)
            go_wp2_with fail
            go_meet
            exact ⟨rfl, HTk.out.drew ⟨rfl, rfl, rfl, rfl⟩⟩
        case rest =>
        obtain ⟨rfl, hTj⟩ := hcut
        have HTm := Lib.hid hTj
        clear hTj
        go_wp2_with fail
        go_roundw
        case rel => exact ⟨j + 1, by omega, by go_num, HTm.out⟩
        case measure => simp [RowKit.intOf]; omega
      · rw [decide_eq_false hgo]
        go_wp2_with fail
        go_ret
        exact ⟨rfl, HTj.out.bel.1⟩

end Go.Proofs.YtaibehfpbcgijaaDoor.Asc
