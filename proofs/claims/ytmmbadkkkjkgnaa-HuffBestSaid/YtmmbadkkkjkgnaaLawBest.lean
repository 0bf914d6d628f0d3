/- The statement HuffBest: no other lengths cost less. -/
import Derived.Test.YtmmbadkkkjkgnaaHufG
namespace Go.Proofs.Ytmmbadkkkjkgnaa.Huf
open Go.RowKit Go.Shelf Go.Lib Go.Proofs.Ytmmbadkkkjkgnaa.Mem
open Go.ChangeShapes Go.WideShapes Go.ChangeAt

set_option maxHeartbeats 8000000 in
set_option maxRecDepth 100000 in
theorem lawBest_able (W : World) (v1 v2 : Value) (c t : List Int) (L : Nat) (h1 : SrcI W v1 c) (h2 : SrcI W v2 t) (ha : Able c L) :
    Calls Try.prog 5 #[v1, .int .i64 (L : Int), v2] W fun e w' => e = .returned (.bool true) ∧ Below W.heap.size W w' := by
  have HLe := Lib.hid (lengths_able W v1 c L h1 ha)
  have HK := fun w => Lib.hid (knows_any w)
  have HN := fun n w => Lib.hid (num_any n w)
  have hn := ha.n
  have hL := ha.hi
  have HC1 : Aside (∀ (w : World) (u : Value), SrcI w u (lensOut c L) → Below W.heap.size W w → Calls Try.prog 16 #[v1, u, .int .i64 (L : Int)] w fun e w' => ∃ (a : Int), e = .returned (.tuple #[.int .i64 a, .bool true]) ∧ a = (costN c (lensOut c L) : Int) ∧ Drew w w') := fun w u hu hb => by
    refine (cost_any w v1 u c (lensOut c L) L (h1.below hb) hu ha.all hn hL).mono ?_
    rintro e w' ⟨a, h3, h4, h5⟩
    rw [trialB_yes (out_trial ha)] at h3
    exact ⟨a, h3, h4.out (out_trial ha), h5⟩
  have HC2 : Aside (∀ (w : World), Below W.heap.size W w → Calls Try.prog 16 #[v1, v2, .int .i64 (L : Int)] w fun e w' => ∃ (a : Int), e = .returned (.tuple #[.int .i64 a, .bool (trialB c t L)]) ∧ Aside (Trial c t L → a = (costN c t : Int)) ∧ Drew w w') := fun w hb =>
    cost_any w v1 v2 c t L (h1.below hb) (h2.below hb) ha.all hn hL
  have HF : Aside (2 ≤ (rankL c).length → ∀ (w : World) (u : Value), SrcI w u (lensOut c L) → Calls Try.prog 11 #[u] w fun e w' => e = .returned (.bool true) ∧ w' = w) := fun hk w u hu => by
    have := full_any w u (lensOut c L) hu (by rw [out_len]; omega)
    rw [out_weightR ha hk] at this
    exact this
  obtain ⟨a1, c1, rfl, g1⟩ := h1.shape
  have H1 : Aside (SrcI W (.slice a1 c.length c1) c ∧ (0 < c.length → ∃ a, a1 = some a)) := ⟨h1, g1⟩
  have HA : Aside (Able c L) := ha
  have hol := out_len c L
  rw [hol] at HLe
  have HOL : Aside ((lensOut c L).length = c.length) := hol
  obtain ⟨nn, hnn⟩ : ∃ nn, nn = costN c (lensOut c L) := ⟨_, rfl⟩
  have HNN : Aside (nn = costN c (lensOut c L)) := hnn
  rw [← hnn] at HC1
  clear h1 h2 g1 ha hol hnn
  go_enter Try.func5, Try.ntmps5
  go_wp2_with (first
    | (go_at_call 14; refine HLe.out.mono ?_; rintro e w1 ⟨u, rfl, hu, hb⟩; obtain ⟨uo, cap, rfl, hcap, hcm, hnone⟩ := own_shape hu)
    | (go_at_call 10; refine (HN _ _).out.mono ?_; rintro e w2 ⟨rfl, rfl⟩)
    | (go_at_call 13; refine (HK _).out.mono ?_; rintro e w3 ⟨rfl, hb3⟩; have hbb := hb.trans (hb3.mono hb.size); have hsu := (SrcI.of_own (l := lensOut c L) (by rw [HOL.out]; exact hu)).below hb3)
    | (go_at_call 16; refine (HC1.out w3 _ hsu hbb).mono ?_; rintro e w4 ⟨a, rfl, rfl, hd4⟩))
  have H3 : Aside (SrcI w3 (.slice uo c.length cap) (lensOut c L) ∧ SrcI w3 (.slice a1 c.length c1) c ∧ Below W.heap.size W w3) := ⟨hsu, H1.out.1.below hbb, hbb⟩
  have HU : Aside (uo = none → c.length = 0) := fun h => (hnone h).1
  clear hsu hb hb3 hbb hnone hu HLe HC1
  go_loopg [11, 12] c.length (fun kx s11 s12 wr => ∃ (i k : Nat), s11 = .int .i64 k ∧ s12 = .int .i64 i ∧ i ≤ c.length ∧ k ≤ 320 ∧ c.length - i ≤ kx ∧ Aside (Drew w3 wr ∧ k = someN c i))
  case atStart => exact ⟨0, 0, rfl, rfl, Nat.zero_le _, Nat.zero_le _, Nat.le_refl _, hd4, rfl⟩
  case round =>
    clear hd4
    obtain ⟨i, k, rfl, rfl, hi, hk, hkx, HR⟩ := hrel
    by_cases hlt : i < c.length
    · have hltz : (i : Int) < (c.length : Int) := by omega
      have i0 : (0 : Int) ≤ (i : Int) := by omega
      obtain ⟨p1, rfl⟩ := H1.out.2 (by omega)
      obtain ⟨p2, rfl⟩ : ∃ q, uo = some q := by
        cases uo with
        | none => have := HU.out rfl; omega
        | some q => exact ⟨q, rfl⟩
      have hcv := okCount_at HA.out.all hlt
      obtain ⟨o1, o2, o3⟩ := out_sym HA.out hlt
      obtain ⟨cv, hcv2⟩ : ∃ cv : Nat, numAt c i = (cv : Int) := ⟨(numAt c i).toNat, by omega⟩
      obtain ⟨m, hm⟩ : ∃ m : Nat, numAt (lensOut c L) i = (m : Int) := ⟨(numAt (lensOut c L) i).toNat, by omega⟩
      rw [hm, hcv2] at o3
      have o4 : m = 0 ↔ cv = 0 := by omega
      have K1 : ∀ q, (wr.drewN q).cell? (p1.add i) = some (.int .i64 (cv : Int)) := fun q => by
        rw [← hcv2, numAt_eq c i hlt]
        exact ((HR.out.1.trans (Drew.drewN wr q)).cell).trans (srci_cell H3.out.2.1 i hlt)
      have K1a : wr.cell? (p1.add i) = some (.int .i64 (cv : Int)) := K1 0
      have hlo : i < (lensOut c L).length := by rw [HOL.out]; exact hlt
      have K2 : ∀ q, (wr.drewN q).cell? (p2.add i) = some (.int .i64 (m : Int)) := fun q => by
        rw [← hm, numAt_eq (lensOut c L) i hlo]
        exact ((HR.out.1.trans (Drew.drewN wr q)).cell).trans (srci_cell H3.out.1 i hlo)
      have K2a : wr.cell? (p2.add i) = some (.int .i64 (m : Int)) := K2 0
      have wi : IntKind.i64.wrap ((i : Int) + 1) = (i : Int) + 1 := by rw [IntKind.wrap_i64]; omega
      have wk : IntKind.i64.wrap ((k : Int) + 1) = (k : Int) + 1 := by rw [IntKind.wrap_i64]; omega
      have fin : ∀ q, Aside (Drew w3 (wr.drewN q)) := fun q => HR.out.1.trans (Drew.drewN _ _)
      have HSZ : Aside (cv = 0 → k = someN c (i + 1)) := fun h => by
        have := HR.out.2
        unfold someN at this ⊢
        rw [sumN, ← this, if_pos (by omega), Nat.add_zero]
      have HSN : Aside (cv ≠ 0 → k + 1 = someN c (i + 1)) := fun h => by
        have := HR.out.2
        unfold someN at this ⊢
        rw [sumN, ← this, if_neg (by omega)]
      have hkb : cv ≠ 0 → k + 1 ≤ 320 := fun h => by
        have h1 := HSN.out h
        have h2 := someN_le c (i + 1)
        omega
      clear hcv o1 o2 o3 hcv2 hm hlo
      by_cases hc0 : cv = 0
      · have hm0 := o4.2 hc0
        have hks := HSZ.out hc0
        have HKS : Aside (k = someN c (i + 1)) := hks
        subst hc0 hm0
        clear o4 hks HSZ HSN hkb
        go_wp2_with fail
        go_quiet (fail)
        go_wp2_with fail
        go_roundg (c.length - (i + 1))
        case measure => omega
        case rel => exact ⟨i + 1, k, by go_num, by go_num, by omega, hk, Nat.le_refl _, (fin _).out, HKS.out⟩
      · have hm0 : ¬ m = 0 := fun h => hc0 (o4.1 h)
        have hcp : 0 < cv := by omega
        have hmp : 0 < m := by omega
        have hcz : (0 : Int) < (cv : Int) := by omega
        have hmz : (0 : Int) < (m : Int) := by omega
        have hcz2 : (cv : Int) > 0 := by omega
        have hmz2 : (m : Int) > 0 := by omega
        have HKS : Aside (k + 1 = someN c (i + 1)) := HSN.out hc0
        have hk1 := hkb hc0
        clear o4 HSZ HSN hkb
        go_wp2_with fail
        go_quiet (fail)
        go_wp2_with fail
        go_roundg (c.length - (i + 1))
        case measure => omega
        case rel => exact ⟨i + 1, k + 1, by go_num, by go_num, by omega, hk1, Nat.le_refl _, (fin _).out, HKS.out⟩
    · obtain rfl : i = c.length := by omega
      have hltz : ¬ (c.length : Int) < (c.length : Int) := by omega
      have hka := HR.out.2.trans (someN_all c)
      have hF2 : Aside (1 < k → ∀ (w : World), Drew w3 w → Calls Try.prog 11 #[.slice uo c.length cap] w fun e w' => e = .returned (.bool true) ∧ w = w') := fun h w hd => by
        refine (HF.out (by omega) w _ (H3.out.1.below (hd.below _))).mono ?_
        rintro e w' ⟨h1, rfl⟩
        exact ⟨h1, rfl⟩
      have hC3 : Aside (∀ (w : World), Drew w3 w → Calls Try.prog 16 #[.slice a1 c.length c1, v2, .int .i64 (L : Int)] w fun e w' => ∃ (a : Int), e = .returned (.tuple #[.int .i64 a, .bool (trialB c t L)]) ∧ Aside (Trial c t L → (nn : Int) ≤ a) ∧ Aside (Below W.heap.size W w')) := fun w hd => by
        have hbw := H3.out.2.2.trans (hd.below _)
        refine (HC2.out w hbw).mono ?_
        rintro e w' ⟨a, h1, h2, h3⟩
        refine ⟨a, h1, fun hT => ?_, hbw.trans (h3.below _)⟩
        rw [h2.out hT, HNN.out]
        have := out_least HA.out hT
        omega
      have HD : Aside (Drew w3 wr) := HR.out.1
      clear HR HC2 HF hka
      by_cases hT : Trial c t L
      · rw [trialB_yes hT] at hC3
        by_cases hk1 : 1 < k
        · have hk1z : (1 : Int) < (k : Int) := by omega
          have hk1z2 : (k : Int) > 1 := by omega
          have hF3 := hF2.out hk1
          clear hF2
          go_wp2_with (first
            | (go_at_call 11; refine (hF3 _ (by first | exact HD.out | exact HD.out.trans (Drew.drewN _ _))).mono ?_; rintro e w5 ⟨rfl, rfl⟩)
            | (go_at_call 16; refine (hC3.out _ (by first | exact HD.out | exact HD.out.trans (Drew.drewN _ _))).mono ?_; rintro e w6 ⟨a, rfl, hle, hbw⟩; have hle2 := hle.out hT))
          go_ret
          exact ⟨rfl, hbw.out⟩
        · have hk1z : ¬ (1 : Int) < (k : Int) := by omega
          have hk1z2 : ¬ (k : Int) > 1 := by omega
          clear hF2
          go_wp2_with (first
            | (go_at_call 16; refine (hC3.out _ (by first | exact HD.out | exact HD.out.trans (Drew.drewN _ _))).mono ?_; rintro e w6 ⟨a, rfl, hle, hbw⟩; have hle2 := hle.out hT))
          go_ret
          exact ⟨rfl, hbw.out⟩
      · rw [trialB_no hT] at hC3
        by_cases hk1 : 1 < k
        · have hk1z : (1 : Int) < (k : Int) := by omega
          have hk1z2 : (k : Int) > 1 := by omega
          have hF3 := hF2.out hk1
          clear hF2
          go_wp2_with (first
            | (go_at_call 11; refine (hF3 _ (by first | exact HD.out | exact HD.out.trans (Drew.drewN _ _))).mono ?_; rintro e w5 ⟨rfl, rfl⟩)
            | (go_at_call 16; refine (hC3.out _ (by first | exact HD.out | exact HD.out.trans (Drew.drewN _ _))).mono ?_; rintro e w6 ⟨a, rfl, hle, hbw⟩))
          go_ret
          exact ⟨rfl, hbw.out⟩
        · have hk1z : ¬ (1 : Int) < (k : Int) := by omega
          have hk1z2 : ¬ (k : Int) > 1 := by omega
          clear hF2
          go_wp2_with (first
            | (go_at_call 16; refine (hC3.out _ (by first | exact HD.out | exact HD.out.trans (Drew.drewN _ _))).mono ?_; rintro e w6 ⟨a, rfl, hle, hbw⟩))
          go_ret
          exact ⟨rfl, hbw.out⟩

set_option maxHeartbeats 8000000 in
set_option maxRecDepth 100000 in
theorem lawBest_not (W : World) (v1 v2 : Value) (c : List Int) (limit : Int) (h1 : SrcI W v1 c) (hl : c.length ≤ 17592186044416) (hn : lengthsR c limit = ([], 1)) :
    Calls Try.prog 5 #[v1, .int .i64 limit, v2] W fun e w' => e = .returned (.bool true) ∧ Below W.heap.size W w' := by
  have h := lengths_any W v1 c limit h1 hl
  rw [hn] at h
  have HLe := Lib.hid h
  have HK := fun w => Lib.hid (knows_any w)
  have HN := fun n w => Lib.hid (num_any n w)
  obtain ⟨a1, c1, rfl, g1⟩ := h1.shape
  clear h1 g1 hn h
  go_enter Try.func5, Try.ntmps5
  go_wp2_with (first
    | (go_at_call 14; refine HLe.out.mono ?_; rintro e w1 ⟨u, rfl, hu, hb⟩; obtain ⟨uo, cap, rfl, hcap, hcm, hnone⟩ := own_shape hu)
    | (go_at_call 10; refine (HN _ _).out.mono ?_; rintro e w2 ⟨rfl, rfl⟩)
    | (go_at_call 13; refine (HK _).out.mono ?_; rintro e w3 ⟨rfl, hb3⟩))
  go_ret
  exact ⟨rfl, hb.trans (hb3.mono hb.size)⟩

theorem lawBest (W : World) (v1 v2 : Value) (c t : List Int) (limit : Int) (h1 : SrcI W v1 c) (h2 : SrcI W v2 t) (hl : c.length ≤ 17592186044416) :
    Calls Try.prog 5 #[v1, .int .i64 limit, v2] W fun e w' => e = .returned (.bool true) ∧ Below W.heap.size W w' := by
  by_cases hA : c.all okCount = true ∧ c.length ≤ 320 ∧ 1 ≤ limit ∧ limit ≤ 15 ∧ (rankL c).length ≤ 2 ^ limit.toNat
  · obtain ⟨a1, a2, a3, a4, a5⟩ := hA
    obtain ⟨L, rfl⟩ : ∃ L : Nat, limit = (L : Int) := ⟨limit.toNat, by omega⟩
    have ha : Able c L := ⟨a1, a2, by omega, by omega, by simpa using a5⟩
    exact lawBest_able W v1 v2 c t L h1 h2 ha
  · exact lawBest_not W v1 v2 c limit h1 hl (by unfold lengthsR; rw [if_neg hA])

set_option maxRecDepth 100000 in
theorem liftedHuffBest (os : Os) (started : os.Started) (H : Type) (enc : TypeId × Value → H) :
    ReturnsInHanded {} Try.checked os 5 .any (Rows.huffBestSpec.pre6 enc Try.prog Try.f5 [] false) (Rows.huffBestSpec.post enc Try.prog Try.f5 false true false false) := by
  have wit : ∃ (w : World) (tape : Tape) (i : Input), w.os = os ∧ (w.forCall tape i).Shaped Try.checked.prog ∧ i.vars = [] ∧ Input.okWide Try.checked.prog (w.forCall tape i) .any w.heap.size 5 i ∧
      Rows.huffBestSpec.pre6 enc Try.checked.prog Try.f5 [] false (w.forCall tape i).memory i.args ∧ ({} : Assume).holds Try.checked.prog (lone (Frame.enter Try.checked.prog 5 i.args .normal) [] (w.forCall tape i)) := by
    obtain ⟨w, tape, i, h1, h2, h3, h4, ⟨⟨h5, -⟩, h6⟩, h7⟩ := ChangeSpec.witness_shaped (enc := enc) (C := Try.checked) (os := os) (f := 5) (fn := Try.f5) (s := Rows.huffBestSpec) (conds := []) (apart := false) (X := fun _ _ => True) false (World.laidAll Try.prog os []) #[.slice none 0 0, .int .i64 0, .slice none 0 0] 8 (World.laidAll_os _ _ _)
      (World.shaped_of_ZipB (by kernel_rfl) (by kernel_rfl)) (by kernel_rfl) (by kernel_rfl) (by kernel_rfl) trivial
    exact ⟨w, tape, i, h1, h2, h3, h4, ⟨h5, h6⟩, h7⟩
  refine returnsInHanded_of_change_sized (C := Try.checked) Cls.own started (by kernel_rfl) Try.func5 wit ?_
  intro W base args ds gs before hval0 hW _ hsz _
  have hval : ∀ (j : Nat) t v, Try.f5.params[j]? = some t → args[j]? = some v → Value.okWide Try.prog W .any base t v := hval0
  have hW' := hW
  obtain ⟨p, q, hA0, hV, rfl, _, _⟩ := hW
  have hA : DataW.TrodAll enc Try.prog W 0 (fun _ => true) true Try.f5.params.toList args.toList ds p := hA0
  obtain ⟨rfl, rfl⟩ := trodVars_none hV
  have hlt : ∀ x ∈ p, x.block < W.heap.size := fun x hx => hW'.lt x (by simpa using hx)
  have fin : ∀ W', Below W.heap.size W W' → (Rows.huffBestSpec.fn H (ds ++ [])).results = [.lit (.bool true)] → (Rows.huffBestSpec.fn H (ds ++ [])).args = ds → (Rows.huffBestSpec.fn H (ds ++ [])).vars = [] → Rows.huffBestSpec.post enc Try.prog Try.f5 false true false false W args (.bool true) W' := by
    intro W' hb h1 h2 h3
    refine ⟨ds, [], _, [], p, [], hW', ?_, ?_, ?_, hb.frame _, fun h => by cases h⟩
    · rw [h1]; exact trodAll_mk1 (shut_bool Try.underlying4 _)
    · rw [h2]; exact Cls.trodAll_below Cls.laidOut hb _ _ _ _ hA (Cls.readable _ (by kernel_rfl)) hlt
    · rw [h3]; rfl
  rw [Try.params5] at hA hval
  obtain ⟨v0, v1, v2, d0, d1, d2, p0, p1, p2, rfl, rfl, rfl, ⟨m0, h0⟩, h1, ⟨m2, h2⟩⟩ := trodAll_three hA
  obtain ⟨a0, l0, c0, rfl⟩ := okWide_slice Try.underlying22 (hval 0 _ v0 rfl rfl)
  obtain ⟨k, rfl, rfl, rfl, _⟩ := open_int Try.underlying3 (hval 1 3 v1 rfl rfl) h1
  obtain ⟨a2, l2, c2, rfl⟩ := okWide_slice Try.underlying22 (hval 2 _ v2 rfl rfl)
  obtain ⟨ao, l, c, e0, hs, -, -, hw0⟩ := ints_of_trod h0
  obtain ⟨bo, t, ct, e1, ht, -, -, hw1⟩ := ints_of_trod h2
  have hl := hw0 _ (reach_of hsz (j := 0) rfl rfl)
  simp only [Value.cells, List.cons.injEq, and_true] at e0 e1
  rw [e0, e1] at fin ⊢
  refine (lawBest W _ _ l t k hs ht (by omega)).mono fun e W' ⟨he, hb⟩ => ?_
  subst he
  exact ⟨_, rfl, fin W' hb rfl rfl rfl⟩

theorem saidHuffBest : Rows.HuffBestSaid :=
  OpenClaim.holds_of_wide 5 Try.f5 rfl rfl rfl rfl rfl rfl rfl ⟨rfl, rfl, rfl, rfl, rfl⟩ rfl rfl rfl rfl rfl (by kernel_rfl) Try.func5 (by kernel_rfl)
    (of_decide_eq_true (by kernel_rfl)) (by unfold Func.isWrapper; first | (rw [if_pos (by decide +kernel)]; kernel_rfl) | (rw [if_neg (by decide +kernel)]; exact ⟨rfl, rfl⟩))
    (fun os started H enc _ => liftedHuffBest os started H enc)
end Go.Proofs.Ytmmbadkkkjkgnaa.Huf
namespace Go.Proofs.Ytmmbadkkkjkgnaa
open Go

theorem huffBest_holds : Rows.HuffBestSaid := Huf.saidHuffBest
end Go.Proofs.Ytmmbadkkkjkgnaa
