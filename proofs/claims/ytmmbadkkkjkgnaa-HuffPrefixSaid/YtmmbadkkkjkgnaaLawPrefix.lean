/- The statement HuffPrefix: no code is the beginning of another one. -/
import Derived.Test.YtmmbadkkkjkgnaaHufZ
namespace Go.Proofs.Ytmmbadkkkjkgnaa.Huf
open Go.RowKit Go.Shelf Go.Lib Go.Proofs.Ytmmbadkkkjkgnaa.Mem
open Go.ChangeShapes Go.WideShapes Go.ChangeAt

theorem codesR_len {l : List Int} (h : Fine l) : (codesR l).1.length = l.length := by
  rw [← codesAt_all h, codesAt_len]
theorem codesR_at {l : List Int} (h : Fine l) (i : Nat) (hi : i < (codesR l).1.length) : (codesR l).1[i] = (codeL l i : Int) := by
  unfold codesR at *
  simp only [(fine_iff l).2 h, if_true] at hi ⊢
  rw [List.getElem_map, List.getElem_range]
theorem codesR_ok {l : List Int} (h : Fine l) : (codesR l).2 = 0 := by unfold codesR; rw [if_pos ((fine_iff l).2 h)]
theorem codesR_no {l : List Int} (h : ¬ Fine l) : codesR l = ([], 30) := by unfold codesR; rw [if_neg (fun q => h ((fine_iff l).1 q))]

set_option maxHeartbeats 8000000 in
set_option maxRecDepth 100000 in
theorem lawPrefix (W : World) (v : Value) (l : List Int) (hs : SrcI W v l) (hl : l.length ≤ 17592186044416) :
    Calls Try.prog 6 #[v] W fun e w' => e = .returned (.bool true) ∧ Below W.heap.size W w' := by
  have HC := Lib.hid (codes_any W v l hs hl)
  have HK := fun w => Lib.hid (knows_any w)
  have HN := fun n w => Lib.hid (num_any n w)
  obtain ⟨ao, c, rfl, hao⟩ := hs.shape
  have HS : Aside (SrcI W (.slice ao l.length c) l) := hs
  have HL : Aside (0 < l.length → ∃ a, ao = some a) := hao
  clear hs hao
  by_cases hf : Fine l
  · rw [codesR_ok hf] at HC
    have HF : Aside (Fine l) := hf
    have hcl := codesR_len hf
    rw [hcl] at HC
    have HCL : Aside ((codesR l).1.length = l.length) := hcl
    have h320 := hf.n
    clear hf hcl
    go_enter Try.func6, Try.ntmps6
    go_wp2_with (first
      | (go_at_call 7; refine HC.out.mono ?_; rintro e w1 ⟨u, rfl, hu, hb⟩; obtain ⟨uo, cap, rfl, hcap, hcm, hnone⟩ := own_shape hu)
      | (go_at_call 10; refine (HN _ _).out.mono ?_; rintro e w2 ⟨rfl, rfl⟩)
      | (go_at_call 13; refine (HK _).out.mono ?_; rintro e w3 ⟨rfl, hb3⟩))
    have HO : Aside (SrcI w3 (.slice uo l.length cap) (codesR l).1 ∧ SrcI w3 (.slice ao l.length c) l ∧ Below W.heap.size W w3) := by
      have hbb := hb.trans (hb3.mono hb.size)
      have hs1 := SrcI.of_own (l := (codesR l).1) (by rw [HCL.out]; exact hu)
      exact ⟨hs1.below hb3, HS.out.below hbb, hbb⟩
    have HN2 : Aside (uo = none → l.length = 0 ∧ cap = 0) := hnone
    clear hu hb hb3 hnone
    go_loopg [5] l.length (fun kx s5 wr => ∃ (i : Nat), s5 = .int .i64 i ∧ i ≤ l.length ∧ l.length - i ≤ kx ∧ Aside (Drew w3 wr))
    case atStart => exact ⟨0, rfl, Nat.zero_le _, Nat.le_refl _, Drew.refl _⟩
    case round =>
      obtain ⟨i, rfl, hi, hkx, HD⟩ := hrel
      by_cases hlt : i < l.length
      · have hltz : (i : Int) < (l.length : Int) := by omega
        obtain ⟨p, rfl⟩ := HL.out (by omega)
        obtain ⟨q, rfl⟩ : ∃ q, uo = some q := by
          cases uo with
          | none => have := (HN2.out rfl).1; omega
          | some q => exact ⟨q, rfl⟩
        obtain ⟨wo, hwo⟩ : ∃ wo, wo = wr := ⟨_, rfl⟩
        rw [← hwo] at HD ⊢
        clear hwo
        go_upto_region 8 with fail
        go_loopg [6] l.length (fun kx s6 wi => ∃ (k : Nat), s6 = .int .i64 k ∧ k ≤ l.length ∧ l.length - k ≤ kx ∧ Aside (Drew w3 wi))
        case atStart => exact ⟨0, rfl, Nat.zero_le _, Nat.le_refl _, HD⟩
        case round =>
          clear HD
          obtain ⟨k, rfl, hk, hkq, HD⟩ := hrel
          by_cases hkt : k < l.length
          · have hkz : (k : Int) < (l.length : Int) := by omega
            have hli := HF.out.len hlt
            have hlk := HF.out.len hkt
            have hc1 : ∀ n, (wr.drewN n).cell? (q.add k) = some (.int .i64 (codeL l k : Int)) := fun n => by
              have := srci_cell HO.out.1 k (by rw [HCL.out]; exact hkt)
              rw [codesR_at HF.out] at this
              exact ((HD.out.trans (Drew.drewN wr n)).cell).trans this
            have hc2 : ∀ n, (wr.drewN n).cell? (q.add i) = some (.int .i64 (codeL l i : Int)) := fun n => by
              have := srci_cell HO.out.1 i (by rw [HCL.out]; exact hlt)
              rw [codesR_at HF.out] at this
              exact ((HD.out.trans (Drew.drewN wr n)).cell).trans this
            have hd1 : wr.cell? (p.add i) = some (.int .i64 (lenN l i : Int)) := by
              rw [hli.1, numAt_eq l i hlt]
              exact (HD.out.cell).trans (srci_cell HO.out.2.1 i hlt)
            have hd2 : wr.cell? (p.add k) = some (.int .i64 (lenN l k : Int)) := by
              rw [hlk.1, numAt_eq l k hkt]
              exact (HD.out.cell).trans (srci_cell HO.out.2.1 k hkt)
            have hpre : i ≠ k → 0 < lenN l i → lenN l i ≤ lenN l k → codeL l k / 2 ^ (lenN l k - lenN l i) ≠ codeL l i := fun h1 h2 h3 => codeN_prefix (lenN l) l.length i k hlt hkt h1 h2 h3 hlk.2
            have hb1 := hli.2
            have hb2 := hlk.2
            have hb3 := code_32 HF.out hkt
            generalize lenN l i = la at *
            generalize lenN l k = lb at *
            generalize codeL l i = ci at *
            generalize codeL l k = ck at *
            have i0 : (0 : Int) ≤ (i : Int) := by omega
            have k0 : (0 : Int) ≤ (k : Int) := by omega
            have wk : IntKind.i64.wrap ((k : Int) + 1) = (k : Int) + 1 := by rw [IntKind.wrap_i64]; omega
            clear hli hlk
            have fin : ∀ n : Nat, Aside (Drew w3 (wr.drewN n)) := fun n => HD.out.trans (Drew.drewN _ _)
            by_cases hik : i = k
            · subst hik
              clear hpre
              go_wp2_with fail
              go_quiet (fail)
              go_wp2_with fail
              go_roundg (l.length - (i + 1))
              case measure => omega
              case rel => exact ⟨i + 1, by go_num, by omega, Nat.le_refl _, fin _⟩
            · have hikz : ¬ (i : Int) = (k : Int) := by omega
              have hikb : ((i : Int) != (k : Int)) = true := by rw [bne_iff_ne]; exact hikz
              by_cases ha0 : la = 0
              · subst ha0
                clear hpre
                go_wp2_with fail
                go_quiet (fail)
                go_wp2_with fail
                go_roundg (l.length - (k + 1))
                case measure => omega
                case rel => exact ⟨k + 1, by go_num, by omega, Nat.le_refl _, fin _⟩
              · have haN : 0 < la := by omega
                have haz : (0 : Int) < (la : Int) := by omega
                have haz2 : (la : Int) > 0 := by omega
                by_cases hab : lb < la
                · have habN : ¬ la ≤ lb := by omega
                  have habz : ¬ (la : Int) ≤ (lb : Int) := by omega
                  have habz2 : ¬ (lb : Int) ≥ (la : Int) := by omega
                  clear hpre
                  go_wp2_with fail
                  go_quiet (fail)
                  go_wp2_with fail
                  go_roundg (l.length - (k + 1))
                  case measure => omega
                  case rel => exact ⟨k + 1, by go_num, by omega, Nat.le_refl _, fin _⟩
                · have habN : la ≤ lb := by omega
                  have habz : (la : Int) ≤ (lb : Int) := by omega
                  have habz2 : (lb : Int) ≥ (la : Int) := by omega
                  have hne := hpre hik (by omega) (by omega)
                  obtain ⟨d, hd⟩ : ∃ d, d = lb - la := ⟨_, rfl⟩
                  rw [← hd] at hne
                  have zd : (lb : Int) - (la : Int) = (d : Int) := by omega
                  have wd1 : IntKind.i64.wrap ((lb : Int) - (la : Int)) = (d : Int) := by rw [IntKind.wrap_i64]; omega
                  have wd2 : IntKind.u64.wrap (d : Int) = (d : Int) := by rw [IntKind.wrap_u64]; omega
                  have wd3 : IntKind.i64.wrap (d : Int) = (d : Int) := by rw [IntKind.wrap_i64]; omega
                  obtain ⟨m, hm⟩ : ∃ m, m = ck / 2 ^ d := ⟨_, rfl⟩
                  rw [← hm] at hne
                  have zm : (ck : Int) / 2 ^ d = (m : Int) := by rw [hm, Int.natCast_ediv, Int.natCast_pow]; rfl
                  have hmle : m ≤ ck := by rw [hm]; exact Nat.div_le_self _ _
                  have wm : IntKind.i64.wrap (m : Int) = (m : Int) := by rw [IntKind.wrap_i64]; omega
                  have hmz : ¬ (m : Int) = (ci : Int) := by omega
                  have hmb : ((m : Int) == (ci : Int)) = false := by rw [beq_eq_false_iff_ne]; exact hmz
                  have hmN : ¬ m = ci := hne
                  clear hpre hd hm
                  go_wp2_with fail
                  go_quiet (fail)
                  go_wp2_with fail
                  go_roundg (l.length - (k + 1))
                  case measure => omega
                  case rel => exact ⟨k + 1, by go_num, by omega, Nat.le_refl _, fin _⟩
          · obtain rfl : k = l.length := by omega
            have hkz : ¬ (l.length : Int) < (l.length : Int) := by omega
            have wi : IntKind.i64.wrap ((i : Int) + 1) = (i : Int) + 1 := by rw [IntKind.wrap_i64]; omega
            go_wp2_with fail
            go_roundg (l.length - (i + 1))
            case measure => omega
            case rel => exact ⟨i + 1, by go_num, by omega, Nat.le_refl _, HD⟩
      · obtain rfl : i = l.length := by omega
        have hltz : ¬ (l.length : Int) < (l.length : Int) := by omega
        go_wp2_with fail
        go_ret
        exact ⟨rfl, HO.out.2.2.trans ((HD.out.below _))⟩
  · rw [codesR_no hf] at HC
    clear hf
    go_enter Try.func6, Try.ntmps6
    go_wp2_with (first
      | (go_at_call 7; refine HC.out.mono ?_; rintro e w1 ⟨u, rfl, hu, hb⟩)
      | (go_at_call 10; refine (HN _ _).out.mono ?_; rintro e w2 ⟨rfl, rfl⟩)
      | (go_at_call 13; refine (HK _).out.mono ?_; rintro e w3 ⟨rfl, hb3⟩))
    go_ret
    exact ⟨rfl, hb.trans (hb3.mono hb.size)⟩

set_option maxRecDepth 100000 in
theorem liftedHuffPrefix (os : Os) (started : os.Started) (H : Type) (enc : TypeId × Value → H) :
    ReturnsInHanded {} Try.checked os 6 .any (Rows.huffPrefixSpec.pre6 enc Try.prog Try.f6 [] false) (Rows.huffPrefixSpec.post enc Try.prog Try.f6 false true false false) := by
  have wit : ∃ (w : World) (tape : Tape) (i : Input), w.os = os ∧ (w.forCall tape i).Shaped Try.checked.prog ∧ i.vars = [] ∧ Input.okWide Try.checked.prog (w.forCall tape i) .any w.heap.size 6 i ∧
      Rows.huffPrefixSpec.pre6 enc Try.checked.prog Try.f6 [] false (w.forCall tape i).memory i.args ∧ ({} : Assume).holds Try.checked.prog (lone (Frame.enter Try.checked.prog 6 i.args .normal) [] (w.forCall tape i)) := by
    obtain ⟨w, tape, i, h1, h2, h3, h4, ⟨⟨h5, -⟩, h6⟩, h7⟩ := ChangeSpec.witness_shaped (enc := enc) (C := Try.checked) (os := os) (f := 6) (fn := Try.f6) (s := Rows.huffPrefixSpec) (conds := []) (apart := false) (X := fun _ _ => True) false (World.laidAll Try.prog os []) #[.slice none 0 0] 8 (World.laidAll_os _ _ _)
      (World.shaped_of_ZipB (by kernel_rfl) (by kernel_rfl)) (by kernel_rfl) (by kernel_rfl) (by kernel_rfl) trivial
    exact ⟨w, tape, i, h1, h2, h3, h4, ⟨h5, h6⟩, h7⟩
  refine returnsInHanded_of_change_sized (C := Try.checked) Cls.own started (by kernel_rfl) Try.func6 wit ?_
  intro W base args ds gs before hval0 hW _ hsz _
  have hval : ∀ (j : Nat) t v, Try.f6.params[j]? = some t → args[j]? = some v → Value.okWide Try.prog W .any base t v := hval0
  have hW' := hW
  obtain ⟨p, q, hA0, hV, rfl, _, _⟩ := hW
  have hA : DataW.TrodAll enc Try.prog W 0 (fun _ => true) true Try.f6.params.toList args.toList ds p := hA0
  obtain ⟨rfl, rfl⟩ := trodVars_none hV
  have hlt : ∀ x ∈ p, x.block < W.heap.size := fun x hx => hW'.lt x (by simpa using hx)
  have fin : ∀ W', Below W.heap.size W W' → (Rows.huffPrefixSpec.fn H (ds ++ [])).results = [.lit (.bool true)] → (Rows.huffPrefixSpec.fn H (ds ++ [])).args = ds → (Rows.huffPrefixSpec.fn H (ds ++ [])).vars = [] → Rows.huffPrefixSpec.post enc Try.prog Try.f6 false true false false W args (.bool true) W' := by
    intro W' hb h1 h2 h3
    refine ⟨ds, [], _, [], p, [], hW', ?_, ?_, ?_, hb.frame _, fun h => by cases h⟩
    · rw [h1]; exact trodAll_mk1 (shut_bool Try.underlying4 _)
    · rw [h2]; exact Cls.trodAll_below Cls.laidOut hb _ _ _ _ hA (Cls.readable _ (by kernel_rfl)) hlt
    · rw [h3]; rfl
  rw [Try.params6] at hA hval
  obtain ⟨v0, d0, rfl, rfl, ⟨m0, h0⟩⟩ := trodAll_one hA
  obtain ⟨a0, l0, c0, rfl⟩ := okWide_slice Try.underlying22 (hval 0 _ v0 rfl rfl)
  obtain ⟨ao, l, c, e0, hs, -, -, hw0⟩ := ints_of_trod h0
  have hl := hw0 _ (reach_of hsz (j := 0) rfl rfl)
  simp only [Value.cells, List.cons.injEq, and_true] at e0
  rw [e0] at fin ⊢
  refine (lawPrefix W _ l hs (by omega)).mono fun e W' ⟨he, hb⟩ => ?_
  subst he
  exact ⟨_, rfl, fin W' hb rfl rfl rfl⟩

theorem saidHuffPrefix : Rows.HuffPrefixSaid :=
  OpenClaim.holds_of_wide 6 Try.f6 rfl rfl rfl rfl rfl rfl rfl ⟨rfl, rfl, rfl, rfl, rfl⟩ rfl rfl rfl rfl rfl (by kernel_rfl) Try.func6 (by kernel_rfl)
    (of_decide_eq_true (by kernel_rfl)) (by unfold Func.isWrapper; first | (rw [if_pos (by decide +kernel)]; kernel_rfl) | (rw [if_neg (by decide +kernel)]; exact ⟨rfl, rfl⟩))
    (fun os started H enc _ => liftedHuffPrefix os started H enc)
end Go.Proofs.Ytmmbadkkkjkgnaa.Huf
namespace Go.Proofs.Ytmmbadkkkjkgnaa
open Go

theorem huffPrefix_holds : Rows.HuffPrefixSaid := Huf.saidHuffPrefix
end Go.Proofs.Ytmmbadkkkjkgnaa
