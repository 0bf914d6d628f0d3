/- The statement AsciiNumbers: numbers to the bases 10 and 16 are read and written as the document says. -/
import Derived.Test.YtbekebdgmgjpgaaDoorAscH
import Derived.Test.YtbekebdgmgjpgaaDoorAscO
import Derived.Test.YtbekebdgmgjpgaaDoorClose
import Derived.Test.YtbekebdgmgjpgaaDoorCards
import Derived.Test.YtbekebdgmgjpgaaDoorTie
import Derived.ProofKit
import Derived.Lay
import Derived.LaidOnce
import Derived.SevenTiedAt
namespace Go.Proofs.YtbekebdgmgjpgaaDoor.Asc
open Go.RowKit Go.Shelf Go.Lib
open Go.ChangeShapes Go.WideShapes Go.ChangeAt
open Go.ChangeMaps (open_string shut_string)

set_option maxRecDepth 100000 in
set_option maxHeartbeats 4000000 in
theorem lawNumbers (n : Int) (s : ByteArray) (w : World) (h0 : -9223372036854775808 ≤ n) (h1 : n ≤ 9223372036854775807) (hs : s.size ≤ 140737488355328) (ht : NumTabs w) :
    Calls Tryd.prog 5 #[.string s, .int .i64 n] w fun e w' => e = .returned (.bool true) ∧ Below w.heap.size w w' := by
  have HT := Lib.hid ht
  have H1 := fun w => Lib.hid (decimal_any s w (by omega))
  have H2 := fun w => Lib.hid (refDecimal_any s w (by omega))
  have H3 := fun w => Lib.hid (hex_any s w (by omega))
  have H4 := fun w => Lib.hid (refHex_any s w (by omega))
  have H5 : ∀ w, Hid (NumTabs w → Calls Tryd.prog 29 #[.int .i64 n] w fun e w' => e = .returned (.string ⟨(Lib.itoa n).toArray⟩) ∧ Below w.heap.size w w') := fun w => digits_any n h0 h1 w
  have H6 := fun w => Lib.hid (refDigits_any n h0 h1 w)
  have H7 : ∀ w, Hid (NumTabs w → Calls Tryd.prog 31 #[.int .i64 n] w fun e w' => e = .returned (.string ⟨(hexL (hexN n)).toArray⟩) ∧ Below w.heap.size w w') := fun w => hexDigits_any n w
  have H8 := fun w => Lib.hid (refHexD_any n w)
  have HN := fun n w => Lib.hid (num_any n w)
  generalize ((numL 10 1000000000000000000 s.data.toList).1 : Nat) = a1 at H1 H2
  generalize ((numL 10 1000000000000000000 s.data.toList).2 : Nat) = a2 at H1 H2
  generalize ((numL 16 1152921504606846976 s.data.toList).1 : Nat) = b1 at H3 H4
  generalize ((numL 16 1152921504606846976 s.data.toList).2 : Nat) = b2 at H3 H4
  generalize (⟨(Lib.itoa n).toArray⟩ : ByteArray) = r1 at H5 H6
  generalize (⟨(hexL (hexN n)).toArray⟩ : ByteArray) = r2 at H7 H8
  clear ht h0 h1 hs
  go_enter Tryd.func5, Tryd.ntmps5
  go_wp2_with fail
  refine (H1 _).out.mono ?_
  rintro e w1 ⟨rfl, hb1⟩
  have HB1 := Lib.hid hb1
  clear hb1
  go_wp2_with fail
  refine (H2 _).out.mono ?_
  rintro e w2 ⟨rfl, rfl⟩
  go_wp2_with fail
  refine (H3 _).out.mono ?_
  rintro e w3 ⟨rfl, hb3⟩
  have HB3 := Lib.hid (HB1.out.trans (hb3.mono HB1.out.size))
  clear hb3
  go_wp2_with fail
  refine (H4 _).out.mono ?_
  rintro e w4 ⟨rfl, rfl⟩
  go_wp2_with (go_at_call 28; refine (HN _ _).out.mono ?_; rintro e w5 ⟨rfl, rfl⟩)
  refine ((H5 _).out (HT.out.below HB3.out)).mono ?_
  rintro e w6 ⟨rfl, hb6⟩
  have HB6 := Lib.hid (HB3.out.trans (hb6.mono HB3.out.size))
  clear hb6
  go_wp2_with fail
  refine (H6 _).out.mono ?_
  rintro e w7 ⟨rfl, hb7⟩
  have HB7 := Lib.hid (HB6.out.trans (hb7.mono HB6.out.size))
  clear hb7
  go_wp2_with fail
  refine ((H7 _).out (HT.out.below HB7.out)).mono ?_
  rintro e w8 ⟨rfl, hb8⟩
  have HB8 := Lib.hid (HB7.out.trans (hb8.mono HB7.out.size))
  clear hb8
  go_wp2_with fail
  refine (H8 _).out.mono ?_
  rintro e w9 ⟨rfl, rfl⟩
  go_wp2_with fail
  refine (knows_any _).mono ?_
  rintro e w10 ⟨rfl, hb10⟩
  have HB10 := Lib.hid (HB8.out.trans (hb10.mono HB8.out.size))
  clear hb10
  go_wp2_with fail
  go_ret
  exact ⟨rfl, HB10.out⟩
theorem tabs_of (W : World) (h1 : Lib.VarReads Tryd.prog W "internal/strconv.uint64pow10" Rows.laid_internal_strconv_uint64pow10) (h2 : Lib.VarReads Tryd.prog W "math/bits.deBruijn64tab" Rows.laid_math_bits_deBruijn64tab) : NumTabs W := by
  have e1 : (Rows.laid_internal_strconv_uint64pow10 : DataW Unit) = Lib.tabData .u64 Lib.pow10Tab := by kernel_rfl
  rw [e1] at h1
  have t1 := tab_of_reads (name := "internal/strconv.uint64pow10") (g := 2) (by kernel_rfl) (by kernel_rfl) Tryd.underlying122 Tryd.underlying80 (by kernel_rfl) (by kernel_rfl) h1
  have e2 : (Rows.laid_math_bits_deBruijn64tab : DataW Unit) = Lib.tabData .u8 [0, 1, 56, 2, 57, 49, 28, 3, 61, 58, 42, 50, 38, 29, 17, 4, 62, 47, 59, 36, 45, 43, 51, 22, 53, 39, 33, 30, 24, 18, 12, 5, 63, 55, 48, 27, 60, 41, 37, 16, 46, 35, 44, 21, 52, 32, 23, 11, 54, 26, 40, 15, 34, 20, 31, 10, 25, 14, 19, 9, 13, 8, 7, 6] := by kernel_rfl
  rw [e2] at h2
  have t2 := tab_of_reads (name := "math/bits.deBruijn64tab") (g := 6) (by kernel_rfl) (by kernel_rfl) Tryd.underlying138 Tryd.underlying5 (by kernel_rfl) (by kernel_rfl) h2
  exact ⟨t1, t2.cell (by kernel_rfl) 15 (by decide)⟩

set_option maxRecDepth 100000 in
theorem liftedAsciiNumbers (os : Os) (started : os.Started) (H : Type) (enc : TypeId × Value → H) :
    ReturnsInHanded {} Tryd.checked os 5 .any (fun w args => (Rows.asciiNumbersSpec.pre enc Tryd.prog Tryd.f5 [] false w args ∧ laidMetH Tryd.prog Rows.asciiNumbersRow.laid w) ∧ sizedMet enc Tryd.prog Tryd.f5 (OpenSpec.ofChange Rows.asciiNumbersSpec) false w args)
      (Rows.asciiNumbersSpec.post enc Tryd.prog Tryd.f5 false true false false) := by
  refine returnsInHanded_of_change_and (C := Tryd.checked) (X := fun w _ => laidMetH Tryd.prog Rows.asciiNumbersRow.laid w) (fun _ _ _ hh h => h.of_heap hh) Cls.own started (by kernel_rfl) Tryd.func5
    (ChangeSpec.witness_shaped (enc := enc) (C := Tryd.checked) (os := os) (X := fun w _ => laidMetH Tryd.prog Rows.asciiNumbersRow.laid w) false (World.laidAll Tryd.prog os Rows.asciiNumbersRow.laid) #[.string ⟨#[]⟩, .int .i64 0] 8 (World.laidAll_os _ _ _)
      (World.shaped_of_ZipB (by kernel_rfl) (by kernel_rfl)) (by kernel_rfl) (by kernel_rfl) (by kernel_rfl)
      (by rw [MakeChecks.laidMetH_plain _ _ _ (by kernel_rfl)]; exact laidMet_laidAll _ (by kernel_rfl) (by kernel_rfl))) ?_
  intro W base args ds gs before hval0 hW _ hsz hL _
  have hval : ∀ (j : Nat) t v, Tryd.f5.params[j]? = some t → args[j]? = some v → Value.okWide Tryd.prog W .any base t v := hval0
  have hW' := hW
  obtain ⟨p, q, hA0, hV, rfl, _, _⟩ := hW
  have hA : DataW.TrodAll enc Tryd.prog W 0 (fun _ => true) true Tryd.f5.params.toList args.toList ds p := hA0
  obtain ⟨rfl, rfl⟩ := trodVars_none hV
  rw [MakeChecks.laidMetH_plain _ _ _ (by kernel_rfl)] at hL
  have hlt : ∀ x ∈ p, x.block < W.heap.size := fun x hx => hW'.lt x (by simpa using hx)
  have fin : ∀ W', Below W.heap.size W W' → (Rows.asciiNumbersSpec.fn H (ds ++ [])).results = [.lit (.bool true)] → (Rows.asciiNumbersSpec.fn H (ds ++ [])).args = ds → (Rows.asciiNumbersSpec.fn H (ds ++ [])).vars = [] → Rows.asciiNumbersSpec.post enc Tryd.prog Tryd.f5 false true false false W args (.bool true) W' := by
    intro W' hb h1 h2 h3
    refine ⟨ds, [], _, [], p, [], hW', ?_, ?_, ?_, hb.frame _, fun h => by cases h⟩
    · rw [h1]; exact trodAll_mk1 (shut_bool Tryd.underlying4 _)
    · rw [h2]; exact Cls.trodAll_below Cls.laidOut hb _ _ _ _ hA (Cls.readable _ (by kernel_rfl)) hlt
    · rw [h3]; rfl
  rw [Tryd.params5] at hA hval
  obtain ⟨v0, v1, d0, d1, p0, p1, rfl, rfl, rfl, h0, h1⟩ := trodAll_two hA
  obtain ⟨s, rfl, rfl, rfl, _⟩ := open_string Tryd.underlying9 (hval 0 9 v0 rfl rfl) h0
  obtain ⟨n, rfl, rfl, rfl, wn⟩ := open_int Tryd.underlying3 (hval 1 3 v1 rfl rfl) h1
  have hn : -9223372036854775808 ≤ n ∧ n ≤ 9223372036854775807 := by simpa [Lit.wf, IntKind.min, IntKind.max, IntKind.signed, IntKind.bits] using wn
  have hreach := sized_string hsz (j := 0) rfl rfl
  have hs : s.size ≤ 140737488355328 := by
    have : s.data.toList.length = s.size := rfl
    unfold reachBytes at hreach
    omega
  have ht : NumTabs W := tabs_of W (Lib.laidMet.reads hL (.tail _ (.tail _ (.head _)))) (Lib.laidMet.reads hL (.tail _ (.head _)))
  refine (lawNumbers n s W hn.1 hn.2 hs ht).mono fun e W' ⟨he, hb⟩ => ?_
  subst he
  exact ⟨_, rfl, fin W' hb rfl rfl rfl⟩

theorem saidAsciiNumbers : Rows.AsciiNumbersSaid :=
  OpenClaim.holds_of_wide 5 Tryd.f5 rfl rfl rfl rfl rfl rfl rfl ⟨rfl, rfl, rfl, rfl, rfl⟩ rfl rfl rfl rfl rfl (by kernel_rfl) Tryd.func5 (by kernel_rfl)
    (of_decide_eq_true (by kernel_rfl)) (by unfold Func.isWrapper; first | (rw [if_pos (by decide +kernel)]; kernel_rfl) | (rw [if_neg (by decide +kernel)]; exact ⟨rfl, rfl⟩))
    (fun os started H enc _ => liftedAsciiNumbers os started H enc)
end Go.Proofs.YtbekebdgmgjpgaaDoor.Asc
namespace Go.Proofs.YtbekebdgmgjpgaaDoor
open Go

theorem asciiNumbers_holds : Rows.AsciiNumbersCardSaid :=
  Claim7.holds_tied_plain_at .later [] _ _ _ _ Asc.saidAsciiNumbers (fun _ h => by cases h) (by kernel_rfl) (fun _ h => by cases h) asciiNumbers_row_tie rfl ⟨rfl, rfl⟩ (by kernel_rfl) rfl
    (fun f fn hf hfn => by
      obtain rfl : f = 5 := Option.some.inj ((show Tryd.prog.funcNamed "gatehouse/gatehouselaw01.AsciiNumbers" = some 5 by kernel_rfl).symm.trans hf) |>.symm
      obtain rfl : fn = Tryd.f5 := (Option.some.inj (Tryd.func5.symm.trans hfn)).symm
      exact ⟨by kernel_rfl, fun j t ht => by
        rw [Tryd.params5] at ht
        have hm : t ∈ [9, 3] := by simpa using Array.mem_of_getElem? ht
        have hall : ([9, 3].all fun u => !Tryd.prog.wantsStandIn u) = true := by kernel_rfl
        exact (show Tryd.prog.wantsStandIn t = false by simpa using List.all_eq_true.1 hall t hm)⟩)
    (by kernel_rfl)
end Go.Proofs.YtbekebdgmgjpgaaDoor
