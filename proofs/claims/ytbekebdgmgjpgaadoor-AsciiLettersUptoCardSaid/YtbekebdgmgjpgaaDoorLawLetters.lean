/- The statement AsciiLetters, for texts of bounded bulk: letters made small, blanks at ends, lists are the document's. -/
import Derived.Test.YtbekebdgmgjpgaaDoorAscH
import Derived.Test.YtbekebdgmgjpgaaDoorAscK
import Derived.Test.YtbekebdgmgjpgaaDoorClose
import Derived.Test.YtbekebdgmgjpgaaDoorCards
import Derived.Test.YtbekebdgmgjpgaaDoorTie
import Derived.ProofKit
import Derived.Lay
import Derived.LaidOnce
import Derived.SevenTiedAt
import Derived.Deep.DeepHandedRow
namespace Go.Proofs.YtbekebdgmgjpgaaDoor.Asc
open Go.RowKit Go.Shelf Go.Lib
open Go.ChangeShapes Go.WideShapes Go.ChangeAt
open Go.ChangeMaps (open_string shut_string)

set_option maxRecDepth 100000 in
set_option maxHeartbeats 2000000 in
theorem lawLetters (s t : ByteArray) (c : UInt8) (w : World) (hs : s.size ≤ 1048576) (ht : t.size ≤ 1048576) :
    Calls Tryd.prog 4 #[.string s, .string t, .int .u8 (c.toNat : Int)] w fun e w' => e = .returned (.bool true) ∧ Below w.heap.size w w' := by
  have H1 := fun w => Lib.hid (lower_any s w (by omega))
  have H2 := fun w => Lib.hid (refLower_any s w (by omega))
  have H3 := fun w => Lib.hid (equal_any s t w (by omega))
  have H4 := fun w => Lib.hid (refEqual_any s t w (by omega) (by omega))
  have H5 := fun w => Lib.hid (trim_any s w (by omega))
  have H6 := fun w => Lib.hid (refTrim_any s w (by omega))
  have H7 := fun w => Lib.hid (split_any s c w (by omega))
  have H8 := fun w => Lib.hid (refSplit_any s c w (by omega))
  have hl : (partsB c s.data.toList).length ≤ 1048577 := by
    have := partsTo_len c s.data.toList (splitB c s.data.toList).length
    rw [partsTo_all] at this
    have h2 : s.data.toList.length = s.size := rfl
    omega
  have H9 := fun va vb w ha hb => Lib.hid (same_any va vb (partsB c s.data.toList) w ha hb (by omega))
  generalize lowS s = ls at H1 H2
  generalize eqL s.data.toList t.data.toList = eb at H3 H4
  generalize (⟨(trimL s.data.toList).toArray⟩ : ByteArray) = ts at H5 H6
  go_enter Tryd.func4, Tryd.ntmps4
  go_wp2_with fail
  refine (H1 _).out.mono ?_
  rintro e w1 ⟨rfl, hb1⟩
  go_wp2_with fail
  refine (H2 _).out.mono ?_
  rintro e w2 ⟨rfl, hb2⟩
  go_wp2_with fail
  refine (H3 _).out.mono ?_
  rintro e w3 ⟨rfl, hb3⟩
  go_wp2_with fail
  refine (H4 _).out.mono ?_
  rintro e w4 ⟨rfl, hb4⟩
  go_wp2_with fail
  refine (H5 _).out.mono ?_
  rintro e w5 ⟨rfl, hb5⟩
  go_wp2_with fail
  refine (H6 _).out.mono ?_
  rintro e w6 ⟨rfl, rfl⟩
  go_wp2_with fail
  refine (H7 _).out.mono ?_
  rintro e w7 ⟨va, rfl, hva, hb7⟩
  have HVa := Lib.hid (TextsAt.of_own hva)
  clear hva
  go_wp2_with fail
  refine (H8 _).out.mono ?_
  rintro e w8 ⟨vb, rfl, hvb, hb8⟩
  have HVb := Lib.hid (TextsAt.of_own hvb)
  clear hvb
  go_wp2_with fail
  refine (H9 _ _ _ (HVa.out.below hb8) HVb.out).out.mono ?_
  rintro e w9 ⟨rfl, hb9⟩
  go_wp2_with fail
  refine (knows_any _).mono ?_
  rintro e w10 ⟨rfl, hb10⟩
  go_wp2_with fail
  go_ret
  have h1 := hb1.size
  have h2 := hb2.size
  have h3 := hb3.size
  have h4 := hb4.size
  have h5 := hb5.size
  have h7 := hb7.size
  have h8 := hb8.size
  have h9 := hb9.size
  exact ⟨rfl, ((((((((hb1.trans (hb2.mono h1)).trans (hb3.mono (by omega))).trans (hb4.mono (by omega))).trans (hb5.mono (by omega))).trans (hb7.mono (by omega))).trans (hb8.mono (by omega))).trans (hb9.mono (by omega))).trans (hb10.mono (by omega)))⟩

set_option maxRecDepth 100000 in
theorem readsAsciiLetters (os : Os) {H : Type} (enc : TypeId × Value → H) : ∃ places, DataW.whole enc Tryd.prog ((World.laidAll Tryd.prog os Rows.asciiLettersRow.laid).forCall (fun _ _ => 0) ⟨#[], #[.string ⟨#[]⟩, .string ⟨#[]⟩, .int .u8 0], []⟩).memory Tryd.f4.params.toList Rows.asciiLettersSpec.vars false #[.string ⟨#[]⟩, .string ⟨#[]⟩, .int .u8 0].toList 8 = some ([.lit (.string []), .lit (.string []), .lit (.int .u8 0)], [], places) :=
  ⟨[], by kernel_rfl⟩

set_option maxRecDepth 100000 in
theorem uptoAsciiLetters (os : Os) (started : os.Started) (H : Type) (enc : TypeId × Value → H) (F : Stop.Interp) :
    ReturnsInHanded {} Tryd.checked os 4 .any ((Rows.OpenSpec.upto Rows.asciiLettersSpec).preRow enc Tryd.prog Tryd.f4 Rows.asciiLettersUptoRow.domain false Rows.asciiLettersUptoRow.laid) (((Rows.OpenSpec.upto Rows.asciiLettersSpec).at F).post enc Tryd.prog Tryd.f4 false true false false) := by
  obtain ⟨places, hx⟩ := readsAsciiLetters os enc
  have hok : Input.okWideB Tryd.prog ((World.laidAll Tryd.prog os Rows.asciiLettersRow.laid).forCall (fun _ _ => 0) ⟨#[], #[.string ⟨#[]⟩, .string ⟨#[]⟩, .int .u8 0], []⟩) 4 ⟨#[], #[.string ⟨#[]⟩, .string ⟨#[]⟩, .int .u8 0], []⟩ = true := by kernel_rfl
  refine returnsInHanded_of_row (C := Tryd.checked) (s := Rows.OpenSpec.upto Rows.asciiLettersSpec) Cls.own started (by kernel_rfl) Tryd.func4
    ⟨World.laidAll Tryd.prog os Rows.asciiLettersRow.laid, fun _ _ => 0, ⟨#[], #[.string ⟨#[]⟩, .string ⟨#[]⟩, .int .u8 0], []⟩, World.laidAll_os _ _ _, World.shaped_of_ZipB (by kernel_rfl) (by kernel_rfl), (Input.okWide_of_okWideB (base := 0) hok).1, (Input.okWide_of_okWideB hok).2,
      OpenSpec.preRow_of_cond 8 hx (by kernel_rfl) (fun k hk => by cases hk; kernel_rfl) (by kernel_rfl) (by rw [MakeChecks.laidMetH_plain _ _ _ (by kernel_rfl)]; exact laidMet_laidAll _ (by kernel_rfl) (by kernel_rfl)), by
      simp only [Assume.holds]
      exact ⟨by simp, by simp, fun _ => Modest.zero, by simp, by simp⟩⟩ ?_
  intro W base args ds gs before hval0 hW _ hk hsz hL _ _
  have hval : ∀ (j : Nat) t v, Tryd.f4.params[j]? = some t → args[j]? = some v → Value.okWide Tryd.prog W .any base t v := hval0
  have hW' := hW
  obtain ⟨p, q, hA0, hV, rfl, _, _⟩ := hW
  have hA : DataW.TrodAll enc Tryd.prog W 0 (fun _ => true) true Tryd.f4.params.toList args.toList ds p := hA0
  obtain ⟨rfl, rfl⟩ := trodVars_none hV
  rw [MakeChecks.laidMetH_plain _ _ _ (by kernel_rfl)] at hL
  have hbulk : Rows.uptoBulkAll (ds ++ []) ≤ 1048576 := of_decide_eq_true (hk _ rfl)
  have hlt : ∀ x ∈ p, x.block < W.heap.size := fun x hx => hW'.lt x (by simpa using hx)
  have fin : ∀ W', Below W.heap.size W W' → (Rows.asciiLettersSpec.fn H (ds ++ [])).results = [.lit (.bool true)] → (Rows.asciiLettersSpec.fn H (ds ++ [])).args = ds → (Rows.asciiLettersSpec.fn H (ds ++ [])).vars = [] → Rows.asciiLettersSpec.post enc Tryd.prog Tryd.f4 false true false false W args (.bool true) W' := by
    intro W' hb h1 h2 h3
    refine ⟨ds, [], _, [], p, [], hW', ?_, ?_, ?_, hb.frame _, fun h => by cases h⟩
    · rw [h1]; exact trodAll_mk1 (shut_bool Tryd.underlying4 _)
    · rw [h2]; exact Cls.trodAll_below Cls.laidOut hb _ _ _ _ hA (Cls.readable _ (by kernel_rfl)) hlt
    · rw [h3]; rfl
  rw [Tryd.params4] at hA hval
  obtain ⟨v0, v1, v2, d0, d1, d2, p0, p1, p2, rfl, rfl, rfl, h0, h1, h2⟩ := trodAll_three hA
  obtain ⟨s, rfl, rfl, rfl, _⟩ := open_string Tryd.underlying9 (hval 0 9 v0 rfl rfl) h0
  obtain ⟨t, rfl, rfl, rfl, _⟩ := open_string Tryd.underlying9 (hval 1 9 v1 rfl rfl) h1
  obtain ⟨x, rfl, rfl, rfl, wx⟩ := open_int Tryd.underlying5 (hval 2 5 v2 rfl rfl) h2
  obtain ⟨c, rfl⟩ : ∃ c : UInt8, x = (c.toNat : Int) := by
    have hx : 0 ≤ x ∧ x ≤ 255 := by simpa [Lit.wf, IntKind.min, IntKind.max, IntKind.signed, IntKind.bits] using wx
    refine ⟨UInt8.ofNat x.toNat, ?_⟩
    have : (UInt8.ofNat x.toNat).toNat = x.toNat % 256 := by simp
    omega
  have hb1 : s.data.toList.length + 1 + (t.data.toList.length + 1) ≤ 1048576 := by
    simp only [List.cons_append, List.nil_append, Rows.uptoBulkAll, Rows.uptoBulk] at hbulk
    omega
  have hs : s.size ≤ 1048576 := by
    have : s.data.toList.length = s.size := rfl
    omega
  have ht : t.size ≤ 1048576 := by
    have : t.data.toList.length = t.size := rfl
    omega
  refine (lawLetters s t c W hs ht).mono fun e W' ⟨he, hb⟩ => ?_
  subst he
  exact ⟨_, rfl, fin W' hb rfl rfl rfl⟩

theorem saidAsciiLetters : Rows.AsciiLettersUptoSaid :=
  OpenClaim.holds_of_cond 4 Tryd.f4 rfl rfl rfl rfl rfl rfl rfl ⟨rfl, rfl, rfl, rfl, rfl⟩ rfl rfl rfl rfl rfl (by kernel_rfl) Tryd.func4 (by kernel_rfl)
    (of_decide_eq_true (by kernel_rfl)) (by unfold Func.isWrapper; first | (rw [if_pos (by decide +kernel)]; kernel_rfl) | (rw [if_neg (by decide +kernel)]; exact ⟨rfl, rfl⟩))
    (fun os started H enc _ F => by rw [OpenClaim.pre_eq_preRow]; exact uptoAsciiLetters os started H enc F)
end Go.Proofs.YtbekebdgmgjpgaaDoor.Asc
namespace Go.Proofs.YtbekebdgmgjpgaaDoor
open Go

theorem asciiLetters_holds : Rows.AsciiLettersUptoCardSaid :=
  Claim7.holds_tied_plain_at .later [] _ _ _ _ Asc.saidAsciiLetters (fun _ h => by cases h) (by kernel_rfl) (fun _ h => by cases h) asciiLettersUpto_row_tie rfl ⟨rfl, rfl⟩ (by kernel_rfl) rfl
    (fun f fn hf hfn => by
      obtain rfl : f = 4 := Option.some.inj ((show Tryd.prog.funcNamed "gatehouse/gatehouselaw01.AsciiLetters" = some 4 by kernel_rfl).symm.trans hf) |>.symm
      obtain rfl : fn = Tryd.f4 := (Option.some.inj (Tryd.func4.symm.trans hfn)).symm
      exact ⟨by kernel_rfl, fun j t ht => by
        rw [Tryd.params4] at ht
        have hm : t ∈ [9, 9, 5] := by simpa using Array.mem_of_getElem? ht
        have hall : ([9, 9, 5].all fun u => !Tryd.prog.wantsStandIn u) = true := by kernel_rfl
        exact (show Tryd.prog.wantsStandIn t = false by simpa using List.all_eq_true.1 hall t hm)⟩)
    (by kernel_rfl)
end Go.Proofs.YtbekebdgmgjpgaaDoor
