/- The statement AsciiNil: no queue, and one that nobody made, hold nothing. -/
import Derived.Test.YtbekebdgmgjpgaaDoorAscH
import Derived.Test.YtbekebdgmgjpgaaDoorAscNil
import Derived.Test.YtbekebdgmgjpgaaDoorClose
import Derived.Test.YtbekebdgmgjpgaaDoorCards
import Derived.Test.YtbekebdgmgjpgaaDoorTie
import Derived.ProofKit
import Derived.Lay
import Derived.LaidOnce
import Derived.SevenTiedAt
namespace Go.Proofs.YtbekebdgmgjpgaaDoor.Asc
open Go.RowKit Go.Shelf Go.Lib
open Go.ChangeShapes Go.WideShapes Go.ChangeAt

set_option maxRecDepth 100000 in
set_option maxHeartbeats 2000000 in
theorem lawNil (b : Value) (n : Int) (w : World) :
    Calls Tryd.prog 7 #[b, .int .i64 n] w fun e w' => e = .returned (.bool true) ∧ Below w.heap.size w w' := by
  go_enter Tryd.func7, Tryd.ntmps7
  go_wp2
  go_loopw [5, 6] (fun s5 i wr => ∃ (k : Nat) (q : Value), k ≤ 2 ∧ q = s5 ∧ i = .int .i64 k ∧ Unmade wr q ∧ Below w.heap.size w wr) (fun _ i _ => 2 - (RowKit.intOf i).toNat)
  case atStart => exact ⟨0, _, by omega, rfl, rfl, .inl rfl, Below.refl _ _⟩
  case round =>
    obtain ⟨k, q, hk, rfl, rfl, hq, hbe⟩ := hrel
    have hsz := hbe.size
    have HB := Lib.hid hbe
    clear hbe
    by_cases hlt : k < 2
    · have h1 := Lib.hid (line_no q wr hq)
      have h2 := Lib.hid (put_no q b wr hq)
      have h3 := Lib.hid (take_no q n wr hq)
      have h4 := Lib.hid (peek_no q n wr hq)
      have h5 := Lib.hid (len_no q wr hq)
      have h6 := fun w => Lib.hid (num_any 1 w)
      clear hq
      go_wp2_with (first
        | (go_at_call 37; refine h1.out.mono ?_; rintro e w1 ⟨rfl, rfl⟩)
        | (go_at_call 38; refine h2.out.mono ?_; rintro e w1 ⟨rfl, rfl⟩)
        | (go_at_call 39; refine h3.out.mono ?_; rintro e w1 ⟨rfl, rfl⟩)
        | (go_at_call 40; refine h4.out.mono ?_; rintro e w1 ⟨rfl, rfl⟩)
        | (go_at_call 36; refine h5.out.mono ?_; rintro e w1 ⟨rfl, rfl⟩)
        | (go_at_call 28; refine (h6 _).out.mono ?_; rintro e w1 ⟨rfl, rfl⟩))
      go_roundw
      case rel => exact ⟨k + 1, _, by omega, rfl, by go_num, .inr ⟨_, rfl, cell_of_row _ _ 0 _ _ (0, 0) (heap_alloc_new _ _)⟩, HB.out.alloc hsz _⟩
      case measure => simp [RowKit.intOf]; omega
    · go_wp2_with (go_at_call 14; refine (knows_any _).mono ?_; rintro e w1 ⟨rfl, hb1⟩)
      go_ret
      exact ⟨rfl, HB.out.trans (hb1.mono hsz)⟩


set_option maxRecDepth 100000 in
theorem liftedAsciiNil (os : Os) (started : os.Started) (H : Type) (enc : TypeId × Value → H) :
    ReturnsInHanded {} Tryd.checked os 7 .any (fun w args => (Rows.asciiNilSpec.pre enc Tryd.prog Tryd.f7 [] false w args ∧ laidMetH Tryd.prog Rows.asciiNilRow.laid w) ∧ sizedMet enc Tryd.prog Tryd.f7 (OpenSpec.ofChange Rows.asciiNilSpec) false w args)
      (Rows.asciiNilSpec.post enc Tryd.prog Tryd.f7 false true false false) := by
  refine returnsInHanded_of_change_and (C := Tryd.checked) (X := fun w _ => laidMetH Tryd.prog Rows.asciiNilRow.laid w) (fun _ _ _ hh h => h.of_heap hh) Cls.own started (by kernel_rfl) Tryd.func7
    (ChangeSpec.witness_shaped (enc := enc) (C := Tryd.checked) (os := os) (X := fun w _ => laidMetH Tryd.prog Rows.asciiNilRow.laid w) false (World.laidAll Tryd.prog os Rows.asciiNilRow.laid) #[.slice none 0 0, .int .i64 0] 8 (World.laidAll_os _ _ _)
      (World.shaped_of_ZipB (by kernel_rfl) (by kernel_rfl)) (by kernel_rfl) (by kernel_rfl) (by kernel_rfl)
      (by rw [MakeChecks.laidMetH_plain _ _ _ (by kernel_rfl)]; exact laidMet_laidAll _ (by kernel_rfl) (by kernel_rfl))) ?_
  intro W base args ds gs before hval0 hW _ hsz hL _
  have hval : ∀ (j : Nat) t v, Tryd.f7.params[j]? = some t → args[j]? = some v → Value.okWide Tryd.prog W .any base t v := hval0
  have hW' := hW
  obtain ⟨p, q, hA0, hV, rfl, _, _⟩ := hW
  have hA : DataW.TrodAll enc Tryd.prog W 0 (fun _ => true) true Tryd.f7.params.toList args.toList ds p := hA0
  obtain ⟨rfl, rfl⟩ := trodVars_none hV
  rw [MakeChecks.laidMetH_plain _ _ _ (by kernel_rfl)] at hL
  have hlt : ∀ x ∈ p, x.block < W.heap.size := fun x hx => hW'.lt x (by simpa using hx)
  have fin : ∀ W', Below W.heap.size W W' → (Rows.asciiNilSpec.fn H (ds ++ [])).results = [.lit (.bool true)] → (Rows.asciiNilSpec.fn H (ds ++ [])).args = ds → (Rows.asciiNilSpec.fn H (ds ++ [])).vars = [] → Rows.asciiNilSpec.post enc Tryd.prog Tryd.f7 false true false false W args (.bool true) W' := by
    intro W' hb h1 h2 h3
    refine ⟨ds, [], _, [], p, [], hW', ?_, ?_, ?_, hb.frame _, fun h => by cases h⟩
    · rw [h1]; exact trodAll_mk1 (shut_bool Tryd.underlying4 _)
    · rw [h2]; exact Cls.trodAll_below Cls.laidOut hb _ _ _ _ hA (Cls.readable _ (by kernel_rfl)) hlt
    · rw [h3]; rfl
  rw [Tryd.params7] at hA hval
  obtain ⟨v0, v1, d0, d1, p0, p1, rfl, rfl, rfl, h0, h1⟩ := trodAll_two hA
  obtain ⟨n, rfl, rfl, rfl, _⟩ := open_int Tryd.underlying3 (hval 1 3 v1 rfl rfl) h1
  refine (lawNil v0 n W).mono fun e W' ⟨he, hb⟩ => ?_
  subst he
  exact ⟨_, rfl, fin W' hb rfl rfl rfl⟩

theorem saidAsciiNil : Rows.AsciiNilSaid :=
  OpenClaim.holds_of_wide 7 Tryd.f7 rfl rfl rfl rfl rfl rfl rfl ⟨rfl, rfl, rfl, rfl, rfl⟩ rfl rfl rfl rfl rfl (by kernel_rfl) Tryd.func7 (by kernel_rfl)
    (of_decide_eq_true (by kernel_rfl)) (by unfold Func.isWrapper; first | (rw [if_pos (by decide +kernel)]; kernel_rfl) | (rw [if_neg (by decide +kernel)]; exact ⟨rfl, rfl⟩))
    (fun os started H enc _ => liftedAsciiNil os started H enc)
end Go.Proofs.YtbekebdgmgjpgaaDoor.Asc
namespace Go.Proofs.YtbekebdgmgjpgaaDoor
open Go

theorem asciiNil_holds : Rows.AsciiNilCardSaid :=
  Claim7.holds_tied_plain_at .later [] _ _ _ _ Asc.saidAsciiNil (fun _ h => by cases h) (by kernel_rfl) (fun _ h => by cases h) asciiNil_row_tie rfl ⟨rfl, rfl⟩ (by kernel_rfl) rfl
    (fun f fn hf hfn => by
      obtain rfl : f = 7 := Option.some.inj ((show Tryd.prog.funcNamed "gatehouse/gatehouselaw01.AsciiNil" = some 7 by kernel_rfl).symm.trans hf) |>.symm
      obtain rfl : fn = Tryd.f7 := (Option.some.inj (Tryd.func7.symm.trans hfn)).symm
      exact ⟨by kernel_rfl, fun j t ht => by
        rw [Tryd.params7] at ht
        have hm : t ∈ [45, 3] := by simpa using Array.mem_of_getElem? ht
        have hall : ([45, 3].all fun u => !Tryd.prog.wantsStandIn u) = true := by kernel_rfl
        exact (show Tryd.prog.wantsStandIn t = false by simpa using List.all_eq_true.1 hall t hm)⟩)
    (by kernel_rfl)
end Go.Proofs.YtbekebdgmgjpgaaDoor
