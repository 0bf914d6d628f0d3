/- The statement BitsNil: no writer, no reader, and those that nobody made. -/
import Derived.Test.YtaibehfpbcgijabDoorBitJ
import Derived.Test.YtaibehfpbcgijabDoorBitNil
import Derived.Test.YtaibehfpbcgijabDoorClose
import Derived.Test.YtaibehfpbcgijabDoorCards
import Derived.Test.YtaibehfpbcgijabDoorTie
import Derived.ProofKit
import Derived.Lay
import Derived.LaidOnce
import Derived.SevenTiedAt
namespace Go.Proofs.YtaibehfpbcgijabDoor.Bit
open Go.RowKit Go.Shelf Go.Lib Go.Proofs.YtaibehfpbcgijabDoor.Mem
open Go.ChangeShapes Go.WideShapes Go.ChangeAt

set_option maxRecDepth 100000 in
set_option maxHeartbeats 4000000 in
theorem lawNil (n x : Int) (v : Value) (W : World) (b : Nat) (hb : W.heap.size = b) (hm : Masks W b) :
    Calls Tryd.prog 6 #[.int .i64 n, .int .i64 x, v] W fun e w' => e = .returned (.bool true) ∧ Below b W w' := by
  have HK := Lib.hid hm
  have HB := Lib.hid hb
  clear hm hb
  go_enter Tryd.func6, Tryd.ntmps6
  go_wp2
  go_loopw [7, 8, 9] (fun s7 s8 i wr => ∃ (k : Nat) (p q : Value), k ≤ 2 ∧ p = s7 ∧ q = s8 ∧ i = .int .i64 k ∧ UnmadeW wr p ∧ UnmadeR wr q ∧ Below b W wr) (fun _ _ i _ => 2 - (RowKit.intOf i).toNat)
  case atStart => exact ⟨0, _, _, by omega, rfl, rfl, rfl, .inl rfl, .inl rfl, Below.refl _ _⟩
  case round =>
    obtain ⟨k, p, q, hk, rfl, rfl, rfl, hp, hq, hbe⟩ := hrel
    have hsz : b ≤ wr.heap.size := by have := hbe.size; rw [HB.out] at this; exact this
    have HBe := Lib.hid hbe
    clear hbe
    by_cases hlt : k < 2
    · have h1 := Lib.hid (walign_no p wr hp)
      have h2 := Lib.hid (ralign_no q wr hq)
      have h3 := Lib.hid (rtake_no q x wr hq)
      have h4 := Lib.hid (rraw_no q n wr hq)
      have h5 := Lib.hid (wput_no p n x wr hp)
      have h6 := Lib.hid (wraw_no p v wr hp)
      have h7 := Lib.hid (wbits_no p wr hp)
      have h8 := Lib.hid (wbytes_no p wr hp)
      have h9 := Lib.hid (rleft_no q wr hq)
      have h0 := fun w => Lib.hid (num_any 1 w)
      clear hp hq
      go_wp2_with (first
        | (go_at_call 28; refine h1.out.mono ?_; rintro e w1 ⟨rfl, rfl⟩)
        | (go_at_call 20; refine h2.out.mono ?_; rintro e w1 ⟨rfl, rfl⟩)
        | (go_at_call 17; refine h3.out.mono ?_; rintro e w1 ⟨rfl, rfl⟩)
        | (go_at_call 22; refine h4.out.mono ?_; rintro e w1 ⟨rfl, rfl⟩)
        | (go_at_call 29; refine h5.out.mono ?_; rintro e w1 ⟨rfl, rfl⟩)
        | (go_at_call 30; refine h6.out.mono ?_; rintro e w1 ⟨rfl, rfl⟩)
        | (go_at_call 31; refine h7.out.mono ?_; rintro e w1 ⟨rfl, rfl⟩)
        | (go_at_call 11; refine h8.out.mono ?_; rintro e w1 ⟨rfl, rfl⟩)
        | (go_at_call 24; refine h9.out.mono ?_; rintro e w1 ⟨rfl, rfl⟩)
        | (go_at_call 19; refine (h0 _).out.mono ?_; rintro e w1 ⟨rfl, rfl⟩))
      go_roundw
      case rel =>
        have hA := (Below.refl wr.heap.size wr).alloc (Nat.le_refl _) (.cells #[.pointer none, .slice none 0 0, .int .i64 0] 59)
        refine ⟨k + 1, _, _, by omega, rfl, rfl, by go_num, .inr ⟨_, rfl, ?_⟩, .inr ⟨_, rfl, ?_⟩, (HBe.out.alloc hsz _).alloc (Nat.le_trans hsz hA.size) _⟩
        · rw [World.cell?_alloc_lt _ _ ⟨wr.heap.size, 0, none⟩ (by simp)]
          exact cell_of_row _ _ 0 _ _ (0, 0) (heap_alloc_new _ _)
        · rw [show wr.heap.size + 1 = (wr.alloc (.cells #[.pointer none, .slice none 0 0, .int .i64 0] 59)).heap.size by simp]
          exact cell_of_row _ _ 1 _ _ (0, 0) (heap_alloc_new _ _)
      case measure => simp [RowKit.intOf]; omega
    · obtain ⟨c, hc⟩ : ∃ c, wr.heap.size = c := ⟨_, rfl⟩
      have HKn := Lib.hid (knows_any wr c hc ⟨by have := (HK.out).1; omega, (HK.out.below HBe.out).2⟩)
      rw [hc] at hsz
      have HS := Lib.hid hsz
      clear hc hsz hp hq
      go_wp2_with (go_at_call 9; refine HKn.out.mono ?_; rintro e w1 ⟨rfl, hb1⟩; have HB1 := Lib.hid hb1; clear hb1)
      go_ret
      exact ⟨rfl, HBe.out.trans (HB1.out.mono HS.out)⟩

set_option maxRecDepth 100000 in
theorem liftedBitsNil (os : Os) (started : os.Started) (H : Type) (enc : TypeId × Value → H) :
    ReturnsInHanded {} Tryd.checked os 6 .any (fun w args => (Rows.bitsNilSpec.pre enc Tryd.prog Tryd.f6 [] false w args ∧ laidMetH Tryd.prog Rows.bitsNilRow.laid w) ∧ sizedMet enc Tryd.prog Tryd.f6 (OpenSpec.ofChange Rows.bitsNilSpec) false w args)
      (Rows.bitsNilSpec.post enc Tryd.prog Tryd.f6 false true false false) := by
  refine returnsInHanded_of_change_and (C := Tryd.checked) (X := fun w _ => laidMetH Tryd.prog Rows.bitsNilRow.laid w) (fun _ _ _ hh h => h.of_heap hh) Cls.own started (by kernel_rfl) Tryd.func6
    (ChangeSpec.witness_shaped (enc := enc) (C := Tryd.checked) (os := os) (X := fun w _ => laidMetH Tryd.prog Rows.bitsNilRow.laid w) false (World.laidAll Tryd.prog os Rows.bitsNilRow.laid) #[.int .i64 0, .int .i64 0, .slice none 0 0] 8 (World.laidAll_os _ _ _)
      (World.shaped_of_ZipB (by kernel_rfl) (by kernel_rfl)) (by kernel_rfl) (by kernel_rfl) (by kernel_rfl)
      (by rw [MakeChecks.laidMetH_plain _ _ _ (by kernel_rfl)]; exact laidMet_laidAll _ (by kernel_rfl) (by kernel_rfl))) ?_
  intro W base args ds gs before hval0 hW _ hsz hL _
  have hval : ∀ (j : Nat) t v, Tryd.f6.params[j]? = some t → args[j]? = some v → Value.okWide Tryd.prog W .any base t v := hval0
  have hW' := hW
  obtain ⟨p, q, hA0, hV, rfl, _, _⟩ := hW
  have hA : DataW.TrodAll enc Tryd.prog W 0 (fun _ => true) true Tryd.f6.params.toList args.toList ds p := hA0
  obtain ⟨rfl, rfl⟩ := trodVars_none hV
  rw [MakeChecks.laidMetH_plain _ _ _ (by kernel_rfl)] at hL
  have hlt : ∀ x ∈ p, x.block < W.heap.size := fun x hx => hW'.lt x (by simpa using hx)
  have fin : ∀ W', Below W.heap.size W W' → (Rows.bitsNilSpec.fn H (ds ++ [])).results = [.lit (.bool true)] → (Rows.bitsNilSpec.fn H (ds ++ [])).args = ds → (Rows.bitsNilSpec.fn H (ds ++ [])).vars = [] → Rows.bitsNilSpec.post enc Tryd.prog Tryd.f6 false true false false W args (.bool true) W' := by
    intro W' hb h1 h2 h3
    refine ⟨ds, [], _, [], p, [], hW', ?_, ?_, ?_, hb.frame _, fun h => by cases h⟩
    · rw [h1]; exact trodAll_mk1 (shut_bool Tryd.underlying4 _)
    · rw [h2]; exact Cls.trodAll_below Cls.laidOut hb _ _ _ _ hA (Cls.readable _ (by kernel_rfl)) hlt
    · rw [h3]; rfl
  rw [Tryd.params6] at hA hval
  obtain ⟨v0, v1, v2, d0, d1, d2, p0, p1, p2, rfl, rfl, rfl, h0, h1, h2⟩ := trodAll_three hA
  obtain ⟨n, rfl, rfl, rfl, _⟩ := open_int Tryd.underlying3 (hval 0 3 v0 rfl rfl) h0
  obtain ⟨x, rfl, rfl, rfl, _⟩ := open_int Tryd.underlying3 (hval 1 3 v1 rfl rfl) h1
  refine (lawNil n x v2 W _ rfl (masks_of W hL)).mono fun e W' ⟨he, hb⟩ => ?_
  subst he
  exact ⟨_, rfl, fin W' hb rfl rfl rfl⟩

theorem saidBitsNil : Rows.BitsNilSaid :=
  OpenClaim.holds_of_wide 6 Tryd.f6 rfl rfl rfl rfl rfl rfl rfl ⟨rfl, rfl, rfl, rfl, rfl⟩ rfl rfl rfl rfl rfl (by kernel_rfl) Tryd.func6 (by kernel_rfl)
    (of_decide_eq_true (by kernel_rfl)) (by unfold Func.isWrapper; first | (rw [if_pos (by decide +kernel)]; kernel_rfl) | (rw [if_neg (by decide +kernel)]; exact ⟨rfl, rfl⟩))
    (fun os started H enc _ => liftedBitsNil os started H enc)
end Go.Proofs.YtaibehfpbcgijabDoor.Bit
namespace Go.Proofs.YtaibehfpbcgijabDoor
open Go

theorem bitsNil_holds : Rows.BitsNilCardSaid :=
  Claim7.holds_tied_plain_at .later [] _ _ _ _ Bit.saidBitsNil (fun _ h => by cases h) (by kernel_rfl) (fun _ h => by cases h) bitsNil_row_tie rfl ⟨rfl, rfl⟩ (by kernel_rfl) rfl
    (fun f fn hf hfn => by
      obtain rfl : f = 6 := Option.some.inj ((show Tryd.prog.funcNamed "gatehouse/gatehouselaw02.BitsNil" = some 6 by kernel_rfl).symm.trans hf) |>.symm
      obtain rfl : fn = Tryd.f6 := (Option.some.inj (Tryd.func6.symm.trans hfn)).symm
      exact ⟨by kernel_rfl, fun j t ht => by
        rw [Tryd.params6] at ht
        have hm : t ∈ [3, 3, 27] := by simpa using Array.mem_of_getElem? ht
        have hall : ([3, 3, 27].all fun u => !Tryd.prog.wantsStandIn u) = true := by kernel_rfl
        exact (show Tryd.prog.wantsStandIn t = false by simpa using List.all_eq_true.1 hall t hm)⟩)
    (by kernel_rfl)
end Go.Proofs.YtaibehfpbcgijabDoor
