/- The statement BitsReverse: bits in the other order, and back. -/
import Derived.Test.YtaibehfpbcgijabDoorBitJ
import Derived.Test.YtaibehfpbcgijabDoorClose
import Derived.Test.YtaibehfpbcgijabDoorCards
import Derived.Test.YtaibehfpbcgijabDoorTie
import Derived.ProofKit
import Derived.Lay
import Derived.LaidOnce
import Derived.SevenTiedAt
namespace Go.Proofs.YtaibehfpbcgijabDoor.Bit
open Go.RowKit Go.Shelf Go.Lib Go.Proofs.YtaibehfpbcgijabDoor.Mem
open Go.ChangeShapes Go.WideShapes Go.ChangeAt

theorem pow_bd (m : Nat) (h : m ≤ 32) : (1 : Int) ≤ 2 ^ m ∧ (2 : Int) ^ m ≤ 4294967296 := by
  have h1 := Int.ofNat_le.2 (Nat.pow_le_pow_right (n := 2) (by decide) h)
  rw [Int.natCast_pow, Int.natCast_pow] at h1
  have h0 := two_pos m
  exact ⟨by omega, h1⟩

set_option maxRecDepth 100000 in
set_option maxHeartbeats 400000 in
theorem lawReverse (n x : Int) (W : World) (b : Nat) (hb : W.heap.size = b) (hm : Masks W b) :
    Calls Tryd.prog 5 #[.int .i64 n, .int .i64 x] W fun e w' => e = .returned (.bool true) ∧ Below b W w' := by
  have H1 := fun w => Lib.hid (rev_any n x w)
  have H2 := fun w => Lib.hid (refRev_any n x w)
  have H3 := fun w => Lib.hid (rev_any (rev n (clampN x)) x w)
  have HK := Lib.hid (knows_any W b hb hm)
  have hrr := rev_rev n (clampN x)
  have hc := clampN_val x
  have h1 := clampN_le x
  clear hb hm
  generalize clampN x = m at *
  have hand : bits BinOp.and IntKind.i64 n (2 ^ m - 1) = rev (rev n m) m := (i64_mask n m (by omega)).trans hrr.symm
  obtain ⟨hp1, hp2⟩ := pow_bd m h1
  clear hrr
  generalize rev n m = a at *
  generalize rev a m = a' at *
  go_enter Tryd.func5, Tryd.ntmps5
  go_wp2_with (first
    | (go_at_call 27; refine (H2 _).out.mono ?_; rintro e w1 ⟨rfl, rfl⟩)
    | (go_at_call 26; with_reducible refine (H1 _).out.mono ?_; rintro e w1 ⟨rfl, rfl⟩)
    | (go_at_call 26; with_reducible refine (H3 _).out.mono ?_; rintro e w1 ⟨rfl, rfl⟩)
    | (go_at_call 9; refine HK.out.mono ?_; rintro e w1 ⟨rfl, hb1⟩; have HB1 := Lib.hid hb1; clear hb1))
  go_ret
  exact ⟨rfl, HB1.out⟩

set_option maxRecDepth 100000 in
theorem liftedBitsReverse (os : Os) (started : os.Started) (H : Type) (enc : TypeId × Value → H) :
    ReturnsInHanded {} Tryd.checked os 5 .any (fun w args => (Rows.bitsReverseSpec.pre enc Tryd.prog Tryd.f5 [] false w args ∧ laidMetH Tryd.prog Rows.bitsReverseRow.laid w) ∧ sizedMet enc Tryd.prog Tryd.f5 (OpenSpec.ofChange Rows.bitsReverseSpec) false w args)
      (Rows.bitsReverseSpec.post enc Tryd.prog Tryd.f5 false true false false) := by
  refine returnsInHanded_of_change_and (C := Tryd.checked) (X := fun w _ => laidMetH Tryd.prog Rows.bitsReverseRow.laid w) (fun _ _ _ hh h => h.of_heap hh) Cls.own started (by kernel_rfl) Tryd.func5
    (ChangeSpec.witness_shaped (enc := enc) (C := Tryd.checked) (os := os) (X := fun w _ => laidMetH Tryd.prog Rows.bitsReverseRow.laid w) false (World.laidAll Tryd.prog os Rows.bitsReverseRow.laid) #[.int .i64 0, .int .i64 0] 8 (World.laidAll_os _ _ _)
      (World.shaped_of_ZipB (by kernel_rfl) (by kernel_rfl)) (by kernel_rfl) (by kernel_rfl) (by kernel_rfl)
      (by rw [MakeChecks.laidMetH_plain _ _ _ (by kernel_rfl)]; exact laidMet_laidAll _ (by kernel_rfl) (by kernel_rfl))) ?_
  intro W base args ds gs before hval0 hW _ hsz hL _
  have hval : ∀ (j : Nat) t v, Tryd.f5.params[j]? = some t → args[j]? = some v → Value.okWide Tryd.prog W .any base t v := hval0
  have hW' := hW
  obtain ⟨p, q, hA0, hV, rfl, _, _⟩ := hW
  have hA : DataW.TrodAll enc Tryd.prog W 0 (fun _ => true) true Tryd.f5.params.toList args.toList ds p := hA0
  obtain ⟨rfl, rfl⟩ := trodVars_none hV
  rw [MakeChecks.laidMetH_plain _ _ _ (by kernel_rfl)] at hL
  have hlt : ∀ x ∈ p, x.block < W.heap.size := fun x hx => hW'.lt x (by simpa using hx)
  have fin : ∀ W', Below W.heap.size W W' → (Rows.bitsReverseSpec.fn H (ds ++ [])).results = [.lit (.bool true)] → (Rows.bitsReverseSpec.fn H (ds ++ [])).args = ds → (Rows.bitsReverseSpec.fn H (ds ++ [])).vars = [] → Rows.bitsReverseSpec.post enc Tryd.prog Tryd.f5 false true false false W args (.bool true) W' := by
    intro W' hb h1 h2 h3
    refine ⟨ds, [], _, [], p, [], hW', ?_, ?_, ?_, hb.frame _, fun h => by cases h⟩
    · rw [h1]; exact trodAll_mk1 (shut_bool Tryd.underlying4 _)
    · rw [h2]; exact Cls.trodAll_below Cls.laidOut hb _ _ _ _ hA (Cls.readable _ (by kernel_rfl)) hlt
    · rw [h3]; rfl
  rw [Tryd.params5] at hA hval
  obtain ⟨v0, v1, d0, d1, p0, p1, rfl, rfl, rfl, h0, h1⟩ := trodAll_two hA
  obtain ⟨n, rfl, rfl, rfl, _⟩ := open_int Tryd.underlying3 (hval 0 3 v0 rfl rfl) h0
  obtain ⟨x, rfl, rfl, rfl, _⟩ := open_int Tryd.underlying3 (hval 1 3 v1 rfl rfl) h1
  refine (lawReverse n x W _ rfl (masks_of W hL)).mono fun e W' ⟨he, hb⟩ => ?_
  subst he
  exact ⟨_, rfl, fin W' hb rfl rfl rfl⟩

theorem saidBitsReverse : Rows.BitsReverseSaid :=
  OpenClaim.holds_of_wide 5 Tryd.f5 rfl rfl rfl rfl rfl rfl rfl ⟨rfl, rfl, rfl, rfl, rfl⟩ rfl rfl rfl rfl rfl (by kernel_rfl) Tryd.func5 (by kernel_rfl)
    (of_decide_eq_true (by kernel_rfl)) (by unfold Func.isWrapper; first | (rw [if_pos (by decide +kernel)]; kernel_rfl) | (rw [if_neg (by decide +kernel)]; exact ⟨rfl, rfl⟩))
    (fun os started H enc _ => liftedBitsReverse os started H enc)
end Go.Proofs.YtaibehfpbcgijabDoor.Bit
namespace Go.Proofs.YtaibehfpbcgijabDoor
open Go

theorem bitsReverse_holds : Rows.BitsReverseCardSaid :=
  Claim7.holds_tied_plain_at .later [] _ _ _ _ Bit.saidBitsReverse (fun _ h => by cases h) (by kernel_rfl) (fun _ h => by cases h) bitsReverse_row_tie rfl ⟨rfl, rfl⟩ (by kernel_rfl) rfl
    (fun f fn hf hfn => by
      obtain rfl : f = 5 := Option.some.inj ((show Tryd.prog.funcNamed "gatehouse/gatehouselaw02.BitsReverse" = some 5 by kernel_rfl).symm.trans hf) |>.symm
      obtain rfl : fn = Tryd.f5 := (Option.some.inj (Tryd.func5.symm.trans hfn)).symm
      exact ⟨by kernel_rfl, fun j t ht => by
        rw [Tryd.params5] at ht
        have hm : t ∈ [3, 3] := by simpa using Array.mem_of_getElem? ht
        have hall : ([3, 3].all fun u => !Tryd.prog.wantsStandIn u) = true := by kernel_rfl
        exact (show Tryd.prog.wantsStandIn t = false by simpa using List.all_eq_true.1 hall t hm)⟩)
    (by kernel_rfl)
end Go.Proofs.YtaibehfpbcgijabDoor
