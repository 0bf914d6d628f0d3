/- The statement LzSymbols: lengths and distances have the symbols of the document. -/
import Derived.Test.YtenkbmkecgnfmaaLzW
namespace Go.Proofs.Ytenkbmkecgnfmaa.Lz
open Go.RowKit Go.Shelf Go.Lib Go.Proofs.Ytenkbmkecgnfmaa.Mem Go.Proofs.Ytenkbmkecgnfmaa.Huf
open Go.ChangeShapes Go.WideShapes Go.ChangeAt

set_option maxHeartbeats 8000000 in
set_option maxRecDepth 100000 in
theorem lawSymbols (W : World) (n : Int) :
    Calls Try.prog 6 #[.int .i64 n] W fun e w' => e = .returned (.bool true) ∧ Below W.heap.size W w' := by
  have H1 := fun w => Lib.hid (length_any w n)
  have H2 := fun w => Lib.hid (refLength_any w n)
  have H3 := fun w => Lib.hid (distance_any w n)
  have H4 := fun w => Lib.hid (refDistance_any w n)
  have H5 := fun w => Lib.hid (baseLength_any w n)
  have H6 := fun w => Lib.hid (refBaseLength_any w n)
  have H7 := fun w => Lib.hid (baseDistance_any w n)
  have H8 := fun w => Lib.hid (refBaseDistance_any w n)
  have HK := fun w => Lib.hid (knows_any w)
  generalize lenS n = r1 at *
  generalize distS n = r2 at *
  generalize lenB n = r3 at *
  generalize distB n = r4 at *
  obtain ⟨a, b, c⟩ := r1
  obtain ⟨p, q, r⟩ := r2
  obtain ⟨g, h⟩ := r3
  obtain ⟨k, l⟩ := r4
  simp only at H1 H2 H3 H4 H5 H6 H7 H8
  go_enter Try.func6, Try.ntmps6
  go_wp2_with (first
    | (go_at_call 25; refine (H1 _).out.mono ?_; rintro e w1 ⟨rfl, t1⟩; have T1 := Lib.hid t1; clear t1)
    | (go_at_call 26; refine (H2 _).out.mono ?_; rintro e w2 ⟨rfl, rfl⟩)
    | (go_at_call 27; refine (H3 _).out.mono ?_; rintro e w3 ⟨rfl, t3⟩; have T3 := Lib.hid t3; clear t3)
    | (go_at_call 28; refine (H4 _).out.mono ?_; rintro e w4 ⟨rfl, rfl⟩)
    | (go_at_call 29; refine (H5 _).out.mono ?_; rintro e w5 ⟨rfl, t5⟩; have T5 := Lib.hid t5; clear t5)
    | (go_at_call 30; refine (H6 _).out.mono ?_; rintro e w6 ⟨rfl, rfl⟩)
    | (go_at_call 31; refine (H7 _).out.mono ?_; rintro e w7 ⟨rfl, t7⟩; have T7 := Lib.hid t7; clear t7)
    | (go_at_call 32; refine (H8 _).out.mono ?_; rintro e w8 ⟨rfl, rfl⟩)
    | (go_at_call 22; refine (HK _).out.mono ?_; rintro e w9 ⟨rfl, t9⟩; have T9 := Lib.hid t9; clear t9))
  go_ret
  have D := ((T1.out.trans T3.out).trans T5.out).trans T7.out
  exact ⟨rfl, (D.below _).trans (T9.out.mono (by rw [D.heap]; exact Nat.le_refl _))⟩

set_option maxRecDepth 100000 in
theorem liftedLzSymbols (os : Os) (started : os.Started) (H : Type) (enc : TypeId × Value → H) :
    ReturnsInHanded {} Try.checked os 6 .any (Rows.lzSymbolsSpec.pre6 enc Try.prog Try.f6 [] false) (Rows.lzSymbolsSpec.post enc Try.prog Try.f6 false true false false) := by
  have wit : ∃ (w : World) (tape : Tape) (i : Input), w.os = os ∧ (w.forCall tape i).Shaped Try.checked.prog ∧ i.vars = [] ∧ Input.okWide Try.checked.prog (w.forCall tape i) .any w.heap.size 6 i ∧
      Rows.lzSymbolsSpec.pre6 enc Try.checked.prog Try.f6 [] false (w.forCall tape i).memory i.args ∧ ({} : Assume).holds Try.checked.prog (lone (Frame.enter Try.checked.prog 6 i.args .normal) [] (w.forCall tape i)) := by
    obtain ⟨w, tape, i, h1, h2, h3, h4, ⟨⟨h5, -⟩, h6⟩, h7⟩ := ChangeSpec.witness_shaped (enc := enc) (C := Try.checked) (os := os) (f := 6) (fn := Try.f6) (s := Rows.lzSymbolsSpec) (conds := []) (apart := false) (X := fun _ _ => True) false (World.laidAll Try.prog os []) #[.int .i64 0] 8 (World.laidAll_os _ _ _)
      (World.shaped_of_ZipB (by kernel_rfl) (by kernel_rfl)) (by kernel_rfl) (by kernel_rfl) (by kernel_rfl) trivial
    exact ⟨w, tape, i, h1, h2, h3, h4, ⟨h5, h6⟩, h7⟩
  refine returnsInHanded_of_change_sized (C := Try.checked) Cls.own started (by kernel_rfl) Try.func6 wit ?_
  intro W base args ds gs before hval0 hW _ hsz _
  have hval : ∀ (j : Nat) t v, Try.f6.params[j]? = some t → args[j]? = some v → Value.okWide Try.prog W .any base t v := hval0
  have hW' := hW
  obtain ⟨p, q, hA0, hV, rfl, _, _⟩ := hW
  have hA : DataW.TrodAll enc Try.prog W 0 (fun _ => true) true Try.f6.params.toList args.toList ds p := hA0
  obtain ⟨rfl, rfl⟩ := trodVars_none hV
  have hlt : ∀ x ∈ p, x.block < W.heap.size := fun x hx => hW'.lt x (by simpa using hx)
  have fin : ∀ W', Below W.heap.size W W' → (Rows.lzSymbolsSpec.fn H (ds ++ [])).results = [.lit (.bool true)] → (Rows.lzSymbolsSpec.fn H (ds ++ [])).args = ds → (Rows.lzSymbolsSpec.fn H (ds ++ [])).vars = [] → Rows.lzSymbolsSpec.post enc Try.prog Try.f6 false true false false W args (.bool true) W' := by
    intro W' hb h1 h2 h3
    refine ⟨ds, [], _, [], p, [], hW', ?_, ?_, ?_, hb.frame _, fun h => by cases h⟩
    · rw [h1]; exact trodAll_mk1 (shut_bool Try.underlying4 _)
    · rw [h2]; exact Cls.trodAll_below Cls.laidOut hb _ _ _ _ hA (Cls.readable _ (by kernel_rfl)) hlt
    · rw [h3]; rfl
  rw [Try.params6] at hA hval
  obtain ⟨v0, d0, rfl, rfl, h0⟩ := trodAll_one hA
  obtain ⟨n, rfl, rfl, rfl, _⟩ := open_int Try.underlying3 (hval 0 3 v0 rfl rfl) h0
  refine (lawSymbols W n).mono fun e W' ⟨he, hb⟩ => ?_
  subst he
  exact ⟨_, rfl, fin W' hb rfl rfl rfl⟩

theorem saidLzSymbols : Rows.LzSymbolsSaid :=
  OpenClaim.holds_of_wide 6 Try.f6 rfl rfl rfl rfl rfl rfl rfl ⟨rfl, rfl, rfl, rfl, rfl⟩ rfl rfl rfl rfl rfl (by kernel_rfl) Try.func6 (by kernel_rfl)
    (of_decide_eq_true (by kernel_rfl)) (by unfold Func.isWrapper; first | (rw [if_pos (by decide +kernel)]; kernel_rfl) | (rw [if_neg (by decide +kernel)]; exact ⟨rfl, rfl⟩))
    (fun os started H enc _ => liftedLzSymbols os started H enc)
end Go.Proofs.Ytenkbmkecgnfmaa.Lz
namespace Go.Proofs.Ytenkbmkecgnfmaa
open Go

theorem lzSymbols_holds : Rows.LzSymbolsSaid := Lz.saidLzSymbols
end Go.Proofs.Ytenkbmkecgnfmaa
