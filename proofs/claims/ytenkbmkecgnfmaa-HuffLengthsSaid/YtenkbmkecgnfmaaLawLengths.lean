/- The statement HuffLengths: the lengths are the document's own. -/
import Derived.Test.YtenkbmkecgnfmaaHufZ
import Derived.Test.YtenkbmkecgnfmaaHRefR
namespace Go.Proofs.Ytenkbmkecgnfmaa.Huf
open Go.RowKit Go.Shelf Go.Lib Go.Proofs.Ytenkbmkecgnfmaa.Mem
open Go.ChangeShapes Go.WideShapes Go.ChangeAt

/-- '[]int{}'. -/
theorem build_none (w : World) : (Instr.buildSlice 22 0 #[]).run Try.prog w = .ok (.slice (some ⟨w.heap.size, 0, none⟩) 0 0) (w.alloc (.cells #[] 3)) := by
  obtain ⟨i0, hi, hz0, hz1, hz2⟩ := info_parts info3
  simp [Instr.buildSlice, run_underlying Try.underlying22, sizeOf, typeInfo, hi, newRow, Instr.fill]
  rw [show Array.range 0 = #[] from Array.eq_empty_of_size_eq_zero (by simp), Array.map_empty]
theorem step_none {o : Oper} {a : Act} {w : World} {K : Act → World → Prop} {Q : Exit → Act → World → Prop} (ho : o.op = .buildSlice 22 0 #[])
    (h : K (a.put o.dst (.slice (some ⟨w.heap.size, 0, none⟩) 0 0)) (w.alloc (.cells #[] 3))) : o.wp Try.prog a w K Q := by
  unfold Oper.wp execOp
  have hb := build_none w
  simp only [ho, Sem.run_bind, Array.map_empty, hb, Result.andThen_ok]
  exact h
/-- 'append([]int{}, v...)'. -/
theorem fresh_any (W : World) (v : Value) (l : List Int) (hs : SrcI W v l) (hl : l.length ≤ 17592186044416) :
    ∃ x W', (Builtin.append_ #[22, 22] 22 #[.slice (some ⟨W.heap.size, 0, none⟩) 0 0, v]).run Try.prog (W.alloc (.cells #[] 3)) = .ok x W' ∧ W'.ownsRow W.heap.size 3 1 x l.length (iVs l) ∧ Below W.heap.size W W' := by
  have hA := (Below.refl W.heap.size W).alloc (Nat.le_refl _) (.cells #[] 3)
  have hown : (W.alloc (.cells #[] 3)).ownsRow W.heap.size 3 1 (.slice (some ⟨W.heap.size, 0, none⟩) 0 0) ([] : List Int).length (iVs []) := World.ownsRow_made W #[] 0 (Nat.le_refl _) (Nat.zero_le _) rfl
  obtain ⟨x, W', h1, h2, h3, -⟩ := appI_any (W.alloc (.cells #[] 3)) W.heap.size _ v 22 [] l hown hA.size (hs.below hA) (by simp only [List.length_nil]; omega)
  rw [List.nil_append] at h2
  exact ⟨x, W', h1, h2, hA.trans (bel_grown hown h3 hA.size (Nat.le_refl _))⟩

set_option maxHeartbeats 8000000 in
set_option maxRecDepth 100000 in
theorem lawLengths (W : World) (v : Value) (l : List Int) (limit : Int) (hs : SrcI W v l) (hl : l.length ≤ 17592186044416) :
    Calls Try.prog 3 #[v, .int .i64 limit] W fun e w' => e = .returned (.bool true) ∧ Below W.heap.size W w' := by
  obtain ⟨x, W1, hx1, hx2, hx3⟩ := fresh_any W v l hs hl
  have hsx : SrcI W1 x l := SrcI.of_own hx2
  have HC := Lib.hid (lengths_any W1 x l limit hsx hl)
  have HK := fun w => Lib.hid (knows_any w)
  have HN := fun n w => Lib.hid (num_any n w)
  obtain ⟨r, hr⟩ : ∃ r, r = lengthsR l limit := ⟨_, rfl⟩
  have hrl : r.1.length ≤ 9223372036854775807 := by
    rw [hr]
    unfold lengthsR
    split
    · unfold lensOut
      split
      · simp only [List.length_map, List.length_range]; omega
      · simp only [List.length_map, List.length_range]; omega
    · simp
  have HRC : Aside (∀ w : World, Below W.heap.size W w → Calls Try.prog 12 #[v, .int .i64 limit] w fun e w' => ∃ u, e = .returned (.tuple #[u, .int .i64 r.2]) ∧ SrcI w' u r.1 ∧ Below w.heap.size w w') := fun w hb => by
    refine (refLengths_any w v l limit (hs.below hb)).mono ?_
    rintro e w' ⟨u, h1, h2, h3⟩
    rw [hr]
    exact ⟨u, h1, SrcI.of_own h2, h3⟩
  have HSX : Aside (∀ w : World, Below W1.heap.size W1 w → Calls Try.prog 13 #[x, v] w fun e w' => e = .returned (.bool true) ∧ Drew w w') := fun w hb =>
    same_any w x v l (hsx.below hb) ((hs.below hx3).below hb) (by omega)
  have HSR : Aside (∀ (w : World) (u1 u2 : Value), SrcI w u1 r.1 → SrcI w u2 r.1 → Calls Try.prog 13 #[u1, u2] w fun e w' => e = .returned (.bool true) ∧ Drew w w') := fun w u1 u2 h1 h2 =>
    same_any w u1 u2 r.1 h1 h2 hrl
  have HX3 : Aside (Below W.heap.size W W1) := hx3
  rw [← hr] at HC
  clear hr hrl hs hsx hx2 hx3
  obtain ⟨rl, r2⟩ := r
  go_enter Try.func3, Try.ntmps3
  go_upto_region 1 with fail
  go_step
  go_step
  refine step_none rfl ?_
  go_upto_region 2 with (at_builtin; refine Lib.wpList_append_run _ rfl _ _ _ _ rfl _ _ rfl rfl _ _ hx1 ?_)
  clear hx1
  go_wp2_with (first
    | (go_at_call 11; refine HC.out.mono ?_; rintro e w2 ⟨u, rfl, hu, hb2⟩; have hbb2 := HX3.out.trans (hb2.mono HX3.out.size))
    | (go_at_call 12; refine (HRC.out w2 hbb2).mono ?_; rintro e w3 ⟨u3, rfl, hu3, hb3⟩; have hbb3 := hb2.trans (hb3.mono hb2.size))
    | (go_at_call 13; with_reducible refine (HSR.out w3 u u3 ((SrcI.of_own hu).below hb3) hu3).mono ?_; rintro e w4 ⟨rfl, hd4⟩; have hbb4 := hbb3.trans (hd4.below _))
    | (go_at_call 14; refine (HN _ _).out.mono ?_; rintro e w5 ⟨rfl, rfl⟩)
    | (go_at_call 13; with_reducible refine (HSX.out w4 hbb4).mono ?_; rintro e w6 ⟨rfl, hd6⟩; have hbb6 := hbb4.trans (hd6.below _))
    | (go_at_call 15; refine (HK _).out.mono ?_; rintro e w7 ⟨rfl, hb7⟩))
  go_ret
  have hbb7 := hbb6.trans (hb7.mono hbb6.size)
  exact ⟨rfl, HX3.out.trans (hbb7.mono HX3.out.size)⟩

set_option maxRecDepth 100000 in
theorem liftedHuffLengths (os : Os) (started : os.Started) (H : Type) (enc : TypeId × Value → H) :
    ReturnsInHanded {} Try.checked os 3 .any (Rows.huffLengthsSpec.pre6 enc Try.prog Try.f3 [] false) (Rows.huffLengthsSpec.post enc Try.prog Try.f3 false true false false) := by
  have wit : ∃ (w : World) (tape : Tape) (i : Input), w.os = os ∧ (w.forCall tape i).Shaped Try.checked.prog ∧ i.vars = [] ∧ Input.okWide Try.checked.prog (w.forCall tape i) .any w.heap.size 3 i ∧
      Rows.huffLengthsSpec.pre6 enc Try.checked.prog Try.f3 [] false (w.forCall tape i).memory i.args ∧ ({} : Assume).holds Try.checked.prog (lone (Frame.enter Try.checked.prog 3 i.args .normal) [] (w.forCall tape i)) := by
    obtain ⟨w, tape, i, h1, h2, h3, h4, ⟨⟨h5, -⟩, h6⟩, h7⟩ := ChangeSpec.witness_shaped (enc := enc) (C := Try.checked) (os := os) (f := 3) (fn := Try.f3) (s := Rows.huffLengthsSpec) (conds := []) (apart := false) (X := fun _ _ => True) false (World.laidAll Try.prog os []) #[.slice none 0 0, .int .i64 0] 8 (World.laidAll_os _ _ _)
      (World.shaped_of_ZipB (by kernel_rfl) (by kernel_rfl)) (by kernel_rfl) (by kernel_rfl) (by kernel_rfl) trivial
    exact ⟨w, tape, i, h1, h2, h3, h4, ⟨h5, h6⟩, h7⟩
  refine returnsInHanded_of_change_sized (C := Try.checked) Cls.own started (by kernel_rfl) Try.func3 wit ?_
  intro W base args ds gs before hval0 hW _ hsz _
  have hval : ∀ (j : Nat) t v, Try.f3.params[j]? = some t → args[j]? = some v → Value.okWide Try.prog W .any base t v := hval0
  have hW' := hW
  obtain ⟨p, q, hA0, hV, rfl, _, _⟩ := hW
  have hA : DataW.TrodAll enc Try.prog W 0 (fun _ => true) true Try.f3.params.toList args.toList ds p := hA0
  obtain ⟨rfl, rfl⟩ := trodVars_none hV
  have hlt : ∀ x ∈ p, x.block < W.heap.size := fun x hx => hW'.lt x (by simpa using hx)
  have fin : ∀ W', Below W.heap.size W W' → (Rows.huffLengthsSpec.fn H (ds ++ [])).results = [.lit (.bool true)] → (Rows.huffLengthsSpec.fn H (ds ++ [])).args = ds → (Rows.huffLengthsSpec.fn H (ds ++ [])).vars = [] → Rows.huffLengthsSpec.post enc Try.prog Try.f3 false true false false W args (.bool true) W' := by
    intro W' hb h1 h2 h3
    refine ⟨ds, [], _, [], p, [], hW', ?_, ?_, ?_, hb.frame _, fun h => by cases h⟩
    · rw [h1]; exact trodAll_mk1 (shut_bool Try.underlying4 _)
    · rw [h2]; exact Cls.trodAll_below Cls.laidOut hb _ _ _ _ hA (Cls.readable _ (by kernel_rfl)) hlt
    · rw [h3]; rfl
  rw [Try.params3] at hA hval
  obtain ⟨v0, v1, d0, d1, p0, p1, rfl, rfl, rfl, ⟨m0, h0⟩, h1⟩ := trodAll_two hA
  obtain ⟨a0, l0, c0, rfl⟩ := okWide_slice Try.underlying22 (hval 0 _ v0 rfl rfl)
  obtain ⟨ao, l, c, e0, hs, -, -, hw0⟩ := ints_of_trod h0
  have hl := hw0 _ (reach_of hsz (j := 0) rfl rfl)
  obtain ⟨n, rfl, rfl, rfl, _⟩ := open_int Try.underlying3 (hval 1 3 v1 rfl rfl) h1
  simp only [Value.cells, List.cons.injEq, and_true] at e0
  rw [e0] at fin ⊢
  refine (lawLengths W _ l n hs (by omega)).mono fun e W' ⟨he, hb⟩ => ?_
  subst he
  exact ⟨_, rfl, fin W' hb rfl rfl rfl⟩

theorem saidHuffLengths : Rows.HuffLengthsSaid :=
  OpenClaim.holds_of_wide 3 Try.f3 rfl rfl rfl rfl rfl rfl rfl ⟨rfl, rfl, rfl, rfl, rfl⟩ rfl rfl rfl rfl rfl (by kernel_rfl) Try.func3 (by kernel_rfl)
    (of_decide_eq_true (by kernel_rfl)) (by unfold Func.isWrapper; first | (rw [if_pos (by decide +kernel)]; kernel_rfl) | (rw [if_neg (by decide +kernel)]; exact ⟨rfl, rfl⟩))
    (fun os started H enc _ => liftedHuffLengths os started H enc)
end Go.Proofs.Ytenkbmkecgnfmaa.Huf
namespace Go.Proofs.Ytenkbmkecgnfmaa
open Go

theorem huffLengths_holds : Rows.HuffLengthsSaid := Huf.saidHuffLengths
end Go.Proofs.Ytenkbmkecgnfmaa
