/- The statement LzExpands: Expand answers as the document's own does, and leaves what it was given as it was. -/
import Derived.Test.YtenkbmkecgnfmaaLzEr
import Derived.Test.YtenkbmkecgnfmaaLzU
import Derived.Test.YtenkbmkecgnfmaaLzQ
import Derived.BigRegion
import Derived.Deep.RegionLaw
namespace Go.Proofs.Ytenkbmkecgnfmaa.Lz
open Go.RowKit Go.Shelf Go.Lib Go.Proofs.Ytenkbmkecgnfmaa.Mem Go.Proofs.Ytenkbmkecgnfmaa.Huf
open Go.ChangeShapes Go.WideShapes Go.ChangeAt

set_option maxHeartbeats 8000000 in
set_option maxRecDepth 100000 in
theorem lawExpands (W : World) (ao : Option Addr) (c : Nat) (ps : List Pc) (m : Int) (hs : SrcP W (.slice ao ps.length c) ps) (hok : ∀ p ∈ ps, okPc p) (hl : ps.length ≤ 5864062014800) :
    Calls Try.prog 5 #[.slice ao ps.length c, .int .i64 m] W fun e w' => e = .returned (.bool true) ∧ Below W.heap.size W w' := by
  have HX : Aside (SrcP W (.slice ao ps.length c) ps) := hs
  have HA : Aside (0 < ps.length → ∃ a, ao = some a) := by
    obtain ⟨ao', c', e, h⟩ := hs.shape
    cases e
    exact h
  have HN := fun n w => Lib.hid (num_any n w)
  have HK := fun w => Lib.hid (knows_any w)
  have HE := fun w v h => Lib.hid (expand_any w v ps m h hok (by omega))
  have HR := fun w v h => Lib.hid (refExpand_any w v ps m h (by omega))
  have HS := fun w v1 v2 h1 h2 => Lib.hid (same_eq w v1 v2 ps h1 h2 (by omega))
  clear hs hok
  go_enter Try.func5, Try.ntmps5
  go_upto_region 3 with fail
  go_loopg [5, 6] ps.length (fun kx s5 s6 wr => ∃ (i : Nat) (u : Value), u = s5 ∧ s6 = .int .i64 i ∧ i ≤ ps.length ∧ ps.length - i ≤ kx ∧ Aside (wr.ownsRow W.heap.size 45 3 u (ps.take i).length (pcsCells (ps.take i)) ∧ Below W.heap.size W wr))
  case atStart => exact ⟨0, _, rfl, rfl, Nat.zero_le _, Nat.le_refl _, ⟨rfl, .inl ⟨rfl, rfl⟩⟩, Below.refl _ _⟩
  case round =>
    obtain ⟨i, u, rfl, rfl, hi, hkx, HQ⟩ := hrel
    by_cases hlt : i < ps.length
    · have hltz : (i : Int) < (ps.length : Int) := by omega
      have i0 : (0 : Int) ≤ (i : Int) := by omega
      have wi : IntKind.i64.wrap ((i : Int) + 1) = (i : Int) + 1 := by rw [IntKind.wrap_i64]; omega
      obtain ⟨a, rfl⟩ := HA.out (by omega)
      obtain ⟨r1, r2⟩ := HQ.out
      have hD : Drew wr wr.drew := ⟨rfl, rfl, rfl, rfl⟩
      obtain ⟨c1, c2, c3⟩ := srcp_cells (HX.out.below r2) i hlt
      have htk : ps.take (i + 1) = ps.take i ++ [ps[i]] := List.take_succ_eq_append_getElem hlt
      have hlen : (ps.take i).length = i := by rw [List.length_take]; omega
      generalize ps[i] = q at *
      obtain ⟨l, di, y⟩ := q
      simp only at c1 c2 c3
      obtain ⟨v', W', q1, q2, q3, q4, q5⟩ := push_pc Try.underlying34 info_pc wr.drew W.heap.size _ (ps.take i) ⟨l, di, y⟩ (own_below r1 (hD.below _)) (show W.heap.size ≤ wr.heap.size from r2.size) (by omega)
      have HE : Aside (W'.ownsRow W.heap.size 45 3 v' (ps.take (i + 1)).length (pcsCells (ps.take (i + 1))) ∧ Below W.heap.size W W') := by
        rw [htk]
        exact ⟨q2, r2.trans ((hD.below _).trans q3)⟩
      simp only at q1
      clear r1 r2 q2 q3 q4 q5 htk HQ hD
      have C1 : ∀ m, (wr.drewN m).cell? (a.add (i * 3)) = some (.int .i64 l) := fun m => c1
      have C2 : ∀ m, (wr.drewN m).cell? ⟨(a.add (i * 3)).block, (a.add (i * 3)).off + 1, none⟩ = some (.int .i64 di) := fun m => c2
      have C3 : ∀ m, (wr.drewN m).cell? ⟨(a.add (i * 3)).block, (a.add (i * 3)).off + 2, none⟩ = some (.int .u8 (y.toNat : Int)) := fun m => c3
      have D1 : wr.drew.cell? (a.add (i * 3)) = some (.int .i64 l) := c1
      have D2 : wr.drew.cell? ⟨(a.add (i * 3)).block, (a.add (i * 3)).off + 1, none⟩ = some (.int .i64 di) := c2
      have D3 : wr.drew.cell? ⟨(a.add (i * 3)).block, (a.add (i * 3)).off + 2, none⟩ = some (.int .u8 (y.toNat : Int)) := c3
      go_wp2_with fail
      go_region_law (refine step_append_run rfl _ _ _ _ rfl _ _ rfl rfl _ _ q1 ?_)
      all_goals
        go_wp2_with fail
        go_roundg (ps.length - (i + 1))
        case measure => omega
        case rel => exact ⟨i + 1, v', rfl, by go_num, by omega, Nat.le_refl _, HE.out⟩
    · obtain rfl : i = ps.length := by omega
      have hltz : ¬ (ps.length : Int) < (ps.length : Int) := by omega
      have HQ2 : Aside (SrcP wr u ps ∧ Below W.heap.size W wr) := by
        obtain ⟨r1, r2⟩ := HQ.out
        rw [List.take_length] at r1
        exact ⟨SrcP.of_own r1 rfl, r2⟩
      have HE1 := HE wr u HQ2.out.1
      clear HE HQ
      go_upto_region 7 with (go_at_call 23; refine HE1.out.mono ?_; rintro e w5 ⟨v5, rfl, ho5, hb5⟩)
      have H5 : Aside (w5.ownsRow wr.heap.size 5 1 v5 (expandR ps m).1.length (bVs (expandR ps m).1) ∧ Below wr.heap.size wr w5) := ⟨ho5, hb5⟩
      have HR1 := HR w5 _ (HX.out.below (HQ2.out.2.trans (hb5.mono HQ2.out.2.size)))
      clear ho5 hb5 HR
      go_upto_region 8 with (go_at_call 24; refine HR1.out.mono ?_; rintro e w6 ⟨v6, rfl, ho6, hb6⟩)
      have hb56 : Below wr.heap.size wr w6 := H5.out.2.trans (hb6.mono H5.out.2.size)
      have hbW : Below W.heap.size W w6 := HQ2.out.2.trans (hb56.mono HQ2.out.2.size)
      have s1 : (convert 32 9 v5).run Try.prog w6 = .ok (.string ⟨(expandR ps m).1.toArray⟩) w6 := conv_src _ _ _ (Src.of_own (own_below H5.out.1 hb6) rfl)
      have s2 : (convert 32 9 v6).run Try.prog w6 = .ok (.string ⟨(expandR ps m).1.toArray⟩) w6 := conv_src _ _ _ (Src.of_own ho6 rfl)
      have HS1 := HS w6 u (.slice ao ps.length c) (HQ2.out.1.below hb56) (HX.out.below hbW)
      have HB6 : Aside (Below W.heap.size W w6) := hbW
      clear ho6 hb6 hb56 hbW HS
      generalize (⟨(expandR ps m).1.toArray⟩ : ByteArray) = str at s1 s2
      generalize (expandR ps m).2 = er at *
      have heq : (er == er) = true := by rw [beq_iff_eq]
      go_wp2_with (first
        | (go_at_call 20; refine (HN _ _).out.mono ?_; rintro e w7 ⟨rfl, rfl⟩)
        | (go_at_call 19; refine HS1.out.mono ?_; rintro e w8 ⟨rfl, hd8⟩)
        | (go_at_call 22; refine (HK _).out.mono ?_; rintro e w9 ⟨rfl, hb9⟩))
      go_ret
      have hb68 := HB6.out.trans (hd8.below _)
      exact ⟨rfl, hb68.trans (hb9.mono hb68.size)⟩

set_option maxRecDepth 100000 in
theorem liftedLzExpands (os : Os) (started : os.Started) (H : Type) (enc : TypeId × Value → H) :
    ReturnsInHanded {} Try.checked os 5 .any (Rows.lzExpandsSpec.pre6 enc Try.prog Try.f5 [] false) (Rows.lzExpandsSpec.post enc Try.prog Try.f5 false true false false) := by
  have wit : ∃ (w : World) (tape : Tape) (i : Input), w.os = os ∧ (w.forCall tape i).Shaped Try.checked.prog ∧ i.vars = [] ∧ Input.okWide Try.checked.prog (w.forCall tape i) .any w.heap.size 5 i ∧
      Rows.lzExpandsSpec.pre6 enc Try.checked.prog Try.f5 [] false (w.forCall tape i).memory i.args ∧ ({} : Assume).holds Try.checked.prog (lone (Frame.enter Try.checked.prog 5 i.args .normal) [] (w.forCall tape i)) := by
    obtain ⟨w, tape, i, h1, h2, h3, h4, ⟨⟨h5, -⟩, h6⟩, h7⟩ := ChangeSpec.witness_shaped (enc := enc) (C := Try.checked) (os := os) (f := 5) (fn := Try.f5) (s := Rows.lzExpandsSpec) (conds := []) (apart := false) (X := fun _ _ => True) false (World.laidAll Try.prog os []) #[.slice none 0 0, .int .i64 0] 8 (World.laidAll_os _ _ _)
      (World.shaped_of_ZipB (by kernel_rfl) (by kernel_rfl)) (by kernel_rfl) (by kernel_rfl) (by kernel_rfl) trivial
    exact ⟨w, tape, i, h1, h2, h3, h4, ⟨h5, h6⟩, h7⟩
  refine returnsInHanded_of_change_sized (C := Try.checked) Cls.own started (by kernel_rfl) Try.func5 wit ?_
  intro W base args ds gs before hval0 hW _ hsz _
  have hval : ∀ (j : Nat) t v, Try.f5.params[j]? = some t → args[j]? = some v → Value.okWide Try.prog W .any base t v := hval0
  have hW' := hW
  obtain ⟨p, q, hA0, hV, rfl, _, _⟩ := hW
  have hA : DataW.TrodAll enc Try.prog W 0 (fun _ => true) true Try.f5.params.toList args.toList ds p := hA0
  obtain ⟨rfl, rfl⟩ := trodVars_none hV
  have hlt : ∀ x ∈ p, x.block < W.heap.size := fun x hx => hW'.lt x (by simpa using hx)
  have fin : ∀ W', Below W.heap.size W W' → (Rows.lzExpandsSpec.fn H (ds ++ [])).results = [.lit (.bool true)] → (Rows.lzExpandsSpec.fn H (ds ++ [])).args = ds → (Rows.lzExpandsSpec.fn H (ds ++ [])).vars = [] → Rows.lzExpandsSpec.post enc Try.prog Try.f5 false true false false W args (.bool true) W' := by
    intro W' hb h1 h2 h3
    refine ⟨ds, [], _, [], p, [], hW', ?_, ?_, ?_, hb.frame _, fun h => by cases h⟩
    · rw [h1]; exact trodAll_mk1 (shut_bool Try.underlying4 _)
    · rw [h2]; exact Cls.trodAll_below Cls.laidOut hb _ _ _ _ hA (Cls.readable _ (by kernel_rfl)) hlt
    · rw [h3]; rfl
  rw [Try.params5] at hA hval
  obtain ⟨v0, v1, d0, d1, p0, p1, rfl, rfl, rfl, ⟨m0, h0⟩, h1⟩ := trodAll_two hA
  obtain ⟨a0, l0, c0, rfl⟩ := okWide_slice Try.underlying37 (hval 0 _ v0 rfl rfl)
  obtain ⟨ab, ps, cb, e0, hs, hok, hw0⟩ := pcs_of_trod h0
  have hl := hw0 _ (reach_of hsz (j := 0) rfl rfl)
  obtain ⟨n, rfl, rfl, rfl, _⟩ := open_int Try.underlying3 (hval 1 3 v1 rfl rfl) h1
  simp only [Value.cells, List.cons.injEq, and_true] at e0
  rw [e0] at fin ⊢
  refine (lawExpands W ab cb ps n hs hok (by omega)).mono fun e W' ⟨he, hb⟩ => ?_
  subst he
  exact ⟨_, rfl, fin W' hb rfl rfl rfl⟩

theorem saidLzExpands : Rows.LzExpandsSaid :=
  OpenClaim.holds_of_wide 5 Try.f5 rfl rfl rfl rfl rfl rfl rfl ⟨rfl, rfl, rfl, rfl, rfl⟩ rfl rfl rfl rfl rfl (by kernel_rfl) Try.func5 (by kernel_rfl)
    (of_decide_eq_true (by kernel_rfl)) (by unfold Func.isWrapper; first | (rw [if_pos (by decide +kernel)]; kernel_rfl) | (rw [if_neg (by decide +kernel)]; exact ⟨rfl, rfl⟩))
    (fun os started H enc _ => liftedLzExpands os started H enc)
end Go.Proofs.Ytenkbmkecgnfmaa.Lz
namespace Go.Proofs.Ytenkbmkecgnfmaa
open Go

theorem lzExpands_holds : Rows.LzExpandsSaid := Lz.saidLzExpands
end Go.Proofs.Ytenkbmkecgnfmaa
