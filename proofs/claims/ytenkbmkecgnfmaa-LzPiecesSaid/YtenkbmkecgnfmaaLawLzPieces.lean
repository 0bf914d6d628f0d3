/- The statement LzPieces: any text is cut into bytes and copies as the document says. -/
import Derived.Test.YtenkbmkecgnfmaaLzQ
import Derived.Test.YtenkbmkecgnfmaaLzL
import Derived.Test.YtenkbmkecgnfmaaLzU
import Derived.Test.YtenkbmkecgnfmaaLzY
import Derived.Test.YtenkbmkecgnfmaaLzZ
namespace Go.Proofs.Ytenkbmkecgnfmaa.Lz
open Go.RowKit Go.Shelf Go.Lib Go.Proofs.Ytenkbmkecgnfmaa.Mem Go.Proofs.Ytenkbmkecgnfmaa.Huf
open Go.ChangeShapes Go.WideShapes Go.ChangeAt

theorem piecesR_len (b : List UInt8) (window depth : Int) : (piecesR b window depth).1.length ≤ 1048576 := by
  unfold piecesR
  split
  · simp
  · split
    · simp
    · have := pcs_len b window.toNat depth.toNat b.length 0 (by omega)
      simp only
      omega

set_option maxHeartbeats 8000000 in
set_option maxRecDepth 100000 in
theorem lawPieces (W : World) (ao : Option Addr) (c : Nat) (b : List UInt8) (window depth : Int) (hs : Src W (.slice ao b.length c) b) (hl : b.length ≤ 140737488355326) :
    Calls Try.prog 4 #[.slice ao b.length c, .int .i64 window, .int .i64 depth] W fun e w' => e = .returned (.bool true) ∧ Below W.heap.size W w' := by
  have HS : Aside (Src W (.slice ao b.length c) b) := hs
  have HL := Lib.hid (lent_any W b.length c ao b hs rfl hl)
  have HN := fun n w => Lib.hid (num_any n w)
  have HK := fun w => Lib.hid (knows_any w)
  have HP := fun w k cap h1 h2 => Lib.hid (pieces_any w (some ⟨k, 0, none⟩) cap b window depth h1 h2)
  have HR := fun w h => Lib.hid (refPieces_any w ao c b window depth h)
  have hbd := piecesR_len b window depth
  generalize piecesR b window depth = r at *
  obtain ⟨xs, er⟩ := r
  simp only at hbd HP HR
  clear hs
  go_enter Try.func4, Try.ntmps4
  go_upto_region 2 with (go_at_call 16; refine HL.out.mono ?_; rintro e w1 ⟨k, cap, rfl, hcap, ho1, hb1⟩)
  have HP1 := HP w1 k cap (lent_src ho1) (by omega)
  have HO1 : Aside (w1.ownsRow W.heap.size 5 1 (.slice (some ⟨k, 0, none⟩) (b.length + 2) cap) (b.length + 2) (bVs (b ++ [201, 202])) ∧ Below W.heap.size W w1) := ⟨ho1, hb1⟩
  clear ho1 hb1 HP HL
  go_upto_region 3 with (go_at_call 17; refine HP1.out.mono ?_; rintro e w2 ⟨v2, rfl, ho2, hb2⟩)
  have HR2 := HR w2 (HS.out.below (HO1.out.2.trans (hb2.mono HO1.out.2.size)))
  have HO2 : Aside (w2.ownsRow w1.heap.size 45 3 v2 xs.length (pcsCells xs) ∧ Below w1.heap.size w1 w2) := ⟨ho2, hb2⟩
  clear ho2 hb2 HR HP1
  go_upto_region 4 with (go_at_call 18; refine HR2.out.mono ?_; rintro e w3 ⟨v3, rfl, ho3, hb3⟩)
  have HB3 : Aside (Below W.heap.size W w3) := (HO1.out.2.trans (HO2.out.2.mono HO1.out.2.size)).trans (hb3.mono (HO1.out.2.trans (HO2.out.2.mono HO1.out.2.size)).size)
  have HSM := Lib.hid (same_eq w3 v2 v3 xs (SrcP.of_own (own_below HO2.out.1 hb3) rfl) (SrcP.of_own ho3 rfl) (by omega))
  have HST := fun w (hd : Drew w3 w) => Lib.hid (stays_any w W.heap.size k cap c ao b (HS.out.below (HB3.out.trans (hd.below _))) (own_below (own_below (own_below HO1.out.1 HO2.out.2) hb3) (hd.below _)) hcap hl)
  have heq : (er == er) = true := by simp
  clear ho3 hb3 HR2
  go_wp2_with (first
    | (go_at_call 19; refine HSM.out.mono ?_; rintro e w4 ⟨rfl, hd4⟩; have HD4 : Aside (Drew w3 w4) := hd4; have HST4 := HST w4 hd4; clear hd4)
    | (go_at_call 20; refine (HN _ _).out.mono ?_; rintro e w5 ⟨rfl, rfl⟩)
    | (go_at_call 21; refine HST4.out.mono ?_; rintro e w6 ⟨rfl, n6, rfl⟩)
    | (go_at_call 22; refine (HK _).out.mono ?_; rintro e w7 ⟨rfl, hb7⟩))
  go_ret
  have D := HD4.out.trans (Drew.drewN w4 n6)
  exact ⟨rfl, HB3.out.trans ((D.below _).trans (hb7.mono (by rw [D.heap]; exact HB3.out.size)))⟩

set_option maxRecDepth 100000 in
theorem liftedLzPieces (os : Os) (started : os.Started) (H : Type) (enc : TypeId × Value → H) :
    ReturnsInHanded {} Try.checked os 4 .any (Rows.lzPiecesSpec.pre6 enc Try.prog Try.f4 [] false) (Rows.lzPiecesSpec.post enc Try.prog Try.f4 false true false false) := by
  have wit : ∃ (w : World) (tape : Tape) (i : Input), w.os = os ∧ (w.forCall tape i).Shaped Try.checked.prog ∧ i.vars = [] ∧ Input.okWide Try.checked.prog (w.forCall tape i) .any w.heap.size 4 i ∧
      Rows.lzPiecesSpec.pre6 enc Try.checked.prog Try.f4 [] false (w.forCall tape i).memory i.args ∧ ({} : Assume).holds Try.checked.prog (lone (Frame.enter Try.checked.prog 4 i.args .normal) [] (w.forCall tape i)) := by
    obtain ⟨w, tape, i, h1, h2, h3, h4, ⟨⟨h5, -⟩, h6⟩, h7⟩ := ChangeSpec.witness_shaped (enc := enc) (C := Try.checked) (os := os) (f := 4) (fn := Try.f4) (s := Rows.lzPiecesSpec) (conds := []) (apart := false) (X := fun _ _ => True) false (World.laidAll Try.prog os []) #[.slice none 0 0, .int .i64 0, .int .i64 0] 8 (World.laidAll_os _ _ _)
      (World.shaped_of_ZipB (by kernel_rfl) (by kernel_rfl)) (by kernel_rfl) (by kernel_rfl) (by kernel_rfl) trivial
    exact ⟨w, tape, i, h1, h2, h3, h4, ⟨h5, h6⟩, h7⟩
  refine returnsInHanded_of_change_sized (C := Try.checked) Cls.own started (by kernel_rfl) Try.func4 wit ?_
  intro W base args ds gs before hval0 hW _ hsz _
  have hval : ∀ (j : Nat) t v, Try.f4.params[j]? = some t → args[j]? = some v → Value.okWide Try.prog W .any base t v := hval0
  have hW' := hW
  obtain ⟨p, q, hA0, hV, rfl, _, _⟩ := hW
  have hA : DataW.TrodAll enc Try.prog W 0 (fun _ => true) true Try.f4.params.toList args.toList ds p := hA0
  obtain ⟨rfl, rfl⟩ := trodVars_none hV
  have hlt : ∀ x ∈ p, x.block < W.heap.size := fun x hx => hW'.lt x (by simpa using hx)
  have fin : ∀ W', Below W.heap.size W W' → (Rows.lzPiecesSpec.fn H (ds ++ [])).results = [.lit (.bool true)] → (Rows.lzPiecesSpec.fn H (ds ++ [])).args = ds → (Rows.lzPiecesSpec.fn H (ds ++ [])).vars = [] → Rows.lzPiecesSpec.post enc Try.prog Try.f4 false true false false W args (.bool true) W' := by
    intro W' hb h1 h2 h3
    refine ⟨ds, [], _, [], p, [], hW', ?_, ?_, ?_, hb.frame _, fun h => by cases h⟩
    · rw [h1]; exact trodAll_mk1 (shut_bool Try.underlying4 _)
    · rw [h2]; exact Cls.trodAll_below Cls.laidOut hb _ _ _ _ hA (Cls.readable _ (by kernel_rfl)) hlt
    · rw [h3]; rfl
  rw [Try.params4] at hA hval
  obtain ⟨v0, v1, v2, d0, d1, d2, p0, p1, p2, rfl, rfl, rfl, ⟨m0, h0⟩, h1, h2⟩ := trodAll_three hA
  obtain ⟨a0, l0, c0, rfl⟩ := okWide_slice Try.underlying32 (hval 0 _ v0 rfl rfl)
  obtain ⟨ab, bs, cb, e0, hs, -, hw0⟩ := bytes_of_trod h0
  have hl := hw0 _ (reach_of hsz (j := 0) rfl rfl)
  obtain ⟨n, rfl, rfl, rfl, _⟩ := open_int Try.underlying3 (hval 1 3 v1 rfl rfl) h1
  obtain ⟨x, rfl, rfl, rfl, _⟩ := open_int Try.underlying3 (hval 2 3 v2 rfl rfl) h2
  simp only [Value.cells, List.cons.injEq, and_true] at e0
  rw [e0] at fin ⊢
  refine (lawPieces W ab cb bs n x hs (by omega)).mono fun e W' ⟨he, hb⟩ => ?_
  subst he
  exact ⟨_, rfl, fin W' hb rfl rfl rfl⟩

theorem saidLzPieces : Rows.LzPiecesSaid :=
  OpenClaim.holds_of_wide 4 Try.f4 rfl rfl rfl rfl rfl rfl rfl ⟨rfl, rfl, rfl, rfl, rfl⟩ rfl rfl rfl rfl rfl (by kernel_rfl) Try.func4 (by kernel_rfl)
    (of_decide_eq_true (by kernel_rfl)) (by unfold Func.isWrapper; first | (rw [if_pos (by decide +kernel)]; kernel_rfl) | (rw [if_neg (by decide +kernel)]; exact ⟨rfl, rfl⟩))
    (fun os started H enc _ => liftedLzPieces os started H enc)
end Go.Proofs.Ytenkbmkecgnfmaa.Lz
namespace Go.Proofs.Ytenkbmkecgnfmaa
open Go

theorem lzPieces_holds : Rows.LzPiecesSaid := Lz.saidLzPieces
end Go.Proofs.Ytenkbmkecgnfmaa
