/- The statement DeflateFlushed, on its card: a stream that is flushed behind each write: what came so far, with an end, is what was written; closed, all of it; a closed stream says so: for any rows of bytes and any level, the three listed variables as the program's text lays them. -/
import Derived.Test.YthmbbpfgbpacnaaGreatDoorPmLawDFl
import Derived.Test.YthmbbpfgbpacnaaGreatDoorPmSrtH
import Derived.Test.YthmbbpfgbpacnaaGreatDoorCards
import Derived.Test.YthmbbpfgbpacnaaGreatDoorTie
import Derived.ProofKit
import Derived.Lay
import Derived.LaidOnce
import Derived.SevenTiedAt
namespace Go.Proofs.YthmbbpfgbpacnaaGreatDoor.Def
open Go.RowKit Go.Shelf Go.Lib Mem Bit Huf Lz Inf
open Go.ChangeShapes Go.WideShapes Go.ChangeAt
set_option maxRecDepth 100000 in
theorem liftedDeflateFlushed (os : Os) (started : os.Started) (H : Type) (enc : TypeId × Value -> H) :
  ReturnsInHanded {} Tryz.checked os 6 .any (fun w args => (Rows.deflateFlushedSpec.pre enc Tryz.prog Tryz.f6 [] false w args /\ laidMetH Tryz.prog Rows.deflateFlushedRow.laid w) /\ sizedMet enc Tryz.prog Tryz.f6 (OpenSpec.ofChange Rows.deflateFlushedSpec) false w args)
   (Rows.deflateFlushedSpec.post enc Tryz.prog Tryz.f6 false true false false) := by
 refine returnsInHanded_of_change_and (C := Tryz.checked) (X := fun w _ => laidMetH Tryz.prog Rows.deflateFlushedRow.laid w) (fun _ _ _ hh h => h.of_heap hh) Cls.own started (by kernel_rfl) Tryz.func6
  (ChangeSpec.witness_shaped (enc := enc) (C := Tryz.checked) (os := os) (X := fun w _ => laidMetH Tryz.prog Rows.deflateFlushedRow.laid w) false (World.laidAll Tryz.prog os Rows.deflateFlushedRow.laid) #[.int .i64 0, .slice none 0 0] 8 (World.laidAll_os _ _ _)
   (World.shaped_of_ZipB (by kernel_rfl) (by kernel_rfl)) (by kernel_rfl) (by kernel_rfl) (by kernel_rfl)
   (by rw [MakeChecks.laidMetH_plain _ _ _ (by kernel_rfl)]; exact laidMet_laidAll _ (by kernel_rfl) (by kernel_rfl))) ?_
 intro W base args ds gs before hval0 hW _ hsz hL _
 have hval : ∀ (j : Nat) t v, Tryz.f6.params[j]? = some t -> args[j]? = some v -> Value.okWide Tryz.prog W .any base t v := hval0
 have hW' := hW
 obtain ⟨p, q, hA0, hV, rfl, _, _⟩ := hW
 have hA : DataW.TrodAll enc Tryz.prog W 0 (fun _ => true) true Tryz.f6.params.toList args.toList ds p := hA0
 obtain ⟨rfl, rfl⟩ := trodVars_none hV
 rw [MakeChecks.laidMetH_plain _ _ _ (by kernel_rfl)] at hL
 have hlt : ∀ x ∈ p, x.block < W.heap.size := fun x hx => hW'.lt x (by simpa using hx)
 have fin : ∀ W', Below W.heap.size W W' -> (Rows.deflateFlushedSpec.fn H (ds ++ [])).results = [.lit (.bool true)] -> (Rows.deflateFlushedSpec.fn H (ds ++ [])).args = ds -> (Rows.deflateFlushedSpec.fn H (ds ++ [])).vars = [] -> Rows.deflateFlushedSpec.post enc Tryz.prog Tryz.f6 false true false false W args (.bool true) W' := by
  intro W' hb h1 h2 h3
  refine ⟨ds, [], _, [], p, [], hW', ?_, ?_, ?_, hb.frame _, fun h => by cases h⟩
  ·rw [h1]; exact trodAll_mk1 (shut_bool Tryz.underlying4 _)
  ·rw [h2]; exact Cls.trodAll_below Cls.laidOut hb _ _ _ _ hA (Cls.readable _ (by kernel_rfl)) hlt
  ·rw [h3]; rfl
 rw [Tryz.params6] at hA hval
 obtain ⟨v0, v1, d0, d1, p0, p1, rfl, rfl, rfl, h0, ⟨m1, h1⟩⟩ := trodAll_two hA
 obtain ⟨z, rfl, rfl, rfl, _⟩ := open_int Tryz.underlying3 (hval 0 3 v0 rfl rfl) h0
 obtain ⟨a1, l1, c1, rfl⟩ := okWide_slice Tryz.underlying48 (hval 1 _ v1 rfl rfl)
 obtain ⟨ab, os, cb, e0, hs, hnl⟩ := rowsF_of_trod h1 (Go.Proofs.YthmbbpfgbpacnaaGreatDoor.Bit.reach_of hsz (j := 1) rfl rfl)
 simp only [Value.cells, List.cons.injEq, and_true] at e0
 rw [e0] at fin ⊢
 refine (lawDFlushed W ab cb z os hs hnl (laid_of3 W hL).1 (laid_of3 W hL).2.1 (laid_of3 W hL).2.2).mono fun e W' ⟨he, hb⟩ => ?_
 subst he
 exact ⟨_, rfl, fin W' hb rfl rfl rfl⟩
theorem saidDeflateFlushed : Rows.DeflateFlushedSaid :=
 OpenClaim.holds_of_wide 6 Tryz.f6 rfl rfl rfl rfl rfl rfl rfl ⟨rfl, rfl, rfl, rfl, rfl⟩ rfl rfl rfl rfl rfl (by kernel_rfl) Tryz.func6 (by kernel_rfl)
  (of_decide_eq_true (by kernel_rfl)) (by unfold Func.isWrapper; first | (rw [if_pos (by decide +kernel)]; kernel_rfl) | (rw [if_neg (by decide +kernel)]; exact ⟨rfl, rfl⟩))
  (fun os started H enc _ => liftedDeflateFlushed os started H enc)
end Go.Proofs.YthmbbpfgbpacnaaGreatDoor.Def
namespace Go.Proofs.YthmbbpfgbpacnaaGreatDoor
open Go
theorem deflateFlushed_holds : Rows.DeflateFlushedCardSaid :=
 Claim7.holds_tied_plain_at .later [] _ _ _ _ Def.saidDeflateFlushed (fun _ h => by cases h) (by kernel_rfl) (fun _ h => by cases h) deflateFlushed_row_tie rfl ⟨rfl, rfl⟩ (by kernel_rfl) rfl
  (fun f fn hf hfn => by
   obtain rfl : f = 6 := Option.some.inj ((show Tryz.prog.funcNamed "gatehouse/gatehouselaw06.DeflateFlushed" = some 6 by kernel_rfl).symm.trans hf) |>.symm
   obtain rfl : fn = Tryz.f6 := (Option.some.inj (Tryz.func6.symm.trans hfn)).symm
   exact ⟨by kernel_rfl, fun j t ht => by
    rw [Tryz.params6] at ht
    have hm : t ∈ [3, 48] := by simpa using Array.mem_of_getElem? ht
    have hall : ([3, 48].all fun u => !Tryz.prog.wantsStandIn u) = true := by kernel_rfl
    exact (show Tryz.prog.wantsStandIn t = false by simpa using List.all_eq_true.1 hall t hm)⟩)
  (by kernel_rfl)
end Go.Proofs.YthmbbpfgbpacnaaGreatDoor
