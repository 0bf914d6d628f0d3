/- A stored block: stored. Blocks of fixed and of dynamic codes: Fixed, fixed, dynamic. -/
import Derived.Test.YthmbbpfgbpacnaaDoorPkInfI
import Derived.Test.YthmbbpfgbpacnaaDoorPkBitE
namespace Go.Proofs.YthmbbpfgbpacnaaDoor.Inf
open Go.RowKit Go.Shelf Go.Lib Go.Proofs.YthmbbpfgbpacnaaDoor.Mem Go.Proofs.YthmbbpfgbpacnaaDoor.Bit Go.Proofs.YthmbbpfgbpacnaaDoor.Huf Go.Proofs.YthmbbpfgbpacnaaDoor.Lz

end Go.Proofs.YthmbbpfgbpacnaaDoor.Inf
namespace Go.Proofs.YthmbbpfgbpacnaaDoor.Inf
open Go.RowKit Go.Shelf Go.Lib Go.Proofs.YthmbbpfgbpacnaaDoor.Mem Go.Proofs.YthmbbpfgbpacnaaDoor.Bit Go.Proofs.YthmbbpfgbpacnaaDoor.Huf Go.Proofs.YthmbbpfgbpacnaaDoor.Lz

def fixN (i : Nat) : Int := if 144 ≤ i ∧ i < 256 then 9 else if 256 ≤ i ∧ i < 280 then 7 else 8
theorem fixL_eq : fixL = (List.range 288).map fixN := by decide +kernel
theorem fixL_len : fixL.length = 288 := by decide +kernel
theorem fixD_len : fixD.length = 32 := by decide +kernel
theorem fixL_fine : Fine fixL := (fine_iff _).1 (by decide +kernel)
theorem fixD_fine : Fine fixD := (fine_iff _).1 (by decide +kernel)
theorem range_snoc (i : Nat) : (List.range (i + 1)).map fixN = (List.range i).map fixN ++ [fixN i] := by rw [List.range_succ, List.map_append]; rfl

set_option maxRecDepth 100000 in
set_option maxHeartbeats 4000000 in
theorem fixedL_any (W : World) : Calls Tryd.prog 34 #[] W fun e w' => ∃ x y, e = .returned (.tuple #[x, y]) ∧ w'.ownsRow W.heap.size 3 1 x fixL.length (iVs fixL) ∧ w'.ownsRow W.heap.size 3 1 y fixD.length (iVs fixD) ∧ Below W.heap.size W w' := by
  have H0 : Aside (W.ownsRow W.heap.size 3 1 (.slice none 0 0) ((List.range 0).map fixN).length (iVs ((List.range 0).map fixN)) ∧ Below W.heap.size W W) := ⟨own_nilI W _, Below.refl _ _⟩
  go_enter Tryd.func34, Tryd.ntmps34
  go_upto_region 2 with fail
  go_loopg [0, 2, 3, 4, 7, 14] 288 (fun kx s0 s2 s3 s4 s7 s14 wr => ∃ (i : Nat) (x : Value), x = s0 ∧ s4 = .int .i64 (i : Int) ∧ i ≤ 288 ∧ 288 - i ≤ kx ∧ Aside (wr.ownsRow W.heap.size 3 1 x ((List.range i).map fixN).length (iVs ((List.range i).map fixN)) ∧ Below W.heap.size W wr))
  case atStart => exact ⟨0, _, rfl, rfl, Nat.zero_le _, Nat.le_refl _, H0.out⟩
  case round =>
    clear H0
    obtain ⟨i, x, rfl, rfl, hi, hkx, HX⟩ := hrel
    by_cases hlt : i < 288
    · have hltz : (i : Int) < 288 := by omega
      have wi : IntKind.i64.wrap ((i : Int) + 1) = (i : Int) + 1 := by rw [IntKind.wrap_i64]; omega
      obtain ⟨r1, r2⟩ := HX.out
      obtain ⟨v', W1, q1, q2, q3, q4, -, -⟩ := appI_one wr W.heap.size _ _ (fixN i) r1 r2.size (by rw [List.length_map, List.length_range]; omega)
      have HE : Aside (W1.ownsRow W.heap.size 3 1 v' ((List.range (i + 1)).map fixN).length (iVs ((List.range (i + 1)).map fixN)) ∧ Below W.heap.size W W1) := ⟨by rw [range_snoc]; exact q2, r2.trans q3⟩
      clear r1 r2 q2 q3 q4 HX
      by_cases h1 : 144 ≤ i
      · have h1z : (i : Int) ≥ 144 := by omega
        by_cases h2 : i < 256
        · have h2z : (i : Int) < 256 := by omega
          rw [show fixN i = 9 from if_pos ⟨h1, h2⟩] at q1
          go_wp2_with (at_builtin; refine Lib.wpList_append_run _ rfl _ _ _ _ rfl _ _ rfl rfl _ _ q1 ?_)
          go_roundg (288 - (i + 1))
          case measure => omega
          case rel => exact ⟨i + 1, _, rfl, by go_num, by omega, Nat.le_refl _, HE.out⟩
        · have h2z : ¬ (i : Int) < 256 := by omega
          have h2y : (i : Int) ≥ 256 := by omega
          by_cases h3 : i < 280
          · have h3z : (i : Int) < 280 := by omega
            rw [show fixN i = 7 by unfold fixN; rw [if_neg (by omega), if_pos (by omega)]] at q1
            go_wp2_with (at_builtin; refine Lib.wpList_append_run _ rfl _ _ _ _ rfl _ _ rfl rfl _ _ q1 ?_)
            go_roundg (288 - (i + 1))
            case measure => omega
            case rel => exact ⟨i + 1, _, rfl, by go_num, by omega, Nat.le_refl _, HE.out⟩
          · have h3z : ¬ (i : Int) < 280 := by omega
            rw [show fixN i = 8 by unfold fixN; rw [if_neg (by omega), if_neg (by omega)]] at q1
            go_wp2_with (at_builtin; refine Lib.wpList_append_run _ rfl _ _ _ _ rfl _ _ rfl rfl _ _ q1 ?_)
            go_roundg (288 - (i + 1))
            case measure => omega
            case rel => exact ⟨i + 1, _, rfl, by go_num, by omega, Nat.le_refl _, HE.out⟩
      · have h1z : ¬ (i : Int) ≥ 144 := by omega
        have h2z : ¬ (i : Int) ≥ 256 := by omega
        rw [show fixN i = 8 by unfold fixN; rw [if_neg (by omega), if_neg (by omega)]] at q1
        go_wp2_with (at_builtin; refine Lib.wpList_append_run _ rfl _ _ _ _ rfl _ _ rfl rfl _ _ q1 ?_)
        go_roundg (288 - (i + 1))
        case measure => omega
        case rel => exact ⟨i + 1, _, rfl, by go_num, by omega, Nat.le_refl _, HE.out⟩
    · obtain rfl : i = 288 := by omega
      obtain ⟨r1, r2⟩ := HX.out
      rw [← fixL_eq] at r1
      have hcell : (wr.alloc (.cells #[.int .i64 5] 3)).cell? ⟨wr.heap.size, 0, none⟩ = some (.int .i64 5) := by rw [Lib.cell_of_heap (heap_alloc_new wr _)]; rfl
      have HREP := Lib.hid (repeat_any (wr.alloc (.cells #[.int .i64 5] 3)) ⟨wr.heap.size, 0, none⟩ 1 32 5 hcell rfl (by decide) (by decide))
      have hA := (Below.refl wr.heap.size wr).alloc (Nat.le_refl _) (.cells #[.int .i64 5] 3)
      have HE : Aside (∀ w2 v2, w2.ownsRow (wr.alloc (.cells #[.int .i64 5] 3)).heap.size 3 1 v2 32 (iVs (List.replicate 32 5)) → Below (wr.alloc (.cells #[.int .i64 5] 3)).heap.size (wr.alloc (.cells #[.int .i64 5] 3)) w2 → w2.ownsRow W.heap.size 3 1 x fixL.length (iVs fixL) ∧ w2.ownsRow W.heap.size 3 1 v2 fixD.length (iVs fixD) ∧ Below W.heap.size W w2) := fun w2 v2 p1 p2 => by
        refine ⟨own_below (own_below r1 hA) p2, ?_, (r2.trans (hA.mono r2.size)).trans (p2.mono (Nat.le_trans r2.size hA.size))⟩
        rw [fixD_len]
        exact ownsRow_mono p1 (Nat.le_trans r2.size hA.size)
      clear r1 r2 HX hcell hA
      go_wp2_with (go_at_call 42; refine HREP.out.mono ?_; rintro e w2 ⟨v2, rfl, p1, p2⟩)
      go_ret2
      exact ⟨_, _, rfl, HE.out _ _ p1 p2⟩

end Go.Proofs.YthmbbpfgbpacnaaDoor.Inf
