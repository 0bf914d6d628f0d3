/- The library's Concat of two lists of symbols. -/
import Derived.Test.YtenkbmkecgnfmaaHufI
import Derived.Test.YtenkbmkecgnfmaaChecked
import Derived.Deep.LoopGhost
import Derived.BigQuiet
namespace Go.Proofs.Ytenkbmkecgnfmaa.Huf
open Go.RowKit Go.Shelf Go.Lib Go.Proofs.Ytenkbmkecgnfmaa.Mem

set_option maxHeartbeats 4000000 in
set_option maxRecDepth 100000 in
theorem grow_any (n : Nat) (w : World) (hn : 1 ≤ n) (hlim : n * 8 ≤ 140737488355328) :
    Calls Try.prog 66 #[.slice none 0 0, .int .i64 n] w fun e w' => ∃ cap2, e = .returned (.slice (some ⟨w.heap.size, 0, none⟩) 0 cap2) ∧ w'.ownsRow w.heap.size 3 1 (.slice (some ⟨w.heap.size, 0, none⟩) 0 cap2) 0 (iVs []) ∧ Below w.heap.size w w' := by
  obtain ⟨i0, hi, hz0, hz1, hz2⟩ := info_parts info3
  have happ := Lib.run_append_nil_zeros (P := Try.prog) w 22 3 22 3 i0 (.int .i64 0) .i64 .i64 Try.underlying22 Try.underlying3 hi hz0 n (by omega) (by omega) (by omega) (by rw [hz2]; omega)
  generalize hcap : grownCap w n 0 3 = cap2 at happ
  have hcapge : n ≤ cap2 := by rw [← hcap]; exact grownCap_ge w _ 0 3
  have hcaple : cap2 ≤ maxLen := by rw [← hcap]; exact grownCap_le_maxLen w _ 0 3 (by unfold maxLen; omega)
  generalize hZ : (Builtin.zeroCells (Value.int .i64 0).cells n ++ Builtin.zeroCells (Value.int .i64 0).cells (cap2 - n)) = Z at happ
  have hZs : Z.size = cap2 := by rw [← hZ]; simp [size_zeroCells, Value.cells]; omega
  have HZ := Lib.hid hZs
  have HC := Lib.hid hcaple
  have hnz : ¬ (n : Int) < 0 := by omega
  have hnp : (n : Int) > 0 := by omega
  have hnp2 : (0 : Int) < (n : Int) := by omega
  have wn : IntKind.i64.wrap (n : Int) = (n : Int) := by rw [IntKind.wrap_i64]; omega
  clear hcap hZ hZs hcaple hcapge hi hz0 hz1 hz2
  go_enter Try.func66, Try.ntmps66
  go_wp2_with (at_builtin; refine Lib.wpList_append_run _ rfl _ _ _ _ rfl _ _ rfl rfl _ _ happ ?_)
  go_ret
  refine ⟨cap2, rfl, ⟨rfl, .inr ⟨w.heap.size, cap2, Z, rfl, Nat.le_refl _, ?_, Nat.zero_le _, HC.out, by rw [HZ.out, Nat.mul_one], by simp [iVs]⟩⟩, ?_⟩
  · exact heap_alloc_new w.drew _
  · exact ⟨rfl, rfl, rfl, by simp, fun k hk => Below.heap_alloc w.drew _ k hk⟩

set_option maxHeartbeats 4000000 in
set_option maxRecDepth 100000 in
theorem concat_any (w : World) (b2 : Nat) (v1 v2 : Value) (l1 l2 : List Int) (c0 : w.cell? ⟨b2, 0, none⟩ = some v1) (c1 : w.cell? ⟨b2, 1, none⟩ = some v2) (h1 : SrcI w v1 l1) (h2 : SrcI w v2 l2) (hpos : 0 < l1.length) (hlim : l1.length + l2.length ≤ 1048576) :
    Calls Try.prog 59 #[.slice (some ⟨b2, 0, none⟩) 2 2] w fun e w' => ∃ u, e = .returned u ∧ w'.ownsRow w.heap.size 3 1 u (l1 ++ l2).length (iVs (l1 ++ l2)) ∧ Below w.heap.size w w' := by
  have HG := Lib.hid (grow_any (l1.length + l2.length) w (by omega) (by omega))
  have H1 : Aside (SrcI w v1 l1) := h1
  have H2 : Aside (SrcI w v2 l2) := h2
  obtain ⟨a1, p1, rfl, -⟩ := h1.shape
  obtain ⟨a2, p2, rfl, -⟩ := h2.shape
  have C0 : Aside (w.cell? ⟨b2, 0, none⟩ = some (.slice a1 l1.length p1)) := c0
  have C1 : Aside (w.cell? ⟨b2, 1, none⟩ = some (.slice a2 l2.length p2)) := c1
  have wl1 : IntKind.i64.wrap (l1.length : Int) = (l1.length : Int) := by rw [IntKind.wrap_i64]; omega
  have wl2 : IntKind.i64.wrap ((l1.length : Int) + (l2.length : Int)) = (l1.length : Int) + (l2.length : Int) := by rw [IntKind.wrap_i64]; omega
  have n1 : ¬ (l1.length : Int) < 0 := by omega
  have n2 : ¬ (l1.length : Int) + (l2.length : Int) < 0 := by omega
  have ecast : (((l1.length + l2.length : Nat)) : Int) = (l1.length : Int) + (l2.length : Int) := by omega
  rw [ecast] at HG
  clear ecast h1 h2
  go_enter Try.func59, Try.ntmps59
  go_wp2_with fail
  go_loopg [3, 11] 2 (fun kx s3 s11 wr => ∃ (i : Nat) (z : Int), s11 = .int .i64 i ∧ s3 = .int .i64 z ∧ i ≤ 2 ∧ 2 - i ≤ kx ∧ w = wr ∧ Aside (z = if i = 0 then 0 else if i = 1 then (l1.length : Int) else (l1.length : Int) + (l2.length : Int)))
  case atStart => exact ⟨0, 0, rfl, rfl, by omega, Nat.le_refl _, rfl, rfl⟩
  case round =>
    obtain ⟨i, z, rfl, rfl, hi, hkx, rfl, HZ⟩ := hrel
    have hc : i = 0 ∨ i = 1 ∨ i = 2 := by omega
    rcases hc with rfl | rfl | rfl
    · have hz : z = 0 := HZ.out
      subst hz
      clear HZ
      go_wp2_with fail
      go_roundg 1
      case measure => omega
      case rel => exact ⟨1, _, rfl, rfl, by omega, by omega, rfl, by simp [Aside]⟩
    · have hz : z = (l1.length : Int) := HZ.out
      subst hz
      clear HZ
      go_wp2_with fail
      go_roundg 0
      case measure => omega
      case rel => exact ⟨2, _, rfl, rfl, by omega, by omega, rfl, by simp [Aside]⟩
    · have hz : z = (l1.length : Int) + (l2.length : Int) := HZ.out
      subst hz
      clear HZ c0 c1
      go_wp2_with (first | (go_at_call 66; refine HG.out.mono ?_; rintro e w1 ⟨cap2, rfl, hg1, hg2⟩))
      have h0 : Aside (w1.ownsRow w.heap.size 3 1 (.slice (some ⟨w.heap.size, 0, none⟩) 0 cap2) 0 (iVs []) ∧ Below w.heap.size w w1) := ⟨hg1, hg2⟩
      clear hg1 hg2 HG
      go_loopg [6, 27] 2 (fun kx s6 s27 wr => ∃ (i : Nat) (u : Value), s27 = .int .i64 i ∧ u = s6 ∧ i ≤ 2 ∧ 2 - i ≤ kx ∧ Aside (wr.ownsRow w.heap.size 3 1 u (if i = 0 then [] else if i = 1 then l1 else l1 ++ l2).length (iVs (if i = 0 then [] else if i = 1 then l1 else l1 ++ l2)) ∧ Below w.heap.size w wr))
      case atStart => exact ⟨0, _, rfl, rfl, by omega, Nat.le_refl _, h0⟩
      case round =>
        clear h0
        obtain ⟨i, u, rfl, rfl, hi, hkx2, HR⟩ := hrel
        have hc : i = 0 ∨ i = 1 ∨ i = 2 := by omega
        rcases hc with rfl | rfl | rfl
        · obtain ⟨r1, r2⟩ := HR.out
          obtain ⟨u2, W2, q1, q2, q3, q4⟩ := appI_any wr w.heap.size u (.slice a1 l1.length p1) 22 [] l1 r1 r2.size (H1.out.below r2) (by simp; omega)
          have hbw := bel_grown r1 q3 r2.size (Nat.le_refl _)
          have HQ : Aside (W2.ownsRow w.heap.size 3 1 u2 l1.length (iVs l1) ∧ Below w.heap.size w W2) := ⟨q2, r2.trans hbw⟩
          have d0 : wr.cell? ⟨b2, 0, none⟩ = some (.slice a1 l1.length p1) := (r2.cell (block_lt_of_cell C0.out)).trans C0.out
          clear r1 r2 q2 q3 q4 hbw HR
          go_wp2_with (at_builtin; refine Lib.wpList_append_run _ rfl _ _ _ _ rfl _ _ rfl rfl _ _ q1 ?_)
          go_roundg 1
          case measure => omega
          case rel => exact ⟨1, _, rfl, rfl, by omega, by omega, HQ⟩
        · obtain ⟨r1, r2⟩ := HR.out
          obtain ⟨u2, W2, q1, q2, q3, q4⟩ := appI_any wr w.heap.size u (.slice a2 l2.length p2) 22 l1 l2 r1 r2.size (H2.out.below r2) (by omega)
          have hbw := bel_grown r1 q3 r2.size (Nat.le_refl _)
          have HQ : Aside (W2.ownsRow w.heap.size 3 1 u2 (l1 ++ l2).length (iVs (l1 ++ l2)) ∧ Below w.heap.size w W2) := ⟨q2, r2.trans hbw⟩
          have d1 : wr.cell? ⟨b2, 1, none⟩ = some (.slice a2 l2.length p2) := (r2.cell (block_lt_of_cell C1.out)).trans C1.out
          clear r1 r2 q2 q3 q4 hbw HR
          go_wp2_with (at_builtin; refine Lib.wpList_append_run _ rfl _ _ _ _ rfl _ _ rfl rfl _ _ q1 ?_)
          go_roundg 0
          case measure => omega
          case rel => exact ⟨2, _, rfl, rfl, by omega, by omega, HQ⟩
        · go_wp2_with fail
          go_ret
          exact ⟨_, rfl, HR.out.1, HR.out.2⟩
end Go.Proofs.Ytenkbmkecgnfmaa.Huf
