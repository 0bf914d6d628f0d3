/- What bytes.growSlice makes: a new row that begins with the bytes of the old one, of any beginning. -/
import Derived.Test.YtaibehfpbcgijaaDoorAscP
import Derived.Lib.AppendZeros
import Derived.Laws.CopyRow
import Derived.Lib.Buffer
import Derived.Defers
import Derived.Recover
import Derived.OwnWalk
import Derived.Shelf.Abstract
namespace Go.Proofs.YtaibehfpbcgijaaDoor.Asc
open Go.RowKit Go.Shelf

theorem growCatch_any (w : World) : CallsD Tryd.prog 111 #[] .returning w fun e u' w' => e = .returned (.tuple #[]) ∧ u' = .returning ∧ w' = w := by
  have hnn : ∀ w, (binOp .neq 20 .nilIface .nilIface).run Tryd.prog w = .ok (.bool false) w := fun w => by kernel_rfl
  refine callsD_of_wpS Tryd.func111 rfl fun c₀ cs hu => ?_
  apply wpS_seq
  apply wpS_region
  simp [wpOpsS, go_sem, recoverD, hu, hnn, Tryd.ntmps111, Exit.thenS]
  refine wpS_cond (t := false) (by simp [Act.eval, Array.replicate]) ?_
  simp only [Bool.false_eq_true, if_false]
  refine wpS_of_wp (wp_skip ?_)
  cases c₀
  simp_all [bodyPostS, results]

theorem info5 : (Tryd.prog.info? 5).map (fun i => (i.zero, i.size, i.bytes)) = some (some (.int .u8 0), 1, 1) := by kernel_rfl

theorem alloc_cell (w : World) (o : Obj) (p : Addr) (v : Value) (h : w.cell? p = some v) : (w.alloc o).drew.cell? p = some v :=
  ((((Below.refl w.heap.size w).alloc (Nat.le_refl _) o).cell (p := p) (block_lt_of_cell h)).trans h : (w.alloc o).cell? p = some v)

set_option maxHeartbeats 6400000 in
set_option maxRecDepth 100000 in
/-- growSlice OF ANY SLICE THAT IS NOT NIL. -/
theorem growSlice_any (a : Addr) (l c n : Nat) (bs : List Value) (w : World) (hl : bs.length = l) (hsrc : ∀ j v, bs[j]? = some v → w.cell? (a.add j) = some v) (h1 : ∀ v ∈ bs, v.oneCell' = true) (hlc : l ≤ c) (hn : 1 ≤ n)
    (hlim : l + n ≤ 140737488355328) (hc2 : c ≤ 140737488355328) :
    Calls Tryd.prog 101 #[.slice (some a) l c, .int .i64 n] w fun e w' => ∃ cap2 cells, e = .returned (.slice (some ⟨w.heap.size, 0, none⟩) l cap2) ∧ w'.heap[w.heap.size]? = some (.cells cells 5 (0, 0)) ∧
      cells.size = cap2 ∧ cells.toList.take l = bs ∧ l + n ≤ cap2 ∧ cap2 ≤ maxLen ∧ Below w.heap.size w w' := by
  obtain ⟨i0, hi, hz0, hz1, hz2⟩ := info_parts info5
  have hsz1 : (Tryd.prog.info? 5).map (·.size) = some 1 := by rw [hi]; simp [hz1]
  by_cases hC : l + n < 2 * c
  · skip
    have happ := Lib.run_append_nil_zeros (P := Tryd.prog) w 45 3 45 5 i0 (.int .u8 0) .i64 .i64 Tryd.underlying45 Tryd.underlying3 hi hz0 (2 * c) (by omega) (by omega) (by omega) (by rw [hz2]; omega)
    rw [show (((2 * c : Nat)) : Int) = 2 * (c : Int) by omega] at happ
    generalize hcap : grownCap w (2 * c) 0 5 = cap2 at happ
    have hcapge : 2 * c ≤ cap2 := by rw [← hcap]; exact grownCap_ge w _ 0 5
    have hcaple : cap2 ≤ maxLen := by rw [← hcap]; exact grownCap_le_maxLen w _ 0 5 (by unfold maxLen; omega)
    generalize hZ : (Builtin.zeroCells (Value.int .u8 0).cells (2 * c) ++ Builtin.zeroCells (Value.int .u8 0).cells (cap2 - (2 * c))) = Z at happ
    have hZs : Z.size = cap2 := by rw [← hZ]; simp [size_zeroCells, Value.cells]; omega
    clear hcap hZ
    have hsrc1 : ∀ j v, bs[j]? = some v → (w.alloc (.cells Z 5)).drew.cell? (a.add j) = some v := fun j v hj => (alloc_cell w _ _ v (hsrc j v hj))
    have hcopy := run_copy_row (P := Tryd.prog) (w.alloc (.cells Z 5)).drew 45 45 3 5 w.heap.size 0 (2 * c) cap2 a l c Z 5 bs Tryd.underlying45 hsz1 (heap_alloc_new w _) (by rw [hl]; exact (Nat.min_eq_left (by omega)).symm) hsrc1 (by rw [hl]; omega) h1
    rw [hl] at hcopy
    generalize hY : (Z.toList.take 0 ++ bs ++ Z.toList.drop (0 + l)).toArray = Y at hcopy
    have hYl : Y.toList = bs ++ Z.toList.drop l := by rw [← hY]; simp
    have hYs : Y.size = cap2 := by
      have : Y.toList.length = cap2 := by rw [hYl, List.length_append, hl, List.length_drop, Array.length_toList, hZs]; omega
      simpa using this
    clear hY hsrc hsrc1
    go_enter_defers Tryd.func101, Tryd.ntmps101
    go_wp2_with (at_builtin; refine Lib.wpList_append_run _ rfl _ _ _ _ rfl _ _ rfl rfl _ _ happ ?_)
    refine leaves_cons (f := 111) (args := #[]) (by simp) (enters_of Tryd.func111 (by kernel_rfl) rfl _ _) ?_
    refine (growCatch_any _).mono ?_
    rintro e u' w'' ⟨rfl, rfl, rfl⟩
    refine ⟨_, results_tmp rfl _ _ _, ?_⟩
    refine ⟨cap2, Y, rfl, setRow_heap _ _ Z Y 5 (0, 0) (heap_alloc_new w _), hYs, ?_, by omega, hcaple, ?_⟩
    · rw [hYl, List.take_append_of_le_length (by rw [hl]; exact Nat.le_refl _), List.take_of_length_le (by rw [hl]; exact Nat.le_refl _)]
    · exact ⟨rfl, rfl, rfl, by simp, fun k hk => by rw [setRow_other _ _ _ _ (by omega)]; exact Below.heap_alloc w _ k hk⟩
  · skip
    have happ := Lib.run_append_nil_zeros (P := Tryd.prog) w 45 3 45 5 i0 (.int .u8 0) .i64 .i64 Tryd.underlying45 Tryd.underlying3 hi hz0 (l + n) (by omega) (by omega) (by omega) (by rw [hz2]; omega)
    rw [show (((l + n : Nat)) : Int) = (l : Int) + (n : Int) by omega] at happ
    generalize hcap : grownCap w (l + n) 0 5 = cap2 at happ
    have hcapge : l + n ≤ cap2 := by rw [← hcap]; exact grownCap_ge w _ 0 5
    have hcaple : cap2 ≤ maxLen := by rw [← hcap]; exact grownCap_le_maxLen w _ 0 5 (by unfold maxLen; omega)
    generalize hZ : (Builtin.zeroCells (Value.int .u8 0).cells (l + n) ++ Builtin.zeroCells (Value.int .u8 0).cells (cap2 - (l + n))) = Z at happ
    have hZs : Z.size = cap2 := by rw [← hZ]; simp [size_zeroCells, Value.cells]; omega
    clear hcap hZ
    have hsrc1 : ∀ j v, bs[j]? = some v → (w.alloc (.cells Z 5)).drew.cell? (a.add j) = some v := fun j v hj => (alloc_cell w _ _ v (hsrc j v hj))
    have hcopy := run_copy_row (P := Tryd.prog) (w.alloc (.cells Z 5)).drew 45 45 3 5 w.heap.size 0 (l + n) cap2 a l c Z 5 bs Tryd.underlying45 hsz1 (heap_alloc_new w _) (by rw [hl]; exact (Nat.min_eq_left (by omega)).symm) hsrc1 (by rw [hl]; omega) h1
    rw [hl] at hcopy
    generalize hY : (Z.toList.take 0 ++ bs ++ Z.toList.drop (0 + l)).toArray = Y at hcopy
    have hYl : Y.toList = bs ++ Z.toList.drop l := by rw [← hY]; simp
    have hYs : Y.size = cap2 := by
      have : Y.toList.length = cap2 := by rw [hYl, List.length_append, hl, List.length_drop, Array.length_toList, hZs]; omega
      simpa using this
    clear hY hsrc hsrc1
    go_enter_defers Tryd.func101, Tryd.ntmps101
    go_wp2_with (at_builtin; refine Lib.wpList_append_run _ rfl _ _ _ _ rfl _ _ rfl rfl _ _ happ ?_)
    refine leaves_cons (f := 111) (args := #[]) (by simp) (enters_of Tryd.func111 (by kernel_rfl) rfl _ _) ?_
    refine (growCatch_any _).mono ?_
    rintro e u' w'' ⟨rfl, rfl, rfl⟩
    refine ⟨_, results_tmp rfl _ _ _, ?_⟩
    refine ⟨cap2, Y, rfl, setRow_heap _ _ Z Y 5 (0, 0) (heap_alloc_new w _), hYs, ?_, by omega, hcaple, ?_⟩
    · rw [hYl, List.take_append_of_le_length (by rw [hl]; exact Nat.le_refl _), List.take_of_length_le (by rw [hl]; exact Nat.le_refl _)]
    · exact ⟨rfl, rfl, rfl, by simp, fun k hk => by rw [setRow_other _ _ _ _ (by omega)]; exact Below.heap_alloc w _ k hk⟩

set_option maxHeartbeats 6400000 in
set_option maxRecDepth 100000 in
/-- .. OF THE NIL SLICE. -/
theorem growSlice_nil (n : Nat) (w : World) (hn : 1 ≤ n) (hlim : n ≤ 140737488355328) :
    Calls Tryd.prog 101 #[.slice none 0 0, .int .i64 n] w fun e w' => ∃ cap2 cells, e = .returned (.slice (some ⟨w.heap.size, 0, none⟩) 0 cap2) ∧ w'.heap[w.heap.size]? = some (.cells cells 5 (0, 0)) ∧
      cells.size = cap2 ∧ n ≤ cap2 ∧ cap2 ≤ maxLen ∧ Below w.heap.size w w' := by
  obtain ⟨i0, hi, hz0, hz1, hz2⟩ := info_parts info5
  have happ := Lib.run_append_nil_zeros (P := Tryd.prog) w 45 3 45 5 i0 (.int .u8 0) .i64 .i64 Tryd.underlying45 Tryd.underlying3 hi hz0 n (by omega) (by omega) (by omega) (by rw [hz2]; omega)
  generalize hcap : grownCap w n 0 5 = cap2 at happ
  have hcapge : n ≤ cap2 := by rw [← hcap]; exact grownCap_ge w _ 0 5
  have hcaple : cap2 ≤ maxLen := by rw [← hcap]; exact grownCap_le_maxLen w _ 0 5 (by unfold maxLen; omega)
  generalize hZ : (Builtin.zeroCells (Value.int .u8 0).cells n ++ Builtin.zeroCells (Value.int .u8 0).cells (cap2 - n)) = Z at happ
  have hZs : Z.size = cap2 := by rw [← hZ]; simp [size_zeroCells, Value.cells]; omega
  clear hcap hZ
  have hcopy := run_copy_nil (P := Tryd.prog) (w.alloc (.cells Z 5)).drew 45 45 3 5 ⟨w.heap.size, 0, none⟩ n cap2 Tryd.underlying45 (by rw [hi]; rfl)
  go_enter_defers Tryd.func101, Tryd.ntmps101
  go_wp2_with (at_builtin; refine Lib.wpList_append_run _ rfl _ _ _ _ rfl _ _ rfl rfl _ _ happ ?_)
  refine leaves_cons (f := 111) (args := #[]) (by simp) (enters_of Tryd.func111 (by kernel_rfl) rfl _ _) ?_
  refine (growCatch_any _).mono ?_
  rintro e u' w'' ⟨rfl, rfl, rfl⟩
  refine ⟨_, results_tmp rfl _ _ _, ?_⟩
  exact ⟨cap2, Z, rfl, heap_alloc_new w _, hZs, hcapge, hcaple, ⟨rfl, rfl, rfl, by simp, fun k hk => Below.heap_alloc w _ k hk⟩⟩

end Go.Proofs.YtaibehfpbcgijaaDoor.Asc
