/- Package lz: piece, size. -/
import Derived.Test.YtenkbmkecgnfmaaLzG
import Derived.Test.YtenkbmkecgnfmaaLzP
namespace Go.Proofs.Ytenkbmkecgnfmaa.Lz
open Go.RowKit Go.Shelf Go.Lib Go.Proofs.Ytenkbmkecgnfmaa.Mem Go.Proofs.Ytenkbmkecgnfmaa.Huf

theorem pcAt_zero {b : List UInt8} {wd dp j : Nat} (h : (greatN b wd dp j).1 = 0) : pcAt b wd dp j = ⟨0, 0, b.getD j 0⟩ := if_pos h
theorem pcAt_some {b : List UInt8} {wd dp j : Nat} (h : (greatN b wd dp j).1 ≠ 0) : pcAt b wd dp j = ⟨(greatN b wd dp j).1, (greatN b wd dp j).2, 0⟩ := if_neg h

theorem size_pc : (Try.prog.info? 45).map (·.size) = some 3 := by kernel_rfl

set_option maxRecDepth 100000 in
set_option maxHeartbeats 4000000 in
theorem piece_any (W : World) (a p : Addr) (c1 c : Nat) (b : List UInt8) (wd dp j : Nat) (hx : Src W (.slice (some a) b.length c1) b) (hc1 : b.length ≤ c1) (hs : ∀ i v, (iVs (stepsL b))[i]? = some v → W.cell? (p.add i) = some v)
    (hb : b.length ≤ 1048576) (hj : j < b.length) (hw : wd ≤ 32768) (hd : dp ≤ 4096) :
    Calls Try.prog 41 #[.agg #[.slice (some a) b.length c1, .slice (some p) b.length c, .int .i64 (wd : Int), .int .i64 (dp : Int)], .int .i64 (j : Int)] W fun e w' =>
      e = .returned (pcV (pcAt b wd dp j)) ∧ Below W.heap.size W w' := by
  obtain ⟨N, hN⟩ : ∃ N, N = W.heap.size := ⟨_, rfl⟩
  obtain ⟨U, hU⟩ : ∃ U, U = (W.alloc (Obj.cells #[Value.slice (some a) b.length c1, Value.slice (some p) b.length c, Value.int IntKind.i64 (wd : Int), Value.int IntKind.i64 (dp : Int)] 75)).alloc (Obj.cells #[Value.int IntKind.i64 0, Value.int IntKind.i64 0, Value.int IntKind.u8 0] 45) := ⟨_, rfl⟩
  have hU0 : Below W.heap.size W U := by rw [hU]; exact ((Below.refl _ W).alloc (Nat.le_refl _) _).alloc (by simp) _
  have hU1 : U.heap[W.heap.size]? = some (Obj.cells #[Value.slice (some a) b.length c1, Value.slice (some p) b.length c, Value.int IntKind.i64 (wd : Int), Value.int IntKind.i64 (dp : Int)] 75 (0, 0)) := by rw [hU]; exact heap_alloc2_old _ _ _
  have hU2 : U.heap[W.heap.size + 1]? = some (Obj.cells #[Value.int IntKind.i64 0, Value.int IntKind.i64 0, Value.int IntKind.u8 0] 45 (0, 0)) := by rw [hU]; exact heap_alloc2_new _ _ _
  have HG := Lib.hid (greatest_any U a p c1 c b wd dp j (hx.below hU0) hc1 (fun i v hi => (hU0.cell (block_lt_of_cell (hs i v hi))).trans (hs i v hi)) hb hj hw hd)
  have HX : Aside (Src W (.slice (some a) b.length c1) b) := hx
  have j0 : (0 : Int) ≤ (j : Int) := by omega
  have jl : (j : Int) < (b.length : Int) := by omega
  have hp0 := @pcAt_zero b wd dp j
  have hp1 := @pcAt_some b wd dp j
  have hgl := (stepN_le b wd dp j hj).2
  unfold stepN at hgl
  generalize greatN b wd dp j = g at *
  obtain ⟨u, d0⟩ := g
  have HP : Aside ((u = 0 → pcAt b wd dp j = ⟨0, 0, b.getD j 0⟩) ∧ (u ≠ 0 → pcAt b wd dp j = ⟨u, d0, 0⟩)) := ⟨hp0, hp1⟩
  clear hp0 hp1 hx hs
  go_enter Try.func41, Try.ntmps41
  go_wp2_with fail
  rw [← hU]
  clear hU
  refine HG.out.mono ?_
  rintro e w1 ⟨rfl, hb1⟩
  obtain ⟨B1, hB1⟩ : ∃ B1, B1 = W.heap.size + 1 := ⟨_, rfl⟩
  rw [← hN] at hU1 ⊢
  rw [← hB1] at hU2
  rw [hN, ← hB1, ← hN]
  have g1 : w1.heap[N]? = some (Obj.cells #[Value.slice (some a) b.length c1, Value.slice (some p) b.length c, Value.int IntKind.i64 (wd : Int), Value.int IntKind.i64 (dp : Int)] 75 (0, 0)) := (hb1.block N (Array.getElem?_eq_some_iff.1 hU1).1).trans hU1
  have g2 : w1.heap[B1]? = some (Obj.cells #[Value.int IntKind.i64 0, Value.int IntKind.i64 0, Value.int IntKind.u8 0] 45 (0, 0)) := (hb1.block B1 (Array.getElem?_eq_some_iff.1 hU2).1).trans hU2
  have hbW : Below W.heap.size W w1 := hU0.trans (hb1.mono hU0.size)
  have k0 : w1.cell? ⟨N, 0, none⟩ = some (.slice (some a) b.length c1) := by rw [Lib.cell_of_heap g1]; rfl
  have m0 : w1.cell? ⟨B1, 0, none⟩ = some (.int .i64 0) := by rw [Lib.cell_of_heap g2]; rfl
  have m1 : w1.cell? ⟨B1, 1, none⟩ = some (.int .i64 0) := by rw [Lib.cell_of_heap g2]; rfl
  have m2 : w1.cell? ⟨B1, 2, none⟩ = some (.int .u8 0) := by rw [Lib.cell_of_heap g2]; rfl
  have f0 := Lib.frozen_of_heap g2 0
  have f1 := Lib.frozen_of_heap g2 1
  have f2 := Lib.frozen_of_heap g2 2
  have cb : w1.cell? (a.add j) = some (.int .u8 ((b[j]).toNat : Int)) := src_cell (HX.out.below hbW) j hj
  have HBW : Aside (Below W.heap.size W w1 ∧ W.heap.size ≤ B1 ∧ w1.heap[B1]? = some (Obj.cells #[Value.int IntKind.i64 0, Value.int IntKind.i64 0, Value.int IntKind.u8 0] 45 (0, 0))) := ⟨hbW, by omega, g2⟩
  have HBJ : Aside (b.getD j 0 = b[j]) := by
    show b.getD j 0 = b[j]
    rw [List.getD_eq_getElem?_getD, List.getElem?_eq_getElem hj]; rfl
  have FIN : Aside (∀ x y z : Value, (((w1.setCell ⟨B1, 0, none⟩ x).setCell ⟨B1, 1, none⟩ y).setCell ⟨B1, 2, none⟩ z).heap[B1]? = some (.cells #[x, y, z] 45 (0, 0)) ∧ Below W.heap.size W (((w1.setCell ⟨B1, 0, none⟩ x).setCell ⟨B1, 1, none⟩ y).setCell ⟨B1, 2, none⟩ z)) := fun x y z => by
    obtain ⟨q1, q2, q3⟩ := HBW.out
    refine ⟨(Lib.heap_setCell_same (i := 2) ((Lib.heap_setCell_same (i := 1) ((Lib.heap_setCell_same (i := 0) q3 _).trans rfl) _).trans rfl) _).trans rfl, ?_⟩
    have ho : Only (fun k => k = B1) w1 (((w1.setCell ⟨B1, 0, none⟩ x).setCell ⟨B1, 1, none⟩ y).setCell ⟨B1, 2, none⟩ z) :=
      ((Only.setCell (S := fun k => k = B1) rfl _ _).trans (Only.setCell (S := fun k => k = B1) rfl _ _) (fun i q => .inl q)).trans (Only.setCell (S := fun k => k = B1) rfl _ _) (fun i q => .inl q)
    exact q1.trans (ho.below q1.size (fun k hk => by omega))
  generalize b[j] = y at *
  clear hU0 hU1 hU2 hB1 hN g1 g2 hbW HG hb1
  by_cases hu : u = 0
  · have HPC : Aside (pcAt b wd dp j = ⟨0, 0, y⟩) := by
      show pcAt b wd dp j = ⟨0, 0, y⟩
      rw [HP.out.1 hu, HBJ.out]
    subst hu
    clear HP
    go_wp2_with fail
    obtain ⟨z1, z2⟩ := FIN.out (.int .i64 0) (.int .i64 0) (.int .u8 (y.toNat : Int))
    exact bodyPost_ret (results_cell_row rfl _ _ B1 _ _ _ _ rfl z1 Try.underlying45 rfl size_pc) rfl ⟨by rw [HPC.out]; rfl, z2⟩
  · have huz : ¬ (u : Int) = 0 := by omega
    have hub : ((u : Int) == 0) = false := by rw [beq_eq_false_iff_ne]; exact huz
    have HPC : Aside (pcAt b wd dp j = ⟨u, d0, 0⟩) := HP.out.2 hu
    clear HP
    go_wp2_with fail
    obtain ⟨z1, z2⟩ := FIN.out (.int .i64 (u : Int)) (.int .i64 (d0 : Int)) (.int .u8 0)
    exact bodyPost_ret (results_cell_row rfl _ _ B1 _ _ _ _ rfl z1 Try.underlying45 rfl size_pc) rfl ⟨by rw [HPC.out]; rfl, z2⟩

theorem size_any (W : World) (q : Pc) (hq : (Lit.int .i64 q.len).wf = true) :
    Calls Try.prog 42 #[pcV q] W fun e w' => e = .returned (.int .i64 (max q.len 1)) ∧ Below W.heap.size W w' := by
  obtain ⟨l, d, y⟩ := q
  unfold pcV
  go_enter Try.func42, Try.ntmps42
  go_wp2_with fail
  go_ret
  exact ⟨rfl, (Below.refl _ W).alloc (Nat.le_refl _) _⟩
end Go.Proofs.Ytenkbmkecgnfmaa.Lz
