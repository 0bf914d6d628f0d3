/- Package lz: piece, size. Package lz: Expand, what it makes; may, onto. Package lz: Pieces. A text that was cut into pieces is put together as it was, in numbers. -/
import Derived.Test.YthmbbpfgbpacnaaGreatDoorPmLzZ
import Derived.Test.YthmbbpfgbpacnaaGreatDoorPmLzQ
namespace Go.Proofs.YthmbbpfgbpacnaaGreatDoor.Lz
open Go.RowKit Go.Shelf Go.Lib Mem Huf
theorem pcAt_zero {b : List UInt8} {wd dp j : Nat} (h : (greatN b wd dp j).1 = 0) : pcAt b wd dp j = ⟨0, 0, b.getD j 0⟩ := if_pos h
theorem pcAt_some {b : List UInt8} {wd dp j : Nat} (h : (greatN b wd dp j).1 ≠ 0) : pcAt b wd dp j = ⟨(greatN b wd dp j).1, (greatN b wd dp j).2, 0⟩ := if_neg h
theorem size_pc : (Tryz.prog.info? 105).map (·.size) = some 3 := by kernel_rfl
set_option maxRecDepth 100000 in
set_option maxHeartbeats 4000000 in
theorem piece_any (W : World) (a p : Addr) (c1 c : Nat) (b : List UInt8) (wd dp j : Nat) (hx : Src W (.slice (some a) b.length c1) b) (hc1 : b.length <= c1) (hs : ∀ i v, (iVs (stepsL b))[i]? = some v -> W.cell? (p.add i) = some v)
  (hb : b.length <= 1048576) (hj : j < b.length) (hw : wd <= 32768) (hd : dp <= 4096) :
  Calls Tryz.prog 76 #[.agg #[.slice (some a) b.length c1, .slice (some p) b.length c, .int .i64 (wd : Int), .int .i64 (dp : Int)], .int .i64 (j : Int)] W fun e w' =>
   e = .returned (pcV (pcAt b wd dp j)) /\ Below W.heap.size W w' := by
 obtain ⟨N, hN⟩ : ∃ N, N = W.heap.size := ⟨_, rfl⟩
 obtain ⟨U, hU⟩ : ∃ U, U = (W.alloc (Obj.cells #[Value.slice (some a) b.length c1, Value.slice (some p) b.length c, Value.int IntKind.i64 (wd : Int), Value.int IntKind.i64 (dp : Int)] 132)).alloc (Obj.cells #[Value.int IntKind.i64 0, Value.int IntKind.i64 0, Value.int IntKind.u8 0] 105) := ⟨_, rfl⟩
 have hU0 : Below W.heap.size W U := by rw [hU]; exact ((Below.refl _ W).alloc (Nat.le_refl _) _).alloc (by simp) _
 have hU1 : U.heap[W.heap.size]? = some (Obj.cells #[Value.slice (some a) b.length c1, Value.slice (some p) b.length c, Value.int IntKind.i64 (wd : Int), Value.int IntKind.i64 (dp : Int)] 132 (0, 0)) := by rw [hU]; exact heap_alloc2_old _ _ _
 have hU2 : U.heap[W.heap.size + 1]? = some (Obj.cells #[Value.int IntKind.i64 0, Value.int IntKind.i64 0, Value.int IntKind.u8 0] 105 (0, 0)) := by rw [hU]; exact heap_alloc2_new _ _ _
 have HG := Lib.hid (greatest_any U a p c1 c b wd dp j (hx.below hU0) hc1 (fun i v hi => (hU0.cell (block_lt_of_cell (hs i v hi))).trans (hs i v hi)) hb hj hw hd)
 have HX : Aside (Src W (.slice (some a) b.length c1) b) := hx
 have j0 : (0 : Int) <= (j : Int) := by omega
 have jl : (j : Int) < (b.length : Int) := by omega
 have hp0 := @pcAt_zero b wd dp j
 have hp1 := @pcAt_some b wd dp j
 have hgl := (stepN_le b wd dp j hj).2
 unfold stepN at hgl
 generalize greatN b wd dp j = g at *
 obtain ⟨u, d0⟩ := g
 have HP : Aside ((u = 0 -> pcAt b wd dp j = ⟨0, 0, b.getD j 0⟩) /\ (u ≠ 0 -> pcAt b wd dp j = ⟨u, d0, 0⟩)) := ⟨hp0, hp1⟩
 clear hp0 hp1 hx hs
 go_enter Tryz.func76, Tryz.ntmps76
 go_wp2_with fail
 rw [<- hU]
 clear hU
 refine HG.out.mono ?_
 rintro e w1 ⟨rfl, hb1⟩
 obtain ⟨B1, hB1⟩ : ∃ B1, B1 = W.heap.size + 1 := ⟨_, rfl⟩
 rw [<- hN] at hU1 ⊢
 rw [<- hB1] at hU2
 rw [hN, <- hB1, <- hN]
 have g1 : w1.heap[N]? = some (Obj.cells #[Value.slice (some a) b.length c1, Value.slice (some p) b.length c, Value.int IntKind.i64 (wd : Int), Value.int IntKind.i64 (dp : Int)] 132 (0, 0)) := (hb1.block N (Array.getElem?_eq_some_iff.1 hU1).1).trans hU1
 have g2 : w1.heap[B1]? = some (Obj.cells #[Value.int IntKind.i64 0, Value.int IntKind.i64 0, Value.int IntKind.u8 0] 105 (0, 0)) := (hb1.block B1 (Array.getElem?_eq_some_iff.1 hU2).1).trans hU2
 have hbW : Below W.heap.size W w1 := hU0.trans (hb1.mono hU0.size)
 have k0 : w1.cell? ⟨N, 0, none⟩ = some (.slice (some a) b.length c1) := by rw [Lib.cell_of_heap g1]; rfl
 have m0 : w1.cell? ⟨B1, 0, none⟩ = some (.int .i64 0) := by rw [Lib.cell_of_heap g2]; rfl
 have m1 : w1.cell? ⟨B1, 1, none⟩ = some (.int .i64 0) := by rw [Lib.cell_of_heap g2]; rfl
 have m2 : w1.cell? ⟨B1, 2, none⟩ = some (.int .u8 0) := by rw [Lib.cell_of_heap g2]; rfl
 have f0 := Lib.frozen_of_heap g2 0
 have f1 := Lib.frozen_of_heap g2 1
 have f2 := Lib.frozen_of_heap g2 2
 have cb : w1.cell? (a.add j) = some (.int .u8 ((b[j]).toNat : Int)) := src_cell (HX.out.below hbW) j hj
 have HBW : Aside (Below W.heap.size W w1 /\ W.heap.size <= B1 /\ w1.heap[B1]? = some (Obj.cells #[Value.int IntKind.i64 0, Value.int IntKind.i64 0, Value.int IntKind.u8 0] 105 (0, 0))) := ⟨hbW, by omega, g2⟩
 have HBJ : Aside (b.getD j 0 = b[j]) := by
  show b.getD j 0 = b[j]
  rw [List.getD_eq_getElem?_getD, List.getElem?_eq_getElem hj]; rfl
 have FIN : Aside (∀ x y z : Value, (((w1.setCell ⟨B1, 0, none⟩ x).setCell ⟨B1, 1, none⟩ y).setCell ⟨B1, 2, none⟩ z).heap[B1]? = some (.cells #[x, y, z] 105 (0, 0)) /\ Below W.heap.size W (((w1.setCell ⟨B1, 0, none⟩ x).setCell ⟨B1, 1, none⟩ y).setCell ⟨B1, 2, none⟩ z)) := fun x y z => by
  obtain ⟨q1, q2, q3⟩ := HBW.out
  refine ⟨(Lib.heap_setCell_same (i := 2) ((Lib.heap_setCell_same (i := 1) ((Lib.heap_setCell_same (i := 0) q3 _).trans rfl) _).trans rfl) _).trans rfl, ?_⟩
  have ho : Only (fun k => k = B1) w1 (((w1.setCell ⟨B1, 0, none⟩ x).setCell ⟨B1, 1, none⟩ y).setCell ⟨B1, 2, none⟩ z) :=
   ((Only.setCell (S := fun k => k = B1) rfl _ _).trans (Only.setCell (S := fun k => k = B1) rfl _ _) (fun i q => .inl q)).trans (Only.setCell (S := fun k => k = B1) rfl _ _) (fun i q => .inl q)
  exact q1.trans (ho.below q1.size (fun k hk => by omega))
 generalize b[j] = y at *
 clear hU0 hU1 hU2 hB1 hN g1 g2 hbW HG hb1
 by_cases hu : u = 0
 ·have HPC : Aside (pcAt b wd dp j = ⟨0, 0, y⟩) := by
   show pcAt b wd dp j = ⟨0, 0, y⟩
   rw [HP.out.1 hu, HBJ.out]
  subst hu
  clear HP
  go_wp2_with fail
  obtain ⟨z1, z2⟩ := FIN.out (.int .i64 0) (.int .i64 0) (.int .u8 (y.toNat : Int))
  exact bodyPost_ret (results_cell_row rfl _ _ B1 _ _ _ _ rfl z1 Tryz.underlying105 rfl size_pc) rfl ⟨by rw [HPC.out]; rfl, z2⟩
 ·have huz : ¬ (u : Int) = 0 := by omega
  have hub : ((u : Int) == 0) = false := by rw [beq_eq_false_iff_ne]; exact huz
  have HPC : Aside (pcAt b wd dp j = ⟨u, d0, 0⟩) := HP.out.2 hu
  clear HP
  go_wp2_with fail
  obtain ⟨z1, z2⟩ := FIN.out (.int .i64 (u : Int)) (.int .i64 (d0 : Int)) (.int .u8 0)
  exact bodyPost_ret (results_cell_row rfl _ _ B1 _ _ _ _ rfl z1 Tryz.underlying105 rfl size_pc) rfl ⟨by rw [HPC.out]; rfl, z2⟩
theorem size_any (W : World) (q : Pc) (hq : (Lit.int .i64 q.len).wf = true) :
  Calls Tryz.prog 77 #[pcV q] W fun e w' => e = .returned (.int .i64 (max q.len 1)) /\ Below W.heap.size W w' := by
 obtain ⟨l, d, y⟩ := q
 unfold pcV
 go_enter Tryz.func77, Tryz.ntmps77
 go_wp2_with fail
 go_ret
 exact ⟨rfl, (Below.refl _ W).alloc (Nat.le_refl _) _⟩
end Go.Proofs.YthmbbpfgbpacnaaGreatDoor.Lz
namespace Go.Proofs.YthmbbpfgbpacnaaGreatDoor.Lz
open Go.RowKit Go.Shelf Go.Lib Mem Huf
def mayB (p : Pc) : Bool := if p.len = 0 then decide (p.dist = 0) else decide (3 <= p.len /\ p.len <= 258 /\ 1 <= p.dist /\ p.dist <= 32768 /\ p.byte = 0)
def cpN : Nat -> Nat -> List UInt8 -> List UInt8
 | 0, _, out => out
 | n + 1, d, out => cpN n d (out ++ [out.getD (out.length - d) 0])
theorem cpN_succ (n d : Nat) (out : List UInt8) : cpN (n + 1) d out = cpN n d (out ++ [out.getD (out.length - d) 0]) := rfl
def ontoN (p : Pc) (out : List UInt8) : List UInt8 := if p.len = 0 then out ++ [p.byte] else cpN p.len.toNat p.dist.toNat out
def expR : List Pc -> Int -> List UInt8 -> List UInt8 × Int
 | [], _, out => (out, 0)
 | p :: r, m, out => if mayB p = false \/ (out.length : Int) < p.dist then ([], 31) else if max p.len 1 > m - out.length then ([], 6) else expR r m (ontoN p out)
theorem expR_cons (p : Pc) (r : List Pc) (m : Int) (out : List UInt8) : expR (p :: r) m out = if mayB p = false \/ (out.length : Int) < p.dist then ([], 31) else if max p.len 1 > m - out.length then ([], 6) else expR r m (ontoN p out) := rfl
def expandR (l : List Pc) (m : Int) : List UInt8 × Int := if m < 0 \/ m > 1048576 then ([], 1) else expR l m []
theorem cpN_len (n d : Nat) : ∀ out, (cpN n d out).length = out.length + n := by
 induction n with
 | zero => intro out; rfl
 | succ n ih => intro out; rw [cpN_succ, ih, List.length_append]; simp; omega
theorem ontoN_len (p : Pc) (out : List UInt8) (h : mayB p = true) : (ontoN p out).length = out.length + (max p.len 1).toNat := by
 unfold ontoN
 unfold mayB at h
 split
 ·rename_i h0; rw [h0, List.length_append]; rfl
 ·rename_i h0
  rw [if_neg h0] at h
  have := of_decide_eq_true h
  rw [cpN_len]; omega
end Go.Proofs.YthmbbpfgbpacnaaGreatDoor.Lz
namespace Go.Proofs.YthmbbpfgbpacnaaGreatDoor.Lz
open Go.RowKit Go.Shelf Go.Lib Mem Huf
def piecesR (b : List UInt8) (window depth : Int) : List Pc × Int :=
 if window < 1 \/ window > 32768 \/ depth < 0 \/ depth > 4096 then ([], 1) else if b.length > 1048576 then ([], 6) else (pcs b window.toNat depth.toNat 0, 0)
theorem piecesR_arg {b : List UInt8} {window depth : Int} (h : window < 1 \/ window > 32768 \/ depth < 0 \/ depth > 4096) : piecesR b window depth = ([], 1) := if_pos h
theorem pcAt_step (b : List UInt8) (wd dp j : Nat) : max (pcAt b wd dp j).len 1 = (stepN b wd dp j : Int) := by
 unfold pcAt stepN
 split
 ·rename_i h; rw [h]; rfl
 ·simp only; omega
theorem pcAt_len (b : List UInt8) (wd dp j : Nat) (hj : j < b.length) : 0 <= (pcAt b wd dp j).len /\ (pcAt b wd dp j).len <= 258 := by
 have h1 := pcAt_step b wd dp j
 have h2 := (stepN_le b wd dp j hj).2
 have h3 : 0 <= (pcAt b wd dp j).len := by
  unfold pcAt
  split
  ·exact Int.le_refl _
  ·simp only; omega
 omega
set_option maxRecDepth 100000 in
set_option maxHeartbeats 4000000 in
theorem pieces_arg (W : World) (x : Value) (window depth : Int) (h : window < 1 \/ window > 32768 \/ depth < 0 \/ depth > 4096) :
  Calls Tryz.prog 56 #[x, .int .i64 window, .int .i64 depth] W fun e w' => e = .returned (.tuple #[.slice none 0 0, .int .i64 1]) /\ W = w' := by
 by_cases h1 : window < 1
 ·go_enter Tryz.func56, Tryz.ntmps56
  go_wp2_with fail
  go_ret2
  exact ⟨rfl, rfl⟩
 ·by_cases h2 : window > 32768
  ·go_enter Tryz.func56, Tryz.ntmps56
   go_wp2_with fail
   go_ret2
   exact ⟨rfl, rfl⟩
  ·by_cases h3 : depth < 0
   ·go_enter Tryz.func56, Tryz.ntmps56
    go_wp2_with fail
    go_ret2
    exact ⟨rfl, rfl⟩
   ·have h4 : depth > 4096 := by omega
    clear h
    go_enter Tryz.func56, Tryz.ntmps56
    go_wp2_with fail
    go_ret2
    exact ⟨rfl, rfl⟩
set_option maxRecDepth 100000 in
set_option maxHeartbeats 4000000 in
theorem pieces_size (W : World) (ao : Option Addr) (n c : Nat) (wd dp : Nat) (h1 : 1 <= wd) (h2 : wd <= 32768) (h3 : dp <= 4096) (h : 1048576 < n) :
  Calls Tryz.prog 56 #[.slice ao n c, .int .i64 (wd : Int), .int .i64 (dp : Int)] W fun e w' => e = .returned (.tuple #[.slice none 0 0, .int .i64 6]) /\ W = w' := by
 have a1 : ¬ (wd : Int) < 1 := by omega
 have a2 : ¬ (wd : Int) > 32768 := by omega
 have a3 : ¬ (dp : Int) < 0 := by omega
 have a4 : ¬ (dp : Int) > 4096 := by omega
 have a5 : (n : Int) > 1048576 := by omega
 go_enter Tryz.func56, Tryz.ntmps56
 go_wp2_with fail
 go_ret2
 exact ⟨rfl, rfl⟩
set_option maxRecDepth 100000 in
set_option maxHeartbeats 4000000 in
theorem pieces_ok (W : World) (ao : Option Addr) (c : Nat) (b : List UInt8) (wd dp : Nat) (hx : Src W (.slice ao b.length c) b) (hc : b.length <= c) (h1 : 1 <= wd) (h2 : wd <= 32768) (h3 : dp <= 4096) (hn : b.length <= 1048576) :
  Calls Tryz.prog 56 #[.slice ao b.length c, .int .i64 (wd : Int), .int .i64 (dp : Int)] W fun e w' => ∃ v, e = .returned (.tuple #[v, .int .i64 0]) /\ w'.ownsRow W.heap.size 105 3 v (pcs b wd dp 0).length (pcsCells (pcs b wd dp 0)) /\ Below W.heap.size W w' := by
 have a1 : ¬ (wd : Int) < 1 := by omega
 have a2 : ¬ (wd : Int) > 32768 := by omega
 have a3 : ¬ (dp : Int) < 0 := by omega
 have a4 : ¬ (dp : Int) > 4096 := by omega
 have a5 : ¬ (b.length : Int) > 1048576 := by omega
 have HX : Aside (Src W (.slice ao b.length c) b) := hx
 have HS := Lib.hid (steps_any W _ b hx hn)
 have HA : Aside (0 < b.length -> ∃ a, ao = some a) := fun h => by
  obtain ⟨ao', c', e, h'⟩ := src_shape hx
  cases e
  exact h' h
 clear hx
 go_enter Tryz.func56, Tryz.ntmps56
 go_upto_region 8 with (first
  | (go_at_call 75; refine HS.out.mono ?_; rintro e w1 ⟨u, rfl, hu, hb1⟩; obtain ⟨uo, uc, rfl, huc, hum, hun⟩ := own_shape hu))
 obtain ⟨T, hT⟩ : ∃ T, T = w1.heap.size := ⟨_, rfl⟩
 obtain ⟨w2, hw2⟩ : ∃ w2, w2 = w1.alloc (Obj.cells #[Value.slice ao b.length c, Value.slice uo b.length uc, Value.int IntKind.i64 (wd : Int), Value.int IntKind.i64 (dp : Int)] 132) := ⟨_, rfl⟩
 rw [<- hw2, <- hT]
 have hA := (Below.refl w1.heap.size w1).alloc (Nat.le_refl _) (Obj.cells #[Value.slice ao b.length c, Value.slice uo b.length uc, Value.int IntKind.i64 (wd : Int), Value.int IntKind.i64 (dp : Int)] 132)
 rw [<- hw2] at hA
 have hT2 : w2.heap[T]? = some (Obj.cells #[Value.slice ao b.length c, Value.slice uo b.length uc, Value.int IntKind.i64 (wd : Int), Value.int IntKind.i64 (dp : Int)] 132 (0, 0)) := by rw [hw2, hT]; exact heap_alloc_new _ _
 have hu2 := own_below hu hA
 have hbW : Below W.heap.size W w2 := hb1.trans (hA.mono hb1.size)
 have H2 : Aside (w2.heap[T]? = some (Obj.cells #[Value.slice ao b.length c, Value.slice uo b.length uc, Value.int IntKind.i64 (wd : Int), Value.int IntKind.i64 (dp : Int)] 132 (0, 0)) /\ Below W.heap.size W w2 /\ (0 < b.length -> ∃ p, uo = some p /\ ∀ i v, (iVs (stepsL b))[i]? = some v -> w2.cell? (p.add i) = some v)) := by
  refine ⟨hT2, hbW, fun h0 => ?_⟩
  cases uo with
  | none => have := (hun rfl).1; omega
  | some p =>
   obtain ⟨g, rfl, -, -⟩ := own_block hu2
   exact ⟨_, rfl, hu2.cells (g := g) rfl⟩
 clear hw2 hT hA hT2 hu2 hbW hu hb1 hun HS a1 a2 a3 a4 a5
 go_loopg [9, 10] b.length (fun kx s9 s10 wr => ∃ (d : List Pc) (j : Nat) (u9 : Value), u9 = s9 /\ s10 = .int .i64 j /\ j <= b.length /\ b.length - j <= kx /\ Aside (wr.ownsRow w2.heap.size 105 3 u9 d.length (pcsCells d) /\ Below w2.heap.size w2 wr /\ d ++ pcs b wd dp j = pcs b wd dp 0 /\ d.length <= j))
 case atStart => exact ⟨[], 0, _, rfl, rfl, Nat.zero_le _, Nat.le_refl _, ⟨rfl, .inl ⟨rfl, rfl⟩⟩, Below.refl _ _, rfl, Nat.le_refl _⟩
 case round =>
  obtain ⟨d, j, u9, rfl, rfl, hj, hkx, HR⟩ := hrel
  by_cases hlt : j < b.length
  ·have hltz : (j : Int) < (b.length : Int) := by omega
   obtain ⟨a, rfl⟩ := HA.out (by omega)
   obtain ⟨p, rfl, -⟩ := H2.out.2.2 (by omega)
   obtain ⟨r1, r2, r3, r4⟩ := HR.out
   have hbr : Below W.heap.size W wr := H2.out.2.1.trans (r2.mono H2.out.2.1.size)
   have g1 : wr.heap[T]? = some (Obj.cells #[Value.slice (some a) b.length c, Value.slice (some p) b.length uc, Value.int IntKind.i64 (wd : Int), Value.int IntKind.i64 (dp : Int)] 132 (0, 0)) := (r2.block T (Array.getElem?_eq_some_iff.1 H2.out.1).1).trans H2.out.1
   have k0 : wr.cell? ⟨T, 0, none⟩ = some (.slice (some a) b.length c) := by rw [Lib.cell_of_heap g1]; rfl
   have k1 : wr.cell? ⟨T, 1, none⟩ = some (.slice (some p) b.length uc) := by rw [Lib.cell_of_heap g1]; rfl
   have k2 : wr.cell? ⟨T, 2, none⟩ = some (.int .i64 (wd : Int)) := by rw [Lib.cell_of_heap g1]; rfl
   have k3 : wr.cell? ⟨T, 3, none⟩ = some (.int .i64 (dp : Int)) := by rw [Lib.cell_of_heap g1]; rfl
   have hsteps : ∀ i v, (iVs (stepsL b))[i]? = some v -> wr.cell? (p.add i) = some v := fun i v hi => by
    obtain ⟨p', e, hp⟩ := H2.out.2.2 (by omega)
    cases e
    exact (r2.cell (block_lt_of_cell (hp i v hi))).trans (hp i v hi)
   have HP := Lib.hid (piece_any wr a p c uc b wd dp j (HX.out.below hbr) hc hsteps hn hlt h2 h3)
   have hst := pcAt_step b wd dp j
   have hln := pcAt_len b wd dp j hlt
   have hstep := pcs_step b wd dp j hlt
   have hsl := stepN_le b wd dp j hlt
   have hsp := stepN_pos b wd dp j
   generalize pcAt b wd dp j = q at *
   generalize stepN b wd dp j = st at *
   have HW2 : Aside (wr.ownsRow w2.heap.size 105 3 u9 d.length (pcsCells d) /\ Below w2.heap.size w2 wr) := ⟨r1, r2⟩
   have HE : Aside ((d ++ [q]) ++ pcs b wd dp (j + st) = pcs b wd dp 0 /\ (d ++ [q]).length <= j + st) := by
    refine ⟨?_, by rw [List.length_append]; simp only [List.length_cons, List.length_nil]; omega⟩
    rw [List.append_assoc, List.singleton_append, <- hstep]; exact r3
   have hdl : (d.length + 1) * 24 <= 140737488355328 := by omega
   have HT : Aside (T < w2.heap.size) := (Array.getElem?_eq_some_iff.1 H2.out.1).1
   obtain ⟨l, di, y⟩ := q
   unfold pcV at HP
   simp only at hst hln
   have hwf : (Lit.int .i64 l).wf = true := WalkArith.wf_i64 (by omega)
   have wj : IntKind.i64.wrap ((j : Int) + (st : Int)) = ((j + st : Nat) : Int) := by rw [IntKind.wrap_i64]; omega
   clear r1 r2 r3 r4 hbr g1 hsteps hstep HR
   go_upto_region 10 with (first
    | (go_at_call 76; refine HP.out.mono ?_; rintro e w3 ⟨rfl, hb3⟩))
   obtain ⟨t, ht⟩ : ∃ t, t = w3.heap.size := ⟨_, rfl⟩
   obtain ⟨w4, hw4⟩ : ∃ w4, w4 = w3.alloc (Obj.cells #[Value.int IntKind.i64 l, Value.int IntKind.i64 di, Value.int IntKind.u8 (y.toNat : Int)] 105) := ⟨_, rfl⟩
   have hb4 := (Below.refl w3.heap.size w3).alloc (Nat.le_refl _) (Obj.cells #[Value.int IntKind.i64 l, Value.int IntKind.i64 di, Value.int IntKind.u8 (y.toNat : Int)] 105)
   rw [<- hw4] at hb4
   have g4 : w4.heap[t]? = some (Obj.cells #[Value.int IntKind.i64 l, Value.int IntKind.i64 di, Value.int IntKind.u8 (y.toNat : Int)] 105 (0, 0)) := by rw [hw4, ht]; exact heap_alloc_new _ _
   rw [<- hw4, <- ht]
   have hr34 : Below wr.heap.size wr w4 := hb3.trans (hb4.mono hb3.size)
   have hrow4 := own_below HW2.out.1 hr34
   have hB4 : Below w2.heap.size w2 w4 := HW2.out.2.trans (hr34.mono HW2.out.2.size)
   obtain ⟨v', w5, q1, q2, q3, q4, q5⟩ := push_pc Tryz.underlying77 info_pc w4 w2.heap.size u9 d (Pc.mk l di y) hrow4 hB4.size hdl
   have hut : ∀ k, u9.ownBlock = some k -> k ≠ t := fun k hk => by
    have := (HW2.out.1.lt k hk).2
    have := hb3.size
    omega
   have g5 : w5.heap[t]? = some (Obj.cells #[Value.int IntKind.i64 l, Value.int IntKind.i64 di, Value.int IntKind.u8 (y.toNat : Int)] 105 (0, 0)) := (q4.block t (Array.getElem?_eq_some_iff.1 g4).1 (fun h => hut t h rfl)).trans g4
   have n0 : w4.cell? ⟨t, 0, none⟩ = some (.int .i64 l) := by rw [Lib.cell_of_heap g4]; rfl
   have n1 : w4.cell? ⟨t, 1, none⟩ = some (.int .i64 di) := by rw [Lib.cell_of_heap g4]; rfl
   have n2 : w4.cell? ⟨t, 2, none⟩ = some (.int .u8 (y.toNat : Int)) := by rw [Lib.cell_of_heap g4]; rfl
   have m0 : w5.cell? ⟨t, 0, none⟩ = some (.int .i64 l) := by rw [Lib.cell_of_heap g5]; rfl
   have m1 : w5.cell? ⟨t, 1, none⟩ = some (.int .i64 di) := by rw [Lib.cell_of_heap g5]; rfl
   have m2 : w5.cell? ⟨t, 2, none⟩ = some (.int .u8 (y.toNat : Int)) := by rw [Lib.cell_of_heap g5]; rfl
   have HSZ := Lib.hid (size_any w5 (Pc.mk l di y) hwf)
   unfold pcV at HSZ
   rw [hst] at HSZ
   have HR5 : Aside (w5.ownsRow w2.heap.size 105 3 v' (d ++ [Pc.mk l di y]).length (pcsCells (d ++ [Pc.mk l di y])) /\ Below w2.heap.size w2 w5) := ⟨q2, hB4.trans q3⟩
   clear q2 q3 q4 q5 g5 g4 hut hB4 hrow4 hr34 hb4 hw4 ht hb3 k0 k1 k2 k3 hdl HW2 hwf
   dsimp only at q1
   go_wp2_with (first
    | (at_builtin; refine Lib.wpList_append_run _ rfl _ _ _ _ rfl _ _ rfl rfl _ _ q1 ?_)
    | (go_at_call 77; refine HSZ.out.mono ?_; rintro e w6 ⟨rfl, hb6⟩))
   go_roundg (b.length - (j + st))
   case measure => omega
   case rel => exact ⟨d ++ [Pc.mk l di y], j + st, v', rfl, by go_num, hsl.1, Nat.le_refl _, own_below HR5.out.1 hb6, HR5.out.2.trans (hb6.mono HR5.out.2.size), HE.out⟩
  ·obtain rfl : j = b.length := by omega
   have hltz : ¬ (b.length : Int) < (b.length : Int) := by omega
   have HE : Aside (wr.ownsRow W.heap.size 105 3 u9 (pcs b wd dp 0).length (pcsCells (pcs b wd dp 0)) /\ Below W.heap.size W wr) := by
    obtain ⟨r1, r2, r3, -⟩ := HR.out
    rw [pcs_done b wd dp _ (Nat.le_refl _), List.append_nil] at r3
    rw [<- r3]
    exact ⟨ownsRow_mono r1 H2.out.2.1.size, H2.out.2.1.trans (r2.mono H2.out.2.1.size)⟩
   clear HR
   go_wp2_with fail
   go_ret2
   exact ⟨_, rfl, HE.out⟩
theorem pieces_any (W : World) (ao : Option Addr) (c : Nat) (b : List UInt8) (window depth : Int) (hx : Src W (.slice ao b.length c) b) (hc : b.length <= c) :
  Calls Tryz.prog 56 #[.slice ao b.length c, .int .i64 window, .int .i64 depth] W fun e w' => ∃ v, e = .returned (.tuple #[v, .int .i64 (piecesR b window depth).2]) /\ w'.ownsRow W.heap.size 105 3 v (piecesR b window depth).1.length (pcsCells (piecesR b window depth).1) /\ Below W.heap.size W w' := by
 by_cases h : window < 1 \/ window > 32768 \/ depth < 0 \/ depth > 4096
 ·rw [piecesR_arg h]
  refine (pieces_arg W _ window depth h).mono ?_
  rintro e w' ⟨rfl, rfl⟩
  exact ⟨_, rfl, ⟨rfl, .inl ⟨rfl, rfl⟩⟩, Below.refl _ _⟩
 ·obtain ⟨wd, rfl⟩ : ∃ wd : Nat, window = wd := ⟨window.toNat, by omega⟩
  obtain ⟨dp, rfl⟩ : ∃ dp : Nat, depth = dp := ⟨depth.toNat, by omega⟩
  by_cases hn : b.length > 1048576
  ·have e : piecesR b wd dp = ([], 6) := by unfold piecesR; rw [if_neg h, if_pos hn]
   rw [e]
   refine (pieces_size W ao b.length c wd dp (by omega) (by omega) (by omega) hn).mono ?_
   rintro e w' ⟨rfl, rfl⟩
   exact ⟨_, rfl, ⟨rfl, .inl ⟨rfl, rfl⟩⟩, Below.refl _ _⟩
  ·have e : piecesR b wd dp = (pcs b wd dp 0, 0) := by unfold piecesR; rw [if_neg h, if_neg hn]; rfl
   rw [e]
   exact pieces_ok W ao c b wd dp hx hc (by omega) (by omega) (by omega) (by omega)
end Go.Proofs.YthmbbpfgbpacnaaGreatDoor.Lz
namespace Go.Proofs.YthmbbpfgbpacnaaGreatDoor.Lz
open Go.Lib
theorem piecesR_cases (b : List UInt8) (window depth : Int) : ((piecesR b window depth).2 ≠ 0 /\ (piecesR b window depth).1 = [] /\ ((window < 1 \/ window > 32768 \/ depth < 0 \/ depth > 4096) /\ (piecesR b window depth).2 = 1 \/ 1048576 < b.length /\ (piecesR b window depth).2 = 6)) \/
  ∃ wd dp : Nat, window = wd /\ depth = dp /\ 1 <= wd /\ wd <= 32768 /\ dp <= 4096 /\ b.length <= 1048576 /\ piecesR b window depth = (pcs b wd dp 0, 0) := by
 by_cases h : window < 1 \/ window > 32768 \/ depth < 0 \/ depth > 4096
 ·left
  rw [piecesR_arg h]
  exact ⟨by decide, rfl, .inl ⟨h, rfl⟩⟩
 ·by_cases hn : b.length > 1048576
  ·left
   have e : piecesR b window depth = ([], 6) := by unfold piecesR; rw [if_neg h, if_pos hn]
   rw [e]
   exact ⟨by decide, rfl, .inr ⟨hn, rfl⟩⟩
  ·right
   refine ⟨window.toNat, depth.toNat, by omega, by omega, by omega, by omega, by omega, by omega, ?_⟩
   unfold piecesR
   rw [if_neg h, if_neg hn]
def okW (wd : Nat) (p : Pc) : Prop := (p.len = 0 /\ p.dist = 0) \/ (3 <= p.len /\ p.len <= 258 /\ 1 <= p.dist /\ p.dist <= wd /\ p.byte = 0)
theorem pcAt_okW (b : List UInt8) (wd dp j : Nat) (hj : j < b.length) : okW wd (pcAt b wd dp j) := by
 have hg := great_good b wd dp j
 have hl := (stepN_le b wd dp j hj).2
 unfold stepN at hl
 unfold pcAt
 split
 ·exact .inl ⟨rfl, rfl⟩
 ·rename_i h0
  rcases hg with h1 | ⟨h1, h2, h3, h4, h5⟩
  ·exact absurd (by rw [h1]) h0
  ·exact .inr ⟨by simp only; omega, by simp only; omega, by simp only; omega, by simp only; omega, rfl⟩
theorem cpN_take (b : List UInt8) (d : Nat) : ∀ (n j : Nat), 0 < d -> d <= j -> j + n <= b.length -> (∀ k, k < n -> b[j - d + k]? = b[j + k]?) -> cpN n d (b.take j) = b.take (j + n) := by
 intro n
 induction n with
 | zero => intro j _ _ _ _; rfl
 | succ n ih =>
  intro j h1 h2 h3 h4
  rw [cpN_succ]
  have hlen : (b.take j).length = j := by rw [List.length_take]; omega
  have hjl : j < b.length := by omega
  have hget : (b.take j).getD ((b.take j).length - d) 0 = b[j] := by
   rw [hlen, List.getD_eq_getElem?_getD, List.getElem?_take, if_pos (by omega)]
   have := h4 0 (by omega)
   rw [Nat.add_zero, Nat.add_zero] at this
   rw [this, List.getElem?_eq_getElem hjl]
   rfl
  rw [hget, <- List.take_succ_eq_append_getElem hjl, ih (j + 1) h1 (by omega) (by omega) (fun k hk => ?_), show j + 1 + n = j + (n + 1) by omega]
  have := h4 (k + 1) (by omega)
  rw [show j - d + (k + 1) = j + 1 - d + k by omega, show j + (k + 1) = j + 1 + k by omega] at this
  exact this
theorem onto_take (b : List UInt8) (wd dp j : Nat) (hj : j < b.length) : ontoN (pcAt b wd dp j) (b.take j) = b.take (j + stepN b wd dp j) /\ (pcAt b wd dp j).dist <= j := by
 have hg := great_good b wd dp j
 have hs := stepN_le b wd dp j hj
 unfold ontoN
 rcases hg with h1 | ⟨h1, h2, h3, h4, h5⟩
 ·have e : pcAt b wd dp j = ⟨0, 0, b.getD j 0⟩ := pcAt_zero (by rw [h1])
  rw [e]
  simp only [if_true]
  have hst : stepN b wd dp j = 1 := by unfold stepN; rw [h1]; rfl
  rw [hst]
  refine ⟨?_, by omega⟩
  rw [List.take_succ_eq_append_getElem hj, List.getD_eq_getElem?_getD, List.getElem?_eq_getElem hj]
  rfl
 ·have e : pcAt b wd dp j = ⟨(greatN b wd dp j).1, (greatN b wd dp j).2, 0⟩ := pcAt_some (by omega)
  have hst : stepN b wd dp j = (greatN b wd dp j).1 := by unfold stepN; omega
  rw [e]
  rw [hst] at hs ⊢
  generalize greatN b wd dp j = g at *
  obtain ⟨n, d⟩ := g
  simp only at *
  rw [if_neg (by omega), Int.toNat_natCast, Int.toNat_natCast]
  refine ⟨cpN_take b d n j h2 h3 (by omega) (fun k hk => ?_), by omega⟩
  have := comm_same (b.drop (j - d)) ((b.drop j).take 258) k (by rw [show comm (b.drop (j - d)) ((b.drop j).take 258) = n from h5.symm]; exact hk)
  rw [List.getElem?_drop, List.getElem?_take, if_pos (by omega), List.getElem?_drop] at this
  exact this
theorem mayB_okW {wd : Nat} {p : Pc} (h : okW wd p) (hw : wd <= 32768) : mayB p = true := by
 unfold mayB
 rcases h with ⟨h1, h2⟩ | ⟨h1, h2, h3, h4, h5⟩
 ·rw [if_pos h1]; exact decide_eq_true h2
 ·rw [if_neg (by omega)]
  exact decide_eq_true ⟨h1, h2, h3, by omega, h5⟩
theorem exp_take (b : List UInt8) (wd dp : Nat) (hw : wd ≤ 32768) : ∀ n j, b.length ≤ j + n → j ≤ b.length → expR (pcs b wd dp j) b.length (b.take j) = (b, 0) := by
  intro n
  induction n with
  | zero =>
    intro j h hj
    rw [pcs_done b wd dp j (by omega), List.take_of_length_le (by omega)]
    rfl
  | succ n ih =>
    intro j h hj
    by_cases hlt : j < b.length
    · rw [pcs_step b wd dp j hlt, expR_cons]
      have hok := pcAt_okW b wd dp j hlt
      have hm := mayB_okW hok hw
      obtain ⟨h1, h2⟩ := onto_take b wd dp j hlt
      have hst := pcAt_step b wd dp j
      have hs := stepN_le b wd dp j hlt
      have hp := stepN_pos b wd dp j
      have hlen : (b.take j).length = j := by rw [List.length_take]; omega
      rw [hlen, if_neg (by rintro (q | q)
                           · rw [hm] at q; cases q
                           · omega), if_neg (by omega), h1]
      exact ih _ (by omega) (by omega)
    · rw [pcs_done b wd dp j (by omega), List.take_of_length_le (by omega)]
      rfl
theorem expand_back (b : List UInt8) (wd dp : Nat) (hw : wd <= 32768) (hb : b.length <= 1048576) : expandR (pcs b wd dp 0) b.length = (b, 0) := by
 unfold expandR
 rw [if_neg (by omega)]
 exact exp_take b wd dp hw b.length 0 (by omega) (by omega)
end Go.Proofs.YthmbbpfgbpacnaaGreatDoor.Lz
