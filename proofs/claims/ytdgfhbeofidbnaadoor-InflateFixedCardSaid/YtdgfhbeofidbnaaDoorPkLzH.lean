/- Package lz: piece, size. Package lz: Expand, what it makes; may, onto. Package lz: Expand. -/
import Derived.Test.YtdgfhbeofidbnaaDoorPkLzZ
import Derived.Test.YtdgfhbeofidbnaaDoorPkLzQ
namespace Go.Proofs.YtdgfhbeofidbnaaDoor.Lz
open Go.RowKit Go.Shelf Go.Lib Go.Proofs.YtdgfhbeofidbnaaDoor.Mem Go.Proofs.YtdgfhbeofidbnaaDoor.Huf

theorem pcAt_zero {b : List UInt8} {wd dp j : Nat} (h : (greatN b wd dp j).1 = 0) : pcAt b wd dp j = ⟨0, 0, b.getD j 0⟩ := if_pos h
theorem pcAt_some {b : List UInt8} {wd dp j : Nat} (h : (greatN b wd dp j).1 ≠ 0) : pcAt b wd dp j = ⟨(greatN b wd dp j).1, (greatN b wd dp j).2, 0⟩ := if_neg h

theorem size_pc : (Tryd.prog.info? 50).map (·.size) = some 3 := by kernel_rfl

set_option maxRecDepth 100000 in
set_option maxHeartbeats 4000000 in
theorem piece_any (W : World) (a p : Addr) (c1 c : Nat) (b : List UInt8) (wd dp j : Nat) (hx : Src W (.slice (some a) b.length c1) b) (hc1 : b.length ≤ c1) (hs : ∀ i v, (iVs (stepsL b))[i]? = some v → W.cell? (p.add i) = some v)
    (hb : b.length ≤ 1048576) (hj : j < b.length) (hw : wd ≤ 32768) (hd : dp ≤ 4096) :
    Calls Tryd.prog 137 #[.agg #[.slice (some a) b.length c1, .slice (some p) b.length c, .int .i64 (wd : Int), .int .i64 (dp : Int)], .int .i64 (j : Int)] W fun e w' =>
      e = .returned (pcV (pcAt b wd dp j)) ∧ Below W.heap.size W w' := by
  obtain ⟨N, hN⟩ : ∃ N, N = W.heap.size := ⟨_, rfl⟩
  obtain ⟨U, hU⟩ : ∃ U, U = (W.alloc (Obj.cells #[Value.slice (some a) b.length c1, Value.slice (some p) b.length c, Value.int IntKind.i64 (wd : Int), Value.int IntKind.i64 (dp : Int)] 178)).alloc (Obj.cells #[Value.int IntKind.i64 0, Value.int IntKind.i64 0, Value.int IntKind.u8 0] 50) := ⟨_, rfl⟩
  have hU0 : Below W.heap.size W U := by rw [hU]; exact ((Below.refl _ W).alloc (Nat.le_refl _) _).alloc (by simp) _
  have hU1 : U.heap[W.heap.size]? = some (Obj.cells #[Value.slice (some a) b.length c1, Value.slice (some p) b.length c, Value.int IntKind.i64 (wd : Int), Value.int IntKind.i64 (dp : Int)] 178 (0, 0)) := by rw [hU]; exact heap_alloc2_old _ _ _
  have hU2 : U.heap[W.heap.size + 1]? = some (Obj.cells #[Value.int IntKind.i64 0, Value.int IntKind.i64 0, Value.int IntKind.u8 0] 50 (0, 0)) := by rw [hU]; exact heap_alloc2_new _ _ _
  have HG := Lib.hid (greatest_any U a p c1 c b wd dp j (hx.below hU0) hc1 (fun i v hi => (hU0.cell (block_lt_of_cell (hs i v hi))).trans (hs i v hi)) hb hj hw hd)
  have HX : Aside (Src W (.slice (some a) b.length c1) b) := hx
  have j0 : (0 : Int) ≤ (j : Int) := by omega
  have jl : (j : Int) < (b.length : Int) := by omega
  have hp0 := @pcAt_zero b wd dp j
  have hp1 := @pcAt_some b wd dp j
  have hgl := (stepN_le b wd dp j hj).2
  unfold stepN at hgl
  generalize greatN b wd dp j = g at *
  obtain ⟨u, d0⟩ := g
  have HP : Aside ((u = 0 → pcAt b wd dp j = ⟨0, 0, b.getD j 0⟩) ∧ (u ≠ 0 → pcAt b wd dp j = ⟨u, d0, 0⟩)) := ⟨hp0, hp1⟩
  clear hp0 hp1 hx hs
  go_enter Tryd.func137, Tryd.ntmps137
  go_wp2_with fail
  rw [← hU]
  clear hU
  refine HG.out.mono ?_
  rintro e w1 ⟨rfl, hb1⟩
  obtain ⟨B1, hB1⟩ : ∃ B1, B1 = W.heap.size + 1 := ⟨_, rfl⟩
  rw [← hN] at hU1 ⊢
  rw [← hB1] at hU2
  rw [hN, ← hB1, ← hN]
  have g1 : w1.heap[N]? = some (Obj.cells #[Value.slice (some a) b.length c1, Value.slice (some p) b.length c, Value.int IntKind.i64 (wd : Int), Value.int IntKind.i64 (dp : Int)] 178 (0, 0)) := (hb1.block N (Array.getElem?_eq_some_iff.1 hU1).1).trans hU1
  have g2 : w1.heap[B1]? = some (Obj.cells #[Value.int IntKind.i64 0, Value.int IntKind.i64 0, Value.int IntKind.u8 0] 50 (0, 0)) := (hb1.block B1 (Array.getElem?_eq_some_iff.1 hU2).1).trans hU2
  have hbW : Below W.heap.size W w1 := hU0.trans (hb1.mono hU0.size)
  have k0 : w1.cell? ⟨N, 0, none⟩ = some (.slice (some a) b.length c1) := by rw [Lib.cell_of_heap g1]; rfl
  have m0 : w1.cell? ⟨B1, 0, none⟩ = some (.int .i64 0) := by rw [Lib.cell_of_heap g2]; rfl
  have m1 : w1.cell? ⟨B1, 1, none⟩ = some (.int .i64 0) := by rw [Lib.cell_of_heap g2]; rfl
  have m2 : w1.cell? ⟨B1, 2, none⟩ = some (.int .u8 0) := by rw [Lib.cell_of_heap g2]; rfl
  have f0 := Lib.frozen_of_heap g2 0
  have f1 := Lib.frozen_of_heap g2 1
  have f2 := Lib.frozen_of_heap g2 2
  have cb : w1.cell? (a.add j) = some (.int .u8 ((b[j]).toNat : Int)) := src_cell (HX.out.below hbW) j hj
  have HBW : Aside (Below W.heap.size W w1 ∧ W.heap.size ≤ B1 ∧ w1.heap[B1]? = some (Obj.cells #[Value.int IntKind.i64 0, Value.int IntKind.i64 0, Value.int IntKind.u8 0] 50 (0, 0))) := ⟨hbW, by omega, g2⟩
  have HBJ : Aside (b.getD j 0 = b[j]) := by
    show b.getD j 0 = b[j]
    rw [List.getD_eq_getElem?_getD, List.getElem?_eq_getElem hj]; rfl
  have FIN : Aside (∀ x y z : Value, (((w1.setCell ⟨B1, 0, none⟩ x).setCell ⟨B1, 1, none⟩ y).setCell ⟨B1, 2, none⟩ z).heap[B1]? = some (.cells #[x, y, z] 50 (0, 0)) ∧ Below W.heap.size W (((w1.setCell ⟨B1, 0, none⟩ x).setCell ⟨B1, 1, none⟩ y).setCell ⟨B1, 2, none⟩ z)) := fun x y z => by
    obtain ⟨q1, q2, q3⟩ := HBW.out
    refine ⟨(Lib.heap_setCell_same (i := 2) ((Lib.heap_setCell_same (i := 1) ((Lib.heap_setCell_same (i := 0) q3 _).trans rfl) _).trans rfl) _).trans rfl, ?_⟩
    have ho : Only (fun k => k = B1) w1 (((w1.setCell ⟨B1, 0, none⟩ x).setCell ⟨B1, 1, none⟩ y).setCell ⟨B1, 2, none⟩ z) :=
      ((Only.setCell (S := fun k => k = B1) rfl _ _).trans (Only.setCell (S := fun k => k = B1) rfl _ _) (fun i q => .inl q)).trans (Only.setCell (S := fun k => k = B1) rfl _ _) (fun i q => .inl q)
    exact q1.trans (ho.below q1.size (fun k hk => by omega))
  generalize b[j] = y at *
  clear hU0 hU1 hU2 hB1 hN g1 g2 hbW HG hb1
  by_cases hu : u = 0
  · have HPC : Aside (pcAt b wd dp j = ⟨0, 0, y⟩) := by
      show pcAt b wd dp j = ⟨0, 0, y⟩
      rw [HP.out.1 hu, HBJ.out]
    subst hu
    clear HP
    go_wp2_with fail
    obtain ⟨z1, z2⟩ := FIN.out (.int .i64 0) (.int .i64 0) (.int .u8 (y.toNat : Int))
    exact bodyPost_ret (results_cell_row rfl _ _ B1 _ _ _ _ rfl z1 Tryd.underlying50 rfl size_pc) rfl ⟨by rw [HPC.out]; rfl, z2⟩
  · have huz : ¬ (u : Int) = 0 := by omega
    have hub : ((u : Int) == 0) = false := by rw [beq_eq_false_iff_ne]; exact huz
    have HPC : Aside (pcAt b wd dp j = ⟨u, d0, 0⟩) := HP.out.2 hu
    clear HP
    go_wp2_with fail
    obtain ⟨z1, z2⟩ := FIN.out (.int .i64 (u : Int)) (.int .i64 (d0 : Int)) (.int .u8 0)
    exact bodyPost_ret (results_cell_row rfl _ _ B1 _ _ _ _ rfl z1 Tryd.underlying50 rfl size_pc) rfl ⟨by rw [HPC.out]; rfl, z2⟩

theorem size_any (W : World) (q : Pc) (hq : (Lit.int .i64 q.len).wf = true) :
    Calls Tryd.prog 36 #[pcV q] W fun e w' => e = .returned (.int .i64 (max q.len 1)) ∧ Below W.heap.size W w' := by
  obtain ⟨l, d, y⟩ := q
  unfold pcV
  go_enter Tryd.func36, Tryd.ntmps36
  go_wp2_with fail
  go_ret
  exact ⟨rfl, (Below.refl _ W).alloc (Nat.le_refl _) _⟩
end Go.Proofs.YtdgfhbeofidbnaaDoor.Lz
namespace Go.Proofs.YtdgfhbeofidbnaaDoor.Lz
open Go.RowKit Go.Shelf Go.Lib Go.Proofs.YtdgfhbeofidbnaaDoor.Mem Go.Proofs.YtdgfhbeofidbnaaDoor.Huf

/-- May it be, ahead of any text? -/
def mayB (p : Pc) : Bool := if p.len = 0 then decide (p.dist = 0) else decide (3 ≤ p.len ∧ p.len ≤ 258 ∧ 1 ≤ p.dist ∧ p.dist ≤ 32768 ∧ p.byte = 0)
def cpN : Nat → Nat → List UInt8 → List UInt8
  | 0, _, out => out
  | n + 1, d, out => cpN n d (out ++ [out.getD (out.length - d) 0])
theorem cpN_succ (n d : Nat) (out : List UInt8) : cpN (n + 1) d out = cpN n d (out ++ [out.getD (out.length - d) 0]) := rfl
def ontoN (p : Pc) (out : List UInt8) : List UInt8 := if p.len = 0 then out ++ [p.byte] else cpN p.len.toNat p.dist.toNat out
def expR : List Pc → Int → List UInt8 → List UInt8 × Int
  | [], _, out => (out, 0)
  | p :: r, m, out => if mayB p = false ∨ (out.length : Int) < p.dist then ([], 31) else if max p.len 1 > m - out.length then ([], 6) else expR r m (ontoN p out)
theorem expR_cons (p : Pc) (r : List Pc) (m : Int) (out : List UInt8) : expR (p :: r) m out = if mayB p = false ∨ (out.length : Int) < p.dist then ([], 31) else if max p.len 1 > m - out.length then ([], 6) else expR r m (ontoN p out) := rfl
/-- What Expand answers. -/
def expandR (l : List Pc) (m : Int) : List UInt8 × Int := if m < 0 ∨ m > 1048576 then ([], 1) else expR l m []
theorem cpN_len (n d : Nat) : ∀ out, (cpN n d out).length = out.length + n := by
  induction n with
  | zero => intro out; rfl
  | succ n ih => intro out; rw [cpN_succ, ih, List.length_append]; simp; omega
theorem ontoN_len (p : Pc) (out : List UInt8) (h : mayB p = true) : (ontoN p out).length = out.length + (max p.len 1).toNat := by
  unfold ontoN
  unfold mayB at h
  split
  · rename_i h0; rw [h0, List.length_append]; rfl
  · rename_i h0
    rw [if_neg h0] at h
    have := of_decide_eq_true h
    rw [cpN_len]; omega
theorem expR_len : ∀ (l : List Pc) (m : Int) (out : List UInt8), (out.length : Int) ≤ m → ((expR l m out).1.length : Int) ≤ m := by
  intro l
  induction l with
  | nil => intro m out h; exact h
  | cons p r ih =>
    intro m out h
    rw [expR_cons]
    split
    · simp only [List.length_nil]; omega
    · rename_i h1
      split
      · simp only [List.length_nil]; omega
      · rename_i h2
        refine ih m _ ?_
        have hm : mayB p = true := by
          cases hb : mayB p with
          | true => rfl
          | false => exact absurd (.inl hb) h1
        rw [ontoN_len p out hm]
        omega

set_option maxRecDepth 100000 in
set_option maxHeartbeats 4000000 in
theorem may_any (W : World) (p : Pc) : Calls Tryd.prog 35 #[pcV p] W fun e w' => e = .returned (.bool (mayB p)) ∧ Below W.heap.size W w' := by
  obtain ⟨l, d, y⟩ := p
  obtain ⟨r, hr⟩ : ∃ r, r = mayB ⟨l, d, y⟩ := ⟨_, rfl⟩
  rw [← hr]
  unfold pcV
  unfold mayB at hr
  simp only at hr
  have hb : ∀ o, Below W.heap.size W (W.alloc o) := fun o => (Below.refl _ W).alloc (Nat.le_refl _) _
  by_cases h0 : l = 0
  · rw [if_pos h0] at hr
    subst h0
    by_cases h1 : d = 0
    · rw [decide_eq_true h1] at hr
      subst hr h1
      go_enter Tryd.func35, Tryd.ntmps35
      go_wp2_with fail
      go_ret
      exact ⟨rfl, hb _⟩
    · rw [decide_eq_false h1] at hr
      have hbb : (d == 0) = false := by rw [beq_eq_false_iff_ne]; exact h1
      subst hr
      go_enter Tryd.func35, Tryd.ntmps35
      go_wp2_with fail
      go_ret
      exact ⟨rfl, hb _⟩
  · rw [if_neg h0] at hr
    have h0b : (l == 0) = false := by rw [beq_eq_false_iff_ne]; exact h0
    by_cases h1 : l ≥ 3
    · by_cases h2 : l ≤ 258
      · by_cases h3 : d ≥ 1
        · by_cases h4 : d ≤ 32768
          · by_cases h5 : y = 0
            · rw [decide_eq_true ⟨h1, h2, h3, h4, h5⟩] at hr
              subst hr h5
              go_enter Tryd.func35, Tryd.ntmps35
              go_wp2_with fail
              go_ret
              exact ⟨rfl, hb _⟩
            · rw [decide_eq_false (fun q => h5 q.2.2.2.2)] at hr
              have h5z : ¬ ((y.toNat : Nat) : Int) = 0 := fun e => h5 (u8_inj (b := 0) e)
              have h5b : (((y.toNat : Nat) : Int) == 0) = false := by rw [beq_eq_false_iff_ne]; exact h5z
              subst hr
              go_enter Tryd.func35, Tryd.ntmps35
              go_wp2_with fail
              go_ret
              exact ⟨rfl, hb _⟩
          · rw [decide_eq_false (fun q => h4 q.2.2.2.1)] at hr
            subst hr
            go_enter Tryd.func35, Tryd.ntmps35
            go_wp2_with fail
            go_ret
            exact ⟨rfl, hb _⟩
        · rw [decide_eq_false (fun q => h3 q.2.2.1)] at hr
          subst hr
          go_enter Tryd.func35, Tryd.ntmps35
          go_wp2_with fail
          go_ret
          exact ⟨rfl, hb _⟩
      · rw [decide_eq_false (fun q => h2 q.2.1)] at hr
        subst hr
        go_enter Tryd.func35, Tryd.ntmps35
        go_wp2_with fail
        go_ret
        exact ⟨rfl, hb _⟩
    · rw [decide_eq_false (fun q => h1 q.1)] at hr
      subst hr
      go_enter Tryd.func35, Tryd.ntmps35
      go_wp2_with fail
      go_ret
      exact ⟨rfl, hb _⟩

/-- 'append(v, c)': as the call lays the one byte. -/
theorem push_b (W : World) (B : Nat) (v : Value) (xs : List UInt8) (c : UInt8) (h : W.ownsRow B 5 1 v xs.length (bVs xs)) (hB : B ≤ W.heap.size) (hlim : xs.length ≤ 1048576) :
    ∃ v' W', (Builtin.append_ #[22, 22] 22 #[v, .slice (some ⟨W.heap.size, 0, none⟩) 1 1]).run Tryd.prog (W.alloc (.cells #[.int .u8 (c.toNat : Int)] 5)) = .ok v' W' ∧ W'.ownsRow B 5 1 v' (xs ++ [c]).length (bVs (xs ++ [c])) ∧ Below B W W' ∧ Only (fun k => v.ownBlock = some k) W W' := by
  have hA := (Below.refl W.heap.size W).alloc (Nat.le_refl _) (.cells #[.int .u8 (c.toNat : Int)] 5)
  have hrow := own_below h hA
  have hnews : Src (W.alloc (.cells #[.int .u8 (c.toNat : Int)] 5)) (.slice (some ⟨W.heap.size, 0, none⟩) 1 1) [c] := .inr ⟨_, 1, rfl, fun j u hj => by
    rw [Lib.addr_add, cell_of_row _ _ _ _ _ (0, 0) (heap_alloc_new _ _), Nat.zero_add, ← Array.getElem?_toList]
    exact hj⟩
  obtain ⟨v', W', h1, h2, h3, h4⟩ := app_any _ B v _ 22 xs [c] hrow (Nat.le_trans hB hA.size) hnews (by simp only [List.length_cons, List.length_nil]; omega)
  exact ⟨v', W', h1, h2, (hA.mono hB).trans (bel_grown hrow h3 (Nat.le_trans hB hA.size) (Nat.le_refl B)), (Only.of_below hA).trans (only_grown h3 (fun k hk => hk)) (fun i hi => .inl hi)⟩

set_option maxRecDepth 100000 in
set_option maxHeartbeats 4000000 in
theorem onto_any (W : World) (B : Nat) (v : Value) (out : List UInt8) (p : Pc) (h : W.ownsRow B 5 1 v out.length (bVs out)) (hB : B ≤ W.heap.size) (hm : mayB p = true) (hd : p.dist ≤ (out.length : Int)) (hlim : out.length + (max p.len 1).toNat ≤ 1048576) :
    Calls Tryd.prog 37 #[pcV p, v] W fun e w' => ∃ v', e = .returned v' ∧ w'.ownsRow B 5 1 v' (ontoN p out).length (bVs (ontoN p out)) ∧ Below B W w' := by
  obtain ⟨l, d, y⟩ := p
  unfold pcV
  unfold mayB at hm
  unfold ontoN
  simp only at hm hd hlim ⊢
  obtain ⟨N, hN⟩ : ∃ N, N = W.heap.size := ⟨_, rfl⟩
  obtain ⟨U, hU⟩ : ∃ U, U = W.alloc (.cells #[.int .i64 l, .int .i64 d, .int .u8 (y.toNat : Int)] 50) := ⟨_, rfl⟩
  have hbU : Below W.heap.size W U := by rw [hU]; exact (Below.refl _ W).alloc (Nat.le_refl _) _
  have hU0 : U.heap[N]? = some (.cells #[.int .i64 l, .int .i64 d, .int .u8 (y.toNat : Int)] 50 (0, 0)) := by rw [hU, hN]; exact heap_alloc_new _ _
  have k0 : U.cell? ⟨N, 0, none⟩ = some (.int .i64 l) := by rw [Lib.cell_of_heap hU0]; rfl
  have k1 : U.cell? ⟨N, 1, none⟩ = some (.int .i64 d) := by rw [Lib.cell_of_heap hU0]; rfl
  have k2 : U.cell? ⟨N, 2, none⟩ = some (.int .u8 (y.toNat : Int)) := by rw [Lib.cell_of_heap hU0]; rfl
  have hoU := own_below h hbU
  have hBU : Below B W U := hbU.mono hB
  by_cases h0 : l = 0
  · simp only [h0, if_true]
    obtain ⟨v', W', q1, q2, q3, q4⟩ := push_b U B v out y hoU (Nat.le_trans hB hBU.size) (by omega)
    have HE : Aside (W'.ownsRow B 5 1 v' (out ++ [y]).length (bVs (out ++ [y])) ∧ Below B W W') := ⟨q2, hBU.trans q3⟩
    have hl0 : (l == 0) = true := by rw [beq_iff_eq]; exact h0
    clear q2 q3 q4 hbU hU0 hoU hBU h hm hd hlim
    subst h0
    go_enter Tryd.func37, Tryd.ntmps37
    go_upto_region 1 with fail
    rw [← hU, ← hN]
    clear hU hN
    go_wp2_with (at_builtin; refine Lib.wpList_append_run _ rfl _ _ _ _ rfl _ _ rfl rfl _ _ q1 ?_)
    go_ret
    exact ⟨_, rfl, HE.out⟩
  · rw [if_neg h0] at hm
    obtain ⟨m1, m2, m3, m4, m5⟩ := of_decide_eq_true hm
    simp only [h0, if_false]
    obtain ⟨n, rfl⟩ : ∃ n : Nat, l = n := ⟨l.toNat, by omega⟩
    obtain ⟨e, rfl⟩ : ∃ e : Nat, d = e := ⟨d.toNat, by omega⟩
    rw [Int.toNat_natCast, Int.toNat_natCast]
    have hl0 : ((n : Int) == 0) = false := by rw [beq_eq_false_iff_ne]; exact h0
    have HU : Aside (U.ownsRow B 5 1 v out.length (bVs out) ∧ Below B W U ∧ U.heap[N]? = some (.cells #[.int .i64 (n : Int), .int .i64 (e : Int), .int .u8 (y.toNat : Int)] 50 (0, 0)) ∧ (∀ k, v.ownBlock = some k → k < N) ∧ B ≤ N) := ⟨hoU, hBU, hU0, fun k hk => by have := (h.lt k hk).2; omega, by omega⟩
    have HLM : Aside (out.length + n ≤ 1048576 ∧ 1 ≤ e ∧ e ≤ out.length) := ⟨by omega, by omega, by omega⟩
    clear hbU hU0 hoU hBU h hm hd hlim k2 k1 m1 m2 m3 m4 m5
    go_enter Tryd.func37, Tryd.ntmps37
    go_upto_region 1 with fail
    rw [← hU, ← hN]
    have HNW : Aside (N = W.heap.size) := hN
    clear hU hN
    go_upto_region 4 with fail
    clear k0
    go_loopg [1, 15] n (fun kx s1 s15 wr => ∃ (i : Nat) (o : List UInt8) (u1 : Value), u1 = s1 ∧ s15 = .int .i64 (i : Int) ∧ i ≤ n ∧ n - i ≤ kx ∧ Aside (wr.ownsRow B 5 1 u1 o.length (bVs o) ∧ Below B W wr ∧ wr.heap[N]? = some (.cells #[.int .i64 (n : Int), .int .i64 (e : Int), .int .u8 (y.toNat : Int)] 50 (0, 0)) ∧ (∀ k, u1.ownBlock = some k → k ≠ N) ∧ cpN (n - i) e o = cpN n e out ∧ o.length = out.length + i))
    case atStart => exact ⟨0, out, v, rfl, rfl, Nat.zero_le _, Nat.le_refl _, HU.out.1, HU.out.2.1, HU.out.2.2.1, fun k hk => by have := HU.out.2.2.2.1 k hk; omega, rfl, rfl⟩
    case round =>
      obtain ⟨i, o, u1, rfl, rfl, hi, hkx, HR⟩ := hrel
      obtain ⟨r1, r2, r3, r4, r5, r6⟩ := HR.out
      have hlm := HLM.out
      by_cases hlt : i < n
      · have hltz : (i : Int) < (n : Int) := by omega
        obtain ⟨uo, cap, hu1, hcap, hcm, hun⟩ := own_shape r1
        subst hu1
        cases uo with
        | none => have := (hun rfl).1; omega
        | some q =>
          obtain ⟨g, rfl, hg1, hg2⟩ := own_block r1
          obtain ⟨j, hj⟩ : ∃ j, j = o.length - e := ⟨_, rfl⟩
          have hjl : j < o.length := by omega
          have hc := r1.cells (g := g) rfl
          have cj : wr.cell? ⟨g, j, none⟩ = some (.int .u8 ((o[j]).toNat : Int)) := by
            have := hc j _ (bVs_at o j hjl)
            rwa [Lib.addr_add, Nat.zero_add] at this
          have k1 : wr.cell? ⟨N, 1, none⟩ = some (.int .i64 (e : Int)) := by rw [Lib.cell_of_heap r3]; rfl
          have wj : IntKind.i64.wrap ((o.length : Int) - (e : Int)) = (j : Int) := by rw [IntKind.wrap_i64]; omega
          have wi : IntKind.i64.wrap ((i : Int) + 1) = (i : Int) + 1 := by rw [IntKind.wrap_i64]; omega
          have j0 : (0 : Int) ≤ (j : Int) := by omega
          have j1 : (j : Int) < (o.length : Int) := by omega
          have hget : o.getD (o.length - e) 0 = o[j] := by rw [← hj, List.getD_eq_getElem?_getD, List.getElem?_eq_getElem hjl]; rfl
          have hcp : cpN (n - (i + 1)) e (o ++ [o[j]]) = cpN n e out := by
            rw [← r5, ← hget, ← cpN_succ, show n - (i + 1) + 1 = n - i by omega]
          generalize o[j] = x at *
          obtain ⟨v', W', q1, q2, q3, q4⟩ := push_b wr B _ o x r1 (Nat.le_trans (Nat.le_of_lt (Nat.lt_of_le_of_lt hg1 hg2)) (Nat.le_refl _)) (by omega)
          have hgN : g ≠ N := r4 g rfl
          have HE : Aside (W'.ownsRow B 5 1 v' (o ++ [x]).length (bVs (o ++ [x])) ∧ Below B W W' ∧ W'.heap[N]? = some (.cells #[.int .i64 (n : Int), .int .i64 (e : Int), .int .u8 (y.toNat : Int)] 50 (0, 0)) ∧ (∀ k, v'.ownBlock = some k → k ≠ N) ∧ cpN (n - (i + 1)) e (o ++ [x]) = cpN n e out ∧ (o ++ [x]).length = out.length + (i + 1)) := by
            have hN1 : W'.heap[N]? = some (.cells #[.int .i64 (n : Int), .int .i64 (e : Int), .int .u8 (y.toNat : Int)] 50 (0, 0)) := (q4.block N (Array.getElem?_eq_some_iff.1 r3).1 (fun h => hgN (by simpa [Value.ownBlock] using h))).trans r3
            refine ⟨q2, r2.trans q3, hN1, fun k hk hkN => ?_, hcp, by rw [List.length_append]; simp only [List.length_cons, List.length_nil]; omega⟩
            subst hkN
            rcases q2.2 with ⟨hv, _⟩ | ⟨g', cap', cur, hv, _, hh, _⟩
            · rw [hv] at hk; cases hk
            · rw [hv] at hk
              obtain rfl : g' = k := by simpa [Value.ownBlock] using hk
              rw [hN1] at hh
              simp at hh
          clear q2 q3 q4 r1 r2 r3 r4 r5 r6 hcp hget HR hj hc hg1 hg2 hun hgN hcap hcm
          go_wp2_with (at_builtin; refine Lib.wpList_append_run _ rfl _ _ _ _ rfl _ _ rfl rfl _ _ q1 ?_)
          go_roundg (n - (i + 1))
          case measure => omega
          case rel => exact ⟨i + 1, o ++ [x], v', rfl, by go_num, by omega, Nat.le_refl _, HE.out⟩
      · obtain rfl : i = n := by omega
        have hltz : ¬ (i : Int) < (i : Int) := by omega
        have HE : Aside (wr.ownsRow B 5 1 u1 (cpN i e out).length (bVs (cpN i e out)) ∧ Below B W wr) := by
          rw [Nat.sub_self] at r5
          rw [← r5]
          exact ⟨r1, r2⟩
        clear r1 r2 r3 r4 r5 r6 HR
        go_wp2_with fail
        go_ret
        exact ⟨_, rfl, HE.out⟩
end Go.Proofs.YtdgfhbeofidbnaaDoor.Lz
namespace Go.Proofs.YtdgfhbeofidbnaaDoor.Lz
open Go.RowKit Go.Shelf Go.Lib Go.Proofs.YtdgfhbeofidbnaaDoor.Mem Go.Proofs.YtdgfhbeofidbnaaDoor.Huf

theorem expandR_arg {l : List Pc} {m : Int} (h : m < 0 ∨ m > 1048576) : expandR l m = ([], 1) := if_pos h
theorem expandR_of {l : List Pc} {m : Int} (h : ¬ (m < 0 ∨ m > 1048576)) : expandR l m = expR l m [] := if_neg h

set_option maxRecDepth 100000 in
set_option maxHeartbeats 4000000 in
theorem expand_arg (W : World) (x : Value) (m : Int) (h : m < 0 ∨ m > 1048576) :
    Calls Tryd.prog 18 #[x, .int .i64 m] W fun e w' => e = .returned (.tuple #[.slice none 0 0, .int .i64 1]) ∧ W = w' := by
  by_cases h1 : m < 0
  · go_enter Tryd.func18, Tryd.ntmps18
    go_wp2_with fail
    go_ret2
    exact ⟨rfl, rfl⟩
  · have h2 : m > 1048576 := by omega
    clear h
    go_enter Tryd.func18, Tryd.ntmps18
    go_wp2_with fail
    go_ret2
    exact ⟨rfl, rfl⟩

set_option maxRecDepth 100000 in
set_option maxHeartbeats 4000000 in
theorem expand_ok (W : World) (x : Value) (l : List Pc) (m : Int) (hx : SrcP W x l) (hok : ∀ p ∈ l, okPc p) (h1 : ¬ m < 0) (h2 : ¬ m > 1048576) (hl : l.length ≤ 5864062014805) :
    Calls Tryd.prog 18 #[x, .int .i64 m] W fun e w' => ∃ v, e = .returned (.tuple #[v, .int .i64 (expR l m []).2]) ∧ w'.ownsRow W.heap.size 5 1 v (expR l m []).1.length (bVs (expR l m []).1) ∧ Below W.heap.size W w' := by
  obtain ⟨ao, c, rfl, hao⟩ := hx.shape
  have HX : Aside (SrcP W (.slice ao l.length c) l) := hx
  have HA : Aside (0 < l.length → ∃ a, ao = some a) := hao
  have HOK : Aside (∀ p ∈ l, okPc p) := hok
  obtain ⟨R, hR⟩ : ∃ R, R = expR l m [] := ⟨_, rfl⟩
  rw [← hR]
  have HR0 : Aside (expR l m [] = R) := hR.symm
  clear hx hao hok hR
  go_enter Tryd.func18, Tryd.ntmps18
  go_upto_region 5 with fail
  go_loopg [6, 17] l.length (fun kx s6 s17 wr => ∃ (i : Nat) (o : List UInt8) (u6 : Value), u6 = s6 ∧ s17 = .int .i64 i ∧ i ≤ l.length ∧ l.length - i ≤ kx ∧ (o.length : Int) ≤ m ∧ Aside (wr.ownsRow W.heap.size 5 1 u6 o.length (bVs o) ∧ Below W.heap.size W wr ∧ expR (l.drop i) m o = R))
  case atStart => exact ⟨0, [], _, rfl, rfl, Nat.zero_le _, Nat.le_refl _, by simp only [List.length_nil]; omega, ⟨rfl, .inl ⟨rfl, rfl⟩⟩, Below.refl _ _, HR0.out⟩
  case round =>
    obtain ⟨i, o, u6, rfl, rfl, hi, hkx, hol, HR⟩ := hrel
    by_cases hlt : i < l.length
    · have hltz : (i : Int) < (l.length : Int) := by omega
      have i0 : (0 : Int) ≤ (i : Int) := by omega
      have wi : IntKind.i64.wrap ((i : Int) + 1) = (i : Int) + 1 := by rw [IntKind.wrap_i64]; omega
      obtain ⟨a, rfl⟩ := HA.out (by omega)
      obtain ⟨r1, r2, r3⟩ := HR.out
      obtain ⟨c1, c2, c3⟩ := srcp_cells (HX.out.below r2) i hlt
      have hokp := HOK.out l[i] (List.getElem_mem hlt)
      rw [List.drop_eq_getElem_cons hlt, expR_cons] at r3
      generalize l[i] = p at *
      obtain ⟨uo, cap, hu6, hcap, hcm, hun⟩ := own_shape r1
      subst hu6
      have HW : Aside (wr.ownsRow W.heap.size 5 1 (.slice uo o.length cap) o.length (bVs o) ∧ Below W.heap.size W wr) := ⟨r1, r2⟩
      have HM := fun w => Lib.hid (may_any w p)
      have HS := fun w => Lib.hid (size_any w p hokp.1)
      have HO := fun w (B : Nat) (h : w.ownsRow B 5 1 (.slice uo o.length cap) o.length (bVs o)) hB hm hd hlim => Lib.hid (onto_any w B _ o p h hB hm hd hlim)
      obtain ⟨T, hT⟩ : ∃ T, T = wr.heap.size := ⟨_, rfl⟩
      obtain ⟨w3, hw3⟩ : ∃ w3, w3 = wr.alloc (Obj.cells #[Value.int IntKind.i64 p.len, Value.int IntKind.i64 p.dist, Value.int IntKind.u8 (p.byte.toNat : Int)] 50) := ⟨_, rfl⟩
      have hb3 : Below wr.heap.size wr w3 := by rw [hw3]; exact (Below.refl _ wr).alloc (Nat.le_refl _) _
      have g3 : w3.heap[T]? = some (Obj.cells #[Value.int IntKind.i64 p.len, Value.int IntKind.i64 p.dist, Value.int IntKind.u8 (p.byte.toNat : Int)] 50 (0, 0)) := by rw [hw3, hT]; exact heap_alloc_new _ _
      have HB3 : Aside (Below wr.heap.size wr w3 ∧ w3.heap[T]? = some (Obj.cells #[Value.int IntKind.i64 p.len, Value.int IntKind.i64 p.dist, Value.int IntKind.u8 (p.byte.toNat : Int)] 50 (0, 0))) := ⟨hb3, g3⟩
      have HP : Aside (okPc p) := hokp
      clear r1 r2 HR hb3 g3 hokp
      go_upto_region 7 with fail
      rw [← hw3, ← hT]
      clear hw3 hT c1 c2 c3
      have k3 : ∀ w, Below w3.heap.size w3 w → w.heap[T]? = some (Obj.cells #[Value.int IntKind.i64 p.len, Value.int IntKind.i64 p.dist, Value.int IntKind.u8 (p.byte.toNat : Int)] 50 (0, 0)) := fun w hb => (hb.block T (Array.getElem?_eq_some_iff.1 HB3.out.2).1).trans HB3.out.2
      have K0 : ∀ w, Below w3.heap.size w3 w → w.cell? ⟨T, 0, none⟩ = some (.int .i64 p.len) := fun w hb => by rw [Lib.cell_of_heap (k3 w hb)]; rfl
      have K1 : ∀ w, Below w3.heap.size w3 w → w.cell? ⟨T, 1, none⟩ = some (.int .i64 p.dist) := fun w hb => by rw [Lib.cell_of_heap (k3 w hb)]; rfl
      have K2 : ∀ w, Below w3.heap.size w3 w → w.cell? ⟨T, 2, none⟩ = some (.int .u8 (p.byte.toNat : Int)) := fun w hb => by rw [Lib.cell_of_heap (k3 w hb)]; rfl
      have x0 := K0 w3 (Below.refl _ _)
      have x1 := K1 w3 (Below.refl _ _)
      have x2 := K2 w3 (Below.refl _ _)
      have HBW : Aside (∀ w, Below w3.heap.size w3 w → Below W.heap.size W w) := fun w hb => by
        have h1 : Below W.heap.size W w3 := HW.out.2.trans (HB3.out.1.mono HW.out.2.size)
        exact h1.trans (hb.mono h1.size)
      clear k3
      have wm : IntKind.i64.wrap (m - (o.length : Int)) = m - (o.length : Int) := by rw [IntKind.wrap_i64]; omega
      unfold pcV at HM HS HO
      obtain ⟨mb, hmb⟩ : ∃ mb, mb = mayB p := ⟨_, rfl⟩
      rw [← hmb] at HM r3
      cases mb with
      | false =>
        rw [if_pos (.inl rfl)] at r3
        subst r3
        clear HO HS HR0 K0 K1 K2 hmb
        go_wp2_with (go_at_call 35; refine (HM _).out.mono ?_; rintro e w4 ⟨rfl, hb4⟩; have HB4 := Lib.hid hb4; clear hb4)
        go_ret2
        exact ⟨_, rfl, ⟨rfl, .inl ⟨rfl, rfl⟩⟩, HBW.out _ HB4.out⟩
      | true =>
        have HMB : Aside (mayB p = true) := hmb.symm
        clear hmb
        by_cases hd : (o.length : Int) < p.dist
        · rw [if_pos (.inr hd)] at r3
          have hdz : p.dist > (o.length : Int) := hd
          subst r3
          clear HO HS HR0
          go_upto_region 8 with (go_at_call 35; refine (HM _).out.mono ?_; rintro e w4 ⟨rfl, hb4⟩; have y1 := K1 w4 hb4; have HB4 := Lib.hid hb4; clear hb4)
          go_wp2_with fail
          go_ret2
          exact ⟨_, rfl, ⟨rfl, .inl ⟨rfl, rfl⟩⟩, HBW.out _ HB4.out⟩
        · have hdz : ¬ p.dist > (o.length : Int) := hd
          rw [if_neg (by rintro (q | q); · cases q
                         · exact hd q)] at r3
          by_cases hs : max p.len 1 > m - (o.length : Int)
          · rw [if_pos hs] at r3
            subst r3
            clear HO HR0
            go_upto_region 9 with (go_at_call 35; refine (HM _).out.mono ?_; rintro e w4 ⟨rfl, hb4⟩; have y1 := K1 w4 hb4; have HB4 := Lib.hid hb4; have z0 := K0 w4 hb4; have z1 := K1 w4 hb4; have z2 := K2 w4 hb4; clear hb4)
            go_wp2_with (go_at_call 36; refine (HS _).out.mono ?_; rintro e w5 ⟨rfl, hb5⟩; have HB5 := Lib.hid hb5; clear hb5)
            go_ret2
            exact ⟨_, rfl, ⟨rfl, .inl ⟨rfl, rfl⟩⟩, HBW.out _ (HB4.out.trans (HB5.out.mono HB4.out.size))⟩
          · rw [if_neg hs] at r3
            have HR3 : Aside (expR (l.drop (i + 1)) m (ontoN p o) = R) := r3
            have hol' : ((ontoN p o).length : Int) ≤ m := by
              rw [ontoN_len p o HMB.out]; omega
            have hlim : o.length + (max p.len 1).toNat ≤ 1048576 := by omega
            clear r3 HR0
            go_upto_region 9 with (go_at_call 35; refine (HM _).out.mono ?_; rintro e w4 ⟨rfl, hb4⟩; have y1 := K1 w4 hb4; have HB4 := Lib.hid hb4; have z0 := K0 w4 hb4; have z1 := K1 w4 hb4; have z2 := K2 w4 hb4; clear hb4)
            go_upto_region 11 with (go_at_call 36; refine (HS _).out.mono ?_; rintro e w5 ⟨rfl, hb5⟩; have HB5 := Lib.hid hb5; clear hb5)
            have hb35 : Below w3.heap.size w3 w5 := HB4.out.trans (HB5.out.mono HB4.out.size)
            have v0 := K0 w5 hb35
            have v1 := K1 w5 hb35
            have v2 := K2 w5 hb35
            have HBW5 : Aside (Below W.heap.size W w5) := HBW.out w5 hb35
            have hrow5 := own_below (own_below HW.out.1 HB3.out.1) hb35
            have HO5 := HO w5 W.heap.size hrow5 HBW5.out.size HMB.out (by omega) hlim
            clear HO hb35 hrow5
            go_wp2_with (go_at_call 37; refine HO5.out.mono ?_; rintro e w6 ⟨v', rfl, ho6, hb6⟩; have HB6 : Aside (w6.ownsRow W.heap.size 5 1 v' (ontoN p o).length (bVs (ontoN p o)) ∧ Below W.heap.size W w6) := ⟨ho6, HBW5.out.trans hb6⟩; clear ho6 hb6)
            go_roundg (l.length - (i + 1))
            case measure => omega
            case rel => exact ⟨i + 1, ontoN p o, v', rfl, by go_num, by omega, Nat.le_refl _, hol', HB6.out.1, HB6.out.2, HR3.out⟩
    · obtain rfl : i = l.length := by omega
      have hltz : ¬ (l.length : Int) < (l.length : Int) := by omega
      have HE : Aside (wr.ownsRow W.heap.size 5 1 u6 R.1.length (bVs R.1) ∧ Below W.heap.size W wr ∧ R.2 = 0) := by
        obtain ⟨r1, r2, r3⟩ := HR.out
        rw [List.drop_length] at r3
        rw [← r3]
        exact ⟨r1, r2, rfl⟩
      clear HR
      go_wp2_with fail
      go_ret2
      obtain ⟨z1, z2, z3⟩ := HE.out
      exact ⟨_, by rw [z3]; rfl, z1, z2⟩

theorem expand_any (W : World) (x : Value) (l : List Pc) (m : Int) (hx : SrcP W x l) (hok : ∀ p ∈ l, okPc p) (hl : l.length ≤ 5864062014805) :
    Calls Tryd.prog 18 #[x, .int .i64 m] W fun e w' => ∃ v, e = .returned (.tuple #[v, .int .i64 (expandR l m).2]) ∧ w'.ownsRow W.heap.size 5 1 v (expandR l m).1.length (bVs (expandR l m).1) ∧ Below W.heap.size W w' := by
  by_cases h : m < 0 ∨ m > 1048576
  · rw [expandR_arg h]
    refine (expand_arg W _ m h).mono ?_
    rintro e w' ⟨rfl, rfl⟩
    exact ⟨_, rfl, ⟨rfl, .inl ⟨rfl, rfl⟩⟩, Below.refl _ _⟩
  · rw [expandR_of h]
    exact expand_ok W x l m hx hok (fun q => h (.inl q)) (fun q => h (.inr q)) hl
end Go.Proofs.YtdgfhbeofidbnaaDoor.Lz
