/- Package lz: Pieces. -/
import Derived.Test.YtenkbmkecgnfmaaLzH
namespace Go.Proofs.Ytenkbmkecgnfmaa.Lz
open Go.RowKit Go.Shelf Go.Lib Go.Proofs.Ytenkbmkecgnfmaa.Mem Go.Proofs.Ytenkbmkecgnfmaa.Huf

/-- What Pieces answers. -/
def piecesR (b : List UInt8) (window depth : Int) : List Pc × Int :=
  if window < 1 ∨ window > 32768 ∨ depth < 0 ∨ depth > 4096 then ([], 1) else if b.length > 1048576 then ([], 6) else (pcs b window.toNat depth.toNat 0, 0)
theorem piecesR_arg {b : List UInt8} {window depth : Int} (h : window < 1 ∨ window > 32768 ∨ depth < 0 ∨ depth > 4096) : piecesR b window depth = ([], 1) := if_pos h
theorem pcAt_step (b : List UInt8) (wd dp j : Nat) : max (pcAt b wd dp j).len 1 = (stepN b wd dp j : Int) := by
  unfold pcAt stepN
  split
  · rename_i h; rw [h]; rfl
  · simp only; omega
theorem pcAt_len (b : List UInt8) (wd dp j : Nat) (hj : j < b.length) : 0 ≤ (pcAt b wd dp j).len ∧ (pcAt b wd dp j).len ≤ 258 := by
  have h1 := pcAt_step b wd dp j
  have h2 := (stepN_le b wd dp j hj).2
  have h3 : 0 ≤ (pcAt b wd dp j).len := by
    unfold pcAt
    split
    · exact Int.le_refl _
    · simp only; omega
  omega

set_option maxRecDepth 100000 in
set_option maxHeartbeats 4000000 in
theorem pieces_arg (W : World) (x : Value) (window depth : Int) (h : window < 1 ∨ window > 32768 ∨ depth < 0 ∨ depth > 4096) :
    Calls Try.prog 17 #[x, .int .i64 window, .int .i64 depth] W fun e w' => e = .returned (.tuple #[.slice none 0 0, .int .i64 1]) ∧ W = w' := by
  by_cases h1 : window < 1
  · go_enter Try.func17, Try.ntmps17
    go_wp2_with fail
    go_ret2
    exact ⟨rfl, rfl⟩
  · by_cases h2 : window > 32768
    · go_enter Try.func17, Try.ntmps17
      go_wp2_with fail
      go_ret2
      exact ⟨rfl, rfl⟩
    · by_cases h3 : depth < 0
      · go_enter Try.func17, Try.ntmps17
        go_wp2_with fail
        go_ret2
        exact ⟨rfl, rfl⟩
      · have h4 : depth > 4096 := by omega
        clear h
        go_enter Try.func17, Try.ntmps17
        go_wp2_with fail
        go_ret2
        exact ⟨rfl, rfl⟩

set_option maxRecDepth 100000 in
set_option maxHeartbeats 4000000 in
theorem pieces_size (W : World) (ao : Option Addr) (n c : Nat) (wd dp : Nat) (h1 : 1 ≤ wd) (h2 : wd ≤ 32768) (h3 : dp ≤ 4096) (h : 1048576 < n) :
    Calls Try.prog 17 #[.slice ao n c, .int .i64 (wd : Int), .int .i64 (dp : Int)] W fun e w' => e = .returned (.tuple #[.slice none 0 0, .int .i64 6]) ∧ W = w' := by
  have a1 : ¬ (wd : Int) < 1 := by omega
  have a2 : ¬ (wd : Int) > 32768 := by omega
  have a3 : ¬ (dp : Int) < 0 := by omega
  have a4 : ¬ (dp : Int) > 4096 := by omega
  have a5 : (n : Int) > 1048576 := by omega
  go_enter Try.func17, Try.ntmps17
  go_wp2_with fail
  go_ret2
  exact ⟨rfl, rfl⟩

set_option maxRecDepth 100000 in
set_option maxHeartbeats 4000000 in
theorem pieces_ok (W : World) (ao : Option Addr) (c : Nat) (b : List UInt8) (wd dp : Nat) (hx : Src W (.slice ao b.length c) b) (hc : b.length ≤ c) (h1 : 1 ≤ wd) (h2 : wd ≤ 32768) (h3 : dp ≤ 4096) (hn : b.length ≤ 1048576) :
    Calls Try.prog 17 #[.slice ao b.length c, .int .i64 (wd : Int), .int .i64 (dp : Int)] W fun e w' => ∃ v, e = .returned (.tuple #[v, .int .i64 0]) ∧ w'.ownsRow W.heap.size 45 3 v (pcs b wd dp 0).length (pcsCells (pcs b wd dp 0)) ∧ Below W.heap.size W w' := by
  have a1 : ¬ (wd : Int) < 1 := by omega
  have a2 : ¬ (wd : Int) > 32768 := by omega
  have a3 : ¬ (dp : Int) < 0 := by omega
  have a4 : ¬ (dp : Int) > 4096 := by omega
  have a5 : ¬ (b.length : Int) > 1048576 := by omega
  have HX : Aside (Src W (.slice ao b.length c) b) := hx
  have HS := Lib.hid (steps_any W _ b hx hn)
  have HA : Aside (0 < b.length → ∃ a, ao = some a) := fun h => by
    obtain ⟨ao', c', e, h'⟩ := src_shape hx
    cases e
    exact h' h
  clear hx
  go_enter Try.func17, Try.ntmps17
  go_upto_region 8 with (first
    | (go_at_call 40; refine HS.out.mono ?_; rintro e w1 ⟨u, rfl, hu, hb1⟩; obtain ⟨uo, uc, rfl, huc, hum, hun⟩ := own_shape hu))
  obtain ⟨T, hT⟩ : ∃ T, T = w1.heap.size := ⟨_, rfl⟩
  obtain ⟨w2, hw2⟩ : ∃ w2, w2 = w1.alloc (Obj.cells #[Value.slice ao b.length c, Value.slice uo b.length uc, Value.int IntKind.i64 (wd : Int), Value.int IntKind.i64 (dp : Int)] 75) := ⟨_, rfl⟩
  rw [← hw2, ← hT]
  have hA := (Below.refl w1.heap.size w1).alloc (Nat.le_refl _) (Obj.cells #[Value.slice ao b.length c, Value.slice uo b.length uc, Value.int IntKind.i64 (wd : Int), Value.int IntKind.i64 (dp : Int)] 75)
  rw [← hw2] at hA
  have hT2 : w2.heap[T]? = some (Obj.cells #[Value.slice ao b.length c, Value.slice uo b.length uc, Value.int IntKind.i64 (wd : Int), Value.int IntKind.i64 (dp : Int)] 75 (0, 0)) := by rw [hw2, hT]; exact heap_alloc_new _ _
  have hu2 := own_below hu hA
  have hbW : Below W.heap.size W w2 := hb1.trans (hA.mono hb1.size)
  have H2 : Aside (w2.heap[T]? = some (Obj.cells #[Value.slice ao b.length c, Value.slice uo b.length uc, Value.int IntKind.i64 (wd : Int), Value.int IntKind.i64 (dp : Int)] 75 (0, 0)) ∧ Below W.heap.size W w2 ∧ (0 < b.length → ∃ p, uo = some p ∧ ∀ i v, (iVs (stepsL b))[i]? = some v → w2.cell? (p.add i) = some v)) := by
    refine ⟨hT2, hbW, fun h0 => ?_⟩
    cases uo with
    | none => have := (hun rfl).1; omega
    | some p =>
      obtain ⟨g, rfl, -, -⟩ := own_block hu2
      exact ⟨_, rfl, hu2.cells (g := g) rfl⟩
  clear hw2 hT hA hT2 hu2 hbW hu hb1 hun HS a1 a2 a3 a4 a5
  go_loopg [9, 10] b.length (fun kx s9 s10 wr => ∃ (d : List Pc) (j : Nat) (u9 : Value), u9 = s9 ∧ s10 = .int .i64 j ∧ j ≤ b.length ∧ b.length - j ≤ kx ∧ Aside (wr.ownsRow w2.heap.size 45 3 u9 d.length (pcsCells d) ∧ Below w2.heap.size w2 wr ∧ d ++ pcs b wd dp j = pcs b wd dp 0 ∧ d.length ≤ j))
  case atStart => exact ⟨[], 0, _, rfl, rfl, Nat.zero_le _, Nat.le_refl _, ⟨rfl, .inl ⟨rfl, rfl⟩⟩, Below.refl _ _, rfl, Nat.le_refl _⟩
  case round =>
    obtain ⟨d, j, u9, rfl, rfl, hj, hkx, HR⟩ := hrel
    by_cases hlt : j < b.length
    · have hltz : (j : Int) < (b.length : Int) := by omega
      obtain ⟨a, rfl⟩ := HA.out (by omega)
      obtain ⟨p, rfl, -⟩ := H2.out.2.2 (by omega)
      obtain ⟨r1, r2, r3, r4⟩ := HR.out
      have hbr : Below W.heap.size W wr := H2.out.2.1.trans (r2.mono H2.out.2.1.size)
      have g1 : wr.heap[T]? = some (Obj.cells #[Value.slice (some a) b.length c, Value.slice (some p) b.length uc, Value.int IntKind.i64 (wd : Int), Value.int IntKind.i64 (dp : Int)] 75 (0, 0)) := (r2.block T (Array.getElem?_eq_some_iff.1 H2.out.1).1).trans H2.out.1
      have k0 : wr.cell? ⟨T, 0, none⟩ = some (.slice (some a) b.length c) := by rw [Lib.cell_of_heap g1]; rfl
      have k1 : wr.cell? ⟨T, 1, none⟩ = some (.slice (some p) b.length uc) := by rw [Lib.cell_of_heap g1]; rfl
      have k2 : wr.cell? ⟨T, 2, none⟩ = some (.int .i64 (wd : Int)) := by rw [Lib.cell_of_heap g1]; rfl
      have k3 : wr.cell? ⟨T, 3, none⟩ = some (.int .i64 (dp : Int)) := by rw [Lib.cell_of_heap g1]; rfl
      have hsteps : ∀ i v, (iVs (stepsL b))[i]? = some v → wr.cell? (p.add i) = some v := fun i v hi => by
        obtain ⟨p', e, hp⟩ := H2.out.2.2 (by omega)
        cases e
        exact (r2.cell (block_lt_of_cell (hp i v hi))).trans (hp i v hi)
      have HP := Lib.hid (piece_any wr a p c uc b wd dp j (HX.out.below hbr) hc hsteps hn hlt h2 h3)
      have hst := pcAt_step b wd dp j
      have hln := pcAt_len b wd dp j hlt
      have hstep := pcs_step b wd dp j hlt
      have hsl := stepN_le b wd dp j hlt
      have hsp := stepN_pos b wd dp j
      generalize pcAt b wd dp j = q at *
      generalize stepN b wd dp j = st at *
      have HW2 : Aside (wr.ownsRow w2.heap.size 45 3 u9 d.length (pcsCells d) ∧ Below w2.heap.size w2 wr) := ⟨r1, r2⟩
      have HE : Aside ((d ++ [q]) ++ pcs b wd dp (j + st) = pcs b wd dp 0 ∧ (d ++ [q]).length ≤ j + st) := by
        refine ⟨?_, by rw [List.length_append]; simp only [List.length_cons, List.length_nil]; omega⟩
        rw [List.append_assoc, List.singleton_append, ← hstep]; exact r3
      have hdl : (d.length + 1) * 24 ≤ 140737488355328 := by omega
      have HT : Aside (T < w2.heap.size) := (Array.getElem?_eq_some_iff.1 H2.out.1).1
      obtain ⟨l, di, y⟩ := q
      unfold pcV at HP
      simp only at hst hln
      have hwf : (Lit.int .i64 l).wf = true := WalkArith.wf_i64 (by omega)
      have wj : IntKind.i64.wrap ((j : Int) + (st : Int)) = ((j + st : Nat) : Int) := by rw [IntKind.wrap_i64]; omega
      clear r1 r2 r3 r4 hbr g1 hsteps hstep HR
      go_upto_region 10 with (first
        | (go_at_call 41; refine HP.out.mono ?_; rintro e w3 ⟨rfl, hb3⟩))
      obtain ⟨t, ht⟩ : ∃ t, t = w3.heap.size := ⟨_, rfl⟩
      obtain ⟨w4, hw4⟩ : ∃ w4, w4 = w3.alloc (Obj.cells #[Value.int IntKind.i64 l, Value.int IntKind.i64 di, Value.int IntKind.u8 (y.toNat : Int)] 45) := ⟨_, rfl⟩
      have hb4 := (Below.refl w3.heap.size w3).alloc (Nat.le_refl _) (Obj.cells #[Value.int IntKind.i64 l, Value.int IntKind.i64 di, Value.int IntKind.u8 (y.toNat : Int)] 45)
      rw [← hw4] at hb4
      have g4 : w4.heap[t]? = some (Obj.cells #[Value.int IntKind.i64 l, Value.int IntKind.i64 di, Value.int IntKind.u8 (y.toNat : Int)] 45 (0, 0)) := by rw [hw4, ht]; exact heap_alloc_new _ _
      rw [← hw4, ← ht]
      have hr34 : Below wr.heap.size wr w4 := hb3.trans (hb4.mono hb3.size)
      have hrow4 := own_below HW2.out.1 hr34
      have hB4 : Below w2.heap.size w2 w4 := HW2.out.2.trans (hr34.mono HW2.out.2.size)
      obtain ⟨v', w5, q1, q2, q3, q4, q5⟩ := push_pc Try.underlying34 info_pc w4 w2.heap.size u9 d (Pc.mk l di y) hrow4 hB4.size hdl
      have hut : ∀ k, u9.ownBlock = some k → k ≠ t := fun k hk => by
        have := (HW2.out.1.lt k hk).2
        have := hb3.size
        omega
      have g5 : w5.heap[t]? = some (Obj.cells #[Value.int IntKind.i64 l, Value.int IntKind.i64 di, Value.int IntKind.u8 (y.toNat : Int)] 45 (0, 0)) := (q4.block t (Array.getElem?_eq_some_iff.1 g4).1 (fun h => hut t h rfl)).trans g4
      have n0 : w4.cell? ⟨t, 0, none⟩ = some (.int .i64 l) := by rw [Lib.cell_of_heap g4]; rfl
      have n1 : w4.cell? ⟨t, 1, none⟩ = some (.int .i64 di) := by rw [Lib.cell_of_heap g4]; rfl
      have n2 : w4.cell? ⟨t, 2, none⟩ = some (.int .u8 (y.toNat : Int)) := by rw [Lib.cell_of_heap g4]; rfl
      have m0 : w5.cell? ⟨t, 0, none⟩ = some (.int .i64 l) := by rw [Lib.cell_of_heap g5]; rfl
      have m1 : w5.cell? ⟨t, 1, none⟩ = some (.int .i64 di) := by rw [Lib.cell_of_heap g5]; rfl
      have m2 : w5.cell? ⟨t, 2, none⟩ = some (.int .u8 (y.toNat : Int)) := by rw [Lib.cell_of_heap g5]; rfl
      have HSZ := Lib.hid (size_any w5 (Pc.mk l di y) hwf)
      unfold pcV at HSZ
      rw [hst] at HSZ
      have HR5 : Aside (w5.ownsRow w2.heap.size 45 3 v' (d ++ [Pc.mk l di y]).length (pcsCells (d ++ [Pc.mk l di y])) ∧ Below w2.heap.size w2 w5) := ⟨q2, hB4.trans q3⟩
      clear q2 q3 q4 q5 g5 g4 hut hB4 hrow4 hr34 hb4 hw4 ht hb3 k0 k1 k2 k3 hdl HW2 hwf
      dsimp only at q1
      go_wp2_with (first
        | (at_builtin; refine Lib.wpList_append_run _ rfl _ _ _ _ rfl _ _ rfl rfl _ _ q1 ?_)
        | (go_at_call 42; refine HSZ.out.mono ?_; rintro e w6 ⟨rfl, hb6⟩))
      go_roundg (b.length - (j + st))
      case measure => omega
      case rel => exact ⟨d ++ [Pc.mk l di y], j + st, v', rfl, by go_num, hsl.1, Nat.le_refl _, own_below HR5.out.1 hb6, HR5.out.2.trans (hb6.mono HR5.out.2.size), HE.out⟩
    · obtain rfl : j = b.length := by omega
      have hltz : ¬ (b.length : Int) < (b.length : Int) := by omega
      have HE : Aside (wr.ownsRow W.heap.size 45 3 u9 (pcs b wd dp 0).length (pcsCells (pcs b wd dp 0)) ∧ Below W.heap.size W wr) := by
        obtain ⟨r1, r2, r3, -⟩ := HR.out
        rw [pcs_done b wd dp _ (Nat.le_refl _), List.append_nil] at r3
        rw [← r3]
        exact ⟨ownsRow_mono r1 H2.out.2.1.size, H2.out.2.1.trans (r2.mono H2.out.2.1.size)⟩
      clear HR
      go_wp2_with fail
      go_ret2
      exact ⟨_, rfl, HE.out⟩

theorem pieces_any (W : World) (ao : Option Addr) (c : Nat) (b : List UInt8) (window depth : Int) (hx : Src W (.slice ao b.length c) b) (hc : b.length ≤ c) :
    Calls Try.prog 17 #[.slice ao b.length c, .int .i64 window, .int .i64 depth] W fun e w' => ∃ v, e = .returned (.tuple #[v, .int .i64 (piecesR b window depth).2]) ∧ w'.ownsRow W.heap.size 45 3 v (piecesR b window depth).1.length (pcsCells (piecesR b window depth).1) ∧ Below W.heap.size W w' := by
  by_cases h : window < 1 ∨ window > 32768 ∨ depth < 0 ∨ depth > 4096
  · rw [piecesR_arg h]
    refine (pieces_arg W _ window depth h).mono ?_
    rintro e w' ⟨rfl, rfl⟩
    exact ⟨_, rfl, ⟨rfl, .inl ⟨rfl, rfl⟩⟩, Below.refl _ _⟩
  · obtain ⟨wd, rfl⟩ : ∃ wd : Nat, window = wd := ⟨window.toNat, by omega⟩
    obtain ⟨dp, rfl⟩ : ∃ dp : Nat, depth = dp := ⟨depth.toNat, by omega⟩
    by_cases hn : b.length > 1048576
    · have e : piecesR b wd dp = ([], 6) := by unfold piecesR; rw [if_neg h, if_pos hn]
      rw [e]
      refine (pieces_size W ao b.length c wd dp (by omega) (by omega) (by omega) hn).mono ?_
      rintro e w' ⟨rfl, rfl⟩
      exact ⟨_, rfl, ⟨rfl, .inl ⟨rfl, rfl⟩⟩, Below.refl _ _⟩
    · have e : piecesR b wd dp = (pcs b wd dp 0, 0) := by unfold piecesR; rw [if_neg h, if_neg hn]; rfl
      rw [e]
      exact pieces_ok W ao c b wd dp hx hc (by omega) (by omega) (by omega) (by omega)
end Go.Proofs.Ytenkbmkecgnfmaa.Lz
