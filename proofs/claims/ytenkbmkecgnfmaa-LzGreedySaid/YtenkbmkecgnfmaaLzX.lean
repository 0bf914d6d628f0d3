/- The document's own answer: alike, at. -/
import Derived.Test.YtenkbmkecgnfmaaLzG
import Derived.Test.YtenkbmkecgnfmaaLzP
import Derived.Test.YtenkbmkecgnfmaaLzH
namespace Go.Proofs.Ytenkbmkecgnfmaa.Lz
open Go.RowKit Go.Shelf Go.Lib Go.Proofs.Ytenkbmkecgnfmaa.Mem Go.Proofs.Ytenkbmkecgnfmaa.Huf

theorem alike_is (b : List UInt8) (i j n : Nat) (hij : i < j) (hn : n ≤ 258) (hl : j + n ≤ b.length) (h : ∀ k, k < n → b[i + k]? = b[j + k]?) (he : n = 258 ∨ j + n = b.length ∨ b[i + n]? ≠ b[j + n]?) : alikeN b i j = n := by
  refine comm_eq n _ _ (by rw [List.length_drop]; omega) (by rw [List.length_take, List.length_drop]; omega) (fun k hk => ?_) ?_
  · rw [List.getElem?_drop, List.getElem?_take, if_pos (by omega), List.getElem?_drop]
    exact h k hk
  · rw [List.length_take, List.length_drop]
    by_cases h1 : n = min 258 (b.length - j)
    · exact .inl h1
    · refine .inr (.inr ?_)
      rw [List.getElem?_drop, List.getElem?_take, if_pos (by omega), List.getElem?_drop]
      rcases he with h2 | h2 | h2
      · omega
      · omega
      · exact h2

set_option maxRecDepth 100000 in
set_option maxHeartbeats 4000000 in
theorem alike_any (W : World) (a : Addr) (c : Nat) (b : List UInt8) (i j : Nat) (hx : Src W (.slice (some a) b.length c) b) (hij : i < j) (hj : j < b.length) (hb : b.length ≤ 1048576) :
    Calls Try.prog 55 #[.slice (some a) b.length c, .int .i64 (i : Int), .int .i64 (j : Int)] W fun e w' => e = .returned (.int .i64 (alikeN b i j : Nat)) ∧ Drew W w' := by
  have HX : Aside (Src W (.slice (some a) b.length c) b) := hx
  have mixed : Try.prog.follows .mixedOrders = true := by kernel_rfl
  clear hx
  go_enter Try.func55, Try.ntmps55
  go_upto_region 2 with fail
  go_loopg [7] 258 (fun kx s7 wr => ∃ (n : Nat), s7 = .int .i64 n ∧ n ≤ 258 ∧ 258 - n ≤ kx ∧ j + n ≤ b.length ∧ Aside ((∀ k, k < n → b[i + k]? = b[j + k]?) ∧ Drew W wr))
  case atStart => exact ⟨0, rfl, by omega, by omega, by omega, fun k hk => by omega, Drew.refl _⟩
  case round =>
    obtain ⟨n, rfl, hn, hkx, hl, HR⟩ := hrel
    have fin : ∀ w, Drew wr w → (n = 258 ∨ j + n = b.length ∨ b[i + n]? ≠ b[j + n]?) → Aside (alikeN b i j = n ∧ Drew W w) := fun w hd he => ⟨alike_is b i j n hij hn hl HR.out.1 he, HR.out.2.trans hd⟩
    have FIN := Lib.hid fin
    clear fin
    by_cases h1 : n = 258
    · subst h1
      clear HR
      go_wp2_with fail
      go_quiet (fail)
      go_wp2_with fail
      go_ret
      obtain ⟨e1, e2⟩ := (FIN.out (wr.drewN nq) (Drew.drewN _ _) (by simp)).out
      refine ⟨?_, e2⟩
      rw [e1]
      rfl
    · have h1z : (n : Int) < 258 := by omega
      by_cases h2 : j + n = b.length
      · have w1 : IntKind.i64.wrap ((j : Int) + (n : Int)) = (b.length : Int) := by rw [IntKind.wrap_i64]; omega
        have h2z : ¬ (b.length : Int) < (b.length : Int) := by omega
        clear HR
        go_wp2_with fail
        go_quiet (fail)
        go_wp2_with fail
        go_ret
        obtain ⟨e1, e2⟩ := (FIN.out (wr.drewN nq) (Drew.drewN _ _) (.inr (.inl h2))).out
        refine ⟨?_, e2⟩
        rw [e1]
        rfl
      · obtain ⟨p, hp⟩ : ∃ p, p = i + n := ⟨_, rfl⟩
        obtain ⟨q, hq⟩ : ∃ q, q = j + n := ⟨_, rfl⟩
        have hpl : p < b.length := by omega
        have hql : q < b.length := by omega
        have w1 : IntKind.i64.wrap ((j : Int) + (n : Int)) = (q : Int) := by rw [IntKind.wrap_i64]; omega
        have w2 : IntKind.i64.wrap ((i : Int) + (n : Int)) = (p : Int) := by rw [IntKind.wrap_i64]; omega
        have w3 : IntKind.i64.wrap ((n : Int) + 1) = (n : Int) + 1 := by rw [IntKind.wrap_i64]; omega
        have p0 : (0 : Int) ≤ (p : Int) := by omega
        have q0 : (0 : Int) ≤ (q : Int) := by omega
        have p1 : (p : Int) < (b.length : Int) := by omega
        have q1 : (q : Int) < (b.length : Int) := by omega
        have hS := HX.out.drew HR.out.2
        have c1 : ∀ m, (wr.drewN m).cell? (a.add p) = some (.int .u8 ((b[p]).toNat : Int)) := fun m => src_cell hS p hpl
        have c2 : ∀ m, (wr.drewN m).cell? (a.add q) = some (.int .u8 ((b[q]).toNat : Int)) := fun m => src_cell hS q hql
        have HN : Aside (b[p] = b[q] → ∀ k, k < n + 1 → b[i + k]? = b[j + k]?) := fun h k hk => by
          rcases Nat.lt_or_ge k n with r | r
          · exact HR.out.1 k r
          · obtain rfl : k = n := by omega
            rw [← hp, ← hq, List.getElem?_eq_getElem hpl, List.getElem?_eq_getElem hql, h]
        have HD : Aside (b[p] ≠ b[q] → b[i + n]? ≠ b[j + n]?) := fun h => by
          rw [← hp, ← hq, List.getElem?_eq_getElem hpl, List.getElem?_eq_getElem hql]
          simpa using h
        have HRD : Aside (Drew W wr) := HR.out.2
        have HQ : Aside (q = j + n) := hq
        generalize b[p] = u at *
        generalize b[q] = v at *
        clear hS HR hp hq
        by_cases huv : u = v
        · subst huv
          have hB : (((u.toNat : Nat) : Int) == (u.toNat : Int)) = true := by simp
          have HN2 : Aside _ := HN.out rfl
          clear HN HD FIN
          go_wp2_with fail
          go_quiet (fail)
          go_wp2_with fail
          go_roundg (258 - (n + 1))
          case measure => omega
          case rel => exact ⟨n + 1, by go_num, by omega, Nat.le_refl _, by have := HQ.out; omega, HN2.out, HRD.out.trans (Drew.drewN _ _)⟩
        · have hz := u8_ne huv
          have hB : (((u.toNat : Nat) : Int) == (v.toNat : Int)) = false := by rw [beq_eq_false_iff_ne]; exact hz
          have HD2 : Aside _ := HD.out huv
          clear HN HD
          go_wp2_with fail
          go_quiet (fail)
          go_wp2_with fail
          go_ret
          obtain ⟨e1, e2⟩ := (FIN.out (wr.drewN nq) (Drew.drewN _ _) (.inr (.inr HD2.out))).out
          refine ⟨?_, e2⟩
          rw [e1]
          rfl

/-- The piece that the best so far would be. -/
def pcOf (b : List UInt8) (j : Nat) (s : Nat × Nat) : Pc := if s.1 = 0 then ⟨0, 0, b.getD j 0⟩ else ⟨s.1, s.2, 0⟩
theorem pcOf_great (b : List UInt8) (wd dp j : Nat) : pcOf b j (greatN b wd dp j) = pcAt b wd dp j := rfl
theorem setCells3 {w : World} {B : Nat} {t : TypeId} {x y z x' y' z' : Value} (h : w.heap[B]? = some (.cells #[x, y, z] t (0, 0))) :
    (((w.setCell ⟨B, 0, none⟩ x').setCell ⟨B, 1, none⟩ y').setCell ⟨B, 2, none⟩ z').heap[B]? = some (.cells #[x', y', z'] t (0, 0)) ∧ Only (fun k => k = B) w (((w.setCell ⟨B, 0, none⟩ x').setCell ⟨B, 1, none⟩ y').setCell ⟨B, 2, none⟩ z') := by
  refine ⟨(Lib.heap_setCell_same (i := 2) ((Lib.heap_setCell_same (i := 1) ((Lib.heap_setCell_same (i := 0) h _).trans rfl) _).trans rfl) _).trans rfl, ?_⟩
  exact ((Only.setCell (S := fun k => k = B) rfl _ _).trans (Only.setCell (S := fun k => k = B) rfl _ _) (fun i q => .inl q)).trans (Only.setCell (S := fun k => k = B) rfl _ _) (fun i q => .inl q)
theorem size_rpc : (Try.prog.info? 44).map (·.size) = some 3 := by kernel_rfl

set_option maxRecDepth 100000 in
set_option maxHeartbeats 4000000 in
theorem at_any (W : World) (a : Addr) (c : Nat) (b : List UInt8) (wd dp j : Nat) (hx : Src W (.slice (some a) b.length c) b) (hj : j < b.length) (hb : b.length ≤ 1048576) (hd : dp ≤ 4096) :
    Calls Try.prog 43 #[.slice (some a) b.length c, .int .i64 (j : Int), .int .i64 (wd : Int), .int .i64 (dp : Int)] W fun e w' => e = .returned (pcV (pcAt b wd dp j)) ∧ Below W.heap.size W w' := by
  have HX : Aside (Src W (.slice (some a) b.length c) b) := hx
  have cb : W.cell? (a.add j) = some (.int .u8 ((b[j]).toNat : Int)) := src_cell hx j hj
  have hbj : b.getD j 0 = b[j] := by rw [List.getD_eq_getElem?_getD, List.getElem?_eq_getElem hj]; rfl
  have HPO : Aside (pcOf b j (0, 0) = ⟨0, 0, b[j]⟩) := by
    show pcOf b j (0, 0) = _
    unfold pcOf; rw [if_pos rfl, hbj]
  have cba : ∀ o, (W.alloc o).cell? (a.add j) = some (.int .u8 ((b[j]).toNat : Int)) := fun o => (((Below.refl W.heap.size W).alloc (Nat.le_refl _) o).cell (block_lt_of_cell cb)).trans cb
  generalize b[j] = y at *
  obtain ⟨N, hN⟩ : ∃ N, N = W.heap.size := ⟨_, rfl⟩
  obtain ⟨U, hU⟩ : ∃ U, U = (W.alloc (Obj.cells #[Value.int IntKind.i64 0, Value.int IntKind.i64 0, Value.int IntKind.u8 0] 44)).alloc (Obj.cells #[Value.int IntKind.i64 0, Value.int IntKind.i64 0, Value.int IntKind.u8 (y.toNat : Int)] 44) := ⟨_, rfl⟩
  have hU0 : Below W.heap.size W U := by rw [hU]; exact ((Below.refl _ W).alloc (Nat.le_refl _) _).alloc (by simp) _
  have hU1 : U.heap[W.heap.size]? = some (Obj.cells #[Value.int IntKind.i64 0, Value.int IntKind.i64 0, Value.int IntKind.u8 0] 44 (0, 0)) := by rw [hU]; exact heap_alloc2_old _ _ _
  have hU2 : U.heap[W.heap.size + 1]? = some (Obj.cells #[Value.int IntKind.i64 0, Value.int IntKind.i64 0, Value.int IntKind.u8 (y.toNat : Int)] 44 (0, 0)) := by rw [hU]; exact heap_alloc2_new _ _ _
  have j0 : (0 : Int) ≤ (j : Int) := by omega
  have jl : (j : Int) < (b.length : Int) := by omega
  have wj : IntKind.i64.wrap ((j : Int) - 1) = (j : Int) - 1 := by rw [IntKind.wrap_i64]; omega
  clear hx hbj
  go_enter Try.func43, Try.ntmps43
  go_upto_region 3 with fail
  rw [← hU]
  obtain ⟨B1, hB1⟩ : ∃ B1, B1 = W.heap.size + 1 := ⟨_, rfl⟩
  rw [← hB1, ← hN]
  have H0 : Aside (U.heap[N]? = some (Obj.cells #[Value.int IntKind.i64 0, Value.int IntKind.i64 0, Value.int IntKind.u8 0] 44 (0, 0)) ∧ U.heap[B1]? = some (Obj.cells #[Value.int IntKind.i64 (pcOf b j (0, 0)).len, Value.int IntKind.i64 (pcOf b j (0, 0)).dist, Value.int IntKind.u8 ((pcOf b j (0, 0)).byte.toNat : Int)] 44 (0, 0)) ∧ Below W.heap.size W U) := by
    rw [HPO.out, hN, hB1]
    exact ⟨hU1, hU2, hU0⟩
  have HN : Aside (N = W.heap.size ∧ B1 = N + 1) := ⟨hN, by omega⟩
  clear hU hU0 hU1 hU2 hN hB1 HPO cb cba
  go_loopg [3, 10] (j + 1) (fun kx s3 s10 wr => ∃ (i k : Nat) (s : Nat × Nat), s3 = .int .i64 (k : Int) ∧ s10 = .int .i64 ((i : Int) - 1) ∧ i ≤ j ∧ i ≤ kx ∧ k ≤ 4096 ∧ Aside (scan b j wd i k s = greatN b wd dp j ∧ s.1 ≤ 258 ∧ wr.heap[N]? = some (Obj.cells #[Value.int IntKind.i64 0, Value.int IntKind.i64 0, Value.int IntKind.u8 0] 44 (0, 0)) ∧ wr.heap[B1]? = some (Obj.cells #[Value.int IntKind.i64 (pcOf b j s).len, Value.int IntKind.i64 (pcOf b j s).dist, Value.int IntKind.u8 ((pcOf b j s).byte.toNat : Int)] 44 (0, 0)) ∧ Below W.heap.size W wr))
  case atStart => exact ⟨j, dp, (0, 0), rfl, rfl, Nat.le_refl _, by omega, hd, rfl, by decide, H0.out⟩
  case round =>
    clear H0
    obtain ⟨i, k, s, rfl, rfl, hi, hkx, hk, HR⟩ := hrel
    obtain ⟨r1, r2, r3, r4, r5⟩ := HR.out
    have hlen : (pcOf b j s).len = (s.1 : Int) := by
      unfold pcOf
      split
      · rename_i h; rw [h]; rfl
      · rfl
    have k0 : wr.cell? ⟨B1, 0, none⟩ = some (.int .i64 (s.1 : Int)) := by rw [Lib.cell_of_heap r4, ← hlen]; rfl
    have k1 : wr.cell? ⟨B1, 1, none⟩ = some (.int .i64 (pcOf b j s).dist) := by rw [Lib.cell_of_heap r4]; rfl
    have k2 : wr.cell? ⟨B1, 2, none⟩ = some (.int .u8 ((pcOf b j s).byte.toNat : Int)) := by rw [Lib.cell_of_heap r4]; rfl
    have m0 : wr.cell? ⟨N, 0, none⟩ = some (.int .i64 0) := by rw [Lib.cell_of_heap r3]; rfl
    have m1 : wr.cell? ⟨N, 1, none⟩ = some (.int .i64 0) := by rw [Lib.cell_of_heap r3]; rfl
    have m2 : wr.cell? ⟨N, 2, none⟩ = some (.int .u8 0) := by rw [Lib.cell_of_heap r3]; rfl
    have f0 := Lib.frozen_of_heap r3 0
    have f1 := Lib.frozen_of_heap r3 1
    have f2 := Lib.frozen_of_heap r3 2
    have hend : greatN b wd dp j = s → Aside (∀ t, t = (((wr.setCell ⟨N, 0, none⟩ (.int .i64 (s.1 : Int))).setCell ⟨N, 1, none⟩ (.int .i64 (pcOf b j s).dist)).setCell ⟨N, 2, none⟩ (.int .u8 ((pcOf b j s).byte.toNat : Int))) → t.heap[N]? = some (.cells #[.int .i64 (pcAt b wd dp j).len, .int .i64 (pcAt b wd dp j).dist, .int .u8 ((pcAt b wd dp j).byte.toNat : Int)] 44 (0, 0)) ∧ Below W.heap.size W t) := fun hg t ht => by
      obtain ⟨q1, q2⟩ := setCells3 (x' := .int .i64 (s.1 : Int)) (y' := .int .i64 (pcOf b j s).dist) (z' := .int .u8 ((pcOf b j s).byte.toNat : Int)) r3
      rw [ht, ← pcOf_great, hg, hlen]
      exact ⟨q1, r5.trans (q2.below r5.size (fun k hk => by have := HN.out.1; omega))⟩
    have HEND := Lib.hid hend
    clear hend
    cases i with
    | zero =>
      have hg : greatN b wd dp j = s := r1.symm
      have HE2 : Aside _ := HEND.out hg
      have hz : ¬ (((0 : Nat) : Int) - 1 ≥ 0) := by omega
      clear r1 r2 r3 r4 r5 HEND hg HR
      go_wp2_with fail
      obtain ⟨z1, z2⟩ := HE2.out _ rfl
      exact bodyPost_ret (results_cell_row rfl _ _ N _ _ _ _ rfl z1 Try.underlying44 rfl size_rpc) rfl ⟨rfl, z2⟩
    | succ i =>
      rw [scan_succ] at r1
      rw [show (((i + 1 : Nat) : Int) - 1) = (i : Int) by omega]
      have hz : (i : Int) ≥ 0 := by omega
      obtain ⟨d, hdd⟩ : ∃ d, d = j - i := ⟨_, rfl⟩
      have wd1 : IntKind.i64.wrap ((j : Int) - (i : Int)) = (d : Int) := by rw [IntKind.wrap_i64]; omega
      have wi1 : IntKind.i64.wrap ((i : Int) - 1) = (i : Int) - 1 := by rw [IntKind.wrap_i64]; omega
      by_cases hdw : d ≤ wd
      · have hdz : (d : Int) ≤ (wd : Int) := by omega
        by_cases hk0 : k = 0
        · subst hk0
          rw [if_neg (by omega)] at r1
          have HE2 : Aside _ := HEND.out r1.symm
          clear r1 r2 r3 r4 r5 HEND HR hdd
          go_wp2_with fail
          obtain ⟨z1, z2⟩ := HE2.out _ rfl
          exact bodyPost_ret (results_cell_row rfl _ _ N _ _ _ _ rfl z1 Try.underlying44 rfl size_rpc) rfl ⟨rfl, z2⟩
        · have hkz : (k : Int) > 0 := by omega
          rw [if_pos (by omega)] at r1
          have HAL := Lib.hid (alike_any wr a c b i j (HX.out.below r5) (by omega) hj hb)
          obtain ⟨t, ht⟩ : ∃ t, t = alikeN b i j := ⟨_, rfl⟩
          have htl := (alikeN_le b i j).1
          rw [← ht] at r1 HAL htl
          rw [← hdd] at r1
          have HK : Aside (∀ w, Drew wr w → w.heap[N]? = some (Obj.cells #[Value.int IntKind.i64 0, Value.int IntKind.i64 0, Value.int IntKind.u8 0] 44 (0, 0)) ∧ w.heap[B1]? = some (Obj.cells #[Value.int IntKind.i64 (pcOf b j s).len, Value.int IntKind.i64 (pcOf b j s).dist, Value.int IntKind.u8 ((pcOf b j s).byte.toNat : Int)] 44 (0, 0)) ∧ Below W.heap.size W w) := fun w hd => ⟨by rw [hd.heap]; exact r3, by rw [hd.heap]; exact r4, r5.trans (hd.below _)⟩
          have HS : Aside (s.1 ≤ 258) := r2
          have HI : Aside (d = j - i ∧ (s.1 : Int) = (pcOf b j s).len) := ⟨hdd, hlen.symm⟩
          by_cases ht3 : t < 3
          · have htz : (t : Int) < 3 := by omega
            rw [if_pos ht3] at r1
            have HR1 : Aside (scan b j wd i k s = greatN b wd dp j) := r1
            clear r1 r2 r3 r4 r5 HEND HR hdd ht hlen
            go_wp2_with (go_at_call 55; refine HAL.out.mono ?_; rintro e w3 ⟨rfl, hd3⟩)
            go_roundg i
            case measure => omega
            case rel => exact ⟨i, k, s, by go_num, by go_num, by omega, Nat.le_refl _, hk, HR1.out, HS.out, HK.out w3 hd3⟩
          · have htz : ¬ (t : Int) < 3 := by omega
            rw [if_neg ht3] at r1
            have wk : IntKind.i64.wrap ((k : Int) - 1) = ((k - 1 : Nat) : Int) := by rw [IntKind.wrap_i64]; omega
            by_cases hts : t > s.1
            · have htsz : (t : Int) > (s.1 : Int) := by omega
              rw [if_pos hts] at r1
              have HR1 : Aside (scan b j wd i (k - 1) (t, d) = greatN b wd dp j) := r1
              have HPC : Aside (pcOf b j (t, d) = ⟨(t : Int), (d : Int), 0⟩) := if_neg (show ¬ t = 0 by omega)
              clear r1 r2 r3 r4 r5 HEND HR hdd ht hlen
              go_upto_region 7 with (go_at_call 55; refine HAL.out.mono ?_; rintro e w3 ⟨rfl, hd3⟩)
              obtain ⟨g1, g2, g3⟩ := HK.out w3 hd3
              have n0 : w3.cell? ⟨B1, 0, none⟩ = some (.int .i64 (s.1 : Int)) := (hd3.cell).trans k0
              have n1 := (hd3.cell).trans k1
              have n2 := (hd3.cell).trans k2
              have l0 := Lib.frozen_of_heap g2 0
              have l1 := Lib.frozen_of_heap g2 1
              have l2 := Lib.frozen_of_heap g2 2
              have HFIN : Aside (∀ t', t' = (((w3.setCell ⟨B1, 0, none⟩ (.int .i64 (t : Int))).setCell ⟨B1, 1, none⟩ (.int .i64 (d : Int))).setCell ⟨B1, 2, none⟩ (.int .u8 0)) → t'.heap[N]? = some (Obj.cells #[Value.int IntKind.i64 0, Value.int IntKind.i64 0, Value.int IntKind.u8 0] 44 (0, 0)) ∧ t'.heap[B1]? = some (Obj.cells #[Value.int IntKind.i64 (pcOf b j (t, d)).len, Value.int IntKind.i64 (pcOf b j (t, d)).dist, Value.int IntKind.u8 ((pcOf b j (t, d)).byte.toNat : Int)] 44 (0, 0)) ∧ Below W.heap.size W t') := fun t' ht' => by
                obtain ⟨q1, q2⟩ := setCells3 (x' := .int .i64 (t : Int)) (y' := .int .i64 (d : Int)) (z' := .int .u8 0) g2
                have hN := HN.out
                rw [HPC.out, ht']
                refine ⟨(q2.block N (Array.getElem?_eq_some_iff.1 g1).1 (by omega)).trans g1, q1, g3.trans (q2.below g3.size (fun k hk => by omega))⟩
              clear g1 g2 g3 hd3 k0 k1 k2 m0 m1 m2 f0 f1 f2
              go_wp2_with fail
              go_roundg i
              case measure => omega
              case rel => exact ⟨i, k - 1, (t, d), by go_num, by go_num, by omega, Nat.le_refl _, by omega, HR1.out, htl, HFIN.out _ rfl⟩
            · have htsz : ¬ (t : Int) > (s.1 : Int) := by omega
              rw [if_neg hts] at r1
              have HR1 : Aside (scan b j wd i (k - 1) s = greatN b wd dp j) := r1
              clear r1 r2 r3 r4 r5 HEND HR hdd ht hlen
              go_upto_region 7 with (go_at_call 55; refine HAL.out.mono ?_; rintro e w3 ⟨rfl, hd3⟩)
              have n0 : w3.cell? ⟨B1, 0, none⟩ = some (.int .i64 (s.1 : Int)) := (hd3.cell).trans k0
              have HFIN : Aside _ := HK.out w3 hd3
              clear hd3 k0 k1 k2 m0 m1 m2 f0 f1 f2
              go_wp2_with fail
              go_roundg i
              case measure => omega
              case rel => exact ⟨i, k - 1, s, by go_num, by go_num, by omega, Nat.le_refl _, by omega, HR1.out, HS.out, HFIN.out⟩
      · have hdz : ¬ (d : Int) ≤ (wd : Int) := by omega
        rw [if_neg (by omega)] at r1
        have HE2 : Aside _ := HEND.out r1.symm
        clear r1 r2 r3 r4 r5 HEND HR hdd
        go_wp2_with fail
        obtain ⟨z1, z2⟩ := HE2.out _ rfl
        exact bodyPost_ret (results_cell_row rfl _ _ N _ _ _ _ rfl z1 Try.underlying44 rfl size_rpc) rfl ⟨rfl, z2⟩
end Go.Proofs.Ytenkbmkecgnfmaa.Lz
