/- The symbols of a block: symbols. The library's contracts that this seat uses, at this translation's numbers. slices.Repeat of one int. -/
import Derived.Test.YthmbbpfgbpacnaaDoorPkInfC
import Derived.WalkMore
import Derived.Shelf.Bits.Mul64
import Derived.Ground.NamesProg
import Derived.Test.YthmbbpfgbpacnaaDoorProg
import Derived.Shelf.Spec.SlicesInsert
namespace Go.Proofs.YthmbbpfgbpacnaaDoor.Inf
open Go.RowKit Go.Shelf Go.Lib Go.Proofs.YthmbbpfgbpacnaaDoor.Mem Go.Proofs.YthmbbpfgbpacnaaDoor.Bit Go.Proofs.YthmbbpfgbpacnaaDoor.Huf Go.Proofs.YthmbbpfgbpacnaaDoor.Lz

end Go.Proofs.YthmbbpfgbpacnaaDoor.Inf
namespace Go.Proofs
open Go.Shelf
def Tryd.laysMul_ren : Go.Shelf.Ren := ⟨fun | 212 => 53 | 263 => 66 | 264 => 67 | n => n, fun | 46 => 93 | 51 => 110 | 146 => 111 | 53 => 113 | 148 => 114 | n => n, fun | n => n⟩
theorem Tryd.laysMul : Go.Proofs.Lays.n212 Tryd.prog Tryd.laysMul_ren := {
  mixed := by kernel_rfl
  f212 := Tryd.func53.trans (congrArg some (by kernel_rfl))
  f263 := Tryd.func66.trans (congrArg some (by kernel_rfl))
  f264 := Tryd.func67.trans (congrArg some (by kernel_rfl))
  t46 := Tryd.underlying93
  a46 := Tryd.isAgg93
  z46 := Tryd.sizeOf93
  v46 := Tryd.zeroValue93
  t51 := Tryd.underlying110
  a51 := Tryd.isAgg110
  z51 := Tryd.sizeOf110
  v51 := Tryd.zeroValue110
  t53 := Tryd.underlying113
  a53 := Tryd.isAgg113
  z53 := Tryd.sizeOf113
  v53 := Tryd.zeroValue113
  t146 := Tryd.underlying111
  a146 := Tryd.isAgg111
  z146 := Tryd.sizeOf111
  v146 := Tryd.zeroValue111
  t148 := Tryd.underlying114
  a148 := Tryd.isAgg114
  z148 := Tryd.sizeOf114
  v148 := Tryd.zeroValue114 }
end Go.Proofs
namespace Go.Proofs.YthmbbpfgbpacnaaDoor.Inf
open Go.RowKit Go.Shelf Go.Lib Go.Proofs.YthmbbpfgbpacnaaDoor.Mem Go.Proofs.YthmbbpfgbpacnaaDoor.Bit Go.Proofs.YthmbbpfgbpacnaaDoor.Huf Go.Proofs.YthmbbpfgbpacnaaDoor.Lz

theorem mul_one_any (n : Nat) (w : World) (hn : n ≤ 1048576) : Calls Tryd.prog 53 #[.int .u64 1, .int .u64 (n : Int)] w fun e w' => e = .returned (.tuple #[.int .u64 0, .int .u64 (n : Int)]) ∧ w = w' := by
  refine (Any.bits_Mul Tryd.laysMul 1 n (by omega) (by omega) w).mono ?_
  rintro e w' ⟨rfl, rfl⟩
  refine ⟨?_, rfl⟩
  rw [show 1 * n / 18446744073709551616 = 0 by omega, show 1 * n % 18446744073709551616 = n by omega]
  rfl

/-- k of the n are laid. -/
def rz (z : Int) (n k : Nat) : List Int := List.replicate k z ++ List.replicate (n - k) 0
theorem copy_rep (w : World) (B g n k m : Nat) (z : Int) (h : w.ownsRow B 3 1 (.slice (some ⟨g, 0, none⟩) n n) n (iVs (rz z n k))) (hk : m ≤ k) (hm : k + m ≤ n) (hmin : m = Nat.min k (n - k)) (dc sc : Nat) :
    ∃ w', (Builtin.copy_ #[68, 68] 3 #[.slice (some ⟨g, k, none⟩) (n - k) dc, .slice (some ⟨g, 0, none⟩) k sc]).run Tryd.prog w = .ok (goInt m) w' ∧ w'.ownsRow B 3 1 (.slice (some ⟨g, 0, none⟩) n n) n (iVs (rz z n (k + m))) ∧ Only (fun i => i = g) w w' := by
  have hsz : (Tryd.prog.info? 3).map (·.size) = some 1 := by kernel_rfl
  rcases h.2 with ⟨hv, _⟩ | ⟨g', cap', cur, hv, hb, hh, hnc, hcm, hcs, htk⟩
  · cases hv
  · cases hv
    have hcl : cur.toList = iVs (rz z n k) := by
      rw [← htk, List.take_of_length_le]
      simp [hcs]
    have hrl : (rz z n k).length = n := by unfold rz; simp; omega
    have hcells : ∀ j v, (iVs (List.replicate m z))[j]? = some v → w.cell? ((⟨g, 0, none⟩ : Addr).add j) = some v := fun j v hj => by
      have hjm : j < m := by
        have := (List.getElem?_eq_some_iff.1 hj).1
        rw [iVs_len, List.length_replicate] at this
        exact this
      rw [Lib.addr_add, cell_of_row _ _ _ _ _ (0, 0) hh, Nat.zero_add, ← Array.getElem?_toList, hcl]
      rw [iVs, List.getElem?_map] at hj ⊢
      rw [show (rz z n k)[j]? = (List.replicate m z)[j]? by
        unfold rz
        rw [List.getElem?_append_left (by simp; omega), List.getElem?_replicate, List.getElem?_replicate, if_pos (by omega), if_pos hjm]]
      exact hj
    have hlen : (iVs (List.replicate m z)).length = m := by rw [iVs_len, List.length_replicate]
    have hrun := run_copy_row (P := Tryd.prog) w 68 68 3 3 g k (n - k) dc ⟨g, 0, none⟩ k sc cur 3 (iVs (List.replicate m z)) Tryd.underlying68 hsz hh (by rw [hlen]; exact hmin) hcells (by rw [hlen, hcs]; omega) (iVs_one _)
    rw [hlen] at hrun
    have hnew : (cur.toList.take k ++ iVs (List.replicate m z) ++ cur.toList.drop (k + m)) = iVs (rz z n (k + m)) := by
      rw [hcl]
      unfold rz iVs
      rw [← List.map_take, ← List.map_drop, ← List.map_append, ← List.map_append]
      refine congrArg (List.map iV) ?_
      have e1 : (List.replicate k z ++ List.replicate (n - k) (0 : Int)).take k = List.replicate k z := by rw [List.take_append_of_le_length (by simp), List.take_of_length_le (by simp)]
      have e2 : (List.replicate k z ++ List.replicate (n - k) (0 : Int)).drop (k + m) = List.replicate (n - (k + m)) 0 := by
        rw [List.drop_append, List.drop_eq_nil_of_le (by simp), List.nil_append, List.length_replicate, List.drop_replicate]
        rw [show n - k - (k + m - k) = n - (k + m) by omega]
      rw [e1, e2, List.replicate_append_replicate]
    refine ⟨_, hrun, ?_, ⟨rfl, rfl, rfl, by simp [World.setRow], fun i hi h1 => setRow_other w g i _ h1⟩⟩
    rw [hnew]
    have hrl2 : (rz z n (k + m)).length = n := by unfold rz; simp; omega
    refine ⟨by rw [iVs_len, hrl2, Nat.mul_one], .inr ⟨g, n, (iVs (rz z n (k + m))).toArray, rfl, hb, setRow_heap w g cur _ 3 (0, 0) hh, hnc, hcm, by simp [iVs_len, hrl2], ?_⟩⟩
    rw [List.take_of_length_le (by simp [iVs_len, hrl2])]

set_option maxRecDepth 100000 in
set_option maxHeartbeats 4000000 in
theorem repeat_any (W : World) (a : Addr) (cap n : Nat) (z : Int) (hc : W.cell? a = some (.int .i64 z)) (ha : a.add 0 = a) (hn1 : 1 ≤ n) (hn : n ≤ 1000) :
    Calls Tryd.prog 42 #[.slice (some a) 1 cap, .int .i64 (n : Int)] W fun e w' => ∃ v, e = .returned v ∧ w'.ownsRow W.heap.size 3 1 v n (iVs (List.replicate n z)) ∧ Below W.heap.size W w' := by
  have hsz : (Tryd.prog.info? 3).map (·.size) = some 1 := by kernel_rfl
  obtain ⟨vm, W1, m1, m2, m3, g, rfl⟩ := makeI_any W n (by omega)
  have hgB := (m2.lt g rfl)
  have hc1 : W1.cell? a = some (.int .i64 z) := (m3.cell (block_lt_of_cell hc)).trans hc
  obtain ⟨W2, p1, p2, p3⟩ : ∃ w', (Builtin.copy_ #[68, 68] 3 #[.slice (some ⟨g, 0, none⟩) n n, .slice (some a) 1 cap]).run Tryd.prog W1 = .ok (goInt 1) w' ∧ w'.ownsRow W.heap.size 3 1 (.slice (some ⟨g, 0, none⟩) n n) n (iVs (rz z n 1)) ∧ Only (fun i => i = g) W1 w' := by
    rcases m2.2 with ⟨hv, _⟩ | ⟨g', cap', cur, hv, hb, hh, hnc, hcm, hcs, htk⟩
    · cases hv
    · cases hv
      have hcl : cur.toList = iVs (List.replicate n 0) := by
        rw [← htk, List.take_of_length_le]
        simp [hcs]
      have hrun := run_copy_row (P := Tryd.prog) W1 68 68 3 3 g 0 n n a 1 cap cur 3 [.int .i64 z] Tryd.underlying68 hsz hh (by simp [Nat.min_def]; omega) (fun j v hj => by
        cases j with
        | zero => rw [ha]; rw [hc1]; simpa using hj
        | succ j => simp at hj) (by simp [hcs]; omega) (by simp [Value.oneCell'])
      have hnew : (cur.toList.take 0 ++ [Value.int .i64 z] ++ cur.toList.drop (0 + 1)) = iVs (rz z n 1) := by
        rw [hcl]
        unfold rz iVs
        simp [List.drop_replicate, iV]
      rw [show ([Value.int .i64 z] : List Value).length = 1 from rfl] at hrun
      refine ⟨_, hrun, ?_, ⟨rfl, rfl, rfl, by simp [World.setRow], fun i hi h1 => setRow_other W1 g i _ h1⟩⟩
      rw [hnew]
      have hrl2 : (rz z n 1).length = n := by unfold rz; simp; omega
      refine ⟨by rw [iVs_len, hrl2, Nat.mul_one], .inr ⟨g, n, (iVs (rz z n 1)).toArray, rfl, hb, setRow_heap W1 g cur _ 3 (0, 0) hh, hnc, hcm, by simp [iVs_len, hrl2], ?_⟩⟩
      rw [List.take_of_length_le (by simp [iVs_len, hrl2])]
  have H2 : Aside (W2.ownsRow W.heap.size 3 1 (.slice (some ⟨g, 0, none⟩) n n) n (iVs (rz z n 1)) ∧ Below W.heap.size W W2) := ⟨p2, m3.trans (p3.below m3.size (fun k hk => by rw [hk]; exact hgB.1))⟩
  have HG : Aside (W.heap.size ≤ g) := hgB.1
  have n0 : (0 : Int) ≤ (n : Int) := by omega
  have n1 : ¬ (n : Int) < 0 := by omega
  have n2 : (n : Int) ≤ 1000 := by omega
  have HM := fun w => Lib.hid (mul_one_any n w (by omega))
  have w1 : IntKind.u64.wrap (n : Int) = (n : Int) := by rw [IntKind.wrap_u64]; omega
  have w2 : IntKind.i64.wrap (n : Int) = (n : Int) := by rw [IntKind.wrap_i64]; omega
  have mixed : Tryd.prog.follows .mixedOrders = true := by kernel_rfl
  clear m2 m3 hgB hc1 p2 p3 hsz hc ha
  go_enter Tryd.func42, Tryd.ntmps42
  go_upto_region 7 with (go_at_call 53; refine (HM _).out.mono ?_; rintro e w3 ⟨rfl, rfl⟩)
  go_upto_region 8 with (with_reducible refine wpList_copy_runI _ rfl _ _ _ _ rfl _ _ rfl rfl p1 ?_)
  clear p1 m1 w1
  go_loopg [8] n (fun kx s8 wr => ∃ (k : Nat), s8 = .int .i64 (k : Int) ∧ 1 ≤ k ∧ k ≤ n ∧ n - k ≤ kx ∧ Aside (wr.ownsRow W.heap.size 3 1 (.slice (some ⟨g, 0, none⟩) n n) n (iVs (rz z n k)) ∧ Below W.heap.size W wr))
  case atStart => exact ⟨1, rfl, Nat.le_refl _, hn1, by omega, H2.out⟩
  case round =>
    clear H2
    obtain ⟨k, rfl, hk1, hkn, hkx, HR⟩ := hrel
    by_cases hlt : k < n
    · have hltz : (k : Int) < (n : Int) := by omega
      obtain ⟨m, hmm⟩ : ∃ m, m = Nat.min k (n - k) := ⟨_, rfl⟩
      have hm1 : 1 ≤ m ∧ m ≤ k ∧ k + m ≤ n := by rw [hmm]; simp only [Nat.min_def]; split <;> omega
      obtain ⟨w', c1, c2, c3⟩ := copy_rep wr.drew W.heap.size g n k m z (own_drew HR.out.1 ⟨rfl, rfl, rfl, rfl⟩) hm1.2.1 hm1.2.2 hmm (n - k) n
      have HE : Aside (w'.ownsRow W.heap.size 3 1 (.slice (some ⟨g, 0, none⟩) n n) n (iVs (rz z n (k + m))) ∧ Below W.heap.size W w') := ⟨c2, HR.out.2.trans (((Drew.below (w := wr) (w' := wr.drew) ⟨rfl, rfl, rfl, rfl⟩ W.heap.size)).trans (c3.below HR.out.2.size (fun i hi => by rw [hi]; exact HG.out)))⟩
      have hcap : ¬ n = k := by omega
      have k0 : (0 : Int) ≤ (k : Int) := by omega
      have hkz : (k : Int) ≤ (n : Int) := by omega
      have hkn' : k ≤ n := hkn
      have wk : IntKind.i64.wrap ((k : Int) + (m : Int)) = ((k + m : Nat) : Int) := by rw [IntKind.wrap_i64]; omega
      have HMK : Aside (1 ≤ m ∧ k + m ≤ n) := ⟨hm1.1, hm1.2.2⟩
      clear c2 c3 HR hmm hm1
      go_upto_region 9 with fail
      go_region_law (with_reducible refine step_copy_runI rfl _ _ _ _ rfl _ _ rfl rfl c1 ?_)
      all_goals
        go_wp2_with fail
        go_roundg (n - (k + m))
        case measure => have := HMK.out; omega
        case rel => exact ⟨k + m, by go_num, by have := HMK.out; omega, HMK.out.2, Nat.le_refl _, HE.out⟩
    · obtain rfl : k = n := by omega
      have hltz : ¬ (k : Int) < (k : Int) := by omega
      have hrz : rz z k k = List.replicate k z := by unfold rz; simp
      have HE : Aside (wr.ownsRow W.heap.size 3 1 (.slice (some ⟨g, 0, none⟩) k k) k (iVs (List.replicate k z)) ∧ Below W.heap.size W wr) := by rw [← hrz]; exact HR.out
      clear HR hrz
      go_wp2_with fail
      go_ret
      exact ⟨_, rfl, HE.out⟩
end Go.Proofs.YthmbbpfgbpacnaaDoor.Inf
