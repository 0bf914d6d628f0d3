/- Package deflate: runs of lengths in numbers; alike, runAt, told, Index, atLeastTwo. Package deflate: the run that begins at a place; the first of its kind; at least two. Package deflate: where a number stands first; at least two codes; lengths of the least cost. -/
import Derived.Test.YthmbbpfgbpacnaaGreatDoorPmInfO
import Derived.Test.YthmbbpfgbpacnaaGreatDoorPmMemG
import Derived.BigQuiet
import Derived.Deep.QuietTactic
namespace Go.Proofs.YthmbbpfgbpacnaaGreatDoor.Def
open Go.RowKit Go.Shelf Go.Lib Mem Bit Huf Lz Inf
def alkF (l : List Int) (z : Int) : Nat -> Nat -> Nat
 | 0, n => n
 | f + 1, n => if n < l.length /\ numAt l n = z then alkF l z f (n + 1) else n
def alkN (l : List Int) : Nat := alkF l (numAt l 0) l.length 1
theorem alkF_le (l : List Int) (z : Int) : ∀ f n, n <= l.length -> n <= alkF l z f n /\ alkF l z f n <= l.length
 | 0, n, h => ⟨Nat.le_refl _, h⟩
 | f + 1, n, h => by
  unfold alkF
  split
  ·have := alkF_le l z f (n + 1) (by omega)
   omega
  ·exact ⟨Nat.le_refl _, h⟩
theorem alkF_all (l : List Int) (z : Int) : ∀ f n k, n <= k -> k < alkF l z f n -> numAt l k = z
 | 0, n, k, h, hk => by unfold alkF at hk; omega
 | f + 1, n, k, h, hk => by
  unfold alkF at hk
  split at hk
  ·rename_i hc
   by_cases e : n = k
   ·rw [<- e]; exact hc.2
   ·exact alkF_all l z f (n + 1) k (by omega) hk
  ·omega
theorem alkN_bd (l : List Int) (h : 0 < l.length) : 1 <= alkN l /\ alkN l <= l.length := alkF_le l _ _ 1 (by omega)
theorem alkN_all (l : List Int) (k : Nat) (hk : k < alkN l) : numAt l k = numAt l 0 := by
 by_cases h : k = 0
 ·rw [h]
 ·exact alkF_all l _ _ 1 k (by omega) hk
set_option maxHeartbeats 4000000 in
theorem alike_any (W : World) (v : Value) (l : List Int) (hs : SrcI W v l) (hl : 0 < l.length) (hb : l.length <= 1048576) :
  Calls Tryz.prog 157 #[v] W fun e w' => e = .returned (.int .i64 (alkN l : Int)) /\ Drew W w' := by
 obtain ⟨ao, cap, rfl, hao⟩ := hs.shape
 obtain ⟨a, rfl⟩ := hao hl
 have c0 : ∀ q, (W.drewN q).cell? a = some (.int .i64 (numAt l 0)) := fun q => by
  have := srci_cell hs 0 hl
  rw [numAt_eq l 0 hl]
  rw [show a.add 0 = a from by unfold Addr.add; rw [if_pos rfl]] at this
  exact this
 have HS : Aside (∀ q i, i < l.length -> (W.drewN q).cell? (a.add i) = some (.int .i64 (numAt l i))) := fun q i hi => by rw [numAt_eq l i hi]; exact srci_cell hs i hi
 obtain ⟨r, hr⟩ : ∃ r, r = alkN l := ⟨_, rfl⟩
 rw [<- hr]
 have H0 : Aside (alkF l (numAt l 0) l.length 1 = r) := hr.symm
 have hlz : (l.length : Int) <= 1048576 := by omega
 have hl0 : (0 : Int) < (l.length : Int) := by omega
 have C0 : Aside (∀ q, (W.drewN q).cell? a = some (.int .i64 (numAt l 0))) := c0
 clear hs hao hr c0
 go_enter Tryz.func157, Tryz.ntmps157
 go_upto_region 2 with fail
 go_loopg [3] l.length (fun kx s3 wr => ∃ (n f : Nat), s3 = .int .i64 (n : Int) /\ 1 <= n /\ n <= l.length /\ l.length - n <= kx /\ Aside (l.length <= n + f /\ alkF l (numAt l 0) f n = r) /\ Aside (Drew W wr))
 case atStart => exact ⟨1, l.length, rfl, Nat.le_refl _, by omega, by omega, ⟨by omega, H0.out⟩, Drew.refl _⟩
 case round =>
  clear H0
  obtain ⟨n, f, rfl, hn1, hn2, hkx, HX, HD⟩ := hrel
  have n0 : (0 : Int) <= (n : Int) := by omega
  by_cases hlt : n < l.length
  ·have hltz : (n : Int) < (l.length : Int) := by omega
   have hf := HX.out.1
   obtain ⟨f, rfl⟩ : ∃ f', f = f' + 1 := ⟨f - 1, by omega⟩
   have hX := HX.out.2
   unfold alkF at hX
   have k1 : ∀ m, (wr.drewN m).cell? (a.add n) = some (.int .i64 (numAt l n)) := fun m => ((HD.out.trans (Drew.drewN wr m)).cell).trans (HS.out 0 n hlt)
   have k0 : ∀ m, (wr.drewN m).cell? a = some (.int .i64 (numAt l 0)) := fun m => ((HD.out.trans (Drew.drewN wr m)).cell).trans (C0.out 0)
   have wn : IntKind.i64.wrap ((n : Int) + 1) = (n : Int) + 1 := by rw [IntKind.wrap_i64]; omega
   by_cases hz : numAt l n = numAt l 0
   ·rw [if_pos ⟨hlt, hz⟩] at hX
    have HY : Aside (l.length <= n + 1 + f /\ alkF l (numAt l 0) f (n + 1) = r) := ⟨by omega, hX⟩
    have hzb : (numAt l n == numAt l 0) = true := by rw [beq_iff_eq]; exact hz
    clear HX hX hf
    generalize numAt l n = z1 at *
    generalize numAt l 0 = z0 at *
    go_wp2_with fail
    go_quiet (fail)
    go_wp2_with fail
    go_roundg (l.length - (n + 1))
    case measure => omega
    case rel => exact ⟨n + 1, f, by go_num, by omega, by omega, Nat.le_refl _, HY.out, HD.out.trans (Drew.drewN _ _)⟩
   ·rw [if_neg (fun h => hz h.2)] at hX
    subst hX
    have hzb : (numAt l n == numAt l 0) = false := by rw [beq_eq_false_iff_ne]; exact hz
    clear HX hf
    generalize numAt l n = z1 at *
    generalize numAt l 0 = z0 at *
    go_wp2_with fail
    go_quiet (fail)
    go_wp2_with fail
    go_ret
    exact ⟨rfl, HD.out.trans (Drew.drewN _ _)⟩
  ·have hX := HX.out.2
   have hX2 : n = r := by
    cases f with
    | zero => exact hX
    | succ f =>
     unfold alkF at hX
     rw [if_neg (fun h => hlt h.1)] at hX
     exact hX
   subst hX2
   obtain rfl : n = l.length := by omega
   have hltz : ¬ (l.length : Int) < (l.length : Int) := by omega
   clear HX hX
   go_wp2_with fail
   go_quiet (fail)
   go_wp2_with fail
   go_ret
   exact ⟨rfl, HD.out.trans (Drew.drewN _ _)⟩
def runAtN (row : List Int) (k : Nat) : (Int × Nat × Nat) × Nat :=
 if numAt row k = 0 /\ 11 <= alkN (row.drop k) then ((18, 7, min (alkN (row.drop k)) 138 - 11), min (alkN (row.drop k)) 138)
 else if numAt row k = 0 /\ 3 <= alkN (row.drop k) then ((17, 3, alkN (row.drop k) - 3), alkN (row.drop k))
 else if numAt row k ≠ 0 /\ 3 <= alkN (row.drop k) /\ 0 < k /\ numAt row (k - 1) = numAt row k then ((16, 2, min (alkN (row.drop k)) 6 - 3), min (alkN (row.drop k)) 6)
 else ((numAt row k, 0, 0), 1)
theorem runAtN_bd (row : List Int) (k : Nat) (h : k < row.length) : 1 <= (runAtN row k).2 /\ k + (runAtN row k).2 <= row.length := by
 have := alkN_bd (row.drop k) (by rw [List.length_drop]; omega)
 rw [List.length_drop] at this
 unfold runAtN
 split
 ·constructor <;> simp only <;> omega
 ·split
  ·constructor <;> simp only <;> omega
  ·split
   ·constructor <;> simp only <;> omega
   ·constructor <;> simp only <;> omega
def toldN (l : List Int) (least : Nat) : Nat -> Nat
 | 0 => 0
 | n + 1 => if least < n + 1 /\ numAt l n = 0 then toldN l least n else n + 1
theorem toldN_bd (l : List Int) (least : Nat) : ∀ n, least <= n -> least <= toldN l least n /\ toldN l least n <= n
 | 0, h => ⟨h, Nat.le_refl _⟩
 | n + 1, h => by
  unfold toldN
  split
  ·rename_i hc
   have := toldN_bd l least n (by omega)
   omega
  ·exact ⟨h, Nat.le_refl _⟩
set_option maxHeartbeats 4000000 in
theorem told_lens (W : World) (ao : Option Addr) (cap least : Nat) (l : List Int) (hs : SrcI W (.slice ao l.length cap) l) (hb : l.length <= 1048576) (hle : least <= l.length) (h0 : 0 < least) (hc : l.length <= cap) :
  Calls Tryz.prog 114 #[.slice ao l.length cap, .int .i64 (least : Int)] W fun e w' => e = .returned (.slice ao (toldN l least l.length) cap) /\ W = w' := by
 obtain ⟨ao2, cap2, e, hao⟩ := hs.shape
 cases e
 obtain ⟨a, rfl⟩ := hao (by omega)
 have HS : Aside (∀ i, i < l.length -> W.cell? (a.add i) = some (.int .i64 (numAt l i))) := fun i hi => by rw [numAt_eq l i hi]; exact srci_cell hs i hi
 obtain ⟨r, hr⟩ : ∃ r, r = toldN l least l.length := ⟨_, rfl⟩
 have hrb := toldN_bd l least l.length hle
 rw [<- hr] at hrb ⊢
 have H0 : Aside (toldN l least l.length = r) := hr.symm
 have hrc : (r : Int) <= (cap : Int) := by omega
 have hrc2 : r <= cap := by omega
 clear hs hao hr
 go_enter Tryz.func114, Tryz.ntmps114
 go_upto_region 2 with fail
 go_loopg [5] l.length (fun kx s5 wr => ∃ (n : Nat), s5 = .int .i64 (n : Int) /\ least <= n /\ n <= l.length /\ n <= kx /\ Aside (toldN l least n = r) /\ W = wr)
 case atStart => exact ⟨l.length, rfl, hle, Nat.le_refl _, Nat.le_refl _, H0.out, rfl⟩
 case round =>
  clear H0
  obtain ⟨n, rfl, hn1, hn2, hkx, HX, rfl⟩ := hrel
  by_cases hlt : least < n
  ·have hgz : (n : Int) > (least : Int) := by omega
   obtain ⟨j, rfl⟩ : ∃ j, n = j + 1 := ⟨n - 1, by omega⟩
   have wn : IntKind.i64.wrap (((j + 1 : Nat) : Int) - 1) = (j : Int) := by rw [IntKind.wrap_i64]; omega
   have j0 : (0 : Int) <= (j : Int) := by omega
   have j1 : (j : Int) < (l.length : Int) := by omega
   have hcell := HS.out j (by omega)
   have hX := HX.out
   unfold toldN at hX
   by_cases hz : numAt l j = 0
   ·rw [if_pos ⟨hlt, hz⟩] at hX
    have HY : Aside (toldN l least j = r) := hX
    rw [hz] at hcell
    clear HX hX hz
    go_wp2_with fail
    go_roundg j
    case measure => omega
    case rel => exact ⟨j, rfl, by omega, by omega, Nat.le_refl _, HY.out, rfl⟩
   ·rw [if_neg (fun h => hz h.2)] at hX
    subst hX
    have hzb : (numAt l j == 0) = false := by rw [beq_eq_false_iff_ne]; exact hz
    clear HX
    generalize numAt l j = z at *
    go_wp2_with fail
    go_ret
    exact ⟨rfl, rfl⟩
  ·have hgz : ¬ (n : Int) > (least : Int) := by omega
   have hX : n = r := by
    have hX := HX.out
    cases n with
    | zero => exact hX
    | succ n =>
     unfold toldN at hX
     rw [if_neg (fun h => hlt h.1)] at hX
     exact hX
   subst hX
   clear HX
   go_wp2_with fail
   go_ret
   exact ⟨rfl, rfl⟩
end Go.Proofs.YthmbbpfgbpacnaaGreatDoor.Def
namespace Go.Proofs.YthmbbpfgbpacnaaGreatDoor.Def
open Go.RowKit Go.Shelf Go.Lib Mem Bit Huf Lz Inf
def runV (r : Int × Nat × Nat) : Value := .agg #[.int .i64 r.1, .int .i64 (r.2.1 : Int), .int .i64 (r.2.2 : Int)]
theorem runAt_results (tmps : Array Value) (w : World) (q : Nat) (z0 : Int) (z1 z2 : Nat) (x : Value) (h4 : tmps.getD 4 undef = .pointer (some ⟨q, 0, none⟩)) (h5 : tmps.getD 5 undef = x) (hf : w.heap[q]? = some (.cells #[.int .i64 z0, .int .i64 (z1 : Int), .int .i64 (z2 : Int)] 178 (0, 0))) :
  (results Tryz.f142 tmps).run Tryz.prog w = .ok (.tuple #[runV (z0, z1, z2), x]) w := by
 have q0 : w.cell? ⟨q, 0, none⟩ = some (.int .i64 z0) := by rw [Lib.cell_of_heap hf]; rfl
 have q1 : w.cell? ⟨q, 1, none⟩ = some (.int .i64 (z1 : Int)) := by rw [Lib.cell_of_heap hf]; rfl
 have q2 : w.cell? ⟨q, 2, none⟩ = some (.int .i64 (z2 : Int)) := by rw [Lib.cell_of_heap hf]; rfl
 rw [Array.getD_eq_getD_getElem?] at h4 h5
 simp [results, Tryz.results142, go_sem, h4, h5, q0, q1, q2, runV]
set_option maxRecDepth 100000 in
set_option maxHeartbeats 4000000 in
theorem runAt_any (W : World) (a : Addr) (cap : Nat) (row : List Int) (k : Nat) (hs : SrcI W (.slice (some a) row.length cap) row) (hk : k < row.length) (hb : row.length <= 1048576) (hcap : row.length <= cap) :
  Calls Tryz.prog 142 #[.slice (some a) row.length cap, .int .i64 (k : Int)] W fun e w' => e = .returned (.tuple #[runV (runAtN row k).1, .int .i64 ((runAtN row k).2 : Int)]) /\ Below W.heap.size W w' := by
 have hA := (Below.refl W.heap.size W).alloc (Nat.le_refl _) (.cells #[.int .i64 0, .int .i64 0, .int .i64 0] 178)
 have hs1 := hs.below hA
 have C1 : Aside ((W.alloc (.cells #[.int .i64 0, .int .i64 0, .int .i64 0] 178)).cell? (a.add k) = some (.int .i64 (numAt row k))) := by rw [numAt_eq row k hk]; exact srci_cell hs1 k hk
 have C2 : Aside (0 < k -> (W.alloc (.cells #[.int .i64 0, .int .i64 0, .int .i64 0] 178)).cell? (a.add (k - 1)) = some (.int .i64 (numAt row (k - 1)))) := fun h => by rw [numAt_eq row (k - 1) (by omega)]; exact srci_cell hs1 (k - 1) (by omega)
 obtain ⟨n, hn⟩ : ∃ n, n = alkN (row.drop k) := ⟨_, rfl⟩
 have hnb := alkN_bd (row.drop k) (by rw [List.length_drop]; omega)
 rw [<- hn, List.length_drop] at hnb
 obtain ⟨n1, n2⟩ := hnb
 have HAL : Aside (∀ (q : Option Addr) (w : World) (c2 : Nat), Below W.heap.size W w -> (∀ i, i < row.length - k -> w.cell? (a.add (k + i)) = some (.int .i64 (numAt row (k + i)))) -> True) := fun _ _ _ _ _ => trivial
 have hpre : ∀ c2, SrcI (W.alloc (.cells #[.int .i64 0, .int .i64 0, .int .i64 0] 178)) (.slice (some (a.add k)) (row.length - k) c2) (row.drop k) := fun c2 => .inr ⟨a.add k, c2, by rw [List.length_drop], fun j u hj => by
  have hjl : j < row.length - k := by
   have := (List.getElem?_eq_some_iff.1 hj).1
   rwa [iVs_len, List.length_drop] at this
  rw [iVs, List.getElem?_map, List.getElem?_drop, List.getElem?_eq_getElem (show k + j < row.length by omega)] at hj
  rw [Deep.add_add, srci_cell hs1 (k + j) (by omega)]
  exact hj⟩
 have HAK : Aside (∀ c2, Calls Tryz.prog 157 #[.slice (some (a.add k)) (row.length - k) c2] (W.alloc (.cells #[.int .i64 0, .int .i64 0, .int .i64 0] 178)) fun e w' => e = .returned (.int .i64 (n : Int)) /\ Drew (W.alloc (.cells #[.int .i64 0, .int .i64 0, .int .i64 0] 178)) w') := fun c2 => by
  rw [hn]
  exact alike_any _ _ _ (hpre c2) (by rw [List.length_drop]; omega) (by rw [List.length_drop]; omega)
 obtain ⟨r, hr⟩ : ∃ r, r = runAtN row k := ⟨_, rfl⟩
 rw [<- hr]
 unfold runAtN at hr
 rw [<- hn] at hr
 obtain ⟨W1, hW1⟩ : ∃ W1, W1 = W.alloc (.cells #[.int .i64 0, .int .i64 0, .int .i64 0] 178) := ⟨_, rfl⟩
 have hcell : W1.heap[W.heap.size]? = some (.cells #[.int .i64 0, .int .i64 0, .int .i64 0] 178 (0, 0)) := by rw [hW1]; exact heap_alloc_new _ _
 have HB1 : Aside (Below W.heap.size W W1) := by rw [hW1]; exact hA
 obtain ⟨z, hz⟩ : ∃ z, z = numAt row k := ⟨_, rfl⟩
 obtain ⟨y, hy⟩ : ∃ y, y = numAt row (k - 1) := ⟨_, rfl⟩
 rw [<- hz] at C1 hr
 rw [<- hy] at C2 hr
 have k0 : (0 : Int) <= (k : Int) := by omega
 have k1 : (k : Int) < (row.length : Int) := by omega
 have k2 : (k : Int) <= (row.length : Int) := by omega
 have nz : (n : Int) <= 1048576 := by omega
 have nc : ¬ cap = k := by omega
 have nc2 : (row.length : Int) <= (cap : Int) := by omega
 have nc3 : k <= row.length := by omega
 clear hs hs1 hn hA hpre HAL hz hy
 obtain ⟨s0, hs0⟩ : ∃ s0, s0 = W.heap.size := ⟨_, rfl⟩
 rw [<- hs0] at HB1 ⊢
 go_enter Tryz.func142, Tryz.ntmps142
 rw [<- hW1] at C1 C2 HAK
 go_upto_region 1 with fail
 rw [<- hW1]
 clear hW1
 have c1 := C1.out
 obtain ⟨q, hq⟩ : ∃ q, q = W.heap.size := ⟨_, rfl⟩
 have HQ : Aside (s0 <= q) := by show s0 <= q; omega
 rw [<- hq] at hcell ⊢
 clear hq hs0
 go_upto_region 3 with (go_at_call 157; refine (HAK.out _).mono ?_; rintro e w2 ⟨rfl, d2⟩)
 have hcell2 : w2.heap[q]? = some (.cells #[.int .i64 0, .int .i64 0, .int .i64 0] 178 (0, 0)) := by rw [d2.heap]; exact hcell
 have HB2 : Aside (Below s0 W w2) := HB1.out.trans (d2.below _)
 have c2 : 0 < k -> w2.cell? (a.add (k - 1)) = some (.int .i64 y) := fun h => d2.cell.trans (C2.out h)
 have q0 : w2.cell? ⟨q, 0, none⟩ = some (.int .i64 0) := by rw [Lib.cell_of_heap hcell2]; rfl
 have q1 : w2.cell? ⟨q, 1, none⟩ = some (.int .i64 0) := by rw [Lib.cell_of_heap hcell2]; rfl
 have q2 : w2.cell? ⟨q, 2, none⟩ = some (.int .i64 0) := by rw [Lib.cell_of_heap hcell2]; rfl
 have f0 : w2.frozen? ⟨q, 0, none⟩ = false := Lib.frozen_of_heap hcell2 0
 have f1 : w2.frozen? ⟨q, 1, none⟩ = false := Lib.frozen_of_heap hcell2 1
 have f2 : w2.frozen? ⟨q, 2, none⟩ = false := Lib.frozen_of_heap hcell2 2
 have HFIN : Aside (∀ v0 v1 v2 : Value, ((((w2.setCell ⟨q, 0, none⟩ v0).setCell ⟨q, 1, none⟩ v1).setCell ⟨q, 2, none⟩ v2).heap[q]? = some (.cells #[v0, v1, v2] 178 (0, 0))) /\ Below s0 W (((w2.setCell ⟨q, 0, none⟩ v0).setCell ⟨q, 1, none⟩ v1).setCell ⟨q, 2, none⟩ v2)) := fun v0 v1 v2 => by
  have h0 := Lib.heap_setCell_same (i := 0) hcell2 v0
  have h1 := Lib.heap_setCell_same (i := 1) h0 v1
  have h2 := Lib.heap_setCell_same (i := 2) h1 v2
  exact ⟨h2.trans rfl, ((HB2.out.setCell HQ.out _).setCell HQ.out _).setCell HQ.out _⟩
 clear c1 hcell hcell2 HB1 HB2 C1 C2 HAK d2
 by_cases h0 : z = 0
 ·by_cases h11 : 11 <= n
  ·rw [if_pos ⟨h0, h11⟩] at hr
   have g11 : (n : Int) ≥ 11 := by omega
   obtain ⟨m, hm⟩ : ∃ m, m = min n 138 := ⟨_, rfl⟩
   rw [<- hm] at hr
   have hmm : min (n : Int) 138 = (m : Int) := by omega
   have wm : IntKind.i64.wrap ((m : Int) - 11) = ((m - 11 : Nat) : Int) := by rw [IntKind.wrap_i64]; omega
   subst h0
   clear hm c2
   go_wp2_with fail
   obtain ⟨hf, hb⟩ := HFIN.out (.int .i64 18) (.int .i64 7) (.int .i64 ((m - 11 : Nat) : Int))
   generalize ((w2.setCell ⟨q, 0, none⟩ (.int .i64 18)).setCell ⟨q, 1, none⟩ (.int .i64 7)).setCell ⟨q, 2, none⟩ (.int .i64 ((m - 11 : Nat) : Int)) = w9 at hf hb ⊢
   exact bodyPost_ret (runAt_results _ _ q _ _ _ _ rfl rfl hf) rfl ⟨by first | rfl | (rw [hr]; rfl), hb⟩
  ·have g11 : ¬ (n : Int) ≥ 11 := by omega
   rw [if_neg (fun h => h11 h.2)] at hr
   by_cases h3 : 3 <= n
   ·rw [if_pos ⟨h0, h3⟩] at hr
    have g3 : (n : Int) ≥ 3 := by omega
    have wn : IntKind.i64.wrap ((n : Int) - 3) = ((n - 3 : Nat) : Int) := by rw [IntKind.wrap_i64]; omega
    subst h0
    clear c2
    go_wp2_with fail
    obtain ⟨hf, hb⟩ := HFIN.out (.int .i64 17) (.int .i64 3) (.int .i64 ((n - 3 : Nat) : Int))
    generalize ((w2.setCell ⟨q, 0, none⟩ (.int .i64 17)).setCell ⟨q, 1, none⟩ (.int .i64 3)).setCell ⟨q, 2, none⟩ (.int .i64 ((n - 3 : Nat) : Int)) = w9 at hf hb ⊢
    exact bodyPost_ret (runAt_results _ _ q _ _ _ _ rfl rfl hf) rfl ⟨by first | rfl | (rw [hr]; rfl), hb⟩
   ·rw [if_neg (fun h => h3 h.2), if_neg (fun h => h.1 h0)] at hr
    have g3 : ¬ (n : Int) ≥ 3 := by omega
    subst h0
    clear c2
    go_wp2_with fail
    obtain ⟨hf, hb⟩ := HFIN.out (.int .i64 0) (.int .i64 0) (.int .i64 0)
    generalize ((w2.setCell ⟨q, 0, none⟩ (.int .i64 0)).setCell ⟨q, 1, none⟩ (.int .i64 0)).setCell ⟨q, 2, none⟩ (.int .i64 0) = w9 at hf hb ⊢
    exact bodyPost_ret (runAt_results _ _ q _ _ _ _ rfl rfl hf) rfl ⟨by first | rfl | (rw [hr]; rfl), hb⟩
 ·rw [if_neg (fun h => h0 h.1), if_neg (fun h => h0 h.1)] at hr
  have zb : (z == 0) = false := by rw [beq_eq_false_iff_ne]; exact h0
  have zb2 : (z != 0) = true := by rw [bne_iff_ne]; exact h0
  by_cases h3 : 3 <= n
  ·have g3 : (n : Int) ≥ 3 := by omega
   by_cases hk0 : 0 < k
   ·have gk : (k : Int) > 0 := by omega
    have c2' := c2 hk0
    have wk := show IntKind.i64.wrap ((k : Int) - 1) = ((k - 1 : Nat) : Int) by rw [IntKind.wrap_i64]; omega
    have j0 : (0 : Int) <= ((k - 1 : Nat) : Int) := by omega
    have j1 : ((k - 1 : Nat) : Int) < (row.length : Int) := by omega
    clear c2
    by_cases hyz : y = z
    ·rw [if_pos ⟨h0, h3, hk0, hyz⟩] at hr
     have yb : (y == z) = true := by rw [beq_iff_eq]; exact hyz
     obtain ⟨m, hm⟩ : ∃ m, m = min n 6 := ⟨_, rfl⟩
     rw [<- hm] at hr
     have hmm : min (n : Int) 6 = (m : Int) := by omega
     have wm : IntKind.i64.wrap ((m : Int) - 3) = ((m - 3 : Nat) : Int) := by rw [IntKind.wrap_i64]; omega
     clear hm hyz
     generalize k - 1 = j at *
     go_wp2_with fail
     obtain ⟨hf, hb⟩ := HFIN.out (.int .i64 16) (.int .i64 2) (.int .i64 ((m - 3 : Nat) : Int))
     generalize ((w2.setCell ⟨q, 0, none⟩ (.int .i64 16)).setCell ⟨q, 1, none⟩ (.int .i64 2)).setCell ⟨q, 2, none⟩ (.int .i64 ((m - 3 : Nat) : Int)) = w9 at hf hb ⊢
     exact bodyPost_ret (runAt_results _ _ q _ _ _ _ rfl rfl hf) rfl ⟨by first | rfl | (rw [hr]; rfl), hb⟩
    ·rw [if_neg (fun h => hyz h.2.2.2)] at hr
     have yb : (y == z) = false := by rw [beq_eq_false_iff_ne]; exact hyz
     generalize k - 1 = j at *
     go_wp2_with fail
     obtain ⟨hf, hb⟩ := HFIN.out (.int .i64 z) (.int .i64 0) (.int .i64 0)
     generalize ((w2.setCell ⟨q, 0, none⟩ (.int .i64 z)).setCell ⟨q, 1, none⟩ (.int .i64 0)).setCell ⟨q, 2, none⟩ (.int .i64 0) = w9 at hf hb ⊢
     exact bodyPost_ret (runAt_results _ _ q _ _ _ _ rfl rfl hf) rfl ⟨by first | rfl | (rw [hr]; rfl), hb⟩
   ·rw [if_neg (fun h => hk0 h.2.2.1)] at hr
    have gk : ¬ (k : Int) > 0 := by omega
    clear c2
    go_wp2_with fail
    obtain ⟨hf, hb⟩ := HFIN.out (.int .i64 z) (.int .i64 0) (.int .i64 0)
    generalize ((w2.setCell ⟨q, 0, none⟩ (.int .i64 z)).setCell ⟨q, 1, none⟩ (.int .i64 0)).setCell ⟨q, 2, none⟩ (.int .i64 0) = w9 at hf hb ⊢
    exact bodyPost_ret (runAt_results _ _ q _ _ _ _ rfl rfl hf) rfl ⟨by first | rfl | (rw [hr]; rfl), hb⟩
  ·rw [if_neg (fun h => h3 h.2.1)] at hr
   have g3 : ¬ (n : Int) ≥ 3 := by omega
   clear c2
   go_wp2_with fail
   obtain ⟨hf, hb⟩ := HFIN.out (.int .i64 z) (.int .i64 0) (.int .i64 0)
   generalize ((w2.setCell ⟨q, 0, none⟩ (.int .i64 z)).setCell ⟨q, 1, none⟩ (.int .i64 0)).setCell ⟨q, 2, none⟩ (.int .i64 0) = w9 at hf hb ⊢
   exact bodyPost_ret (runAt_results _ _ q _ _ _ _ rfl rfl hf) rfl ⟨by first | rfl | (rw [hr]; rfl), hb⟩
end Go.Proofs.YthmbbpfgbpacnaaGreatDoor.Def
namespace Go.Proofs.YthmbbpfgbpacnaaGreatDoor.Def
open Go.RowKit Go.Shelf Go.Lib Mem Bit Huf Lz Inf
def idxF (l : List Int) (z : Int) : Nat -> Nat -> Nat
 | 0, _ => 0
 | f + 1, i => if numAt l i = z then i else idxF l z f (i + 1)
def idx0 (l : List Int) : Nat := idxF l 0 l.length 0
theorem idxF_spec (l : List Int) (z : Int) : ∀ f i, (∃ k, i <= k /\ k < i + f /\ numAt l k = z) -> i <= idxF l z f i /\ idxF l z f i < i + f /\ numAt l (idxF l z f i) = z
 | 0, i, ⟨k, h1, h2, _⟩ => by omega
 | f + 1, i, ⟨k, h1, h2, h3⟩ => by
  unfold idxF
  split
  ·rename_i h; exact ⟨Nat.le_refl _, by omega, h⟩
  ·rename_i h
   have := idxF_spec l z f (i + 1) ⟨k, by
    by_cases e : k = i
    ·rw [e] at h3; exact absurd h3 h
    ·omega, by omega, h3⟩
   omega
set_option maxHeartbeats 4000000 in
theorem index_any (W : World) (v : Value) (l : List Int) (hs : SrcI W v l) (hb : l.length <= 1048576) (h0 : ∃ k, k < l.length /\ numAt l k = 0) :
  Calls Tryz.prog 156 #[v, .int .i64 0] W fun e w' => e = .returned (.int .i64 (idx0 l : Int)) /\ W = w' := by
 obtain ⟨ao, cap, rfl, hao⟩ := hs.shape
 obtain ⟨a, rfl⟩ := hao (by obtain ⟨k, hk, _⟩ := h0; omega)
 have HS : Aside (∀ i, i < l.length -> W.cell? (a.add i) = some (.int .i64 (numAt l i))) := fun i hi => by rw [numAt_eq l i hi]; exact srci_cell hs i hi
 obtain ⟨r, hr⟩ : ∃ r, r = idx0 l := ⟨_, rfl⟩
 rw [<- hr]
 have H0 : Aside (idxF l 0 l.length 0 = r /\ ∃ k, k < l.length /\ numAt l k = 0) := ⟨hr.symm, h0⟩
 have hlz : (l.length : Int) <= 1048576 := by omega
 clear hs hao hr h0
 go_enter Tryz.func156, Tryz.ntmps156
 go_upto_region 2 with fail
 go_loopg [5, 8] l.length (fun kx s5 s8 wr => ∃ (i f : Nat), s8 = .int .i64 (i : Int) /\ i <= l.length /\ l.length - i <= kx /\ W = wr /\ Aside (f = l.length - i /\ idxF l 0 f i = r /\ ∃ k, i <= k /\ k < l.length /\ numAt l k = 0))
 case atStart => exact ⟨0, l.length, rfl, Nat.zero_le _, Nat.le_refl _, rfl, rfl, H0.out.1, by obtain ⟨k, h1, h2⟩ := H0.out.2; exact ⟨k, Nat.zero_le _, h1, h2⟩⟩
 case round =>
  clear H0
  obtain ⟨i, f, rfl, hi, hkx, rfl, HX⟩ := hrel
  have i0 : (0 : Int) <= (i : Int) := by omega
  obtain ⟨hf, hX, k, k1, k2, k3⟩ := HX.out
  have hlt : i < l.length := by omega
  have hltz : (i : Int) < (l.length : Int) := by omega
  obtain ⟨f, rfl⟩ : ∃ f', f = f' + 1 := ⟨f - 1, by omega⟩
  have hcell := HS.out i hlt
  have wi : IntKind.i64.wrap ((i : Int) + 1) = (i : Int) + 1 := by rw [IntKind.wrap_i64]; omega
  unfold idxF at hX
  by_cases hz : numAt l i = 0
  ·rw [if_pos hz] at hX
   rw [hz] at hcell
   subst hX
   clear HX k1 k2 k3 hf hz
   go_wp2_with fail
   go_ret
   exact ⟨rfl, rfl⟩
  ·rw [if_neg hz] at hX
   have hzb : ((0 : Int) == numAt l i) = false := by rw [beq_eq_false_iff_ne]; exact fun e => hz e.symm
   have HY : Aside (f = l.length - (i + 1) /\ idxF l 0 f (i + 1) = r /\ ∃ k, i + 1 <= k /\ k < l.length /\ numAt l k = 0) := ⟨by omega, hX, k, by
    by_cases e : k = i
    ·rw [e] at k3; exact absurd k3 hz
    ·omega, k2, k3⟩
   clear HX k1 k2 k3 hf hX
   generalize numAt l i = z at *
   go_wp2_with fail
   go_roundg (l.length - (i + 1))
   case measure => omega
   case rel => exact ⟨i + 1, f, by go_num, by omega, Nat.le_refl _, rfl, HY.out⟩
def zerN : List Int -> Nat
 | [] => 0
 | z :: l => (if z = 0 then 1 else 0) + zerN l
theorem zerN_append (l : List Int) (z : Int) : zerN (l ++ [z]) = zerN l + (if z = 0 then 1 else 0) := by
 induction l with
 | nil => show (if z = 0 then 1 else 0) + 0 = 0 + _; omega
 | cons y l ih => show (if y = 0 then 1 else 0) + zerN (l ++ [z]) = (if y = 0 then 1 else 0) + zerN l + _; rw [ih]; omega
theorem zerN_le (l : List Int) : zerN l <= l.length := by
 induction l with
 | nil => exact Nat.le_refl _
 | cons y l ih => show (if y = 0 then 1 else 0) + zerN l <= l.length + 1; split <;> omega
theorem zerN_some : ∀ (l : List Int), 0 < zerN l -> ∃ k, k < l.length /\ numAt l k = 0
 | [], h => by cases h
 | z :: l, h => by
  by_cases h0 : z = 0
  ·exact ⟨0, by simp, h0⟩
  ·have e : zerN (z :: l) = (if z = 0 then 1 else 0) + zerN l := rfl
   rw [e, if_neg h0] at h
   obtain ⟨k, k1, k2⟩ := zerN_some l (by omega)
   exact ⟨k + 1, by rw [List.length_cons]; omega, k2⟩
def twoR (l : List Int) : List Int := if zerN l = l.length - 1 then l.set (idx0 l) 1 else l
set_option maxRecDepth 100000 in
set_option maxHeartbeats 4000000 in
theorem two_any (W : World) (B g cap : Nat) (l : List Int) (ho : W.ownsRow B 3 1 (.slice (some ⟨g, 0, none⟩) l.length cap) l.length (iVs l)) (hb : l.length <= 1048576) (h2 : 2 <= l.length) :
  Calls Tryz.prog 140 #[.slice (some ⟨g, 0, none⟩) l.length cap] W fun e w' => e = .returned (.slice (some ⟨g, 0, none⟩) l.length cap) /\ w'.ownsRow B 3 1 (.slice (some ⟨g, 0, none⟩) l.length cap) l.length (iVs (twoR l)) /\ Only (fun k => k = g) W w' := by
 have HO : Aside (W.ownsRow B 3 1 (.slice (some ⟨g, 0, none⟩) l.length cap) l.length (iVs l)) := ho
 have hs := SrcI.of_own ho
 have HS : Aside (∀ i, i < l.length -> W.cell? ⟨g, i, none⟩ = some (.int .i64 (numAt l i))) := fun i hi => by
  rw [numAt_eq l i hi]
  exact (own_cellI ho i hi).1
 have HSS : Aside (SrcI W (.slice (some ⟨g, 0, none⟩) l.length cap) l) := hs
 have hlz : (l.length : Int) <= 1048576 := by omega
 clear ho hs
 go_enter Tryz.func140, Tryz.ntmps140
 go_upto_region 3 with fail
 go_loopg [3, 5, 8] l.length (fun kx s3 s5 s8 wr => ∃ (i : Nat), s3 = .int .i64 ((zerN (l.take i) : Nat) : Int) /\ s8 = .int .i64 (i : Int) /\ i <= l.length /\ l.length - i <= kx /\ W = wr)
 case atStart => exact ⟨0, rfl, rfl, Nat.zero_le _, Nat.le_refl _, rfl⟩
 case round =>
  obtain ⟨i, rfl, rfl, hi, hkx, rfl⟩ := hrel
  have i0 : (0 : Int) <= (i : Int) := by omega
  have hzl := zerN_le (l.take i)
  rw [List.length_take, Nat.min_eq_left hi] at hzl
  by_cases hlt : i < l.length
  ·have hltz : (i : Int) < (l.length : Int) := by omega
   have hcell := HS.out i hlt
   have wi : IntKind.i64.wrap ((i : Int) + 1) = (i : Int) + 1 := by rw [IntKind.wrap_i64]; omega
   have htk : zerN (l.take (i + 1)) = zerN (l.take i) + (if numAt l i = 0 then 1 else 0) := by rw [take_snocI l i hlt, zerN_append]
   have wc : IntKind.i64.wrap (((zerN (l.take i) : Nat) : Int) + 1) = ((zerN (l.take i) : Nat) : Int) + 1 := by rw [IntKind.wrap_i64]; omega
   by_cases hz : numAt l i = 0
   ·rw [if_pos hz] at htk
    rw [hz] at hcell
    have HT : Aside (zerN (l.take (i + 1)) = zerN (l.take i) + 1) := htk
    clear htk hz
    go_wp2_with fail
    go_roundg (l.length - (i + 1))
    case measure => omega
    case rel => exact ⟨i + 1, by rw [HT.out]; go_num, by go_num, by omega, Nat.le_refl _, rfl⟩
   ·rw [if_neg hz] at htk
    have hzb : (numAt l i == 0) = false := by rw [beq_eq_false_iff_ne]; exact hz
    have HT : Aside (zerN (l.take (i + 1)) = zerN (l.take i)) := htk
    clear htk
    generalize numAt l i = z at *
    go_wp2_with fail
    go_roundg (l.length - (i + 1))
    case measure => omega
    case rel => exact ⟨i + 1, by rw [HT.out], by go_num, by omega, Nat.le_refl _, rfl⟩
  ·obtain rfl : i = l.length := by omega
   have hltz : ¬ (l.length : Int) < (l.length : Int) := by omega
   rw [List.take_length] at hzl ⊢
   have wl : IntKind.i64.wrap ((l.length : Int) - 1) = ((l.length - 1 : Nat) : Int) := by rw [IntKind.wrap_i64]; omega
   by_cases hz : zerN l = l.length - 1
   ·have e2 : twoR l = l.set (idx0 l) 1 := by unfold twoR; rw [if_pos hz]
    obtain ⟨k, k1, k2⟩ := zerN_some l (by omega)
    have hsp := idxF_spec l 0 l.length 0 ⟨k, Nat.zero_le _, by omega, k2⟩
    have HI := Lib.hid (index_any W _ l HSS.out hb ⟨k, k1, k2⟩)
    obtain ⟨j, hj⟩ : ∃ j, j = idx0 l := ⟨_, rfl⟩
    have hjl : j < l.length := by rw [hj]; unfold idx0; omega
    rw [<- hj] at e2 HI
    obtain ⟨cj, fj⟩ := own_cellI HO.out j hjl
    have HE : Aside ((W.setCell ⟨g, j, none⟩ (.int .i64 1)).ownsRow B 3 1 (.slice (some ⟨g, 0, none⟩) l.length cap) l.length (iVs (twoR l)) /\ Only (fun k => k = g) W (W.setCell ⟨g, j, none⟩ (.int .i64 1))) := ⟨by rw [e2]; exact own_setI HO.out j 1, Only.setCell (S := fun k => k = g) rfl _ _⟩
    have hzb : ((((zerN l : Nat)) : Int) == ((l.length - 1 : Nat) : Int)) = true := by rw [beq_iff_eq]; omega
    have j0 : (0 : Int) <= (j : Int) := by omega
    have j1 : (j : Int) < (l.length : Int) := by omega
    clear e2 k1 k2 hsp hj hz hzl
    generalize zerN l = zz at *
    generalize l.length - 1 = l1 at *
    go_wp2_with (go_at_call 156; refine HI.out.mono ?_; rintro e w2 ⟨rfl, rfl⟩)
    go_ret
    exact ⟨rfl, HE.out⟩
   ·have e2 : twoR l = l := by unfold twoR; rw [if_neg hz]
    have HE : Aside (W.ownsRow B 3 1 (.slice (some ⟨g, 0, none⟩) l.length cap) l.length (iVs (twoR l)) /\ Only (fun k => k = g) W W) := ⟨by rw [e2]; exact HO.out, Only.refl _ _⟩
    have hzb : ((((zerN l : Nat)) : Int) == ((l.length - 1 : Nat) : Int)) = false := by rw [beq_eq_false_iff_ne]; omega
    clear e2 hz hzl
    generalize zerN l = zz at *
    generalize l.length - 1 = l1 at *
    go_wp2_with fail
    go_ret
    exact ⟨rfl, HE.out⟩
end Go.Proofs.YthmbbpfgbpacnaaGreatDoor.Def
