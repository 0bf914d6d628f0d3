/- Contracts of package ascii's table of classes, and of the functions that ask it. -/
import Derived.Test.YtaibehfpbcgijaaDoorAscA
import Derived.Deep.LoopGhost
import Derived.Deep.WholeRow
import Derived.Laws.CopyOwn
import Derived.Lib.Walk
import Derived.Lib.Strings
namespace Go.Proofs.YtaibehfpbcgijaaDoor.Asc
open Go.RowKit

def tokL : List Nat := [33, 35, 36, 37, 38, 39, 42, 43, 45, 46, 94, 95, 96, 124, 126]
def tokB (c : UInt8) : Bool := letB c || tokL.contains c.toNat
def valB (c : UInt8) : Bool := decide (c.toNat = 9) || (decide (32 ≤ c.toNat) && !decide (c.toNat = 127))
/-- The bytes of tokens, as the code lists them. -/
def TB : List Nat := [33, 35, 36, 37, 38, 39, 42, 43, 45, 46, 94, 95, 96, 124, 126, 48, 49, 50, 51, 52, 53, 54, 55, 56, 57, 65, 66, 67, 68, 69, 70, 71, 72, 73, 74, 75, 76, 77, 78, 79, 80, 81, 82, 83, 84, 85, 86, 87, 88, 89, 90, 97, 98, 99, 100, 101, 102, 103, 104, 105, 106, 107, 108, 109, 110, 111, 112, 113, 114, 115, 116, 117, 118, 119, 120, 121, 122]

/-- 256 cells of one byte each. -/
def cls (f : Nat → Nat) : Array Value := ((List.range 256).map fun b => Value.int .u8 (f b : Int)).toArray
theorem cls_size (f : Nat → Nat) : (cls f).size = 256 := by simp [cls]
theorem cls_at (f : Nat → Nat) (i : Nat) (h : i < 256) : (cls f)[i]? = some (.int .u8 (f i : Int)) := by simp [cls, h]
theorem cls_set (f : Nat → Nat) (i v : Nat) : (cls f).setIfInBounds i (.int .u8 (v : Int)) = cls (fun j => if j = i then v else f j) := by
  apply Array.ext_getElem?
  intro k
  rw [Array.getElem?_setIfInBounds]
  by_cases e : i = k
  · subst e
    by_cases h : i < 256
    · simp [cls, h]
    · simp [cls, h]
  · rw [if_neg e]
    by_cases h : k < 256
    · rw [cls_at _ _ h, cls_at _ _ h, if_neg (fun x => e x.symm)]
    · simp [cls, h]
theorem cls_one (f : Nat → Nat) : (cls f).all (·.oneCell') = true := by
  rw [Array.all_eq_true_iff_forall_mem]
  intro v hv
  simp only [cls, List.mem_toArray, List.mem_map] at hv
  obtain ⟨b, _, rfl⟩ := hv
  rfl
theorem cls_congr {f g : Nat → Nat} (h : ∀ b, b < 256 → f b = g b) : cls f = cls g := by
  unfold cls
  congr 1
  apply List.map_congr_left
  intro b hb
  rw [h b (by simpa using hb)]

def vOf (b : Nat) : Nat := if b = 9 ∨ (32 ≤ b ∧ b ≠ 127) then 2 else 0
def fA (k : Nat) (b : Nat) : Nat := if b < k then vOf b else 0
def fB (k : Nat) (b : Nat) : Nat := vOf b + if (TB.take k).contains b then 1 else 0

theorem info92 : (Tryd.prog.info? 92).map (·.size) = some 256 := by kernel_rfl
theorem zero0 : Tryd.zeroCells92 = cls (fA 0) := by kernel_rfl

theorem fA_step (k : Nat) (hv : vOf k = 2) : (cls (fA k)).setIfInBounds k (.int .u8 2) = cls (fA (k + 1)) := by
  have := cls_set (fA k) k 2
  refine this.trans (cls_congr fun b _ => ?_)
  unfold fA
  by_cases e : b = k
  · subst e; simp [hv]
  · rw [if_neg e]
    by_cases h : b < k
    · rw [if_pos h, if_pos (by omega)]
    · rw [if_neg h, if_neg (by omega)]
theorem fA_skip (k : Nat) (hv : vOf k = 0) : cls (fA k) = cls (fA (k + 1)) := by
  refine cls_congr fun b _ => ?_
  unfold fA
  by_cases e : b = k
  · subst e; simp [hv]
  · by_cases h : b < k
    · rw [if_pos h, if_pos (by omega)]
    · rw [if_neg h, if_neg (by omega)]

def tbv (j : Nat) : Nat := TB.getD j 0
theorem tbv_at (j : Nat) (h : j < 77) : (⟨#[33, 35, 36, 37, 38, 39, 42, 43, 45, 46, 94, 95, 96, 124, 126, 48, 49, 50, 51, 52, 53, 54, 55, 56, 57, 65, 66, 67, 68, 69, 70, 71, 72, 73, 74, 75, 76, 77, 78, 79, 80, 81, 82, 83, 84, 85, 86, 87, 88, 89, 90, 97, 98, 99, 100, 101, 102, 103, 104, 105, 106, 107, 108, 109, 110, 111, 112, 113, 114, 115, 116, 117, 118, 119, 120, 121, 122]⟩ : ByteArray)[j]'h = UInt8.ofNat (tbv j) := by
  have H : ∀ i : Fin 77, (⟨#[33, 35, 36, 37, 38, 39, 42, 43, 45, 46, 94, 95, 96, 124, 126, 48, 49, 50, 51, 52, 53, 54, 55, 56, 57, 65, 66, 67, 68, 69, 70, 71, 72, 73, 74, 75, 76, 77, 78, 79, 80, 81, 82, 83, 84, 85, 86, 87, 88, 89, 90, 97, 98, 99, 100, 101, 102, 103, 104, 105, 106, 107, 108, 109, 110, 111, 112, 113, 114, 115, 116, 117, 118, 119, 120, 121, 122]⟩ : ByteArray)[i.1]'i.2 = UInt8.ofNat (tbv i.1) := by decide +kernel
  exact H ⟨j, h⟩
theorem tbv_lt (j : Nat) (h : j < 77) : tbv j < 256 := by
  have H : ∀ i : Fin 77, tbv i.1 < 256 := by decide +kernel
  exact H ⟨j, h⟩
theorem tbv_two (j : Nat) (h : j < 77) : fB j (tbv j) = 2 := by
  have H : ∀ i : Fin 77, fB i.1 (tbv i.1) = 2 := by decide +kernel
  exact H ⟨j, h⟩
theorem tbv_nat (j : Nat) (h : j < 77) : ((⟨#[33, 35, 36, 37, 38, 39, 42, 43, 45, 46, 94, 95, 96, 124, 126, 48, 49, 50, 51, 52, 53, 54, 55, 56, 57, 65, 66, 67, 68, 69, 70, 71, 72, 73, 74, 75, 76, 77, 78, 79, 80, 81, 82, 83, 84, 85, 86, 87, 88, 89, 90, 97, 98, 99, 100, 101, 102, 103, 104, 105, 106, 107, 108, 109, 110, 111, 112, 113, 114, 115, 116, 117, 118, 119, 120, 121, 122]⟩ : ByteArray)[j]'h).toNat = tbv j := by
  rw [tbv_at j h]
  simp
  have := tbv_lt j h
  omega
theorem fB_step (j : Nat) (h : j < 77) : cls (fun b => if b = tbv j then 3 else fB j b) = cls (fB (j + 1)) := by
  refine cls_congr fun b _ => ?_
  have h2 := tbv_two j h
  have e : TB.take (j + 1) = TB.take j ++ [tbv j] := by
    rw [List.take_succ_eq_append_getElem (show j < TB.length from h)]
    unfold tbv
    rw [List.getD_eq_getElem?_getD, List.getElem?_eq_getElem (show j < TB.length from h)]
    rfl
  have hv : vOf (tbv j) = 2 := by
    have H : ∀ i : Fin 77, vOf (tbv i.1) = 2 := by decide +kernel
    exact H ⟨j, h⟩
  unfold fB
  rw [e]
  by_cases hb : b = tbv j
  · subst hb
    rw [if_pos rfl, hv, if_pos (by simp)]
  · rw [if_neg hb]
    congr 1
    have : ((TB.take j ++ [tbv j]).contains b) = ((TB.take j).contains b) := by
      rw [Bool.eq_iff_iff]
      simp [hb]
    rw [this]

theorem fA_fB : cls (fA 256) = cls (fB 0) := cls_congr fun b h => by unfold fA fB; rw [if_pos h]; simp

set_option maxHeartbeats 4000000 in
set_option maxRecDepth 1000000 in
theorem classes_any (w : World) : Calls Tryd.prog 68 #[] w fun e w' => e = .returned (.agg (cls (fB 77))) ∧ Below w.heap.size w w' := by
  go_enter Tryd.func68, Tryd.ntmps68
  go_wp2
  have HZ := Lib.hid zero0
  go_loopg [4] 256 (fun g s4 wx => ∃ k : Nat, k + g = 256 ∧ s4 = .int .i64 k ∧ wx = (w.alloc (.cells Tryd.zeroCells92 92)).alloc (.cells (cls (fA k)) 92))
  case atStart => exact ⟨0, by omega, rfl, by rw [← HZ.out]⟩
  case round =>
    obtain ⟨k, hkg, rfl, rfl⟩ := hrel
    cases gk with
    | zero =>
      obtain rfl : k = 256 := by omega
      rw [fA_fB]
      go_wp2
      go_loopg [20] 77 (fun g s20 wx => ∃ j : Nat, j + g = 77 ∧ s20 = .int .i64 j ∧ wx = (w.alloc (.cells Tryd.zeroCells92 92)).alloc (.cells (cls (fB j)) 92))
      case atStart => exact ⟨0, by omega, rfl, rfl⟩
      case round =>
        obtain ⟨j, hjg, rfl, rfl⟩ := hrel
        cases gk with
        | zero =>
          obtain rfl : j = 77 := by omega
          have hg0 : ((w.alloc (.cells Tryd.zeroCells92 92)).alloc (.cells (cls (fB 77)) 92)).heap[w.heap.size]? = some (.cells Tryd.zeroCells92 92) := heap_alloc2_old _ _ _
          have hg1 : ((w.alloc (.cells Tryd.zeroCells92 92)).alloc (.cells (cls (fB 77)) 92)).heap[w.heap.size + 1]? = some (.cells (cls (fB 77)) 92) := heap_alloc2_new _ _ _
          obtain ⟨W, hW⟩ : ∃ W, (w.alloc (.cells Tryd.zeroCells92 92)).alloc (.cells (cls (fB 77)) 92) = W := ⟨_, rfl⟩
          have hB : Below w.heap.size w W := by rw [← hW]; exact ((Below.refl _ _).alloc (Nat.le_refl _) _).alloc (by simp) _
          rw [hW] at hg0 hg1 ⊢
          clear hW
          have hG0 := Lib.hid hg0
          have hG1 := Lib.hid hg1
          clear hg0 hg1
          go_wp2_with (first
            | (refine wpList_load_row rfl 92 _ rfl (w.heap.size + 1) rfl 92 (cls (fB 77)) (0, 0) _ hG1.out Tryd.underlying92 rfl (by rw [cls_size]; exact info92) ?_)
            | (refine wpList_store_row rfl 92 _ _ rfl w.heap.size (cls (fB 77)) rfl rfl 92 _ hG0.out (by rw [cls_size]; exact info92) (by rw [zero0, cls_size, cls_size]) (cls_one _) ?_))
          exact bodyPost_ret (results_cell_row rfl _ _ w.heap.size 92 (cls (fB 77)) (0, 0) _ rfl (setRow_heap _ _ _ _ _ _ hG0.out) Tryd.underlying92 rfl (by rw [cls_size]; exact info92)) rfl ⟨rfl, below_setRow hB (Nat.le_refl _) _⟩
        | succ g =>
          have hj : j < 77 := by omega
          have hlt : (j : Int) < 77 := by omega
          have hn := tbv_nat j hj
          have hv := tbv_lt j hj
          have hvi : (tbv j : Int) < 256 := by omega
          have hcell := cls_at (fB j) (tbv j) hv
          rw [tbv_two j hj] at hcell
          have H2 := Lib.hid ((cls_set (fB j) (tbv j) 3).trans (fB_step j hj))
          go_wp2
          go_roundg g
          case measure => omega
          case rel => exact ⟨j + 1, by omega, rfl, by rw [show bits BinOp.or IntKind.u8 2 1 = ((3 : Nat) : Int) from rfl, H2.out]⟩
    | succ g =>
      have HR : Hid (vOf k = 2 → cls (fun j => if j = k then 2 else fA k j) = cls (fA (k + 1))) := fun h => (cls_set (fA k) k 2).symm.trans (fA_step k h)
      have H0 := Lib.hid (fA_skip k)
      have hcell := cls_at (fA k) k (by omega)
      by_cases h9 : k = 9
      · subst h9
        have H2 := Lib.hid (fA_step 9 rfl)
        go_wp2
        go_roundg g
        case measure => omega
        case rel => exact ⟨10, by omega, rfl, by rw [H2.out]⟩
      · have h9' : ((k : Int) == 9) = false := by simp; omega
        by_cases h32 : 32 ≤ k
        · by_cases h127 : k = 127
          · subst h127
            have H2 := Lib.hid (fA_skip 127 rfl)
            go_wp2
            go_roundg g
            case measure => omega
            case rel => exact ⟨128, by omega, rfl, by rw [H2.out]⟩
          · have h127' : ((k : Int) != 127) = true := by simp; omega
            have H2 := Lib.hid (fA_step k (by unfold vOf; rw [if_pos (by omega)]))
            have hlt : (k : Int) < 256 := by omega
            go_wp2
            go_roundg g
            case measure => omega
            case rel => exact ⟨k + 1, by omega, rfl, by rw [H2.out]⟩
        · have H2 := Lib.hid (fA_skip k (by unfold vOf; rw [if_neg (by omega)]))
          have hlt : (k : Int) < 256 := by omega
          go_wp2
          go_roundg g
          case measure => omega
          case rel => exact ⟨k + 1, by omega, rfl, by rw [H2.out]⟩

end Go.Proofs.YtaibehfpbcgijaaDoor.Asc
