/- Package deflate: what must come. -/
import Derived.Test.YthmbbpfgbpacnaaDoorPkDefZj
import Derived.Lib.SlBytesConst
namespace Go.Proofs.YthmbbpfgbpacnaaDoor.Def
open Go.RowKit Go.Shelf Go.Lib Go.Proofs.YthmbbpfgbpacnaaDoor.Mem Go.Proofs.YthmbbpfgbpacnaaDoor.Bit Go.Proofs.YthmbbpfgbpacnaaDoor.Huf Go.Proofs.YthmbbpfgbpacnaaDoor.Lz Go.Proofs.YthmbbpfgbpacnaaDoor.Inf

set_option maxHeartbeats 400000 in
theorem num_any (n : Int) (w : World) : Calls Tryd.prog 6 #[.int .i64 n] w fun e w' => e = .returned (.int .i64 n) ∧ w = w' := by
  go_enter Tryd.func6, Tryd.ntmps6
  go_wp2
  go_ret
  exact ⟨rfl, rfl⟩
theorem cells_abc : (Obj.cells (bVs abc).toArray 5 (3, 4)) = Obj.cells #[.int .u8 97, .int .u8 98, .int .u8 99] 5 (3, 4) := rfl
theorem src_new (W : World) (l : List UInt8) : Mem.Src (W.alloc (.cells (bVs l).toArray 5 (3, 4))) (.slice (some ⟨W.heap.size, 0, none⟩) l.length l.length) l :=
  .inr ⟨_, l.length, rfl, fun j v hj => by
    rw [Lib.addr_add, cell_of_row _ _ _ _ _ (3, 4) (heap_alloc_new _ _), Nat.zero_add, ← Array.getElem?_toList]
    exact hj⟩
theorem defl_abc (W : World) (B0 lv : Nat) (hk : Masks W B0) (ho : DOrd W B0) (hB0 : B0 ≤ W.heap.size) (hl : lv ≤ 9) (out : List UInt8) (hout : deflB abc lv = out) (hpos : 0 < out.length) :
    Calls Tryd.prog 15 #[.slice (some ⟨W.heap.size, 0, none⟩) 3 3, .int .i64 (lv : Int)] (W.alloc (.cells (bVs abc).toArray 5 (3, 4))) fun e w' => ∃ g cap, e = .returned (.tuple #[.slice (some ⟨g, 0, none⟩) out.length cap, .int .i64 0]) ∧ Mem.Src w' (.slice (some ⟨g, 0, none⟩) out.length cap) out ∧ Below W.heap.size W w' := by
  have hA := (Below.refl W.heap.size W).alloc (Nat.le_refl _) (.cells (bVs abc).toArray 5 (3, 4))
  have hz : W.heap.size < (W.alloc (.cells (bVs abc).toArray 5 (3, 4))).heap.size := by simp
  refine (deflate_ok (W.alloc (.cells (bVs abc).toArray 5 (3, 4))) B0 (some ⟨W.heap.size, 0, none⟩) 3 abc lv (src_new W abc) (by decide) (by decide) hl (fun a e => by cases e; exact hz) (hk.below (hA.mono hB0)) (ho.below (hA.mono hB0)) (Nat.le_trans hB0 hA.size)).mono ?_
  rintro e w' ⟨v, rfl, z1, z2⟩
  rw [hout] at z1
  obtain ⟨ao, cap, rfl, -, -, hno⟩ := own_shape z1
  obtain ⟨a, rfl⟩ : ∃ a, ao = some a := by
    cases ao with
    | none => have := (hno rfl).1; omega
    | some a => exact ⟨a, rfl⟩
  obtain ⟨g, rfl, -, -⟩ := own_block z1
  exact ⟨g, cap, rfl, Src.of_own z1 rfl, hA.trans (z2.mono hA.size)⟩

set_option maxRecDepth 100000 in
set_option maxHeartbeats 2000000 in
theorem knows_any (W : World) (B0 : Nat) (hk : Masks W B0) (ho : DOrd W B0) (hB0 : B0 ≤ W.heap.size) :
    Calls Tryd.prog 8 #[] W fun e w' => e = .returned (.bool true) ∧ Below W.heap.size W w' := by
  have H1 : Hid (Calls Tryd.prog 15 #[.slice (some ⟨W.heap.size, 0, none⟩) 3 3, .int .i64 6] (W.alloc (.cells (bVs abc).toArray 5 (3, 4))) fun e w' => ∃ g cap, e = .returned (.tuple #[.slice (some ⟨g, 0, none⟩) 5 cap, .int .i64 0]) ∧ Mem.Src w' (.slice (some ⟨g, 0, none⟩) 5 cap) [75, 76, 74, 6, 0] ∧ Below W.heap.size W w') :=
    Lib.hid (defl_abc W B0 6 hk ho hB0 (by decide) _ defl_6 (by decide))
  have H2 : Aside (∀ w, Below W.heap.size W w → Calls Tryd.prog 15 #[.slice (some ⟨w.heap.size, 0, none⟩) 3 3, .int .i64 0] (w.alloc (.cells (bVs abc).toArray 5 (3, 4))) fun e w' => ∃ g cap, e = .returned (.tuple #[.slice (some ⟨g, 0, none⟩) 8 cap, .int .i64 0]) ∧ Mem.Src w' (.slice (some ⟨g, 0, none⟩) 8 cap) [1, 3, 0, 252, 255, 97, 98, 99] ∧ Below w.heap.size w w') := fun w hb =>
    defl_abc w B0 0 (hk.below (hb.mono hB0)) (ho.below (hb.mono hB0)) (Nat.le_trans hB0 hb.size) (by decide) _ defl_0 (by decide)
  have hcv : ∀ w : World, (convert 22 22 (.slice (some ⟨w.heap.size, 0, none⟩) 3 3)).run Tryd.prog (w.alloc (.cells #[.int .u8 97, .int .u8 98, .int .u8 99] 5)) = .ok (.slice (some ⟨w.heap.size, 0, none⟩) 3 3) (w.alloc (.cells #[.int .u8 97, .int .u8 98, .int .u8 99] 5 (3, 4))) := fun w => Lib.run_convert_bytes_const (P := Tryd.prog) w 22 5 #[.int .u8 97, .int .u8 98, .int .u8 99] 3 3 Tryd.underlying22 Tryd.underlying5
  rw [cells_abc] at H1
  rw [cells_abc] at H2
  clear hk ho
  go_enter Tryd.func8, Tryd.ntmps8
  go_upto_region 2 with (go_at_call 15; refine H1.out.mono ?_; rintro e w2 ⟨g1, c1, rfl, q1, q2⟩)
  have H3 := Lib.hid (H2.out w2 q2)
  have HQ : Aside (Mem.Src w2 (.slice (some ⟨g1, 0, none⟩) 5 c1) [75, 76, 74, 6, 0] ∧ Below W.heap.size W w2) := ⟨q1, q2⟩
  clear H1 H2 q1 q2
  go_upto_region 3 with (go_at_call 15; refine H3.out.mono ?_; rintro e w3 ⟨g2, c2, rfl, q3, q4⟩)
  have cv1 := conv_src w3 _ _ (HQ.out.1.below q4)
  have cc : w3.cell? ⟨g2, 7, none⟩ = some (.int .u8 99) := by
    have := src_cell q3 7 (by decide)
    rw [Lib.addr_add] at this
    exact this
  have HE : Aside (Below W.heap.size W w3) := HQ.out.2.trans (q4.mono HQ.out.2.size)
  clear q3 q4 H3 HQ
  go_wp2_with (go_at_call 6; refine (num_any _ _).mono ?_; rintro e w4 ⟨rfl, rfl⟩)
  go_ret
  exact ⟨rfl, HE.out⟩
end Go.Proofs.YthmbbpfgbpacnaaDoor.Def
