/- Package deflate: a block, told by one of its ways. Package deflate: how many bits a block takes, by which way it takes fewest. Package deflate: blocks that are put on a writer. Package deflate: a list of blocks, put one by one. -/
import Derived.Test.YthmbbpfgbpacnaaGreatDoorPmDefR
import Derived.Test.YthmbbpfgbpacnaaGreatDoorPmInfM
namespace Go.Proofs.YthmbbpfgbpacnaaGreatDoor.Def
open Go.RowKit Go.Shelf Go.Lib Mem Bit Huf Lz Inf
structure BlkAt (W : World) (pv tv : Value) (ps : List Pc) (b : List UInt8) : Prop where
 sp : SrcP W pv ps
 sb : Mem.Src W tv b
 bp : Bk pv W.heap.size
 bt : Bk tv W.heap.size
 m : ∀ p ∈ ps, mayB p = true
 n : ps.length <= 32768
 t : b.length <= 65535
theorem BlkAt.below {W w : World} {pv tv : Value} {ps : List Pc} {b : List UInt8} (h : BlkAt W pv tv ps b) (hb : Below W.heap.size W w) : BlkAt w pv tv ps b :=
 ⟨h.sp.below hb, h.sb.below hb, h.bp.mono hb.size, h.bt.mono hb.size, h.m, h.n, h.t⟩
theorem BlkAt.ps {S0 : Nat -> Prop} {W w : World} {g : Nat} {pv tv : Value} {ps : List Pc} {b : List UInt8} (h : BlkAt W pv tv ps b) (h1 : Stays S0 g pv) (h2 : Stays S0 g tv) (o : Only (fun j => S0 j \/ j = g) W w) : BlkAt w pv tv ps b :=
 ⟨StaysP.src h1 h.sp o, Stays.src h2 h.sb o, h.bp.mono o.size, h.bt.mono o.size, h.m, h.n, h.t⟩
theorem Stays.move {S0 : Nat -> Prop} {W : World} {g g' : Nat} {v : Value} (h : Stays S0 g v) (hb : Bk v W.heap.size) (hg : g' = g \/ W.heap.size <= g') : Stays S0 g' v := fun a n c e => ⟨(h a n c e).1, by
 rcases hg with rfl | q
 ·exact (h a n c e).2
 ·have := hb a n c e; omega⟩
theorem DOrd.ps {S0 : Nat -> Prop} {W w : World} {g : Nat} (h : DOrd W W.heap.size) (h0 : ¬ S0 1 /\ 1 ≠ g) (o : Only (fun j => S0 j \/ j = g) W w) : DOrd w w.heap.size :=
 ⟨Nat.lt_of_lt_of_le h.1 o.size, fun i hi => o.cell (h.2 i hi) (by rintro (q | q); exact h0.1 q; exact h0.2 q)⟩
theorem DOrd.up {W w : World} (h : DOrd W W.heap.size) (o : Below W.heap.size W w) : DOrd w w.heap.size :=
 ⟨Nat.lt_of_lt_of_le h.1 o.size, (h.below o).2⟩
def wayD (k : Nat) : FuncId := if k = 0 then 63 else if k = 1 then 64 else 65
def wayF (k : Nat) : Value := .func (.func (wayD k)) #[] #[]
theorem ways_laid (W : World) : ∃ W0 W1 W2 W3, W0 = W.alloc (.cells #[.nilFunc, .nilFunc, .nilFunc] 120) /\ (store ⟨W.heap.size, 0, none⟩ (.func (.func 63) #[] #[])).run Tryz.prog W0 = .ok () W1 /\ (store ⟨W.heap.size, 1, none⟩ (.func (.func 64) #[] #[])).run Tryz.prog W1 = .ok () W2 /\ (store ⟨W.heap.size, 2, none⟩ (.func (.func 65) #[] #[])).run Tryz.prog W2 = .ok () W3 /\
  Below W.heap.size W W3 /\ (∀ k, k < 3 -> W3.cell? ⟨W.heap.size, k, none⟩ = some (wayF k)) /\ W.heap.size < W3.heap.size := by
 have h0 : (W.alloc (.cells #[.nilFunc, .nilFunc, .nilFunc] 120)).heap[W.heap.size]? = some (.cells #[.nilFunc, .nilFunc, .nilFunc] 120 (0, 0)) := heap_alloc_new _ _
 have h1 := Lib.heap_setCell_same (i := 0) h0 (.func (.func 63) #[] #[])
 have h2 := Lib.heap_setCell_same (i := 1) h1 (.func (.func 64) #[] #[])
 have h3 := Lib.heap_setCell_same (i := 2) h2 (.func (.func 65) #[] #[])
 refine ⟨_, _, _, _, rfl, store_fn _ _ _ .nilFunc (by rw [Lib.cell_of_heap h0]; rfl) (Lib.frozen_of_heap h0 0), store_fn _ _ _ .nilFunc (by rw [Lib.cell_of_heap h1]; rfl) (Lib.frozen_of_heap h1 1), store_fn _ _ _ .nilFunc (by rw [Lib.cell_of_heap h2]; rfl) (Lib.frozen_of_heap h2 2), ?_, ?_, (Array.getElem?_eq_some_iff.1 h3).1⟩
 ·exact Below.setCell (Below.setCell (Below.setCell ((Below.refl _ _).alloc (Nat.le_refl _) _) (Nat.le_refl _) _) (Nat.le_refl _) _) (Nat.le_refl _) _
 ·intro k hk
  have : k = 0 \/ k = 1 \/ k = 2 := by omega
  rcases this with rfl | rfl | rfl <;> exact (Lib.cell_of_heap h3 _).trans rfl
theorem way_S {St : World -> Nat -> List (Nat × Nat) -> Prop} {S0 : Nat -> Prop} {Z M : Nat} {pc : Value} (ok : StOk St S0 Z) (hp : Put St S0 M 91 pc)
  (W : World) (g : Nat) (ops : List (Nat × Nat)) (pv tv : Value) (ps : List Pc) (b : List UInt8) (last ways : Int) (way begin : Nat) (h : St W g ops) (hB : BlkAt W pv tv ps b) (h1 : Stays S0 g pv) (h2 : Stays S0 g tv) (ho : DOrd W W.heap.size) (hg : begin <= 8388608) (hM : opsW ops + opsW (bodyO way begin ps b) + 7 <= M) :
  Calls Tryz.prog (wayD way) #[blkV pv tv last ways begin, .func (.func 91) #[] #[pc]] W fun e w' => e = .returned (.tuple #[]) /\ PS St S0 W g w' (ops ++ bodyO way begin ps b) := by
 have hn := hB.n
 unfold wayD
 unfold bodyO at hM ⊢
 by_cases e : way = 0
 ·simp only [if_pos e] at hM ⊢
  rw [storO_w] at hM
  exact stored_S ok hp W g ops pv tv b last ways begin h hB.sb h2 hB.t hg (by omega)
 ·by_cases e1 : way = 1
  ·simp only [if_neg e, if_pos e1] at hM ⊢
   exact fixed_S ok hp W g ops pv tv ps last ways begin h hB.sp h1 hB.m (by omega) (fun p hp => fix_pcK p (hB.m p hp)) (fix_known 256 (by decide)) (by omega)
  ·simp only [if_neg e, if_neg e1] at hM ⊢
   exact dynamic_S ok hp W g ops pv tv ps last ways begin h hB.sp h1 hB.m (by omega) hB.bp ho (by omega)
set_option maxRecDepth 100000 in
set_option maxHeartbeats 4000000 in
theorem tell_S {St : World → Nat → List (Nat × Nat) → Prop} {S0 : Nat → Prop} {Z M : Nat} {pc : Value} (ok : StOk St S0 Z) (hp : Put St S0 M 91 pc)
    (W : World) (g : Nat) (ops : List (Nat × Nat)) (pv tv : Value) (ps : List Pc) (b : List UInt8) (ways : Int) (last way begin : Nat) (h : St W g ops) (hB : BlkAt W pv tv ps b) (h1 : Stays S0 g pv) (h2 : Stays S0 g tv) (ho : DOrd W W.heap.size) (hoS : ¬ S0 1 ∧ 1 ≠ g) (hg : begin ≤ 8388608) (hl : last < 2) (hw : way < 3) (hM : opsW ops + opsW (tellO last way begin ps b) + 7 ≤ M) :
    Calls Tryz.prog 46 #[blkV pv tv last ways begin, .int .i64 (way : Int), .func (.func 91) #[] #[pc]] W fun e w' => e = .returned (.tuple #[]) ∧ PS St S0 W g w' (ops ++ tellO last way begin ps b) := by
  obtain ⟨z1, z2⟩ := ok.lt _ _ _ h
  rw [tellO_w] at hM
  obtain ⟨T, hT⟩ : ∃ T, T = W.heap.size := ⟨_, rfl⟩
  obtain ⟨W0, hW0⟩ : ∃ W0, W0 = W.alloc (blkC pv tv last ways begin) := ⟨_, rfl⟩
  have hb0 : Below W.heap.size W W0 := by rw [hW0]; exact (Below.refl _ W).alloc (Nat.le_refl _) _
  have g0 : W0.heap[T]? = some (blkH pv tv last ways begin) := by rw [hW0, hT]; exact heap_alloc_new _ _
  have hT0 := (Array.getElem?_eq_some_iff.1 g0).1
  have hz0 := hb0.size
  obtain ⟨WA, WB, WC, W3, hWA, e1, e2, e3, hb3, hc3, hl3⟩ := ways_laid W0
  obtain ⟨q, hq⟩ : ∃ q, q = W0.heap.size := ⟨_, rfl⟩
  rw [← hq] at hc3 hl3
  have b03 : Below W.heap.size W W3 := hb0.trans (hb3.mono hz0)
  have hs3 : PS St S0 W3 g W3 ops := PS.start ok h b03
  have hTg : ¬ S0 T ∧ T ≠ g := ⟨fun q => by have := ok.low _ q; omega, by omega⟩
  have hqg : ¬ S0 q ∧ q ≠ g := ⟨fun q => by have := ok.low _ q; omega, by omega⟩
  have gT : W3.heap[T]? = some (blkH pv tv last ways begin) := (hb3.block T hT0).trans g0
  have KB : Aside (∀ w l', PS St S0 W3 g w l' → w.heap[T]? = some (blkH pv tv last ways begin)) := fun w l' y => (y.keep T (Array.getElem?_eq_some_iff.1 gT).1 hTg.1 hTg.2).trans gT
  have KQ : Aside (∀ w l', PS St S0 W3 g w l' → ∀ k, k < 3 → w.cell? ⟨q, k, none⟩ = some (wayF k)) := fun w l' y k hk => (cell_same (y.keep q hl3 hqg.1 hqg.2)).trans (hc3 k hk)
  have PP := fun {w : World} {l' : List (Nat × Nat)} (y : PS St S0 W3 g w l') (N K : Int) (n k : Nat) e1 e2 hn hk hM => Lib.hid (Put.at hp y N K n k e1 e2 hn hk hM)
  have HWY : Aside (∀ w w', PS St S0 W3 g w (ops ++ [(last, 1)] ++ [(way, 2)]) → Drew w w' → Calls Tryz.prog (wayD way) #[blkV pv tv last ways begin, .func (.func 91) #[] #[pc]] w' fun e w' => e = .returned (.tuple #[]) ∧ PS St S0 W g w' (ops ++ tellO last way begin ps b) ∧ w'.cell? ⟨q, way, none⟩ = some (wayF way) ∧ w'.cell? ⟨T, 0, none⟩ = some pv ∧ w'.cell? ⟨T, 1, none⟩ = some tv ∧ w'.cell? ⟨T, 2, none⟩ = some (.int .i64 (last : Int)) ∧ w'.cell? ⟨T, 3, none⟩ = some (.int .i64 ways) ∧ w'.cell? ⟨T, 4, none⟩ = some (.int .i64 (begin : Int))) := fun w w' y d => by
    have kT := KB.out _ _ y
    have kQ := KQ.out _ _ y
    obtain ⟨g', q1, q2, q3⟩ := y
    have q3' := q3.trans (S' := fun _ => False) d.only (fun i q => q.elim)
    have hs : St w' g' (ops ++ [(last, 1)] ++ [(way, 2)]) := ok.same _ _ _ _ q1 (d.below _) (by rw [d.heap])
    have hB3 := (hB.below b03).ps h1 h2 q3'
    have := way_S ok hp w' g' (ops ++ [(last, 1)] ++ [(way, 2)]) pv tv ps b last ways way begin hs hB3 (h1.move (hB.bp.mono b03.size) q2) (h2.move (hB.bt.mono b03.size) q2) ((ho.up b03).ps hoS q3') hg (by rw [opsW_snoc, opsW_snoc]; omega)
    have hTl := (Array.getElem?_eq_some_iff.1 gT).1
    have hsw := q3'.size
    refine this.mono fun e w'' z => ⟨z.1, ?_, ?_, ?_⟩
    · have hz := PS.base b03 (PS.trans q2 q3' z.2)
      rw [List.append_assoc, List.append_assoc] at hz
      exact hz
    · exact (cell_same (z.2.keep q (by omega) hqg.1 (by omega))).trans (d.cell.trans (kQ way hw))
    · exact box_cells ((z.2.keep T (by omega) hTg.1 (by omega)).trans (by rw [d.heap]; exact kT))
  have c2 : W3.cell? ⟨T, 2, none⟩ = some (.int .i64 (last : Int)) := by rw [Lib.cell_of_heap gT]; rfl
  have HS0 := Lib.hid hs3
  clear h hB h1 h2 ho hoS z1 z2 hb0 g0 hT0 hz0 hb3 hc3 hl3 b03 hs3 hTg hqg gT ok hp
  unfold blkV at HWY ⊢
  unfold blkC at hW0
  go_enter Tryz.func46, Tryz.ntmps46
  go_upto_region 1 with fail
  rw [← hW0, ← hT]
  clear hW0 hT
  subst hWA
  go_upto_region 2 with fail
  rw [← hq]
  clear e1 e2 e3 hq
  go_upto_region 3 with (go_at_call 91; refine (PP HS0.out _ _ last 1 rfl rfl (by omega) (by omega) (by omega)).out.mono ?_; rintro e w1 ⟨rfl, y⟩; have HS1 := Lib.hid y; clear y)
  go_upto_region 4 with (go_at_call 91; refine (PP HS1.out _ _ way 2 rfl rfl (by omega) (by omega) (by rw [opsW_snoc]; omega)).out.mono ?_; rintro e w2 ⟨rfl, y⟩; have HS2 := Lib.hid y; clear y)
  obtain ⟨k0, k1, k2, k3, k4⟩ := box_cells (KB.out _ _ HS2.out)
  have kq := KQ.out _ _ HS2.out
  clear c2 HS0 HS1 KB KQ PP hM
  have h3 : way = 0 ∨ way = 1 ∨ way = 2 := by omega
  rcases h3 with rfl | rfl | rfl
  · have kk : w2.cell? ⟨q, 0, none⟩ = some (.func (.func 63) #[] #[]) := kq 0 (by decide)
    have HC := Lib.hid (HWY.out w2 w2.drew HS2.out ⟨rfl, rfl, rfl, rfl⟩)
    clear HWY HS2 kq
    go_region_held3 (fun w' => w'.cell? ⟨q, 0, none⟩ = some (.func (.func 63) #[] #[]) ∧ w'.cell? ⟨T, 0, none⟩ = some pv ∧ w'.cell? ⟨T, 1, none⟩ = some tv ∧ w'.cell? ⟨T, 2, none⟩ = some (.int .i64 (last : Int)) ∧ w'.cell? ⟨T, 3, none⟩ = some (.int .i64 ways) ∧ w'.cell? ⟨T, 4, none⟩ = some (.int .i64 (begin : Int))) (first | go_keep | exact ⟨kk, k0, k1, k2, k3, k4⟩ | exact KK1)
      (first | (go_at_call 63
                refine HC.out.mono ?_
                rintro e w3 ⟨rfl, y, y1, y2⟩
                have y3 : w3.cell? ⟨q, 0, none⟩ = some (.func (.func 63) #[] #[]) := y1
                have KK1 := And.intro y3 y2
                have HE := Lib.hid y
                clear y y1 y2 y3))
    go_wp2_with fail
    go_end0
    exact ⟨rfl, HE.out⟩
  · have kk : w2.cell? ⟨q, 1, none⟩ = some (.func (.func 64) #[] #[]) := kq 1 (by decide)
    have HC := Lib.hid (HWY.out w2 w2.drew HS2.out ⟨rfl, rfl, rfl, rfl⟩)
    clear HWY HS2 kq
    go_region_held3 (fun w' => w'.cell? ⟨q, 1, none⟩ = some (.func (.func 64) #[] #[]) ∧ w'.cell? ⟨T, 0, none⟩ = some pv ∧ w'.cell? ⟨T, 1, none⟩ = some tv ∧ w'.cell? ⟨T, 2, none⟩ = some (.int .i64 (last : Int)) ∧ w'.cell? ⟨T, 3, none⟩ = some (.int .i64 ways) ∧ w'.cell? ⟨T, 4, none⟩ = some (.int .i64 (begin : Int))) (first | go_keep | exact ⟨kk, k0, k1, k2, k3, k4⟩ | exact KK1)
      (first | (go_at_call 64
                refine HC.out.mono ?_
                rintro e w3 ⟨rfl, y, y1, y2⟩
                have y3 : w3.cell? ⟨q, 1, none⟩ = some (.func (.func 64) #[] #[]) := y1
                have KK1 := And.intro y3 y2
                have HE := Lib.hid y
                clear y y1 y2 y3))
    go_wp2_with fail
    go_end0
    exact ⟨rfl, HE.out⟩
  · have kk : w2.cell? ⟨q, 2, none⟩ = some (.func (.func 65) #[] #[]) := kq 2 (by decide)
    have HC := Lib.hid (HWY.out w2 w2.drew HS2.out ⟨rfl, rfl, rfl, rfl⟩)
    clear HWY HS2 kq
    go_region_held3 (fun w' => w'.cell? ⟨q, 2, none⟩ = some (.func (.func 65) #[] #[]) ∧ w'.cell? ⟨T, 0, none⟩ = some pv ∧ w'.cell? ⟨T, 1, none⟩ = some tv ∧ w'.cell? ⟨T, 2, none⟩ = some (.int .i64 (last : Int)) ∧ w'.cell? ⟨T, 3, none⟩ = some (.int .i64 ways) ∧ w'.cell? ⟨T, 4, none⟩ = some (.int .i64 (begin : Int))) (first | go_keep | exact ⟨kk, k0, k1, k2, k3, k4⟩ | exact KK1)
      (first | (go_at_call 65
                refine HC.out.mono ?_
                rintro e w3 ⟨rfl, y, y1, y2⟩
                have y3 : w3.cell? ⟨q, 2, none⟩ = some (.func (.func 65) #[] #[]) := y1
                have KK1 := And.intro y3 y2
                have HE := Lib.hid y
                clear y y1 y2 y3))
    go_wp2_with fail
    go_end0
    exact ⟨rfl, HE.out⟩

theorem way_W {St : World -> Nat -> List (Nat × Nat) -> Prop} {S0 : Nat -> Prop} {Z M : Nat} {pc : Value} (ok : StOk St S0 Z) (hp : Put St S0 M 48 pc)
  (W : World) (g : Nat) (ops : List (Nat × Nat)) (pv tv : Value) (ps : List Pc) (b : List UInt8) (last ways : Int) (way begin : Nat) (h : St W g ops) (hB : BlkAt W pv tv ps b) (h1 : Stays S0 g pv) (h2 : Stays S0 g tv) (ho : DOrd W W.heap.size) (hg : begin <= 8388608) (hM : opsW ops + opsW (bodyO way begin ps b) + 7 <= M) :
  Calls Tryz.prog (wayD way) #[blkV pv tv last ways begin, .func (.func 48) #[] #[pc]] W fun e w' => e = .returned (.tuple #[]) /\ PS St S0 W g w' (ops ++ bodyO way begin ps b) := by
 have hn := hB.n
 unfold wayD
 unfold bodyO at hM ⊢
 by_cases e : way = 0
 ·simp only [if_pos e] at hM ⊢
  rw [storO_w] at hM
  exact stored_W ok hp W g ops pv tv b last ways begin h hB.sb h2 hB.t hg (by omega)
 ·by_cases e1 : way = 1
  ·simp only [if_neg e, if_pos e1] at hM ⊢
   exact fixed_W ok hp W g ops pv tv ps last ways begin h hB.sp h1 hB.m (by omega) (fun p hp => fix_pcK p (hB.m p hp)) (fix_known 256 (by decide)) (by omega)
  ·simp only [if_neg e, if_neg e1] at hM ⊢
   exact dynamic_W ok hp W g ops pv tv ps last ways begin h hB.sp h1 hB.m (by omega) hB.bp ho (by omega)
set_option maxRecDepth 100000 in
set_option maxHeartbeats 4000000 in
theorem tell_W {St : World → Nat → List (Nat × Nat) → Prop} {S0 : Nat → Prop} {Z M : Nat} {pc : Value} (ok : StOk St S0 Z) (hp : Put St S0 M 48 pc)
    (W : World) (g : Nat) (ops : List (Nat × Nat)) (pv tv : Value) (ps : List Pc) (b : List UInt8) (ways : Int) (last way begin : Nat) (h : St W g ops) (hB : BlkAt W pv tv ps b) (h1 : Stays S0 g pv) (h2 : Stays S0 g tv) (ho : DOrd W W.heap.size) (hoS : ¬ S0 1 ∧ 1 ≠ g) (hg : begin ≤ 8388608) (hl : last < 2) (hw : way < 3) (hM : opsW ops + opsW (tellO last way begin ps b) + 7 ≤ M) :
    Calls Tryz.prog 46 #[blkV pv tv last ways begin, .int .i64 (way : Int), .func (.func 48) #[] #[pc]] W fun e w' => e = .returned (.tuple #[]) ∧ PS St S0 W g w' (ops ++ tellO last way begin ps b) := by
  obtain ⟨z1, z2⟩ := ok.lt _ _ _ h
  rw [tellO_w] at hM
  obtain ⟨T, hT⟩ : ∃ T, T = W.heap.size := ⟨_, rfl⟩
  obtain ⟨W0, hW0⟩ : ∃ W0, W0 = W.alloc (blkC pv tv last ways begin) := ⟨_, rfl⟩
  have hb0 : Below W.heap.size W W0 := by rw [hW0]; exact (Below.refl _ W).alloc (Nat.le_refl _) _
  have g0 : W0.heap[T]? = some (blkH pv tv last ways begin) := by rw [hW0, hT]; exact heap_alloc_new _ _
  have hT0 := (Array.getElem?_eq_some_iff.1 g0).1
  have hz0 := hb0.size
  obtain ⟨WA, WB, WC, W3, hWA, e1, e2, e3, hb3, hc3, hl3⟩ := ways_laid W0
  obtain ⟨q, hq⟩ : ∃ q, q = W0.heap.size := ⟨_, rfl⟩
  rw [← hq] at hc3 hl3
  have b03 : Below W.heap.size W W3 := hb0.trans (hb3.mono hz0)
  have hs3 : PS St S0 W3 g W3 ops := PS.start ok h b03
  have hTg : ¬ S0 T ∧ T ≠ g := ⟨fun q => by have := ok.low _ q; omega, by omega⟩
  have hqg : ¬ S0 q ∧ q ≠ g := ⟨fun q => by have := ok.low _ q; omega, by omega⟩
  have gT : W3.heap[T]? = some (blkH pv tv last ways begin) := (hb3.block T hT0).trans g0
  have KB : Aside (∀ w l', PS St S0 W3 g w l' → w.heap[T]? = some (blkH pv tv last ways begin)) := fun w l' y => (y.keep T (Array.getElem?_eq_some_iff.1 gT).1 hTg.1 hTg.2).trans gT
  have KQ : Aside (∀ w l', PS St S0 W3 g w l' → ∀ k, k < 3 → w.cell? ⟨q, k, none⟩ = some (wayF k)) := fun w l' y k hk => (cell_same (y.keep q hl3 hqg.1 hqg.2)).trans (hc3 k hk)
  have PP := fun {w : World} {l' : List (Nat × Nat)} (y : PS St S0 W3 g w l') (N K : Int) (n k : Nat) e1 e2 hn hk hM => Lib.hid (Put.at hp y N K n k e1 e2 hn hk hM)
  have HWY : Aside (∀ w w', PS St S0 W3 g w (ops ++ [(last, 1)] ++ [(way, 2)]) → Drew w w' → Calls Tryz.prog (wayD way) #[blkV pv tv last ways begin, .func (.func 48) #[] #[pc]] w' fun e w' => e = .returned (.tuple #[]) ∧ PS St S0 W g w' (ops ++ tellO last way begin ps b) ∧ w'.cell? ⟨q, way, none⟩ = some (wayF way) ∧ w'.cell? ⟨T, 0, none⟩ = some pv ∧ w'.cell? ⟨T, 1, none⟩ = some tv ∧ w'.cell? ⟨T, 2, none⟩ = some (.int .i64 (last : Int)) ∧ w'.cell? ⟨T, 3, none⟩ = some (.int .i64 ways) ∧ w'.cell? ⟨T, 4, none⟩ = some (.int .i64 (begin : Int))) := fun w w' y d => by
    have kT := KB.out _ _ y
    have kQ := KQ.out _ _ y
    obtain ⟨g', q1, q2, q3⟩ := y
    have q3' := q3.trans (S' := fun _ => False) d.only (fun i q => q.elim)
    have hs : St w' g' (ops ++ [(last, 1)] ++ [(way, 2)]) := ok.same _ _ _ _ q1 (d.below _) (by rw [d.heap])
    have hB3 := (hB.below b03).ps h1 h2 q3'
    have := way_W ok hp w' g' (ops ++ [(last, 1)] ++ [(way, 2)]) pv tv ps b last ways way begin hs hB3 (h1.move (hB.bp.mono b03.size) q2) (h2.move (hB.bt.mono b03.size) q2) ((ho.up b03).ps hoS q3') hg (by rw [opsW_snoc, opsW_snoc]; omega)
    have hTl := (Array.getElem?_eq_some_iff.1 gT).1
    have hsw := q3'.size
    refine this.mono fun e w'' z => ⟨z.1, ?_, ?_, ?_⟩
    · have hz := PS.base b03 (PS.trans q2 q3' z.2)
      rw [List.append_assoc, List.append_assoc] at hz
      exact hz
    · exact (cell_same (z.2.keep q (by omega) hqg.1 (by omega))).trans (d.cell.trans (kQ way hw))
    · exact box_cells ((z.2.keep T (by omega) hTg.1 (by omega)).trans (by rw [d.heap]; exact kT))
  have c2 : W3.cell? ⟨T, 2, none⟩ = some (.int .i64 (last : Int)) := by rw [Lib.cell_of_heap gT]; rfl
  have HS0 := Lib.hid hs3
  clear h hB h1 h2 ho hoS z1 z2 hb0 g0 hT0 hz0 hb3 hc3 hl3 b03 hs3 hTg hqg gT ok hp
  unfold blkV at HWY ⊢
  unfold blkC at hW0
  go_enter Tryz.func46, Tryz.ntmps46
  go_upto_region 1 with fail
  rw [← hW0, ← hT]
  clear hW0 hT
  subst hWA
  go_upto_region 2 with fail
  rw [← hq]
  clear e1 e2 e3 hq
  go_upto_region 3 with (go_at_call 48; refine (PP HS0.out _ _ last 1 rfl rfl (by omega) (by omega) (by omega)).out.mono ?_; rintro e w1 ⟨rfl, y⟩; have HS1 := Lib.hid y; clear y)
  go_upto_region 4 with (go_at_call 48; refine (PP HS1.out _ _ way 2 rfl rfl (by omega) (by omega) (by rw [opsW_snoc]; omega)).out.mono ?_; rintro e w2 ⟨rfl, y⟩; have HS2 := Lib.hid y; clear y)
  obtain ⟨k0, k1, k2, k3, k4⟩ := box_cells (KB.out _ _ HS2.out)
  have kq := KQ.out _ _ HS2.out
  clear c2 HS0 HS1 KB KQ PP hM
  have h3 : way = 0 ∨ way = 1 ∨ way = 2 := by omega
  rcases h3 with rfl | rfl | rfl
  · have kk : w2.cell? ⟨q, 0, none⟩ = some (.func (.func 63) #[] #[]) := kq 0 (by decide)
    have HC := Lib.hid (HWY.out w2 w2.drew HS2.out ⟨rfl, rfl, rfl, rfl⟩)
    clear HWY HS2 kq
    go_region_held3 (fun w' => w'.cell? ⟨q, 0, none⟩ = some (.func (.func 63) #[] #[]) ∧ w'.cell? ⟨T, 0, none⟩ = some pv ∧ w'.cell? ⟨T, 1, none⟩ = some tv ∧ w'.cell? ⟨T, 2, none⟩ = some (.int .i64 (last : Int)) ∧ w'.cell? ⟨T, 3, none⟩ = some (.int .i64 ways) ∧ w'.cell? ⟨T, 4, none⟩ = some (.int .i64 (begin : Int))) (first | go_keep | exact ⟨kk, k0, k1, k2, k3, k4⟩ | exact KK1)
      (first | (go_at_call 63
                refine HC.out.mono ?_
                rintro e w3 ⟨rfl, y, y1, y2⟩
                have y3 : w3.cell? ⟨q, 0, none⟩ = some (.func (.func 63) #[] #[]) := y1
                have KK1 := And.intro y3 y2
                have HE := Lib.hid y
                clear y y1 y2 y3))
    go_wp2_with fail
    go_end0
    exact ⟨rfl, HE.out⟩
  · have kk : w2.cell? ⟨q, 1, none⟩ = some (.func (.func 64) #[] #[]) := kq 1 (by decide)
    have HC := Lib.hid (HWY.out w2 w2.drew HS2.out ⟨rfl, rfl, rfl, rfl⟩)
    clear HWY HS2 kq
    go_region_held3 (fun w' => w'.cell? ⟨q, 1, none⟩ = some (.func (.func 64) #[] #[]) ∧ w'.cell? ⟨T, 0, none⟩ = some pv ∧ w'.cell? ⟨T, 1, none⟩ = some tv ∧ w'.cell? ⟨T, 2, none⟩ = some (.int .i64 (last : Int)) ∧ w'.cell? ⟨T, 3, none⟩ = some (.int .i64 ways) ∧ w'.cell? ⟨T, 4, none⟩ = some (.int .i64 (begin : Int))) (first | go_keep | exact ⟨kk, k0, k1, k2, k3, k4⟩ | exact KK1)
      (first | (go_at_call 64
                refine HC.out.mono ?_
                rintro e w3 ⟨rfl, y, y1, y2⟩
                have y3 : w3.cell? ⟨q, 1, none⟩ = some (.func (.func 64) #[] #[]) := y1
                have KK1 := And.intro y3 y2
                have HE := Lib.hid y
                clear y y1 y2 y3))
    go_wp2_with fail
    go_end0
    exact ⟨rfl, HE.out⟩
  · have kk : w2.cell? ⟨q, 2, none⟩ = some (.func (.func 65) #[] #[]) := kq 2 (by decide)
    have HC := Lib.hid (HWY.out w2 w2.drew HS2.out ⟨rfl, rfl, rfl, rfl⟩)
    clear HWY HS2 kq
    go_region_held3 (fun w' => w'.cell? ⟨q, 2, none⟩ = some (.func (.func 65) #[] #[]) ∧ w'.cell? ⟨T, 0, none⟩ = some pv ∧ w'.cell? ⟨T, 1, none⟩ = some tv ∧ w'.cell? ⟨T, 2, none⟩ = some (.int .i64 (last : Int)) ∧ w'.cell? ⟨T, 3, none⟩ = some (.int .i64 ways) ∧ w'.cell? ⟨T, 4, none⟩ = some (.int .i64 (begin : Int))) (first | go_keep | exact ⟨kk, k0, k1, k2, k3, k4⟩ | exact KK1)
      (first | (go_at_call 65
                refine HC.out.mono ?_
                rintro e w3 ⟨rfl, y, y1, y2⟩
                have y3 : w3.cell? ⟨q, 2, none⟩ = some (.func (.func 65) #[] #[]) := y1
                have KK1 := And.intro y3 y2
                have HE := Lib.hid y
                clear y y1 y2 y3))
    go_wp2_with fail
    go_end0
    exact ⟨rfl, HE.out⟩
end Go.Proofs.YthmbbpfgbpacnaaGreatDoor.Def
namespace Go.Proofs.YthmbbpfgbpacnaaGreatDoor.Def
open Go.RowKit Go.Shelf Go.Lib Mem Bit Huf Lz Inf
theorem DOrd.wide {W : World} {B : Nat} (h : DOrd W B) (hB : B <= W.heap.size) : DOrd W W.heap.size := ⟨Nat.lt_of_lt_of_le h.1 hB, h.2⟩
theorem Stays.bk {v : Value} {n g : Nat} (h : Bk v n) (hg : n <= g) : Stays (fun j => j = g) g v := fun a m c e => by
 have := h a m c e
 exact ⟨by show ¬ a.block = g; omega, by omega⟩
set_option maxRecDepth 100000 in
set_option maxHeartbeats 4000000 in
theorem size_any (W : World) (pv tv : Value) (ps : List Pc) (b : List UInt8) (ways : Int) (last way begin : Nat) (hB : BlkAt W pv tv ps b) (ho : DOrd W W.heap.size) (hg : begin <= 8388608) (hl : last < 2) (hw : way < 3) :
  Calls Tryz.prog 66 #[blkV pv tv last ways begin, .int .i64 (way : Int)] W fun e w' => e = .returned (.int .i64 (opsW (tellO last way begin ps b) : Int)) /\ Below W.heap.size W w' := by
 obtain ⟨T, hT⟩ : ∃ T, T = W.heap.size := ⟨_, rfl⟩
 obtain ⟨W0, hW0⟩ : ∃ W0, W0 = W.alloc (blkC pv tv last ways begin) := ⟨_, rfl⟩
 have hb0 : Below W.heap.size W W0 := by rw [hW0]; exact (Below.refl _ W).alloc (Nat.le_refl _) _
 have g0 : W0.heap[T]? = some (blkH pv tv last ways begin) := by rw [hW0, hT]; exact heap_alloc_new _ _
 have hT0 := (Array.getElem?_eq_some_iff.1 g0).1
 have hz0 := hb0.size
 obtain ⟨q, hq⟩ : ∃ q, q = W0.heap.size := ⟨_, rfl⟩
 obtain ⟨W1, hW1⟩ : ∃ W1, W1 = W0.alloc (.cells #[.int .i64 0] 3) := ⟨_, rfl⟩
 have gB : W1.heap[q]? = some (.cells #[.int .i64 0] 3 (0, 0)) := by rw [hW1, hq]; exact heap_alloc_new _ _
 have hb1 : Below W0.heap.size W0 W1 := by rw [hW1]; exact (Below.refl _ W0).alloc (Nat.le_refl _) _
 have b01 : Below W.heap.size W W1 := hb0.trans (hb1.mono hz0)
 have gT : W1.heap[T]? = some (blkH pv tv last ways begin) := (hb1.block T hT0).trans g0
 have hq1 : q < W1.heap.size := (Array.getElem?_eq_some_iff.1 gB).1
 have hB1 := hB.below b01
 have hbw := bodyO_w (way := way) hB.m hB.n begin b hB.t
 have hoq := ho.1
 have HT := Lib.hid (tell_S (sum_ok q) (sum_put q) W1 q [] pv tv ps b ways last way begin ⟨rfl, gB⟩ hB1 (Stays.bk hB.bp (by omega)) (Stays.bk hB.bt (by omega)) (ho.up b01) ⟨by show ¬ 1 = q; omega, by omega⟩ hg hl hw (by rw [tellO_w]; show 0 + _ + 7 <= _; omega))
 obtain ⟨k0, k1, k2, k3, k4⟩ := box_cells gT
 have HE : Aside (∀ w', PS (SumSt q) (fun j => j = q) W1 q w' ([] ++ tellO last way begin ps b) -> w'.cell? ⟨q, 0, none⟩ = some (.int .i64 (opsW (tellO last way begin ps b) : Int)) /\ Below W.heap.size W w') := fun w' y => by
  obtain ⟨g', ⟨e, hc⟩, -, o⟩ := y
  rw [List.nil_append] at hc
  exact ⟨by rw [Lib.cell_of_heap hc]; rfl, b01.trans (o.below b01.size (by rintro i (rfl | rfl) <;> omega))⟩
 clear hb0 g0 hT0 gB hb1 b01 gT hq1 hB1 hbw hoq hB ho hz0
 unfold blkV at HT ⊢
 unfold blkC at hW0
 generalize opsW (tellO last way begin ps b) = sm at *
 go_enter Tryz.func66, Tryz.ntmps66
 go_upto_region 1 with fail
 rw [<- hW0, <- hT]
 clear hW0 hT
 go_upto_region 2 with fail
 rw [<- hW1, <- hq]
 clear hW1 hq
 go_upto_region 3 with (go_at_call 46; refine HT.out.mono ?_; rintro e w1 ⟨rfl, y⟩; obtain ⟨y1, y2⟩ := HE.out _ y; have HB := Lib.hid y2; clear y y2)
 clear k0 k1 k2 k3 k4 HE HT
 go_wp2_with fail
 go_ret
 exact ⟨rfl, HB.out⟩
def szN (last begin : Nat) (ps : List Pc) (b : List UInt8) (way : Nat) : Nat := opsW (tellO last way begin ps b)
set_option maxRecDepth 100000 in
set_option maxHeartbeats 4000000 in
theorem best_any (W : World) (pv tv : Value) (ps : List Pc) (b : List UInt8) (last ways begin : Nat) (hB : BlkAt W pv tv ps b) (ho : DOrd W W.heap.size) (hg : begin <= 8388608) (hl : last < 2) (hw1 : 1 <= ways) (hw3 : ways <= 3) :
  Calls Tryz.prog 47 #[blkV pv tv last ways begin] W fun e w' => e = .returned (.int .i64 ((bestF (szN last begin ps b) (ways - 1)).1 : Int)) /\ Below W.heap.size W w' := by
 obtain ⟨T, hT⟩ : ∃ T, T = W.heap.size := ⟨_, rfl⟩
 obtain ⟨W0, hW0⟩ : ∃ W0, W0 = W.alloc (blkC pv tv last ways begin) := ⟨_, rfl⟩
 have hb0 : Below W.heap.size W W0 := by rw [hW0]; exact (Below.refl _ W).alloc (Nat.le_refl _) _
 have g0 : W0.heap[T]? = some (blkH pv tv last ways begin) := by rw [hW0, hT]; exact heap_alloc_new _ _
 have hT0 := (Array.getElem?_eq_some_iff.1 g0).1
 have hz0 := hb0.size
 have HS : Aside (∀ (w : World) (way : Nat), Below W0.heap.size W0 w -> way < 3 -> Calls Tryz.prog 66 #[blkV pv tv last ways begin, .int .i64 (way : Int)] w fun e w' => e = .returned (.int .i64 (szN last begin ps b way : Int)) /\ Below W0.heap.size W0 w') := fun w way hb hw => by
  have b1 := hb0.trans (hb.mono hz0)
  refine (size_any w pv tv ps b ways last way begin (hB.below b1) (ho.up b1) hg hl hw).mono fun e w' z => ⟨z.1, hb.trans (z.2.mono hb.size)⟩
 have HK : Aside (∀ w, Below W0.heap.size W0 w -> w.cell? ⟨T, 0, none⟩ = some pv /\ w.cell? ⟨T, 1, none⟩ = some tv /\ w.cell? ⟨T, 2, none⟩ = some (.int .i64 last) /\ w.cell? ⟨T, 3, none⟩ = some (.int .i64 ways) /\ w.cell? ⟨T, 4, none⟩ = some (.int .i64 begin)) := fun w hb => box_cells ((hb.block T hT0).trans g0)
 obtain ⟨k0, k1, k2, k3, k4⟩ := HK.out W0 (Below.refl _ _)
 have HB : Aside (∀ w, Below W0.heap.size W0 w -> Below W.heap.size W w) := fun w hb => hb0.trans (hb.mono hz0)
 have HS0 := Lib.hid (HS.out W0 0 (Below.refl _ _) (by decide))
 have hsb : ∀ k, k < 3 -> szN last begin ps b k <= 1600003 := fun k hk => by
  have := bodyO_w (way := k) hB.m hB.n begin b hB.t
  unfold szN
  rw [tellO_w]; omega
 have hbs : ∀ k, (bestF (szN last begin ps b) k).2 <= 1600003 := fun k => by
  have h1 := (bestF_spec (szN last begin ps b) k).2.2
  have h2 := hsb 0 (by decide)
  omega
 clear hb0 g0 hT0 hB ho
 unfold blkV at HS HS0 ⊢
 unfold blkC at hW0
 generalize szN last begin ps b = s at *
 go_enter Tryz.func47, Tryz.ntmps47
 go_upto_region 1 with fail
 rw [<- hW0, <- hT]
 clear hW0 hT
 go_upto_region 3 with (go_at_call 66; refine HS0.out.mono ?_; rintro e w1 ⟨rfl, y⟩; have HY := Lib.hid y; clear y)
 clear k0 k1 k2 k3 k4 HS0
 go_loopg [3, 4, 5, 6] ways (fun kx s3 s4 s5 s6 wr => ∃ (k : Nat), s5 = .int .i64 ((k : Int) + 1) /\ k + 1 <= ways /\ s3 = .int .i64 ((bestF s k).1 : Int) /\ s4 = .int .i64 ((bestF s k).2 : Int) /\ ways - k <= kx /\ Aside (Below W0.heap.size W0 wr))
 case atStart => exact ⟨0, rfl, hw1, rfl, rfl, by omega, HY.out⟩
 case round =>
  clear HY
  obtain ⟨k, rfl, hk, rfl, rfl, hkx, HR⟩ := hrel
  obtain ⟨k0, k1, k2, k3, k4⟩ := HK.out wr HR.out
  by_cases hlt : k + 1 < ways
  ·have hltz : (k : Int) + 1 < (ways : Int) := by omega
   have wi : IntKind.i64.wrap ((k : Int) + 1 + 1) = (k : Int) + 1 + 1 := by rw [IntKind.wrap_i64]; omega
   have HSK := Lib.hid (HS.out wr (k + 1) HR.out (by omega))
   rw [show (((k + 1 : Nat)) : Int) = (k : Int) + 1 by omega] at HSK
   have hb1 := hsb (k + 1) (by omega)
   have hb2 := hbs k
   by_cases hc : s (k + 1) < (bestF s k).2
   ·have hcz : (s (k + 1) : Int) < ((bestF s k).2 : Int) := by omega
    have HN : Aside (bestF s (k + 1) = (k + 1, s (k + 1))) := by
     show Aside ((if s (k + 1) < (bestF s k).2 then (k + 1, s (k + 1)) else bestF s k) = _)
     rw [if_pos hc]
     exact rfl
    generalize (bestF s k).1 = r1 at *
    generalize (bestF s k).2 = r2 at *
    generalize s (k + 1) = sk at *
    go_wp2_with (go_at_call 66; refine HSK.out.mono ?_; rintro e w2 ⟨rfl, y⟩; have HY := Lib.hid y; clear y)
    go_roundg (ways - (k + 1))
    case measure => omega
    case rel => exact ⟨k + 1, by go_num, by omega, by rw [HN.out]; go_num, by rw [HN.out], Nat.le_refl _, HY.out⟩
   ·have hcz : ¬ (s (k + 1) : Int) < ((bestF s k).2 : Int) := by omega
    have HN : Aside (bestF s (k + 1) = bestF s k) := by
     show Aside ((if s (k + 1) < (bestF s k).2 then (k + 1, s (k + 1)) else bestF s k) = _)
     rw [if_neg hc]
     exact rfl
    have HN1 : Aside ((bestF s (k + 1)).1 = (bestF s k).1 /\ (bestF s (k + 1)).2 = (bestF s k).2) := by rw [HN.out]; exact ⟨rfl, rfl⟩
    clear HN
    generalize (bestF s k).1 = r1 at *
    generalize (bestF s k).2 = r2 at *
    generalize s (k + 1) = sk at *
    go_wp2_with (go_at_call 66; refine HSK.out.mono ?_; rintro e w2 ⟨rfl, y⟩; have HY := Lib.hid y; clear y)
    go_roundg (ways - (k + 1))
    case measure => omega
    case rel => exact ⟨k + 1, by go_num, by omega, by rw [HN1.out.1], by rw [HN1.out.2], Nat.le_refl _, HY.out⟩
  ·obtain rfl : k = ways - 1 := by omega
   have hltz : ¬ (((ways - 1 : Nat) : Int) + 1 < (ways : Int)) := by omega
   go_wp2_with fail
   go_ret
   exact ⟨rfl, HB.out _ HR.out⟩
end Go.Proofs.YthmbbpfgbpacnaaGreatDoor.Def
namespace Go.Proofs.YthmbbpfgbpacnaaGreatDoor.Def
open Go.RowKit Go.Shelf Go.Lib Mem Bit Huf Lz Inf
structure PB where
 ps : List Pc
 b : List UInt8
 last : Nat
 ways : Nat
def PB.way (x : PB) (n : Nat) : Nat := (bestF (szN x.last n x.ps x.b) (x.ways - 1)).1
def blk1 (L : List Bool) (x : PB) : List Bool := L ++ opsB (tellO x.last (x.way L.length) L.length x.ps x.b)
def streamB (L : List Bool) (xs : List PB) : List Bool := xs.foldl blk1 L
theorem blk1_len (L : List Bool) (x : PB) : (blk1 L x).length <= L.length + 42 + 8 * x.b.length := by
 unfold blk1
 rw [List.length_append, opsB_len]
 have h := bestF_spec (szN x.last L.length x.ps x.b) (x.ways - 1)
 have h2 : szN x.last L.length x.ps x.b (x.way L.length) <= szN x.last L.length x.ps x.b 0 := by
  unfold PB.way
  omega
 have h3 : szN x.last L.length x.ps x.b 0 = 3 + (padN (L.length + 3) + 32 + 8 * x.b.length) := by
  unfold szN
  rw [tellO_w]
  show 3 + opsW (storO L.length x.b) = _
  rw [storO_w]
 have h4 : szN x.last L.length x.ps x.b (x.way L.length) = opsW (tellO x.last (x.way L.length) L.length x.ps x.b) := rfl
 have := padN_lt (L.length + 3)
 omega
structure PB.ok (x : PB) : Prop where
 m : ∀ p ∈ x.ps, mayB p = true
 n : x.ps.length <= 32768
 t : x.b.length <= 65535
 l : x.last < 2
 w1 : 1 <= x.ways
 w3 : x.ways <= 3
set_option maxRecDepth 100000 in
set_option maxHeartbeats 4000000 in
theorem putOn_any (W : World) (B b g : Nat) (L : List Bool) (pv tv : Value) (x : PB) (h : WB W B b g L) (hk : Masks W B) (ho : DOrd W B) (hB0 : B ≤ W.heap.size) (hB : BlkAt W pv tv x.ps x.b) (h1 : Stays (fun j => j = b) g pv) (h2 : Stays (fun j => j = b) g tv) (hx : x.ok) (hL : L.length ≤ 7800000) :
    Calls Tryz.prog 34 #[blkV pv tv x.last x.ways 0, .pointer (some ⟨b, 0, none⟩)] W fun e w' => e = .returned (.tuple #[]) ∧ WStep W w' B b g (blk1 L x) := by
  have hl := hx.l
  have hw1 := hx.w1
  have hw3 := hx.w3
  have ht := hx.t
  have hleb := h.leb
  have hleg := h.leg
  have hltb := h.lt
  have hltg := h.ltg
  have hoB := ho.1
  have how := ho.wide hB0
  obtain ⟨T, hT⟩ : ∃ T, T = W.heap.size := ⟨_, rfl⟩
  obtain ⟨W2, hW2, hb2, gT, gx, hz2⟩ := two_boxes W #[pv, tv, .int .i64 x.last, .int .i64 x.ways, .int .i64 0] #[.pointer (some ⟨b, 0, none⟩)] 79 56
  rw [← hT] at gT gx hz2
  have HBI := Lib.hid (bits_any W2 B b g L (h.same (hb2.block b hltb) (hb2.block g hltg)))
  have c4 : W2.cell? ⟨T, 4, none⟩ = some (.int .i64 0) := by rw [Lib.cell_of_heap gT]; rfl
  have f4 : W2.frozen? ⟨T, 4, none⟩ = false := Lib.frozen_of_heap gT 4
  have cx : W2.cell? ⟨T + 1, 0, none⟩ = some (.pointer (some ⟨b, 0, none⟩)) := by rw [Lib.cell_of_heap gx]; rfl
  obtain ⟨W3, hW3⟩ : ∃ W3, W3 = W2.setCell ⟨T, 4, none⟩ (.int .i64 (L.length : Int)) := ⟨_, rfl⟩
  have o3 : Only (fun j => j = T) W2 W3 := by rw [hW3]; exact Only.setCell (S := fun j => j = T) rfl _ _
  have b3 : Below W.heap.size W W3 := hb2.trans (o3.below hb2.size (by rintro i rfl; omega))
  have gT3 : W3.heap[T]? = some (blkH pv tv x.last x.ways (L.length : Int)) := by rw [hW3]; exact (Lib.heap_setCell_same (i := 4) gT _).trans rfl
  have gx3 : W3.heap[T + 1]? = some (.cells #[.pointer (some ⟨b, 0, none⟩)] 56 (0, 0)) := (o3.block (T + 1) (Array.getElem?_eq_some_iff.1 gx).1 (by show ¬ T + 1 = T; omega)).trans gx
  have hT3 := (Array.getElem?_eq_some_iff.1 gT3).1
  have hx3 := (Array.getElem?_eq_some_iff.1 gx3).1
  have hLn : x.way L.length < 3 := by
    have := (bestF_spec (szN x.last L.length x.ps x.b) (x.ways - 1)).1
    unfold PB.way
    omega
  have HK : Aside (∀ w, Below W3.heap.size W3 w → w.cell? ⟨T, 0, none⟩ = some pv ∧ w.cell? ⟨T, 1, none⟩ = some tv ∧ w.cell? ⟨T, 2, none⟩ = some (.int .i64 x.last) ∧ w.cell? ⟨T, 3, none⟩ = some (.int .i64 x.ways) ∧ w.cell? ⟨T, 4, none⟩ = some (.int .i64 (L.length : Int))) := fun w hb => box_cells ((hb.block T hT3).trans gT3)
  have HBE : Aside (∀ w, Below W3.heap.size W3 w → Calls Tryz.prog 47 #[blkV pv tv x.last x.ways (L.length : Int)] w fun e w' => e = .returned (.int .i64 (x.way L.length : Int)) ∧ Below W3.heap.size W3 w') := fun w hb => by
    have b1 := b3.trans (hb.mono b3.size)
    exact (best_any w pv tv x.ps x.b x.last x.ways L.length (hB.below b1) (how.up b1) (by omega) hl hw1 hw3).mono fun e w' z => ⟨z.1, hb.trans (z.2.mono hb.size)⟩
  have HTE : Aside (∀ w, Below W3.heap.size W3 w → Calls Tryz.prog 46 #[blkV pv tv x.last x.ways (L.length : Int), .int .i64 (x.way L.length : Int), .func (.func 48) #[] #[.pointer (some ⟨T + 1, 0, none⟩)]] w fun e w' => e = .returned (.tuple #[]) ∧ WStep W w' B b g (blk1 L x) ∧ w'.heap[T]? = some (blkH pv tv x.last x.ways (L.length : Int))) := fun w hb => by
    have b1 := b3.trans (hb.mono b3.size)
    have hbs := b1.size
    have cx4 : w.cell? ⟨T + 1, 0, none⟩ = some (.pointer (some ⟨b, 0, none⟩)) := by rw [Lib.cell_of_heap ((hb.block _ hx3).trans gx3)]; rfl
    have hst : WrSt B b (T + 1) L w g [] := ⟨by rw [show opsB [] = [] from rfl, List.append_nil]; exact h.same (b1.block b hltb) (b1.block g hltg), cx4, hk.below (b1.mono hB0), by omega, by omega⟩
    have hsz : opsW (tellO x.last (x.way L.length) L.length x.ps x.b) ≤ 42 + 8 * x.b.length := by
      have := blk1_len L x
      unfold blk1 at this
      rw [List.length_append, opsB_len] at this
      omega
    have hs1 : ∀ {v : Value}, Stays (fun j => j = b) g v → Stays (fun j => j = b ∧ b < T + 1) g v := fun hs a n c e => ⟨fun q => (hs a n c e).1 q.1, (hs a n c e).2⟩
    have := tell_W (wr_ok B b (T + 1) L) (wr_put B b (T + 1) (8388608 - L.length) L (by omega)) w g [] pv tv x.ps x.b x.ways x.last (x.way L.length) L.length hst (hB.below b1) (hs1 h1) (hs1 h2) (how.up b1) ⟨fun q => by have := q.1; omega, by omega⟩ (by omega) hl hLn (by show 0 + _ + 7 ≤ _; omega)
    have gTw : w.heap[T]? = some (blkH pv tv x.last x.ways (L.length : Int)) := (hb.block T hT3).trans gT3
    refine this.mono fun e w' z => ⟨z.1, ?_, (z.2.keep T (Array.getElem?_eq_some_iff.1 gTw).1 (fun q => by have := q.1; omega) (by omega)).trans gTw⟩
    obtain ⟨g', q1, q2, q3⟩ := z.2
    rw [List.nil_append] at q1
    exact ⟨g', q1.1, q2.imp id (fun q => Nat.le_trans hbs q), (Only.of_below (S := fun k => k = b ∨ k = g) b1).trans q3 (fun i q => .inl (q.elim (fun z => .inl z.1) .inr))⟩
  obtain ⟨k0, k1, k2, k3, k4⟩ := HK.out W3 (Below.refl _ _)
  clear h hk ho hB0 hB h1 h2 hx hl hw1 hw3 ht hleb hleg hltb hltg hoB how hb2 gT gx o3 b3 gT3 gx3 hT3 hx3 hLn
  unfold blkV at HBE HTE ⊢
  generalize x.way L.length = way at *
  generalize blk1 L x = L' at *
  go_enter Tryz.func34, Tryz.ntmps34
  go_upto_region 1 with fail
  rw [← hW2, ← hT]
  clear hW2 hT
  go_upto_region 2 with (go_at_call 45; refine HBI.out.mono ?_; rintro e w1 ⟨rfl, rfl⟩)
  rw [← hW3]
  clear c4 f4 cx hW3 HBI
  have hdr : Below W3.heap.size W3 W3.drew := (Drew.drewN W3 1).below _
  go_region_held3 (fun w' => w'.cell? ⟨T, 0, none⟩ = some pv ∧ w'.cell? ⟨T, 1, none⟩ = some tv ∧ w'.cell? ⟨T, 2, none⟩ = some (.int .i64 x.last) ∧ w'.cell? ⟨T, 3, none⟩ = some (.int .i64 x.ways) ∧ w'.cell? ⟨T, 4, none⟩ = some (.int .i64 (L.length : Int))) (first | go_keep | exact ⟨k0, k1, k2, k3, k4⟩ | exact KK2 | exact KK1)
    (first
      | (go_at_call 47
         with_reducible refine (HBE.out W3.drew hdr).mono ?_
         rintro e w1 ⟨rfl, y⟩
         have KK1 := HK.out w1 y
         have BB1 := Lib.hid y
         clear y)
      | (go_at_call 46
         with_reducible refine (HTE.out w1 BB1.out).mono ?_
         rintro e w2 ⟨rfl, y, gTw⟩
         have KK2 := box_cells gTw
         clear gTw
         have HE := Lib.hid y
         clear y))
  all_goals
    go_wp2_with fail
    go_end0
    exact ⟨rfl, HE.out⟩
end Go.Proofs.YthmbbpfgbpacnaaGreatDoor.Def
namespace Go.Proofs.YthmbbpfgbpacnaaGreatDoor.Def
open Go.RowKit Go.Shelf Go.Lib Mem Bit Huf Lz Inf
structure Blk where
 pa : Option Addr
 pc : Nat
 ta : Option Addr
 tc : Nat
 p : PB
def Blk.pv (x : Blk) : Value := .slice x.pa x.p.ps.length x.pc
def Blk.tv (x : Blk) : Value := .slice x.ta x.p.b.length x.tc
def bkCells (x : Blk) : List Value := [x.pv, x.tv, .int .i64 (x.p.last : Int), .int .i64 (x.p.ways : Int), .int .i64 0]
def bksCells (l : List Blk) : List Value := l.flatMap bkCells
theorem bksCells_len (l : List Blk) : (bksCells l).length = l.length * 5 := by
 induction l with
 | nil => rfl
 | cons p l ih =>
  unfold bksCells at *
  rw [List.flatMap_cons, List.length_append, ih, List.length_cons]
  show 5 + _ = _
  omega
theorem bksCells_append (x y : List Blk) : bksCells (x ++ y) = bksCells x ++ bksCells y := List.flatMap_append
theorem bksCells_single (p : Blk) : bksCells [p] = bkCells p := by unfold bksCells; rw [List.flatMap_cons, List.flatMap_nil, List.append_nil]
theorem bksCells_one (l : List Blk) : ∀ u ∈ bksCells l, u.oneCell' = true := by
 intro u hu
 unfold bksCells at hu
 obtain ⟨x, _, hx⟩ := List.mem_flatMap.1 hu
 unfold bkCells at hx
 simp only [List.mem_cons, List.not_mem_nil, or_false] at hx
 rcases hx with rfl | rfl | rfl | rfl | rfl <;> rfl
theorem bksCells_at (xs : List Blk) : ∀ (j : Nat) (x : Blk) (i : Nat), xs[j]? = some x -> i < 5 -> (bksCells xs)[j * 5 + i]? = (bkCells x)[i]? := by
 induction xs with
 | nil => intro j x i h; simp at h
 | cons y ys ih =>
  intro j x i h hi
  unfold bksCells at *
  rw [List.flatMap_cons]
  have hx : (bkCells y).length = 5 := rfl
  cases j with
  | zero =>
   obtain rfl : y = x := by simpa using h
   rw [List.getElem?_append_left (by omega), Nat.zero_mul, Nat.zero_add]
  | succ j =>
   rw [List.getElem?_append_right (by omega), hx, show (j + 1) * 5 + i - 5 = j * 5 + i by omega]
   exact ih j x i (by simpa using h) hi
theorem info_blk : (Tryz.prog.info? 79).map (fun i => (i.zero, i.size, i.bytes)) = some (some (.agg #[.slice none 0 0, .slice none 0 0, .int .i64 0, .int .i64 0, .int .i64 0]), 5, 72) := by kernel_rfl
theorem push_blk (W : World) (B : Nat) (v : Value) (xs : List Blk) (p : Blk) (h : W.ownsRow B 79 5 v xs.length (bksCells xs)) (hB : B <= W.heap.size) (hlim : (xs.length + 1) * 72 <= 140737488355328) :
  ∃ v' W', (Builtin.append_ #[59, 59] 59 #[v, .slice (some ⟨W.heap.size, 0, none⟩) 1 1]).run Tryz.prog (W.alloc (.cells (bkCells p).toArray 79)) = .ok v' W' /\ W'.ownsRow B 79 5 v' (xs ++ [p]).length (bksCells (xs ++ [p])) /\ Below B W W' /\ Only (fun k => v.ownBlock = some k) W W' /\ (v'.ownBlock = v.ownBlock \/ ∀ k, v'.ownBlock = some k -> W.heap.size <= k) := by
 have hA := (Below.refl W.heap.size W).alloc (Nat.le_refl _) (.cells (bkCells p).toArray 79)
 have hrow := own_below h hA
 have hnews : ∀ j u, (bksCells [p])[j]? = some u -> (W.alloc (.cells (bkCells p).toArray 79)).cell? ((⟨W.heap.size, 0, none⟩ : Addr).add j) = some u := fun j u hj => by
  rw [Lib.addr_add, cell_of_row _ _ _ _ _ (0, 0) (heap_alloc_new _ _), Nat.zero_add]
  rw [bksCells_single] at hj
  simpa using hj
 obtain ⟨v', W', h1, h2, h3, h4⟩ := app_gen Tryz.underlying59 info_blk rfl (by decide) _ B v (.slice (some ⟨W.heap.size, 0, none⟩) 1 1) 59 xs.length 1 (bksCells xs) (bksCells [p]) hrow (Nat.le_trans hB hA.size) (.inr ⟨_, 1, rfl, by rw [bksCells_len]; rfl, hnews⟩)
  (bksCells_one [p]) (by omega) (by omega)
 have ho : Only (fun k => v.ownBlock = some k) W W' := (Only.of_below hA).trans (only_grown h3 (fun k hk => hk)) (fun i hi => .inl hi)
 refine ⟨v', W', h1, ?_, (hA.mono hB).trans (bel_grown hrow h3 (Nat.le_trans hB hA.size) (Nat.le_refl B)), ho, h4.imp id fun q k hk => Nat.le_trans hA.size (q k hk)⟩
 rw [List.length_append, bksCells_append]
 exact h2
def BksAt (W : World) (ao : Option Addr) (xs : List Blk) : Prop := ∀ i x, xs[i]? = some x -> ∃ a, ao = some a /\ a.block < W.heap.size /\ W.cell? (a.add (i * 5)) = some x.pv /\ W.cell? ((a.add (i * 5)).add 1) = some x.tv /\ W.cell? ((a.add (i * 5)).add 2) = some (.int .i64 (x.p.last : Int)) /\ W.cell? ((a.add (i * 5)).add 3) = some (.int .i64 (x.p.ways : Int)) /\ W.cell? ((a.add (i * 5)).add 4) = some (.int .i64 0)
theorem BksAt.only {S : Nat -> Prop} {W w : World} {ao : Option Addr} {xs : List Blk} (h : BksAt W ao xs) (o : Only S W w) (hs : ∀ a, ao = some a -> ¬ S a.block) : BksAt w ao xs := fun i x hx => by
 obtain ⟨a, e, h0, h1, h2, h3, h4, h5⟩ := h i x hx
 have hb := hs a e
 have hn : ∀ k, (a.add k).block = a.block := fun k => by unfold Addr.add; split <;> rfl
 have hn2 : ∀ k m, ((a.add k).add m).block = a.block := fun k m => by rw [Deep.add_add]; exact hn _
 exact ⟨a, e, Nat.lt_of_lt_of_le h0 o.size, o.cell h1 (by rw [hn]; exact hb), o.cell h2 (by rw [hn2]; exact hb), o.cell h3 (by rw [hn2]; exact hb), o.cell h4 (by rw [hn2]; exact hb), o.cell h5 (by rw [hn2]; exact hb)⟩
theorem bks_own {W : World} {B : Nat} {ao : Option Addr} {c : Nat} {xs : List Blk} (h : W.ownsRow B 79 5 (.slice ao xs.length c) xs.length (bksCells xs)) : BksAt W ao xs := fun i x hx => by
 have hi := (List.getElem?_eq_some_iff.1 hx).1
 obtain ⟨ao', c', e, -, -, hn⟩ := own_shape h
 cases e
 obtain ⟨a, rfl⟩ : ∃ a, ao = some a := by
  cases ao with
  | none => have := (hn rfl).1; omega
  | some a => exact ⟨a, rfl⟩
 obtain ⟨g, rfl, hg1, hg2⟩ := own_block h
 have hat : ∀ j, j < 5 -> W.cell? ⟨g, i * 5 + j, none⟩ = (bkCells x)[j]? := fun j hj => by
  rw [<- bksCells_at xs i x j hx hj]
  exact h.cellAt (i * 5 + j) (by omega)
 have e0 : ∀ j, ((⟨g, 0, none⟩ : Addr).add (i * 5)).add j = ⟨g, i * 5 + j, none⟩ := fun j => by rw [Lib.addr_add, Lib.addr_add, Nat.zero_add]
 have e1 : (⟨g, 0, none⟩ : Addr).add (i * 5) = ⟨g, i * 5 + 0, none⟩ := by rw [Lib.addr_add, Nat.zero_add]; rfl
 refine ⟨_, rfl, hg2, ?_, ?_, ?_, ?_, ?_⟩
 ·rw [e1]; exact hat 0 (by decide)
 ·rw [e0]; exact hat 1 (by decide)
 ·rw [e0]; exact hat 2 (by decide)
 ·rw [e0]; exact hat 3 (by decide)
 ·rw [e0]; exact hat 4 (by decide)
theorem streamB_succ (L : List Bool) (xs : List Blk) (i : Nat) (x : Blk) (h : xs[i]? = some x) : streamB L ((xs.take (i + 1)).map Blk.p) = blk1 (streamB L ((xs.take i).map Blk.p)) x.p := by
 rw [List.take_add_one, h, List.map_append]
 unfold streamB
 rw [List.foldl_append]
 rfl
set_option maxRecDepth 100000 in
set_option maxHeartbeats 4000000 in
theorem putBlocks_any (W : World) (B b g : Nat) (L : List Bool) (ao : Option Addr) (c : Nat) (xs : List Blk) (h : WB W B b g L) (hk : Masks W B) (ho : DOrd W B) (hB0 : B <= W.heap.size) (hr : BksAt W ao xs) (hst : ∀ a, ao = some a -> a.block ≠ b /\ a.block ≠ g)
  (hx : ∀ x ∈ xs, x.p.ok /\ BlkAt W x.pv x.tv x.p.ps x.p.b /\ Stays (fun j => j = b) g x.pv /\ Stays (fun j => j = b) g x.tv) (hL : ∀ i, i < xs.length -> (streamB L ((xs.take i).map Blk.p)).length <= 7800000) (hn : xs.length <= 1048576) :
  Calls Tryz.prog 26 #[.pointer (some ⟨b, 0, none⟩), .slice ao xs.length c] W fun e w' => e = .returned (.tuple #[]) /\ WStep W w' B b g (streamB L (xs.map Blk.p)) := by
 have HR0 : Aside (WStep W W B b g (streamB L ((xs.take 0).map Blk.p))) := ⟨g, by rw [List.take_zero]; exact h, .inl rfl, Only.refl _ _⟩
 have HI : Aside (∀ wr i x, WStep W wr B b g (streamB L ((xs.take i).map Blk.p)) -> xs[i]? = some x -> ∃ a, ao = some a /\ wr.cell? (a.add (i * 5)) = some x.pv /\ wr.cell? ⟨(a.add (i * 5)).block, (a.add (i * 5)).off + 1, none⟩ = some x.tv /\ wr.cell? ⟨(a.add (i * 5)).block, (a.add (i * 5)).off + 2, none⟩ = some (.int .i64 (x.p.last : Int)) /\ wr.cell? ⟨(a.add (i * 5)).block, (a.add (i * 5)).off + 3, none⟩ = some (.int .i64 (x.p.ways : Int)) /\ wr.cell? ⟨(a.add (i * 5)).block, (a.add (i * 5)).off + 4, none⟩ = some (.int .i64 0) /\
   ∀ w3, Below wr.heap.size wr w3 -> Calls Tryz.prog 34 #[blkV x.pv x.tv x.p.last x.p.ways 0, .pointer (some ⟨b, 0, none⟩)] w3 fun e w' => e = .returned (.tuple #[]) /\ WStep W w' B b g (streamB L ((xs.take (i + 1)).map Blk.p))) := fun wr i x hw hi => by
  obtain ⟨g', q1, q2, q3⟩ := hw
  have hil := (List.getElem?_eq_some_iff.1 hi).1
  obtain ⟨a, e, -, h1, h2, h3, h4, h5⟩ := (hr.only q3 (fun a e q => by obtain ⟨y1, y2⟩ := hst a e; rcases q with q | q; exact y1 q; exact y2 q)) i x hi
  refine ⟨a, e, h1, by rw [<- add_pos _ 1 (by decide)]; exact h2, by rw [<- add_pos _ 2 (by decide)]; exact h3, by rw [<- add_pos _ 3 (by decide)]; exact h4, by rw [<- add_pos _ 4 (by decide)]; exact h5, fun w3 hb => ?_⟩
  obtain ⟨x1, x2, x3, x4⟩ := hx x (List.mem_of_getElem? hi)
  have o3 : Only (fun k => k = b \/ k = g) W w3 := q3.trans (S' := fun _ => False) (Only.of_below hb) (fun i q => q.elim)
  have hbB : Below B W w3 := o3.below hB0 (by rintro k (rfl | rfl); exact h.leb; exact h.leg)
  have := putOn_any w3 B b g' (streamB L ((xs.take i).map Blk.p)) x.pv x.tv x.p (q1.same (hb.block b q1.lt) (hb.block g' q1.ltg)) (hk.below hbB) (ho.below hbB) (Nat.le_trans hB0 o3.size) (x2.ps x3 x4 o3) (x3.move x2.bp q2) (x4.move x2.bt q2) x1 (hL i hil)
  refine this.mono fun e w' z => ⟨z.1, ?_⟩
  rw [streamB_succ L xs i x hi]
  exact WStep.trans (q1.same (hb.block b q1.lt) (hb.block g' q1.ltg)) q2 o3 z.2
 clear h hk ho hB0 hr hst hx hL
 go_enter Tryz.func26, Tryz.ntmps26
 go_upto_region 1 with fail
 go_loopg [8] xs.length (fun kx s8 wr => ∃ (i : Nat), s8 = .int .i64 (i : Int) /\ i <= xs.length /\ xs.length - i <= kx /\ Aside (WStep W wr B b g (streamB L ((xs.take i).map Blk.p))))
 case atStart => exact ⟨0, rfl, Nat.zero_le _, Nat.le_refl _, HR0.out⟩
 case round =>
  clear HR0
  obtain ⟨i, rfl, hi, hkx, HR⟩ := hrel
  by_cases hlt : i < xs.length
  ·have hltz : (i : Int) < (xs.length : Int) := by omega
   have i0 : (0 : Int) <= (i : Int) := by omega
   have wi : IntKind.i64.wrap ((i : Int) + 1) = (i : Int) + 1 := by rw [IntKind.wrap_i64]; omega
   obtain ⟨a, rfl, c1, c2, c3, c4, c5, hC⟩ := HI.out wr i xs[i] HR.out (List.getElem?_eq_getElem hlt)
   generalize xs[i] = x at *
   obtain ⟨T3, hT3⟩ : ∃ T3, T3 = wr.heap.size := ⟨_, rfl⟩
   obtain ⟨w3, hw3⟩ : ∃ w3, w3 = wr.alloc (blkC x.pv x.tv x.p.last x.p.ways 0) := ⟨_, rfl⟩
   have hb3 : Below wr.heap.size wr w3 := by rw [hw3]; exact (Below.refl _ wr).alloc (Nat.le_refl _) _
   have g3 : w3.heap[T3]? = some (blkH x.pv x.tv x.p.last x.p.ways 0) := by rw [hw3, hT3]; exact heap_alloc_new _ _
   obtain ⟨k0, k1, k2, k3, k4⟩ := box_cells g3
   have HCC := Lib.hid (hC w3 hb3)
   clear hC hb3 g3
   unfold blkV at HCC
   unfold blkC at hw3
   unfold Blk.pv at HCC hw3 c1 k0
   unfold Blk.tv at HCC hw3 c2 k1
   go_upto_region 3 with fail
   rw [<- hw3, <- hT3]
   clear hw3 hT3 c1 c2 c3 c4 c5
   go_wp2_with (go_at_call 34; refine HCC.out.mono ?_; rintro e w4 ⟨rfl, y⟩; have HY := Lib.hid y; clear y)
   go_roundg (xs.length - (i + 1))
   case measure => omega
   case rel => exact ⟨i + 1, by go_num, by omega, Nat.le_refl _, HY.out⟩
  ·obtain rfl : i = xs.length := by omega
   have hltz : ¬ (xs.length : Int) < (xs.length : Int) := by omega
   rw [List.take_length] at HR
   go_wp2_with fail
   go_end0
   exact ⟨rfl, HR.out⟩
end Go.Proofs.YthmbbpfgbpacnaaGreatDoor.Def
