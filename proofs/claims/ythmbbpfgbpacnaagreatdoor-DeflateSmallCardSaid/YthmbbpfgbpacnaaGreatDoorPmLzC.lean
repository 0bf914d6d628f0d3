/- Package lz: stepsBack: how far ahead of each place the nearest one with the same three bytes stands: a map by arrays of three bytes. Package lz: stepsBack walked. -/
import Derived.Test.YthmbbpfgbpacnaaGreatDoorPmLzA
import Derived.Maps.Own
import Derived.Maps.OwnOps
import Derived.Maps.OwnSet
import Derived.DeepKeys4
import Derived.Test.YthmbbpfgbpacnaaGreatDoorPmSrtH
namespace Go.Proofs.YthmbbpfgbpacnaaGreatDoor.Lz
open Go.RowKit Go.Shelf Go.Lib Mem Huf
open Go.Maps
def kv3 (x y z : UInt8) : Value := .agg #[bV x, bV y, bV z]
def kl3 (x y z : UInt8) : Lit := .string (keyBytes [.int .u8 (x.toNat : Int), .int .u8 (y.toNat : Int), .int .u8 (z.toNat : Int)])
theorem lawA : Keyed Tryz.prog 157 := Keyed.of_law (deep_law_laid Cls.laidOut (m := 2) (by omega) (of_decide_eq_true (by kernel_rfl)) (by kernel_rfl) (by rw [Tryz.underlying157]))
theorem zero3E (w : World) : (zeroValue 3).run Tryz.prog w = .ok (.int .i64 0) w := by kernel_rfl
theorem one5 : Tryz.prog.cellsOf 5 = 1 := by kernel_rfl
theorem three88 : Tryz.prog.cellsOf 157 = 3 := by kernel_rfl
theorem wf8 (x : UInt8) : (Lit.int .u8 (x.toNat : Int)).wf = true := by
 have := x.toNat_lt
 simp [Lit.wf, IntKind.min, IntKind.max, IntKind.signed, IntKind.bits]
 omega
theorem key_of3 (x y z : UInt8) : keyOf Tryz.prog 157 (kv3 x y z) = some (kl3 x y z) := by
 have hkt : Tryz.prog.keyType 157 = true := by kernel_rfl
 have hsz : 0 < Tryz.prog.types.size := of_decide_eq_true (by kernel_rfl)
 obtain ⟨m, hm⟩ : ∃ m, Tryz.prog.types.size = m + 1 := ⟨Tryz.prog.types.size - 1, by omega⟩
 unfold keyOf kv3 kl3 bV
 simp only [Tryz.underlying157]
 rw [if_pos (by simp [hkt, Value.formed, Tryz.underlying157, three88]), hm]
 unfold Program.keyLits
 simp only [Tryz.underlying157, Value.cells]
 rw [if_pos (by rw [three88]; rfl)]
 simp [one5, Program.keyLits, Tryz.underlying5, wf8, List.range_succ]
theorem isKey3 (x y z : UInt8) : WideAt.IsKeyLit (kl3 x y z) := lawA.key (key_of3 x y z)
theorem kl3_inj {x y z a b c : UInt8} (h : kl3 x y z = kl3 a b c) : x = a /\ y = b /\ z = c := by
 have h1 := key_of3 x y z
 have h2 := key_of3 a b c
 rw [<- h] at h2
 have := lawA.inj h1 h2
 unfold kv3 bV at this
 simp only [Value.agg.injEq, List.cons.injEq, Array.mk.injEq, Value.int.injEq, true_and, and_true] at this
 exact ⟨u8_inj this.1, u8_inj this.2.1, u8_inj this.2.2⟩
structure MapIs (b : List UInt8) (i : Nat) (D : DataW Unit) : Prop where
 tidy : Tidy D
 tells : ∀ x y z, Maps.has D (kl3 x y z) = (lastAt b x y z i).isSome /\ D.atKey (kl3 x y z) (.lit (.int .i64 0)) = .lit (.int .i64 (((lastAt b x y z i).getD 0 : Nat) : Int))
theorem MapIs.start (b : List UInt8) : MapIs b 0 (.map []) := ⟨tidy_empty, fun _ _ _ => ⟨rfl, rfl⟩⟩
theorem MapIs.step {b : List UInt8} {i : Nat} {D : DataW Unit} (h : MapIs b i D) (hi : i + 2 < b.length) : MapIs b (i + 1) (D.put (kl3 b[i] b[i + 1] b[i + 2]) (.lit (.int .i64 (i : Int)))) := by
 have hk := isKey3 b[i] b[i + 1] b[i + 2]
 refine ⟨h.tidy.put hk _, fun x y z => ?_⟩
 by_cases hc : x = b[i] /\ y = b[i + 1] /\ z = b[i + 2]
 ·obtain ⟨rfl, rfl, rfl⟩ := hc
  have e : lastAt b b[i] b[i + 1] b[i + 2] (i + 1) = some i := by
   unfold lastAt
   rw [if_pos ⟨List.getElem?_eq_getElem _, List.getElem?_eq_getElem _, List.getElem?_eq_getElem _⟩]
  rw [e, has_put_same h.tidy.isMap hk, atKey_put_same h.tidy.isMap hk]
  exact ⟨rfl, rfl⟩
 ·have hne : kl3 x y z ≠ kl3 b[i] b[i + 1] b[i + 2] := fun e => hc (kl3_inj e)
  have e : lastAt b x y z (i + 1) = lastAt b x y z i := by
   rw [lastAt]
   rw [if_neg]
   rw [List.getElem?_eq_getElem (show i < b.length by omega), List.getElem?_eq_getElem (show i + 1 < b.length by omega), List.getElem?_eq_getElem hi]
   simp only [Option.some.injEq]
   exact fun ⟨h1, h2, h3⟩ => hc ⟨h1.symm, h2.symm, h3.symm⟩
  rw [e, has_put_other hne, atKey_put_other hne]
  exact h.tells x y z
def MapAt (W : World) (m : Nat) (b : List UInt8) (i : Nat) : Prop := ∃ D : DataW Unit, W.ownsMap Tryz.prog 157 (plainElem Tryz.prog 3) m i D /\ MapIs b i D
theorem MapAt.lt {W : World} {m i : Nat} {b : List UInt8} (h : MapAt W m b i) : m < W.heap.size := by obtain ⟨D, h1, _⟩ := h; exact h1.lt
theorem MapAt.same {W W' : World} {m i : Nat} {b : List UInt8} (h : MapAt W m b i) (he : W'.heap[m]? = W.heap[m]?) : MapAt W' m b i := by
 obtain ⟨D, ⟨es, clock, h1, h2⟩, h3⟩ := h
 exact ⟨D, ⟨es, clock, he.trans h1, h2⟩, h3⟩
theorem look3 {W : World} {m i : Nat} {b : List UInt8} (h : MapAt W m b i) (x y z : UInt8) :
  (Instr.lookup 156 (.map (some m)) (kv3 x y z) true).run Tryz.prog W = .ok (.tuple #[.int .i64 (((lastAt b x y z i).getD 0 : Nat) : Int), .bool (lastAt b x y z i).isSome]) W := by
 obtain ⟨D, h1, h2⟩ := h
 obtain ⟨v, ps, hr, hz⟩ := h1.look_ok lawA Tryz.underlying156 (zero3E W) (plainElem_int Tryz.underlying3 (by decide)) (key_of3 x y z)
 obtain ⟨t1, t2⟩ := h2.tells x y z
 rw [t1] at hr
 rw [t2] at hz
 obtain ⟨c, rfl, hc, -⟩ := plainElem_int_inv Tryz.underlying3 hz
 rw [hr]
 simp only [Prod.mk.injEq, DataW.lit.injEq, Lit.int.injEq] at hc
 rw [<- hc.1.2]
def stepsAt (b : List UInt8) (i : Nat) : List Int := (List.range b.length).map (fun p => if p < i then (bkN b p : Int) else 0)
def stepsL (b : List UInt8) : List Int := (List.range b.length).map (fun p => (bkN b p : Int))
theorem stepsAt_len (b : List UInt8) (i : Nat) : (stepsAt b i).length = b.length := by simp [stepsAt]
theorem stepsAt_zero (b : List UInt8) : stepsAt b 0 = List.replicate b.length 0 := by
 apply List.ext_getElem
 ·simp [stepsAt]
 ·intro j h1 h2; simp [stepsAt]
theorem stepsAt_all (b : List UInt8) (i : Nat) (hi : b.length <= i + 2) : stepsAt b i = stepsL b := by
 apply List.ext_getElem
 ·simp [stepsAt, stepsL]
 ·intro j h1 h2
  simp only [stepsAt, stepsL, List.getElem_map, List.getElem_range]
  split
  ·rfl
  ·rw [bkN_far (by omega)]; rfl
theorem stepsAt_set (b : List UInt8) (i : Nat) : (stepsAt b i).set i (bkN b i : Int) = stepsAt b (i + 1) := by
 apply List.ext_getElem
 ·simp [stepsAt]
 ·intro j h1 h2
  rw [List.getElem_set]
  simp only [stepsAt, List.getElem_map, List.getElem_range]
  split
  ·subst_vars; rw [if_pos (by omega)]
  ·rename_i hne
   by_cases hj : j < i
   ·rw [if_pos hj, if_pos (by omega)]
   ·rw [if_neg hj, if_neg (by omega)]
theorem stepsAt_keep (b : List UInt8) (i : Nat) (h : bkN b i = 0) : stepsAt b (i + 1) = stepsAt b i := by
 rw [<- stepsAt_set, h]
 apply List.ext_getElem
 ·simp
 ·intro j h1 h2
  rw [List.getElem_set]
  split
  ·subst_vars; simp [stepsAt]
  ·rfl
end Go.Proofs.YthmbbpfgbpacnaaGreatDoor.Lz
namespace Go.Proofs.YthmbbpfgbpacnaaGreatDoor.Lz
open Go.RowKit Go.Shelf Go.Lib Mem Huf
open Go.Maps
theorem bkN_of_some {b : List UInt8} {i r : Nat} (h : i + 2 < b.length) (hr : lastAt b b[i] b[i + 1] b[i + 2] i = some r) : bkN b i = i - r := by unfold bkN; rw [dif_pos h, hr]
theorem bkN_of_none {b : List UInt8} {i : Nat} (h : i + 2 < b.length) (hr : lastAt b b[i] b[i + 1] b[i + 2] i = none) : bkN b i = 0 := by unfold bkN; rw [dif_pos h, hr]
set_option maxHeartbeats 4000000 in
set_option maxRecDepth 100000 in
theorem steps_any (W : World) (x : Value) (b : List UInt8) (hx : Src W x b) (hn : b.length <= 1048576) :
  Calls Tryz.prog 75 #[x] W fun e w' => ∃ v, e = .returned v /\ w'.ownsRow W.heap.size 3 1 v b.length (iVs (stepsL b)) /\ Below W.heap.size W w' := by
 obtain ⟨ao, c, rfl, hao⟩ := src_shape hx
 have HX : Aside (Src W (.slice ao b.length c) b) := hx
 have HA : Aside (0 < b.length -> ∃ a, ao = some a) := hao
 have hmm := @run_makeMap Tryz.prog
 obtain ⟨v, W1, hr, ho, hb, g, rfl⟩ := makeI_any W b.length (by omega)
 have HO : Aside (W1.ownsRow W.heap.size 3 1 (.slice (some ⟨g, 0, none⟩) b.length b.length) b.length (iVs (stepsAt b 0)) /\ Below W.heap.size W W1) := by
  rw [stepsAt_zero]; exact ⟨ho, hb⟩
 obtain ⟨g', hg', hgb, hglt⟩ := own_block ho
 obtain rfl : g = g' := by cases hg'; rfl
 clear hx hao ho hb hg'
 have wz1 : IntKind.i64.wrap ((b.length : Int) - 3) = (b.length : Int) - 3 := by rw [IntKind.wrap_i64]; omega
 have wz2 : IntKind.i64.wrap ((b.length : Int) - 3 + 1) = (b.length : Int) - 3 + 1 := by rw [IntKind.wrap_i64]; omega
 go_enter Tryz.func75, Tryz.ntmps75
 go_upto_region 4 with fail
 obtain ⟨m, hm⟩ : ∃ m, m = W1.heap.size := ⟨_, rfl⟩
 have H0 : Aside ((W1.alloc (.map #[] 0)).ownsRow W.heap.size 3 1 (.slice (some ⟨g, 0, none⟩) b.length b.length) b.length (iVs (stepsAt b 0)) /\ MapAt (W1.alloc (.map #[] 0)) m b 0 /\ Below W.heap.size W (W1.alloc (.map #[] 0))) := by
  have hA := (Below.refl W1.heap.size W1).alloc (Nat.le_refl _) (.map #[] 0)
  refine ⟨own_below HO.out.1 hA, ?_, HO.out.2.trans (hA.mono HO.out.2.size)⟩
  rw [hm]
  exact ⟨_, World.ownsMap_made W1 _ _ _, MapIs.start b⟩
 have hgm : g ≠ m := by omega
 have hmW : W.heap.size <= m := by rw [hm]; exact HO.out.2.size
 rw [<- hm]
 obtain ⟨w2, hw2⟩ : ∃ w2, w2 = W1.alloc (.map #[] 0) := ⟨_, rfl⟩
 rw [<- hw2] at H0 ⊢
 clear hw2 hm hr hmm HO hglt
 go_loopg [17] b.length (fun kx s17 wr => ∃ (i : Nat), s17 = .int .i64 i /\ i <= b.length /\ b.length - i <= kx /\ Aside (wr.ownsRow W.heap.size 3 1 (.slice (some ⟨g, 0, none⟩) b.length b.length) b.length (iVs (stepsAt b i)) /\ MapAt wr m b i /\ Below W.heap.size W wr))
 case atStart => exact ⟨0, rfl, Nat.zero_le _, Nat.le_refl _, H0.out⟩
 case round =>
  clear H0
  obtain ⟨i, rfl, hi, hkx, HR⟩ := hrel
  by_cases hlt : i + 2 < b.length
  ·have hltz : (i : Int) < (b.length : Int) - 3 + 1 := by omega
   obtain ⟨p, rfl⟩ := HA.out (by omega)
   have i0 : (0 : Int) <= (i : Int) := by omega
   have l0 : (i : Int) < (b.length : Int) := by omega
   obtain ⟨h1, h2, h3⟩ := HR.out
   have hs := HX.out.below (h3.mono (Nat.le_refl _))
   obtain ⟨u, hu⟩ : ∃ u, u = b[i] := ⟨_, rfl⟩
   obtain ⟨v, hv⟩ : ∃ v, v = b[i + 1] := ⟨_, rfl⟩
   obtain ⟨z, hz⟩ : ∃ z, z = b[i + 2] := ⟨_, rfl⟩
   have c1 : wr.cell? (p.add i) = some (.int .u8 (u.toNat : Int)) := by rw [hu]; exact src_cell hs i (by omega)
   have c2 : wr.cell? (p.add (i + 1)) = some (.int .u8 (v.toNat : Int)) := by rw [hv]; exact src_cell hs (i + 1) (by omega)
   have c3 : wr.cell? (p.add (i + 2)) = some (.int .u8 (z.toNat : Int)) := by rw [hz]; exact src_cell hs (i + 2) (by omega)
   have HU : Aside (u = b[i] /\ v = b[i + 1] /\ z = b[i + 2]) := ⟨hu, hv, hz⟩
   obtain ⟨i1, hi1⟩ : ∃ i1, i1 = i + 1 := ⟨_, rfl⟩
   obtain ⟨i2, hi2⟩ : ∃ i2, i2 = i + 2 := ⟨_, rfl⟩
   rw [<- hi1] at c2
   rw [<- hi2] at c3
   have w1 : IntKind.i64.wrap ((i : Int) + 1) = (i1 : Int) := by rw [IntKind.wrap_i64]; omega
   have w2' : IntKind.i64.wrap ((i : Int) + 2) = (i2 : Int) := by rw [IntKind.wrap_i64]; omega
   have j1 : (0 : Int) <= (i1 : Int) := by omega
   have j2 : (0 : Int) <= (i2 : Int) := by omega
   have l1 : (i1 : Int) < (b.length : Int) := by omega
   have l2 : (i2 : Int) < (b.length : Int) := by omega
   have HI : Aside (i1 = i + 1 /\ i2 = i + 2) := ⟨hi1, hi2⟩
   clear hi1 hi2 hu hv hz
   have hbl : p.block < wr.heap.size := by have := block_lt_of_cell c1; rwa [Lib.block_add] at this
   have ca : ∀ o q, (wr.alloc o).cell? (p.add q) = wr.cell? (p.add q) := fun o q => ((Below.refl wr.heap.size wr).alloc (Nat.le_refl _) o).cell (by rw [Lib.block_add]; exact hbl)
   have d1 : ∀ o, (wr.alloc o).cell? (p.add i) = some (.int .u8 (u.toNat : Int)) := fun o => (ca o i).trans c1
   have d2 : ∀ o, (wr.alloc o).cell? (p.add i1) = some (.int .u8 (v.toNat : Int)) := fun o => (ca o i1).trans c2
   have d3 : ∀ o, (wr.alloc o).cell? (p.add i2) = some (.int .u8 (z.toNat : Int)) := fun o => (ca o i2).trans c3
   clear hs ca
   go_upto_region 6 with fail
   go_region
   obtain ⟨t, ht⟩ : ∃ t, t = wr.heap.size := ⟨_, rfl⟩
   obtain ⟨w5, hw5⟩ : ∃ w5, w5 = (wr.alloc (Obj.cells #[Value.int IntKind.u8 (u.toNat : Int), Value.int IntKind.u8 (v.toNat : Int), Value.int IntKind.u8 (z.toNat : Int)] 157)).drew := ⟨_, rfl⟩
   have hb5 : Below wr.heap.size wr w5 := by rw [hw5]; exact ((Below.refl wr.heap.size wr).alloc (Nat.le_refl _) _).trans ((Drew.drewN _ 1).below _)
   have ht5 : w5.heap[t]? = some (.cells #[Value.int IntKind.u8 (u.toNat : Int), Value.int IntKind.u8 (v.toNat : Int), Value.int IntKind.u8 (z.toNat : Int)] 157 (0, 0)) := by rw [hw5, ht]; exact heap_alloc_new _ _
   have e0 : w5.cell? ⟨t, 0, none⟩ = some (.int .u8 (u.toNat : Int)) := by rw [Lib.cell_of_heap ht5]; rfl
   have e1 : w5.cell? ⟨t, 1, none⟩ = some (.int .u8 (v.toNat : Int)) := by rw [Lib.cell_of_heap ht5]; rfl
   have e2 : w5.cell? ⟨t, 2, none⟩ = some (.int .u8 (z.toNat : Int)) := by rw [Lib.cell_of_heap ht5]; rfl
   have hmp := h2.same (hb5.block m h2.lt)
   have hown := own_below h1 hb5
   have hbW : Below W.heap.size W w5 := h3.trans (hb5.mono h3.size)
   have hgt : g ≠ t /\ m ≠ t := by
    have q1 := (h1.lt g rfl).2
    have q2 := h2.lt
    omega
   have hl3 := look3 hmp u v z
   unfold kv3 bV at hl3
   have HS : Aside (w5.ownsRow W.heap.size 3 1 (.slice (some ⟨g, 0, none⟩) b.length b.length) b.length (iVs (stepsAt b i)) /\ MapAt w5 m b i /\ Below W.heap.size W w5 /\ w5.heap[t]? = some (.cells #[Value.int IntKind.u8 (u.toNat : Int), Value.int IntKind.u8 (v.toNat : Int), Value.int IntKind.u8 (z.toNat : Int)] 157 (0, 0)) /\ g ≠ t /\ m ≠ t) := ⟨hown, hmp, hbW, ht5, hgt⟩
   rw [<- hw5, <- ht]
   clear hw5 ht d1 d2 d3 c1 c2 c3 h1 h2 h3 HR hb5 hbl hmp
   have wi : IntKind.i64.wrap ((i : Int) + 1) = (i : Int) + 1 := by rw [IntKind.wrap_i64]; omega
   have hkey := key_of3 u v z
   unfold kv3 bV at hkey
   have hn2 : i < maxLen := by unfold maxLen; omega
   have hwv : (Lit.int .i64 (i : Int)).wf = true := WalkArith.wf_i64 (by omega)
   have hpe : plainElem (H := Unit) Tryz.prog 3 (.int .i64 (i : Int)) = some (.lit (.int .i64 (i : Int)), []) := plainElem_int Tryz.underlying3 hwv
   have HBK : Aside ((∀ r, lastAt b u v z i = some r -> bkN b i = i - r) /\ (lastAt b u v z i = none -> bkN b i = 0)) := by
    refine ⟨fun r hr => ?_, fun hr => ?_⟩
    ·rw [HU.out.1, HU.out.2.1, HU.out.2.2] at hr
     exact bkN_of_some hlt hr
    ·rw [HU.out.1, HU.out.2.1, HU.out.2.2] at hr
     exact bkN_of_none hlt hr
   have fin : ∀ w6, Aside (w6.ownsRow W.heap.size 3 1 (.slice (some ⟨g, 0, none⟩) b.length b.length) b.length (iVs (stepsAt b (i + 1))) /\ MapAt w6 m b i /\ Below W.heap.size W w6) -> ∀ D, w6.ownsMap Tryz.prog 157 (plainElem Tryz.prog 3) m i D -> MapIs b i D -> ∀ w7, w7.ownsMap Tryz.prog 157 (plainElem Tryz.prog 3) m (i + 1) (D.put (kl3 u v z) (.lit (.int .i64 (i : Int)))) -> w6.grownBy w7 (some m) ->
     Aside (w7.ownsRow W.heap.size 3 1 (.slice (some ⟨g, 0, none⟩) b.length b.length) b.length (iVs (stepsAt b (i + 1))) /\ MapAt w7 m b (i + 1) /\ Below W.heap.size W w7) := fun w6 h6 D hD hI w7 h7 hg7 => by
    refine ⟨own_same h6.out.1 (fun k hk => ?_), ⟨_, h7, ?_⟩, h6.out.2.2.trans ⟨hg7.os, hg7.tape, hg7.output, hg7.size, fun k hk => hg7.block k (Nat.lt_of_lt_of_le hk h6.out.2.2.size) (fun e => ?_)⟩⟩
    ·obtain rfl : g = k := by simpa [Value.ownBlock] using hk
     exact hg7.block g (h6.out.1.lt g rfl).2 (by simpa using hgm)
    ·rw [HU.out.1, HU.out.2.1, HU.out.2.2]
     exact hI.step hlt
    ·have : k = m := by simpa using e
     omega
   have FIN := Lib.hid fin
   clear fin HU
   cases hla : lastAt b u v z i with
   | some r =>
    have hrb := (lastAt_some hla).1
    rw [hla] at hl3
    simp only [Option.getD_some, Option.isSome_some] at hl3
    have hbk2 : bkN b i = i - r := HBK.out.1 r hla
    have wd : IntKind.i64.wrap ((i : Int) - (r : Int)) = ((i - r : Nat) : Int) := by rw [IntKind.wrap_i64]; omega
    obtain ⟨q1, q2⟩ := own_cellI hown i (by rw [stepsAt_len]; omega)
    have hst := own_setI hown i ((i - r : Nat) : Int)
    rw [<- hbk2, stepsAt_set, hbk2] at hst
    have ho3 : Only (fun k => k = g) w5 (w5.setCell ⟨g, i, none⟩ (.int .i64 ((i - r : Nat) : Int))) := Only.setCell (S := fun k => k = g) rfl _ _
    have H6 : Aside ((w5.setCell ⟨g, i, none⟩ (.int .i64 ((i - r : Nat) : Int))).ownsRow W.heap.size 3 1 (.slice (some ⟨g, 0, none⟩) b.length b.length) b.length (iVs (stepsAt b (i + 1))) /\ MapAt (w5.setCell ⟨g, i, none⟩ (.int .i64 ((i - r : Nat) : Int))) m b i /\ Below W.heap.size W (w5.setCell ⟨g, i, none⟩ (.int .i64 ((i - r : Nat) : Int)))) :=
     ⟨hst, HS.out.2.1.same (ho3.block m HS.out.2.1.lt (fun e => hgm e.symm)), HS.out.2.2.1.trans (ho3.below HS.out.2.2.1.size (fun k hk => by omega))⟩
    have E : ∀ k : Nat, (w5.setCell ⟨g, i, none⟩ (.int .i64 ((i - r : Nat) : Int))).cell? ⟨t, k, none⟩ = w5.cell? ⟨t, k, none⟩ := fun k => cell_same (ho3.block t (Array.getElem?_eq_some_iff.1 HS.out.2.2.2.1).1 (fun e => HS.out.2.2.2.2.1 e.symm))
    have E0 := (E 0).trans e0
    have E1 := (E 1).trans e1
    have E2 := (E 2).trans e2
    obtain ⟨D, hD, hI⟩ := H6.out.2.1
    generalize i - r = dd at *
    clear HBK hbk2 hla hst ho3 hown hbW hgt
    go_upto_region 10 with fail
    clear e0 e1 e2 q1 q2 E hl3 wd HS ht5 HX HA
    obtain ⟨w6, hw6⟩ : ∃ w6, w6 = w5.setCell ⟨g, i, none⟩ (.int .i64 (dd : Int)) := ⟨_, rfl⟩
    rw [<- hw6] at H6 E0 E1 E2 hD ⊢
    clear hw6
    go_wp2_with (first
     | (at_mapUpdate; refine wpList_mapUpdate_own _ rfl _ _ _ 156 rfl 157 3 lawA Tryz.underlying156 _ m i D rfl hD hn2 _ _ (kl3 u v z) rfl rfl hkey _ [] hpe ?_; intro w7 h7 hg7; have HF7 := FIN.out w6 H6 D hD hI w7 h7 hg7)
     | go_in)
    go_roundg (b.length - (i + 1))
    case measure => omega
    case rel => exact ⟨i + 1, by go_num, by omega, Nat.le_refl _, HF7.out⟩
   | none =>
    rw [hla] at hl3
    simp only [Option.getD_none, Option.isSome_none] at hl3
    have H6 : Aside (w5.ownsRow W.heap.size 3 1 (.slice (some ⟨g, 0, none⟩) b.length b.length) b.length (iVs (stepsAt b (i + 1))) /\ MapAt w5 m b i /\ Below W.heap.size W w5) :=
     ⟨by rw [stepsAt_keep b i (HBK.out.2 hla)]; exact HS.out.1, HS.out.2.1, HS.out.2.2.1⟩
    obtain ⟨D, hD, hI⟩ := H6.out.2.1
    clear HBK hla hown hbW hgt
    go_upto_region 10 with fail
    clear hl3 HS ht5 HX HA
    go_wp2_with (first
     | (at_mapUpdate; refine wpList_mapUpdate_own _ rfl _ _ _ 156 rfl 157 3 lawA Tryz.underlying156 _ m i D rfl hD hn2 _ _ (kl3 u v z) rfl rfl hkey _ [] hpe ?_; intro w7 h7 hg7; have HF7 := FIN.out w5 H6 D hD hI w7 h7 hg7)
     | go_in)
    go_roundg (b.length - (i + 1))
    case measure => omega
    case rel => exact ⟨i + 1, by go_num, by omega, Nat.le_refl _, HF7.out⟩
  ·have hltz : ¬ (i : Int) < (b.length : Int) - 3 + 1 := by omega
   have HE : Aside (wr.ownsRow W.heap.size 3 1 (.slice (some ⟨g, 0, none⟩) b.length b.length) b.length (iVs (stepsL b)) /\ Below W.heap.size W wr) := by
    rw [<- stepsAt_all b i (by omega)]
    exact ⟨HR.out.1, HR.out.2.2⟩
   clear HR HX HA
   go_wp2_with fail
   go_ret
   exact ⟨_, rfl, HE.out⟩
end Go.Proofs.YthmbbpfgbpacnaaGreatDoor.Lz
