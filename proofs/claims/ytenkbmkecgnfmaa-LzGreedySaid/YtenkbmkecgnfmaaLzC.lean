/- Package lz: stepsBack: how far ahead of each place the nearest one with the same three bytes stands: a map by arrays of three bytes. -/
import Derived.Test.YtenkbmkecgnfmaaLzB
import Derived.Maps.Own
import Derived.Maps.OwnOps
import Derived.Maps.OwnSet
import Derived.DeepKeys4
import Derived.Test.YtenkbmkecgnfmaaClose
namespace Go.Proofs.Ytenkbmkecgnfmaa.Lz
open Go.RowKit Go.Shelf Go.Lib Go.Proofs.Ytenkbmkecgnfmaa.Mem Go.Proofs.Ytenkbmkecgnfmaa.Huf
open Go.Maps

def kv3 (x y z : UInt8) : Value := .agg #[bV x, bV y, bV z]
def kl3 (x y z : UInt8) : Lit := .string (keyBytes [.int .u8 (x.toNat : Int), .int .u8 (y.toNat : Int), .int .u8 (z.toNat : Int)])
theorem lawA : Keyed Try.prog 88 := Keyed.of_law (deep_law_laid Cls.laidOut (m := 2) (by omega) (of_decide_eq_true (by kernel_rfl)) (by kernel_rfl) (by rw [Try.underlying88]))
theorem zero3E (w : World) : (zeroValue 3).run Try.prog w = .ok (.int .i64 0) w := by kernel_rfl
theorem one5 : Try.prog.cellsOf 5 = 1 := by kernel_rfl
theorem three88 : Try.prog.cellsOf 88 = 3 := by kernel_rfl
theorem wf8 (x : UInt8) : (Lit.int .u8 (x.toNat : Int)).wf = true := by
  have := x.toNat_lt
  simp [Lit.wf, IntKind.min, IntKind.max, IntKind.signed, IntKind.bits]
  omega
theorem key_of3 (x y z : UInt8) : keyOf Try.prog 88 (kv3 x y z) = some (kl3 x y z) := by
  have hkt : Try.prog.keyType 88 = true := by kernel_rfl
  have hsz : 0 < Try.prog.types.size := of_decide_eq_true (by kernel_rfl)
  obtain ⟨m, hm⟩ : ∃ m, Try.prog.types.size = m + 1 := ⟨Try.prog.types.size - 1, by omega⟩
  unfold keyOf kv3 kl3 bV
  simp only [Try.underlying88]
  rw [if_pos (by simp [hkt, Value.formed, Try.underlying88, three88]), hm]
  unfold Program.keyLits
  simp only [Try.underlying88, Value.cells]
  rw [if_pos (by rw [three88]; rfl)]
  simp [one5, Program.keyLits, Try.underlying5, wf8, List.range_succ]
theorem isKey3 (x y z : UInt8) : WideAt.IsKeyLit (kl3 x y z) := lawA.key (key_of3 x y z)
theorem kl3_inj {x y z a b c : UInt8} (h : kl3 x y z = kl3 a b c) : x = a ∧ y = b ∧ z = c := by
  have h1 := key_of3 x y z
  have h2 := key_of3 a b c
  rw [← h] at h2
  have := lawA.inj h1 h2
  unfold kv3 bV at this
  simp only [Value.agg.injEq, List.cons.injEq, Array.mk.injEq, Value.int.injEq, true_and, and_true] at this
  exact ⟨u8_inj this.1, u8_inj this.2.1, u8_inj this.2.2⟩

/-- The map D tells the last place ahead of i for each three bytes. -/
structure MapIs (b : List UInt8) (i : Nat) (D : DataW Unit) : Prop where
  tidy : Tidy D
  tells : ∀ x y z, Maps.has D (kl3 x y z) = (lastAt b x y z i).isSome ∧ D.atKey (kl3 x y z) (.lit (.int .i64 0)) = .lit (.int .i64 (((lastAt b x y z i).getD 0 : Nat) : Int))
theorem MapIs.start (b : List UInt8) : MapIs b 0 (.map []) := ⟨tidy_empty, fun _ _ _ => ⟨rfl, rfl⟩⟩
theorem MapIs.step {b : List UInt8} {i : Nat} {D : DataW Unit} (h : MapIs b i D) (hi : i + 2 < b.length) : MapIs b (i + 1) (D.put (kl3 b[i] b[i + 1] b[i + 2]) (.lit (.int .i64 (i : Int)))) := by
  have hk := isKey3 b[i] b[i + 1] b[i + 2]
  refine ⟨h.tidy.put hk _, fun x y z => ?_⟩
  by_cases hc : x = b[i] ∧ y = b[i + 1] ∧ z = b[i + 2]
  · obtain ⟨rfl, rfl, rfl⟩ := hc
    have e : lastAt b b[i] b[i + 1] b[i + 2] (i + 1) = some i := by
      unfold lastAt
      rw [if_pos ⟨List.getElem?_eq_getElem _, List.getElem?_eq_getElem _, List.getElem?_eq_getElem _⟩]
    rw [e, has_put_same h.tidy.isMap hk, atKey_put_same h.tidy.isMap hk]
    exact ⟨rfl, rfl⟩
  · have hne : kl3 x y z ≠ kl3 b[i] b[i + 1] b[i + 2] := fun e => hc (kl3_inj e)
    have e : lastAt b x y z (i + 1) = lastAt b x y z i := by
      rw [lastAt]
      rw [if_neg]
      rw [List.getElem?_eq_getElem (show i < b.length by omega), List.getElem?_eq_getElem (show i + 1 < b.length by omega), List.getElem?_eq_getElem hi]
      simp only [Option.some.injEq]
      exact fun ⟨h1, h2, h3⟩ => hc ⟨h1.symm, h2.symm, h3.symm⟩
    rw [e, has_put_other hne, atKey_put_other hne]
    exact h.tells x y z

def MapAt (W : World) (m : Nat) (b : List UInt8) (i : Nat) : Prop := ∃ D : DataW Unit, W.ownsMap Try.prog 88 (plainElem Try.prog 3) m i D ∧ MapIs b i D
theorem MapAt.lt {W : World} {m i : Nat} {b : List UInt8} (h : MapAt W m b i) : m < W.heap.size := by obtain ⟨D, h1, _⟩ := h; exact h1.lt
theorem MapAt.same {W W' : World} {m i : Nat} {b : List UInt8} (h : MapAt W m b i) (he : W'.heap[m]? = W.heap[m]?) : MapAt W' m b i := by
  obtain ⟨D, ⟨es, clock, h1, h2⟩, h3⟩ := h
  exact ⟨D, ⟨es, clock, he.trans h1, h2⟩, h3⟩
theorem look3 {W : World} {m i : Nat} {b : List UInt8} (h : MapAt W m b i) (x y z : UInt8) :
    (Instr.lookup 87 (.map (some m)) (kv3 x y z) true).run Try.prog W = .ok (.tuple #[.int .i64 (((lastAt b x y z i).getD 0 : Nat) : Int), .bool (lastAt b x y z i).isSome]) W := by
  obtain ⟨D, h1, h2⟩ := h
  obtain ⟨v, ps, hr, hz⟩ := h1.look_ok lawA Try.underlying87 (zero3E W) (plainElem_int Try.underlying3 (by decide)) (key_of3 x y z)
  obtain ⟨t1, t2⟩ := h2.tells x y z
  rw [t1] at hr
  rw [t2] at hz
  obtain ⟨c, rfl, hc, -⟩ := plainElem_int_inv Try.underlying3 hz
  rw [hr]
  simp only [Prod.mk.injEq, DataW.lit.injEq, Lit.int.injEq] at hc
  rw [← hc.1.2]
def stepsAt (b : List UInt8) (i : Nat) : List Int := (List.range b.length).map (fun p => if p < i then (bkN b p : Int) else 0)
def stepsL (b : List UInt8) : List Int := (List.range b.length).map (fun p => (bkN b p : Int))
theorem stepsAt_len (b : List UInt8) (i : Nat) : (stepsAt b i).length = b.length := by simp [stepsAt]
theorem stepsAt_zero (b : List UInt8) : stepsAt b 0 = List.replicate b.length 0 := by
  apply List.ext_getElem
  · simp [stepsAt]
  · intro j h1 h2; simp [stepsAt]
theorem stepsAt_all (b : List UInt8) (i : Nat) (hi : b.length ≤ i + 2) : stepsAt b i = stepsL b := by
  apply List.ext_getElem
  · simp [stepsAt, stepsL]
  · intro j h1 h2
    simp only [stepsAt, stepsL, List.getElem_map, List.getElem_range]
    split
    · rfl
    · rw [bkN_far (by omega)]; rfl
theorem stepsAt_set (b : List UInt8) (i : Nat) : (stepsAt b i).set i (bkN b i : Int) = stepsAt b (i + 1) := by
  apply List.ext_getElem
  · simp [stepsAt]
  · intro j h1 h2
    rw [List.getElem_set]
    simp only [stepsAt, List.getElem_map, List.getElem_range]
    split
    · subst_vars; rw [if_pos (by omega)]
    · rename_i hne
      by_cases hj : j < i
      · rw [if_pos hj, if_pos (by omega)]
      · rw [if_neg hj, if_neg (by omega)]
theorem stepsAt_keep (b : List UInt8) (i : Nat) (h : bkN b i = 0) : stepsAt b (i + 1) = stepsAt b i := by
  rw [← stepsAt_set, h]
  apply List.ext_getElem
  · simp
  · intro j h1 h2
    rw [List.getElem_set]
    split
    · subst_vars; simp [stepsAt]
    · rfl
end Go.Proofs.Ytenkbmkecgnfmaa.Lz
