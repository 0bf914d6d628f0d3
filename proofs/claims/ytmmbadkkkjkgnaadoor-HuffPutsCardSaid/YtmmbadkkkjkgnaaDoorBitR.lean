/- The document's writer of bits (one in each byte): a byte more, numbers, Align. -/
import Derived.Test.YtmmbadkkkjkgnaaDoorBitK
import Derived.Deep.LoopGhost
namespace Go.Proofs.YtmmbadkkkjkgnaaDoor.Bit
open Go.RowKit Go.Shelf Go.Proofs.YtmmbadkkkjkgnaaDoor.Mem

def bitV (x : Bool) : UInt8 := if x then 1 else 0
def bitsV (l : List Bool) : List UInt8 := l.map bitV
theorem bitsV_len (l : List Bool) : (bitsV l).length = l.length := List.length_map ..
theorem bitsV_app (l m : List Bool) : bitsV (l ++ m) = bitsV l ++ bitsV m := List.map_append

/-- Block c is the document's writer that holds the bits l, in the row k (c itself, where it has none). -/
def RW (W : World) (B c k : Nat) (l : List Bool) : Prop :=
  ∃ v, W.heap[c]? = some (.cells #[v] 48 (0, 0)) ∧ W.ownsRow B 5 1 v l.length (bVs (bitsV l)) ∧ (v.ownBlock = none ∧ k = c ∨ v.ownBlock = some k ∧ k ≠ c) ∧ B ≤ c
section
variable {W W' : World} {B c k : Nat} {l : List Bool}
theorem RW.lt (h : RW W B c k l) : c < W.heap.size := by obtain ⟨v, hc, _⟩ := h; exact (Array.getElem?_eq_some_iff.1 hc).1
theorem RW.ltk (h : RW W B c k l) : k < W.heap.size := by
  obtain ⟨v, hc, ho, ⟨_, rfl⟩ | ⟨hk, _⟩, _⟩ := h
  · exact (Array.getElem?_eq_some_iff.1 hc).1
  · exact (ho.lt k hk).2
theorem RW.lek (h : RW W B c k l) : B ≤ k := by
  obtain ⟨v, hc, ho, ⟨_, rfl⟩ | ⟨hk, _⟩, hb⟩ := h
  · exact hb
  · exact (ho.lt k hk).1
theorem RW.lec (h : RW W B c k l) : B ≤ c := by obtain ⟨v, hc, ho, _, hb⟩ := h; exact hb
theorem RW.same (h : RW W B c k l) (hc : W'.heap[c]? = W.heap[c]?) (hk : W'.heap[k]? = W.heap[k]?) : RW W' B c k l := by
  obtain ⟨v, q, ho, hv, hB⟩ := h
  refine ⟨v, hc.trans q, own_same ho fun j e => ?_, hv, hB⟩
  rcases hv with ⟨hn, _⟩ | ⟨hs, _⟩
  · rw [e] at hn; cases hn
  · rw [e] at hs
    obtain rfl : j = k := by simpa using hs
    exact hk
theorem RW.below (h : RW W B c k l) (hb : Below W.heap.size W W') : RW W' B c k l := h.same (hb.block c h.lt) (hb.block k h.ltk)
theorem RW.drew (h : RW W B c k l) (d : Drew W W') : RW W' B c k l := h.same (by rw [d.heap]) (by rw [d.heap])
theorem RW.only {S : Nat → Prop} (h : RW W B c k l) (o : Only S W W') (hb : ¬ S c) (hg : ¬ S k) : RW W' B c k l := h.same (o.block c h.lt hb) (o.block k h.ltk hg)
end

/-- What a call on the document's writer leaves: it may have got another row. -/
def RStep (W W' : World) (B c k : Nat) (l' : List Bool) : Prop := ∃ k', RW W' B c k' l' ∧ (k' = k ∨ W.heap.size ≤ k') ∧ Only (fun j => j = c ∨ j = k) W W'
theorem RStep.refl {W : World} {B c k : Nat} {l : List Bool} (h : RW W B c k l) : RStep W W B c k l := ⟨k, h, .inl rfl, Only.refl _ _⟩
theorem RStep.trans {U V W : World} {B c k k' : Nat} {l m : List Bool} (h1 : RW V B c k' l) (h2 : k' = k ∨ U.heap.size ≤ k') (h3 : Only (fun j => j = c ∨ j = k) U V) (h : RStep V W B c k' m) : RStep U W B c k m := by
  obtain ⟨g2, q1, q2, q3⟩ := h
  refine ⟨g2, q1, ?_, h3.trans q3 ?_⟩
  · rcases q2 with rfl | q2
    · exact h2
    · exact .inr (Nat.le_trans h3.size q2)
  · rintro i (rfl | rfl)
    · exact .inl (.inl rfl)
    · rcases h2 with rfl | h2
      · exact .inl (.inr rfl)
      · exact .inr h2

/-- One bit more, appended as a byte and stored. -/
theorem app_bit (W : World) (B c k : Nat) (l : List Bool) (x : Bool) (h : RW W B c k l) (hl : l.length ≤ 8388608) :
    ∃ ao cap ao1 cap1 W1, W.cell? ⟨c, 0, none⟩ = some (.slice ao l.length cap) ∧ (Builtin.append_ #[23, 23] 23 #[.slice ao l.length cap, .slice (some ⟨W.heap.size, 0, none⟩) 1 1]).run Tryd.prog (W.alloc (.cells #[.int .u8 x.toNat] 5)) = .ok (.slice ao1 (l.length + 1) cap1) W1 ∧
      W1.frozen? ⟨c, 0, none⟩ = false ∧ W1.cell? ⟨c, 0, none⟩ = some (.slice ao l.length cap) ∧ RStep W (W1.setCell ⟨c, 0, none⟩ (.slice ao1 (l.length + 1) cap1)) B c k (l ++ [x]) := by
  have hcW := h.lt
  have hBW : B ≤ W.heap.size := Nat.le_trans h.lec (Nat.le_of_lt hcW)
  obtain ⟨v, hc, ho, hv, hB⟩ := h
  obtain ⟨ao, cap, rfl, -, -, -⟩ := own_shape ho
  have hA := (Below.refl W.heap.size W).alloc (Nat.le_refl _) (.cells #[.int .u8 x.toNat] 5)
  have hsrc : Src (W.alloc (.cells #[.int .u8 x.toNat] 5)) (.slice (some ⟨W.heap.size, 0, none⟩) 1 1) [bitV x] := .inr ⟨⟨W.heap.size, 0, none⟩, 1, rfl, fun j v hj => by
    rw [Lib.addr_add, cell_of_row _ _ _ _ _ (0, 0) (heap_alloc_new _ _)]
    rcases j with _ | j
    · cases x <;> simpa [bVs, bV, bitV] using hj
    · simp [bVs] at hj⟩
  have hoA : (W.alloc (.cells #[.int .u8 x.toNat] 5)).ownsRow B 5 1 (.slice ao l.length cap) (bitsV l).length (bVs (bitsV l)) := by rw [bitsV_len]; exact own_below ho hA
  obtain ⟨v1, W1, hr1, ho1, hg1, hn1⟩ := app_any (W.alloc (.cells #[.int .u8 x.toNat] 5)) B _ _ 23 (bitsV l) [bitV x] hoA (Nat.le_trans hBW hA.size) hsrc (by rw [bitsV_len]; simp; omega)
  have hbk : (Value.slice ao l.length cap).ownBlock ≠ some c := by
    rcases hv with ⟨hv, rfl⟩ | ⟨hv, hne⟩
    · rw [hv]; exact fun e => by cases e
    · rw [hv]; exact fun e => hne (by simpa using e)
  have hcb : W1.heap[c]? = some (.cells #[.slice ao l.length cap] 48 (0, 0)) := (hg1.block c (Nat.lt_of_lt_of_le hcW hA.size) (fun e => hbk e.symm)).trans ((hA.block c hcW).trans hc)
  have hS1 : Only (fun j => j = c ∨ j = k) W W1 := (Only.of_below hA (S := fun j => j = c ∨ j = k)).trans (S' := fun j => j = k) (only_grown hg1 (fun j hj => by
    rcases hv with ⟨hv, rfl⟩ | ⟨hv, hne⟩
    · rw [hv] at hj; cases hj
    · rw [hv] at hj; simpa using hj.symm)) (fun i q => .inl (.inr q))
  have hln : (bitsV l ++ [bitV x]).length = l.length + 1 := by rw [List.length_append, bitsV_len]; rfl
  obtain ⟨ao1, cap1, rfl, -, -, hnone1⟩ := own_shape ho1
  rw [hln] at hr1 ho1 hn1 hnone1
  cases ao1 with
  | none => have := (hnone1 rfl).1; omega
  | some a1 =>
    obtain ⟨g1, rfl, hgB1, hgl1⟩ := own_block ho1
    have hg1c : g1 ≠ c := by
      rcases hn1 with q | q
      · intro e; subst e; exact hbk (q.symm.trans rfl)
      · have := q g1 rfl
        have := hA.size
        omega
    have hgg : g1 = k ∨ W.heap.size ≤ g1 := by
      rcases hn1 with q | q
      · rcases hv with ⟨hv, _⟩ | ⟨hv, _⟩
        · rw [hv] at q; cases q
        · rw [hv] at q; exact .inl (by simpa [Value.ownBlock] using q)
      · have := q g1 rfl
        have := hA.size
        exact .inr (by omega)
    refine ⟨ao, cap, some ⟨g1, 0, none⟩, cap1, W1, by rw [Lib.cell_of_heap hc]; rfl, hr1, Lib.frozen_of_heap hcb 0, by rw [Lib.cell_of_heap hcb]; rfl, g1, ⟨.slice (some ⟨g1, 0, none⟩) (l.length + 1) cap1, ?_, ?_, .inr ⟨rfl, hg1c⟩, hB⟩, hgg, hS1.trans (S' := fun j => j = c) (Only.setCell (S := fun j => j = c) rfl _ _) (fun i q => .inl (.inl q))⟩
    · exact (Lib.heap_setCell_same (i := 0) hcb _).trans rfl
    · rw [List.length_append, bitsV_app]
      refine own_same ho1 (fun j hj => ?_)
      obtain rfl : g1 = j := by simpa [Value.ownBlock] using hj
      exact Below.heap_setCell _ _ _ _ hg1c

set_option maxHeartbeats 1000000 in
theorem refPut_bad (W : World) (c : Nat) (n x : Int) (hb : ¬ okPut n x) :
    Calls Tryd.prog 35 #[.pointer (some ⟨c, 0, none⟩), .int .i64 n, .int .i64 x] W fun e w' => e = .returned (.int .i64 1) ∧ W = w' := by
  rcases (by omega : x < 0 ∨ 32 < x ∨ (0 ≤ x ∧ x ≤ 32)) with h | h | ⟨h0, h1⟩
  · clear hb
    go_enter Tryd.func35, Tryd.ntmps35
    go_wp2
    go_ret
    exact ⟨rfl, rfl⟩
  · have h' : ¬ x < 0 := by omega
    clear hb
    go_enter Tryd.func35, Tryd.ntmps35
    go_wp2
    go_ret
    exact ⟨rfl, rfl⟩
  · obtain ⟨m, rfl⟩ := Int.eq_ofNat_of_zero_le h0
    by_cases hn : n < 0
    · clear hb
      go_enter Tryd.func35, Tryd.ntmps35
      go_wp2
      go_ret
      exact ⟨rfl, rfl⟩
    · have hge : (2 : Int) ^ m ≤ n := by
        rcases (by omega : (2 : Int) ^ m ≤ n ∨ n < 2 ^ m) with h | h
        · exact h
        · exact absurd ⟨h0, h1, by omega, by simpa using h⟩ hb
      have hp1 := two_pos m
      have hp2 : (2 : Int) ^ m ≤ 4294967296 := by
        have h1 := Int.ofNat_le.2 (Nat.pow_le_pow_right (n := 2) (by decide) (show m ≤ 32 by omega))
        rw [Int.natCast_pow, Int.natCast_pow] at h1
        exact h1
      clear hb
      go_enter Tryd.func35, Tryd.ntmps35
      go_wp2
      go_ret
      exact ⟨rfl, rfl⟩

theorem pow_fit (m : Nat) (hm : m ≤ 32) : (0 : Int) < 2 ^ m ∧ (2 : Int) ^ m ≤ 4294967296 := by
  have h1 := Int.ofNat_le.2 (Nat.pow_le_pow_right (n := 2) (by decide) hm)
  rw [Int.natCast_pow, Int.natCast_pow] at h1
  exact ⟨two_pos m, h1⟩

set_option maxHeartbeats 1000000 in
theorem refPut_size (W : World) (B c k m : Nat) (n : Int) (l : List Bool) (h : RW W B c k l) (hl : l.length ≤ 8388608) (hm : m ≤ 32) (h0 : 0 ≤ n) (h1 : n < 2 ^ m) (hs : 8388608 < l.length + m) :
    Calls Tryd.prog 35 #[.pointer (some ⟨c, 0, none⟩), .int .i64 n, .int .i64 m] W fun e w' => e = .returned (.int .i64 6) ∧ W = w' := by
  obtain ⟨v, hc, ho, -⟩ := h
  obtain ⟨ao, cap, rfl, -, -, -⟩ := own_shape ho
  have c0 : W.cell? ⟨c, 0, none⟩ = some (.slice ao l.length cap) := by rw [Lib.cell_of_heap hc]; rfl
  have hgt : 8388608 - (l.length : Int) < (m : Int) := by omega
  obtain ⟨hp1, hp2⟩ := pow_fit m hm
  have h1' : ¬ (2 : Int) ^ m ≤ n := by omega
  have h0' : ¬ n < 0 := by omega
  clear hc ho h1 h0
  go_enter Tryd.func35, Tryd.ntmps35
  go_wp2
  go_ret
  exact ⟨rfl, rfl⟩

set_option maxHeartbeats 2000000 in
theorem refPut_ok (W : World) (B c k m : Nat) (n : Int) (l : List Bool) (h : RW W B c k l) (hm : m ≤ 32) (h0 : 0 ≤ n) (h1 : n < 2 ^ m) (hs : l.length + m ≤ 8388608) :
    Calls Tryd.prog 35 #[.pointer (some ⟨c, 0, none⟩), .int .i64 n, .int .i64 m] W fun e w' => e = .returned (.int .i64 0) ∧ RStep W w' B c k (l ++ bitsOf n m) := by
  have H := Lib.hid h
  obtain ⟨v, hc, ho, -⟩ := h
  obtain ⟨ao, cap, rfl, -, -, -⟩ := own_shape ho
  have c0 : W.cell? ⟨c, 0, none⟩ = some (.slice ao l.length cap) := by rw [Lib.cell_of_heap hc]; rfl
  have hgt : ¬ 8388608 - (l.length : Int) < (m : Int) := by omega
  obtain ⟨hp1, hp2⟩ := pow_fit m hm
  have h1' : ¬ (2 : Int) ^ m ≤ n := by omega
  have h0' : ¬ n < 0 := by omega
  have ha := fun y : Int => i64_and1 y
  clear hc ho h1 h0
  go_enter Tryd.func35, Tryd.ntmps35
  go_wp2
  clear c0
  go_loopw [7] (fun i wr => ∃ j : Nat, j ≤ m ∧ i = .int .i64 j ∧ RStep W wr B c k (l ++ bitsOf n j)) (fun i _ => m - (intOf i).toNat)
  case atStart => exact ⟨0, Nat.zero_le _, rfl, by simpa [bitsOf] using RStep.refl H.out⟩
  case round =>
    obtain ⟨j, hj, rfl, hW⟩ := hrel
    by_cases hlt : j < m
    · obtain ⟨k', q1, q2, q3⟩ := hW
      obtain ⟨x, hx, hx2⟩ := bit_val n j
      have HX := Lib.hid hx2
      obtain ⟨ao2, cap2, ao1, cap1, W1, d0, hr1, f0, d1, hst⟩ := app_bit wr B c k' _ x q1 (by rw [List.length_append, bitsOf_len]; omega)
      have HE := Lib.hid (RStep.trans q1 q2 q3 hst)
      clear q1 q2 q3 hx2 hst
      have hll : (l ++ bitsOf n j).length = l.length + j := by rw [List.length_append, bitsOf_len]
      rw [hll] at d0 hr1 d1 HE
      have hj64 : (j : Int) ≤ 64 := by omega
      have hxb : (x.toNat : Int) ≤ 255 := by cases x <;> decide
      go_wp2_with (at_builtin; refine wpList_append_at _ rfl _ _ _ _ rfl _ _ rfl rfl _ _ hr1 ?_)
      go_roundw
      case rel => exact ⟨j + 1, by omega, by go_num, by rw [bitsOf_succ, HX.out, ← List.append_assoc]; exact HE.out⟩
      case measure => simp [intOf]; omega
    · obtain rfl : j = m := by omega
      have HW := Lib.hid hW
      clear hW
      go_wp2
      go_ret
      exact ⟨rfl, HW.out⟩

end Go.Proofs.YtmmbadkkkjkgnaaDoor.Bit
