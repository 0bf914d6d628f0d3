/- Package deflate: Deflate. Package deflate: what was written is read back: stored blocks, lengths that are told (no program). Package deflate: a block's own lengths are read back (no program). -/
import Derived.Test.YthmbbpfgbpacnaaDoorPkDefZb
import Derived.Test.YthmbbpfgbpacnaaDoorPkDefZf
import Derived.Test.YthmbbpfgbpacnaaDoorPkDefY
import Derived.Test.YthmbbpfgbpacnaaDoorPkInfO
import Derived.Test.YthmbbpfgbpacnaaDoorPkInfF
namespace Go.Proofs.YthmbbpfgbpacnaaDoor.Def
open Go.RowKit Go.Shelf Go.Lib Go.Proofs.YthmbbpfgbpacnaaDoor.Mem Go.Proofs.YthmbbpfgbpacnaaDoor.Bit Go.Proofs.YthmbbpfgbpacnaaDoor.Huf Go.Proofs.YthmbbpfgbpacnaaDoor.Lz Go.Proofs.YthmbbpfgbpacnaaDoor.Inf

theorem blocksOf_any (W : World) (ao : Option Addr) (c : Nat) (b : List UInt8) (lv : Nat) (last : Bool) (hs : Mem.Src W (.slice ao b.length c) b) (hc : b.length ≤ c) (hb : b.length ≤ 524288) (hl : lv ≤ 9) (hbk : ∀ a, ao = some a → a.block < W.heap.size) :
    Calls Tryd.prog 16 #[.slice ao b.length c, .int .i64 (lv : Int), .bool last] W fun e w' => ∃ lo lc xs W1, e = .returned (.slice lo xs.length lc) ∧ xs.map Blk.p = blocksD b lv (if last then 1 else 0) ∧ w'.ownsRow W1.heap.size 41 5 (.slice lo xs.length lc) xs.length (bksCells xs) ∧ Below W.heap.size W W1 ∧ Below W1.heap.size W1 w' ∧ (∀ x ∈ xs, Listed W W1 ao x) := by
  unfold blocksD
  by_cases h0 : lv = 0
  · subst h0
    rw [if_pos rfl]
    by_cases hD : (piecesD b 0).length = 0
    · exact blocks_0e W ao c b last hs hc hb hbk hD
    · exact blocks_0n W ao c b last hs hc hb hbk (by omega)
  · rw [if_neg h0]
    by_cases hD : (piecesD b lv).length = 0
    · exact blocks_1e W ao c b lv last hs hc hb hl hbk h0 hD
    · exact blocks_1n W ao c b lv last hs hc hb hl hbk h0 (by omega)
theorem blocksD_chain (b : List UInt8) (lv last : Nat) (hb : b.length ≤ 1048576) (hl : lv ≤ 9) (hla : last < 2) : Chain ((1048576 : Nat) : Int) (blocksD b lv last) [] ∧ ((blocksD b lv last).map PB.b).flatten = b := by
  unfold blocksD
  exact blocksF_chain hla (by split <;> omega) (by split <;> omega) _ _ b [] (by omega) (by rw [List.nil_append]; exact piecesD_exp b lv hb hl) (fun e => by rw [e]; exact piecesD_lit b)
theorem blocksD_size (b : List UInt8) (lv last : Nat) (L : List Bool) (hb : b.length ≤ 1048576) (hl : lv ≤ 9) : ∀ i, i < (blocksD b lv last).length → (streamB L ((blocksD b lv last).take i)).length ≤ L.length + 9 * b.length := by
  unfold blocksD
  exact blocksF_size (M := ((1048576 : Nat) : Int)) _ _ b [] L (by omega) (by rw [List.nil_append]; exact piecesD_exp b lv hb hl) (fun e => by rw [e]; exact piecesD_lit b)
theorem blocksF_len (lv ways last : Nat) : ∀ (f : Nat) (ps : List Pc) (b : List UInt8), (blocksF lv ways last f ps b).length ≤ f
  | 0, _, _ => Nat.le_refl _
  | f + 1, ps, b => by
    have := blocksF_len lv ways last f (ps.drop (fillF lv ps 0 0).1) (b.drop (fillF lv ps 0 0).2)
    rw [blocksF_succ]
    split
    · rw [List.length_cons]; omega
    · rw [List.length_singleton]; omega
theorem chain_ok {M : Int} : ∀ (xs : List PB) (out : List UInt8), Chain M xs out → ∀ x ∈ xs, x.ok
  | [], _, _, x, hx => by cases hx
  | y :: xs, out, h, x, hx => by
    rcases List.mem_cons.1 hx with rfl | hx
    · exact h.2.1
    · exact chain_ok xs _ h.2.2 x hx
theorem streamB_end (xs : List PB) (hn : 0 < xs.length) : ∃ ys x, xs = ys ++ [x] ∧ ∀ L, streamB L xs = blk1 (streamB L (xs.take (xs.length - 1))) x := by
  rcases List.eq_nil_or_concat xs with h | ⟨ys, x, h⟩
  · rw [h] at hn; cases hn
  · rw [List.concat_eq_append] at h
    refine ⟨ys, x, h, fun L => ?_⟩
    subst h
    rw [List.length_append, List.length_singleton, Nat.add_sub_cancel, List.take_left]
    unfold streamB
    rw [List.foldl_append]
    rfl
theorem blocksD_bits (b : List UInt8) (lv last : Nat) (L : List Bool) (hb : b.length ≤ 524288) (hl : lv ≤ 9) (hla : last < 2) : (streamB L (blocksD b lv last)).length ≤ L.length + 5250000 := by
  by_cases h0 : (blocksD b lv last).length = 0
  · rw [List.length_eq_zero_iff] at h0
    rw [h0]
    show L.length ≤ _
    omega
  · have h1 := blocksD_size b lv last L (by omega) hl ((blocksD b lv last).length - 1) (by omega)
    obtain ⟨ys, x, e, h2⟩ := streamB_end (blocksD b lv last) (by omega)
    have hx := (chain_ok _ _ (blocksD_chain b lv last (by omega) hl hla).1 x (by rw [e]; simp)).t
    rw [h2]
    have := blk1_len (streamB L ((blocksD b lv last).take ((blocksD b lv last).length - 1))) x
    omega
/-- The blocks of a text, put on a writer. -/
theorem text_put (W w2 W0 W1 : World) (B g : Nat) (L : List Bool) (ao lo : Option Addr) (lc : Nat) (b : List UInt8) (lv last : Nat) (xs : List Blk) (hb : b.length ≤ 524288) (hl : lv ≤ 9) (hla : last < 2) (hw : WB W0 B W.heap.size g L) (hk : Masks W0 B) (ho : DOrd W0 B) (hB0 : B ≤ W.heap.size) (hao : ∀ a, ao = some a → a.block < W.heap.size) (hL : L.length ≤ 64)
    (h1 : xs.map Blk.p = blocksD b lv last) (h2 : w2.ownsRow W1.heap.size 41 5 (.slice lo xs.length lc) xs.length (bksCells xs)) (h3 : Below W0.heap.size W0 W1) (h4 : Below W1.heap.size W1 w2) (h5 : ∀ x ∈ xs, Listed W0 W1 ao x) (hg : W.heap.size ≤ g) :
    Calls Tryd.prog 11 #[.pointer (some ⟨W.heap.size, 0, none⟩), .slice lo xs.length lc] w2 fun e w' => e = .returned (.tuple #[]) ∧ WStep w2 w' B W.heap.size g (streamB L (blocksD b lv last)) := by
  have hlt := hw.lt
  have hgt := hw.ltg
  have b2 : Below W0.heap.size W0 w2 := h3.trans (h4.mono h3.size)
  have hs1 := h3.size
  have hs2 := h4.size
  have hch := (blocksD_chain b lv last (by omega) hl hla).1
  have hsz := blocksD_size b lv last L (by omega) hl
  have hln : xs.length = (blocksD b lv last).length := by rw [← h1, List.length_map]
  have hlo : ∀ a, lo = some a → W1.heap.size ≤ a.block := fun a e => by
    subst e
    obtain ⟨g', rfl, g1, g2⟩ := own_block h2
    exact g1
  have hbl : xs.length ≤ 1048576 := by
    have h6 := blocksF_len lv (if lv = 0 then 1 else 3) last ((piecesD b lv).length + 2) (piecesD b lv) b
    have h7 := exp_len _ _ _ _ (piecesD_exp b lv (by omega) hl)
    have h8 := sumP_ge (piecesD b lv)
    rw [List.length_nil] at h7
    have h9 : (blocksD b lv last).length ≤ (piecesD b lv).length + 2 := h6
    omega
  rw [← h1]
  refine putBlocks_any w2 B W.heap.size g L lo lc xs (hw.same (b2.block _ hlt) (b2.block _ hgt)) (hk.below (b2.mono (by omega))) (ho.below (b2.mono (by omega))) (by omega) (bks_own h2) (fun a e => by have := hlo a e; omega) (fun x hx => ?_) (fun i hi => ?_) hbl
  · obtain ⟨q1, q2, q3⟩ := h5 x hx
    refine ⟨chain_ok _ _ hch x.p (by rw [← h1]; exact List.mem_map_of_mem hx), q1.below h4, fun a n c e => ?_, fun a n c e => ?_⟩
    · unfold Blk.pv at e
      simp only [Value.slice.injEq] at e
      have := q2 a e.1
      exact ⟨by show ¬ a.block = W.heap.size; omega, by omega⟩
    · unfold Blk.tv at e
      simp only [Value.slice.injEq] at e
      obtain ⟨a0, e0, eb⟩ := q3 a e.1
      have := hao a0 e0
      exact ⟨by show ¬ a.block = W.heap.size; omega, by omega⟩
  · have := hsz i (by omega)
    rw [← h1, ← List.map_take] at this
    omega
/-- What Deflate answers. -/
def deflB (b : List UInt8) (lv : Nat) : List UInt8 := pk (streamB [] (blocksD b lv 1))

set_option maxRecDepth 100000 in
set_option maxHeartbeats 4000000 in
theorem deflate_ok (W : World) (B : Nat) (ao : Option Addr) (c : Nat) (b : List UInt8) (lv : Nat) (hs : Mem.Src W (.slice ao b.length c) b) (hc : b.length ≤ c) (hb : b.length ≤ 524288) (hl : lv ≤ 9) (hbk : ∀ a, ao = some a → a.block < W.heap.size) (hk : Masks W B) (ho : DOrd W B) (hB0 : B ≤ W.heap.size) :
    Calls Tryd.prog 15 #[.slice ao b.length c, .int .i64 (lv : Int)] W fun e w' => ∃ v, e = .returned (.tuple #[v, .int .i64 0]) ∧ w'.ownsRow W.heap.size 5 1 v (deflB b lv).length (bVs (deflB b lv)) ∧ Below W.heap.size W w' := by
  have HM := Lib.hid (mayBe_any (lv : Int) W)
  rw [decide_eq_true (show 0 ≤ (lv : Int) ∧ (lv : Int) ≤ 9 by omega)] at HM
  have HN := Lib.hid (newWriter_any W B hB0)
  have HBO : Aside (∀ w1, Below W.heap.size W w1 → Calls Tryd.prog 16 #[.slice ao b.length c, .int .i64 (lv : Int), .bool true] w1 fun e w' => ∃ lo lc xs W1, e = .returned (.slice lo xs.length lc) ∧ xs.map Blk.p = blocksD b lv 1 ∧ w'.ownsRow W1.heap.size 41 5 (.slice lo xs.length lc) xs.length (bksCells xs) ∧ Below w1.heap.size w1 W1 ∧ Below W1.heap.size W1 w' ∧ (∀ x ∈ xs, Listed w1 W1 ao x)) :=
    fun w1 h1 => blocksOf_any w1 ao c b lv true (hs.below h1) hc hb hl (fun a e => Nat.lt_of_lt_of_le (hbk a e) h1.size)
  have HPB : Aside (∀ w1 w2 W1 lo lc xs, WB w1 B W.heap.size W.heap.size [] → Below W.heap.size W w1 → xs.map Blk.p = blocksD b lv 1 → w2.ownsRow W1.heap.size 41 5 (.slice lo xs.length lc) xs.length (bksCells xs) → Below w1.heap.size w1 W1 → Below W1.heap.size W1 w2 → (∀ x ∈ xs, Listed w1 W1 ao x) →
      Calls Tryd.prog 11 #[.pointer (some ⟨W.heap.size, 0, none⟩), .slice lo xs.length lc] w2 fun e w' => e = .returned (.tuple #[]) ∧ WStep w2 w' B W.heap.size W.heap.size (streamB [] (blocksD b lv 1))) :=
    fun w1 w2 W1 lo lc xs q1 q2 q3 q4 q5 q6 q7 => text_put W w2 w1 W1 B W.heap.size [] ao lo lc b lv 1 xs hb hl (by decide) q1 (hk.below (q2.mono hB0)) (ho.below (q2.mono hB0)) hB0 hbk (by decide) q3 q4 q5 q6 q7 (Nat.le_refl _)
  have hbits := blocksD_bits b lv 1 [] hb hl (by decide)
  have HBY : Aside (∀ w2 w3, Below W.heap.size W w2 → WStep w2 w3 B W.heap.size W.heap.size (streamB [] (blocksD b lv 1)) → Calls Tryd.prog 14 #[.pointer (some ⟨W.heap.size, 0, none⟩)] w3 fun e w' => ∃ v, e = .returned v ∧ w'.ownsRow W.heap.size 5 1 v (deflB b lv).length (bVs (deflB b lv)) ∧ Below W.heap.size W w') := fun w2 w3 q1 q2 => by
    obtain ⟨g', y1, y2, y3⟩ := q2
    have hs2 := q1.size
    have b3 : Below W.heap.size W w3 := q1.trans (y3.below hs2 (by rintro i (rfl | rfl) <;> exact Nat.le_refl _))
    have h := bytes_any w3 B W.heap.size g' _ y1 (by rw [List.length_nil] at hbits; omega)
    refine h.mono ?_
    rintro e w' ⟨v, rfl, z1, z2⟩
    exact ⟨v, rfl, ownsRow_mono z1 b3.size, b3.trans (z2.mono b3.size)⟩
  have HBB : Aside (∀ w1 W1 w2, Below W.heap.size W w1 → Below w1.heap.size w1 W1 → Below W1.heap.size W1 w2 → Below W.heap.size W w2) := fun w1 W1 w2 h1 h2 h3 => (h1.trans (h2.mono h1.size)).trans (h3.mono (Nat.le_trans h1.size h2.size))
  have hbz : ¬ (b.length : Int) > 524288 := by omega
  clear hs hc hl hbk hk ho hB0 hbits
  generalize deflB b lv = out at *
  go_enter Tryd.func15, Tryd.ntmps15
  go_upto_region 6 with (first
    | (go_at_call 24; refine HM.out.mono ?_; rintro e w1 ⟨rfl, rfl⟩)
    | (go_at_call 10; refine HN.out.mono ?_; rintro e w1 ⟨rfl, q1, q2⟩; have HW1 := Lib.hid (And.intro q1 q2); clear q1 q2))
  have HBO1 := Lib.hid (HBO.out w1 HW1.out.2)
  go_upto_region 7 with (first
    | (go_at_call 16; refine HBO1.out.mono ?_; rintro e w2 ⟨lo, lc, xs, W1, rfl, q3, q4, q5, q6, q7⟩; have HPB1 := Lib.hid (HPB.out w1 w2 W1 lo lc xs HW1.out.1 HW1.out.2 q3 q4 q5 q6 q7); have HB2 := Lib.hid (HBB.out w1 W1 w2 HW1.out.2 q5 q6); clear q3 q4 q5 q6 q7)
    | (go_at_call 11; refine HPB1.out.mono ?_; rintro e w3 ⟨rfl, q8⟩; have HBY1 := Lib.hid (HBY.out w2 w3 HB2.out q8); clear q8))
  go_wp2_with (go_at_call 14; refine HBY1.out.mono ?_; rintro e w4 ⟨v, rfl, z1, z2⟩; have HE := Lib.hid (And.intro z1 z2); clear z1 z2)
  go_ret2
  exact ⟨_, rfl, HE.out.1, HE.out.2⟩

end Go.Proofs.YthmbbpfgbpacnaaDoor.Def
namespace Go.Proofs.YthmbbpfgbpacnaaDoor.Def
open Go.RowKit Go.Shelf Go.Lib Go.Proofs.YthmbbpfgbpacnaaDoor.Mem Go.Proofs.YthmbbpfgbpacnaaDoor.Bit Go.Proofs.YthmbbpfgbpacnaaDoor.Huf Go.Proofs.YthmbbpfgbpacnaaDoor.Lz Go.Proofs.YthmbbpfgbpacnaaDoor.Inf

/-! Codes of a row, and of its beginning with zeros behind. -/
theorem sumN_zeros {f : Nat → Nat} (n : Nat) : ∀ m, (∀ j, n ≤ j → j < n + m → f j = 0) → sumN f (n + m) = sumN f n
  | 0, _ => rfl
  | m + 1, h => by
    have := sumN_zeros n m (fun j h1 h2 => h j h1 (by omega))
    show sumN f (n + m) + f (n + m) = _
    rw [this, h (n + m) (by omega) (by omega)]
    rfl
/-- A row's beginning: behind it are zeros. -/
structure Cut (l l' : List Int) : Prop where
  le : l'.length ≤ l.length
  at_ : ∀ j, j < l'.length → numAt l' j = numAt l j
  z : ∀ j, l'.length ≤ j → numAt l j = 0
theorem Cut.len {l l' : List Int} (h : Cut l l') (j : Nat) : lenN l' j = lenN l j := by
  unfold lenN
  rcases Nat.lt_or_ge j l'.length with q | q
  · rw [h.at_ j q]
  · rw [h.z j q, numAt_out l' j q]
theorem Cut.acc {l l' : List Int} (h : Cut l l') (n i : Nat) : accAt (lenN l) l.length n i = accAt (lenN l') l'.length n i := by
  unfold accAt
  obtain ⟨m, hm⟩ : ∃ m, l.length = l'.length + m := ⟨l.length - l'.length, by have := h.le; omega⟩
  rw [hm, sumN_zeros]
  · exact sumN_eq _ fun j hj => by rw [h.len]
  · intro j h1 _
    have : lenN l j = 0 := by unfold lenN; rw [h.z j h1]; rfl
    rw [this]
    split <;> rfl
theorem Cut.weight {l l' : List Int} (h : Cut l l') : weightN (lenN l') l'.length = weightN (lenN l) l.length := by
  unfold weightN
  obtain ⟨m, hm⟩ : ∃ m, l.length = l'.length + m := ⟨l.length - l'.length, by have := h.le; omega⟩
  rw [hm, sumN_zeros]
  · exact sumN_eq _ fun j hj => by rw [h.len]
  · intro j h1 _
    have : lenN l j = 0 := by unfold lenN; rw [h.z j h1]; rfl
    rw [this]
    rfl
theorem Cut.code {l l' : List Int} (h : Cut l l') (s : Nat) : codeL l' s = codeL l s := by
  unfold codeL codeN
  rw [h.len, h.acc]
theorem Cut.sym {l l' : List Int} (h : Cut l l') (s : Nat) : symB l' s = symB l s := by
  unfold symB
  rw [h.len, h.code]
theorem Cut.pc {l l' d d' : List Int} (h : Cut l l') (k : Cut d d') (p : Pc) : pcB l' d' p = pcB l d p := by
  unfold pcB
  simp only [h.sym, k.sym]
theorem Cut.known {l l' : List Int} (h : Cut l l') {s : Nat} (k : Known l s) : Known l' s := by
  refine ⟨?_, by rw [h.len]; exact k.2⟩
  rcases Nat.lt_or_ge s l'.length with q | q
  · exact q
  · have := k.2
    unfold lenN at this
    rw [h.z s q] at this
    exact absurd rfl this
theorem Cut.pcK {l l' d d' : List Int} (h : Cut l l') (k : Cut d d') {p : Pc} (q : pcK l d p) : pcK l' d' p := by
  unfold Inf.pcK at q ⊢
  split at q
  · rename_i e; rw [if_pos e]; exact h.known q
  · rename_i e; rw [if_neg e]; exact ⟨h.known q.1, k.known q.2⟩
end Go.Proofs.YthmbbpfgbpacnaaDoor.Def
namespace Go.Proofs.YthmbbpfgbpacnaaDoor.Def
open Go.RowKit Go.Shelf Go.Lib Go.Proofs.YthmbbpfgbpacnaaDoor.Mem Go.Proofs.YthmbbpfgbpacnaaDoor.Bit Go.Proofs.YthmbbpfgbpacnaaDoor.Huf Go.Proofs.YthmbbpfgbpacnaaDoor.Lz Go.Proofs.YthmbbpfgbpacnaaDoor.Inf

/-! The lengths of the symbols of runs, in their order. -/
end Go.Proofs.YthmbbpfgbpacnaaDoor.Def
