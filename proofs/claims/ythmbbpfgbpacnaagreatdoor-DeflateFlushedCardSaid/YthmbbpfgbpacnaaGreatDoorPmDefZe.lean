/- Package deflate: Deflate. Package deflate: what was written is read back: stored blocks, lengths that are told (no program). Package deflate: a block's own lengths are read back (no program). -/
import Derived.Test.YthmbbpfgbpacnaaGreatDoorPmDefZb
import Derived.Test.YthmbbpfgbpacnaaGreatDoorPmDefZf
import Derived.Test.YthmbbpfgbpacnaaGreatDoorPmDefY
import Derived.Test.YthmbbpfgbpacnaaGreatDoorPmInfO
import Derived.Test.YthmbbpfgbpacnaaGreatDoorPmInfF
namespace Go.Proofs.YthmbbpfgbpacnaaGreatDoor.Def
open Go.RowKit Go.Shelf Go.Lib Mem Bit Huf Lz Inf
theorem blocksOf_any (W : World) (ao : Option Addr) (c : Nat) (b : List UInt8) (lv : Nat) (last : Bool) (hs : Mem.Src W (.slice ao b.length c) b) (hc : b.length <= c) (hb : b.length <= 524288) (hl : lv <= 9) (hbk : ∀ a, ao = some a -> a.block < W.heap.size) :
  Calls Tryz.prog 27 #[.slice ao b.length c, .int .i64 (lv : Int), .bool last] W fun e w' => ∃ lo lc xs W1, e = .returned (.slice lo xs.length lc) /\ xs.map Blk.p = blocksD b lv (if last then 1 else 0) /\ w'.ownsRow W1.heap.size 79 5 (.slice lo xs.length lc) xs.length (bksCells xs) /\ Below W.heap.size W W1 /\ Below W1.heap.size W1 w' /\ (∀ x ∈ xs, Listed W W1 ao x) := by
 unfold blocksD
 by_cases h0 : lv = 0
 ·subst h0
  rw [if_pos rfl]
  by_cases hD : (piecesD b 0).length = 0
  ·exact blocks_0e W ao c b last hs hc hb hbk hD
  ·exact blocks_0n W ao c b last hs hc hb hbk (by omega)
 ·rw [if_neg h0]
  by_cases hD : (piecesD b lv).length = 0
  ·exact blocks_1e W ao c b lv last hs hc hb hl hbk h0 hD
  ·exact blocks_1n W ao c b lv last hs hc hb hl hbk h0 (by omega)
theorem blocksD_chain (b : List UInt8) (lv last : Nat) (hb : b.length <= 1048576) (hl : lv <= 9) (hla : last < 2) : Chain ((1048576 : Nat) : Int) (blocksD b lv last) [] /\ ((blocksD b lv last).map PB.b).flatten = b := by
 unfold blocksD
 exact blocksF_chain hla (by split <;> omega) (by split <;> omega) _ _ b [] (by omega) (by rw [List.nil_append]; exact piecesD_exp b lv hb hl) (fun e => by rw [e]; exact piecesD_lit b)
theorem blocksD_size (b : List UInt8) (lv last : Nat) (L : List Bool) (hb : b.length <= 1048576) (hl : lv <= 9) : ∀ i, i < (blocksD b lv last).length -> (streamB L ((blocksD b lv last).take i)).length <= L.length + 9 * b.length := by
 unfold blocksD
 exact blocksF_size (M := ((1048576 : Nat) : Int)) _ _ b [] L (by omega) (by rw [List.nil_append]; exact piecesD_exp b lv hb hl) (fun e => by rw [e]; exact piecesD_lit b)
theorem blocksF_len (lv ways last : Nat) : ∀ (f : Nat) (ps : List Pc) (b : List UInt8), (blocksF lv ways last f ps b).length <= f
 | 0, _, _ => Nat.le_refl _
 | f + 1, ps, b => by
  have := blocksF_len lv ways last f (ps.drop (fillF lv ps 0 0).1) (b.drop (fillF lv ps 0 0).2)
  rw [blocksF_succ]
  split
  ·rw [List.length_cons]; omega
  ·rw [List.length_singleton]; omega
theorem chain_ok {M : Int} : ∀ (xs : List PB) (out : List UInt8), Chain M xs out -> ∀ x ∈ xs, x.ok
 | [], _, _, x, hx => by cases hx
 | y :: xs, out, h, x, hx => by
  rcases List.mem_cons.1 hx with rfl | hx
  ·exact h.2.1
  ·exact chain_ok xs _ h.2.2 x hx
theorem streamB_end (xs : List PB) (hn : 0 < xs.length) : ∃ ys x, xs = ys ++ [x] /\ ∀ L, streamB L xs = blk1 (streamB L (xs.take (xs.length - 1))) x := by
 rcases List.eq_nil_or_concat xs with h | ⟨ys, x, h⟩
 ·rw [h] at hn; cases hn
 ·rw [List.concat_eq_append] at h
  refine ⟨ys, x, h, fun L => ?_⟩
  subst h
  rw [List.length_append, List.length_singleton, Nat.add_sub_cancel, List.take_left]
  unfold streamB
  rw [List.foldl_append]
  rfl
theorem blocksD_bits (b : List UInt8) (lv last : Nat) (L : List Bool) (hb : b.length <= 524288) (hl : lv <= 9) (hla : last < 2) : (streamB L (blocksD b lv last)).length <= L.length + 5250000 := by
 by_cases h0 : (blocksD b lv last).length = 0
 ·rw [List.length_eq_zero_iff] at h0
  rw [h0]
  show L.length <= _
  omega
 ·have h1 := blocksD_size b lv last L (by omega) hl ((blocksD b lv last).length - 1) (by omega)
  obtain ⟨ys, x, e, h2⟩ := streamB_end (blocksD b lv last) (by omega)
  have hx := (chain_ok _ _ (blocksD_chain b lv last (by omega) hl hla).1 x (by rw [e]; simp)).t
  rw [h2]
  have := blk1_len (streamB L ((blocksD b lv last).take ((blocksD b lv last).length - 1))) x
  omega
theorem text_put (W w2 W0 W1 : World) (B g : Nat) (L : List Bool) (ao lo : Option Addr) (lc : Nat) (b : List UInt8) (lv last : Nat) (xs : List Blk) (hb : b.length <= 524288) (hl : lv <= 9) (hla : last < 2) (hw : WB W0 B W.heap.size g L) (hk : Masks W0 B) (ho : DOrd W0 B) (hB0 : B <= W.heap.size) (hao : ∀ a, ao = some a -> a.block < W.heap.size) (hL : L.length <= 64)
  (h1 : xs.map Blk.p = blocksD b lv last) (h2 : w2.ownsRow W1.heap.size 79 5 (.slice lo xs.length lc) xs.length (bksCells xs)) (h3 : Below W0.heap.size W0 W1) (h4 : Below W1.heap.size W1 w2) (h5 : ∀ x ∈ xs, Listed W0 W1 ao x) (hg : W.heap.size <= g) :
  Calls Tryz.prog 26 #[.pointer (some ⟨W.heap.size, 0, none⟩), .slice lo xs.length lc] w2 fun e w' => e = .returned (.tuple #[]) /\ WStep w2 w' B W.heap.size g (streamB L (blocksD b lv last)) := by
 have hlt := hw.lt
 have hgt := hw.ltg
 have b2 : Below W0.heap.size W0 w2 := h3.trans (h4.mono h3.size)
 have hs1 := h3.size
 have hs2 := h4.size
 have hch := (blocksD_chain b lv last (by omega) hl hla).1
 have hsz := blocksD_size b lv last L (by omega) hl
 have hln : xs.length = (blocksD b lv last).length := by rw [<- h1, List.length_map]
 have hlo : ∀ a, lo = some a -> W1.heap.size <= a.block := fun a e => by
  subst e
  obtain ⟨g', rfl, g1, g2⟩ := own_block h2
  exact g1
 have hbl : xs.length <= 1048576 := by
  have h6 := blocksF_len lv (if lv = 0 then 1 else 3) last ((piecesD b lv).length + 2) (piecesD b lv) b
  have h7 := exp_len _ _ _ _ (piecesD_exp b lv (by omega) hl)
  have h8 := sumP_ge (piecesD b lv)
  rw [List.length_nil] at h7
  have h9 : (blocksD b lv last).length <= (piecesD b lv).length + 2 := h6
  omega
 rw [<- h1]
 refine putBlocks_any w2 B W.heap.size g L lo lc xs (hw.same (b2.block _ hlt) (b2.block _ hgt)) (hk.below (b2.mono (by omega))) (ho.below (b2.mono (by omega))) (by omega) (bks_own h2) (fun a e => by have := hlo a e; omega) (fun x hx => ?_) (fun i hi => ?_) hbl
 ·obtain ⟨q1, q2, q3⟩ := h5 x hx
  refine ⟨chain_ok _ _ hch x.p (by rw [<- h1]; exact List.mem_map_of_mem hx), q1.below h4, fun a n c e => ?_, fun a n c e => ?_⟩
  ·unfold Blk.pv at e
   simp only [Value.slice.injEq] at e
   have := q2 a e.1
   exact ⟨by show ¬ a.block = W.heap.size; omega, by omega⟩
  ·unfold Blk.tv at e
   simp only [Value.slice.injEq] at e
   obtain ⟨a0, e0, eb⟩ := q3 a e.1
   have := hao a0 e0
   exact ⟨by show ¬ a.block = W.heap.size; omega, by omega⟩
 ·have := hsz i (by omega)
  rw [<- h1, <- List.map_take] at this
  omega
def deflB (b : List UInt8) (lv : Nat) : List UInt8 := pk (streamB [] (blocksD b lv 1))
set_option maxRecDepth 100000 in
set_option maxHeartbeats 4000000 in
theorem deflate_ok (W : World) (B : Nat) (ao : Option Addr) (c : Nat) (b : List UInt8) (lv : Nat) (hs : Mem.Src W (.slice ao b.length c) b) (hc : b.length <= c) (hb : b.length <= 524288) (hl : lv <= 9) (hbk : ∀ a, ao = some a -> a.block < W.heap.size) (hk : Masks W B) (ho : DOrd W B) (hB0 : B <= W.heap.size) :
  Calls Tryz.prog 9 #[.slice ao b.length c, .int .i64 (lv : Int)] W fun e w' => ∃ v, e = .returned (.tuple #[v, .int .i64 0]) /\ w'.ownsRow W.heap.size 5 1 v (deflB b lv).length (bVs (deflB b lv)) /\ Below W.heap.size W w' := by
 have HM := Lib.hid (mayBe_any (lv : Int) W)
 rw [decide_eq_true (show 0 <= (lv : Int) /\ (lv : Int) <= 9 by omega)] at HM
 have HN := Lib.hid (newWriter_any W B hB0)
 have HBO : Aside (∀ w1, Below W.heap.size W w1 -> Calls Tryz.prog 27 #[.slice ao b.length c, .int .i64 (lv : Int), .bool true] w1 fun e w' => ∃ lo lc xs W1, e = .returned (.slice lo xs.length lc) /\ xs.map Blk.p = blocksD b lv 1 /\ w'.ownsRow W1.heap.size 79 5 (.slice lo xs.length lc) xs.length (bksCells xs) /\ Below w1.heap.size w1 W1 /\ Below W1.heap.size W1 w' /\ (∀ x ∈ xs, Listed w1 W1 ao x)) :=
  fun w1 h1 => blocksOf_any w1 ao c b lv true (hs.below h1) hc hb hl (fun a e => Nat.lt_of_lt_of_le (hbk a e) h1.size)
 have HPB : Aside (∀ w1 w2 W1 lo lc xs, WB w1 B W.heap.size W.heap.size [] -> Below W.heap.size W w1 -> xs.map Blk.p = blocksD b lv 1 -> w2.ownsRow W1.heap.size 79 5 (.slice lo xs.length lc) xs.length (bksCells xs) -> Below w1.heap.size w1 W1 -> Below W1.heap.size W1 w2 -> (∀ x ∈ xs, Listed w1 W1 ao x) ->
   Calls Tryz.prog 26 #[.pointer (some ⟨W.heap.size, 0, none⟩), .slice lo xs.length lc] w2 fun e w' => e = .returned (.tuple #[]) /\ WStep w2 w' B W.heap.size W.heap.size (streamB [] (blocksD b lv 1))) :=
  fun w1 w2 W1 lo lc xs q1 q2 q3 q4 q5 q6 q7 => text_put W w2 w1 W1 B W.heap.size [] ao lo lc b lv 1 xs hb hl (by decide) q1 (hk.below (q2.mono hB0)) (ho.below (q2.mono hB0)) hB0 hbk (by decide) q3 q4 q5 q6 q7 (Nat.le_refl _)
 have hbits := blocksD_bits b lv 1 [] hb hl (by decide)
 have HBY : Aside (∀ w2 w3, Below W.heap.size W w2 -> WStep w2 w3 B W.heap.size W.heap.size (streamB [] (blocksD b lv 1)) -> Calls Tryz.prog 28 #[.pointer (some ⟨W.heap.size, 0, none⟩)] w3 fun e w' => ∃ v, e = .returned v /\ w'.ownsRow W.heap.size 5 1 v (deflB b lv).length (bVs (deflB b lv)) /\ Below W.heap.size W w') := fun w2 w3 q1 q2 => by
  obtain ⟨g', y1, y2, y3⟩ := q2
  have hs2 := q1.size
  have b3 : Below W.heap.size W w3 := q1.trans (y3.below hs2 (by rintro i (rfl | rfl) <;> exact Nat.le_refl _))
  have h := bytes_any w3 B W.heap.size g' _ y1 (by rw [List.length_nil] at hbits; omega)
  refine h.mono ?_
  rintro e w' ⟨v, rfl, z1, z2⟩
  exact ⟨v, rfl, ownsRow_mono z1 b3.size, b3.trans (z2.mono b3.size)⟩
 have HBB : Aside (∀ w1 W1 w2, Below W.heap.size W w1 -> Below w1.heap.size w1 W1 -> Below W1.heap.size W1 w2 -> Below W.heap.size W w2) := fun w1 W1 w2 h1 h2 h3 => (h1.trans (h2.mono h1.size)).trans (h3.mono (Nat.le_trans h1.size h2.size))
 have hbz : ¬ (b.length : Int) > 524288 := by omega
 clear hs hc hl hbk hk ho hB0 hbits
 generalize deflB b lv = out at *
 go_enter Tryz.func9, Tryz.ntmps9
 go_upto_region 6 with (first
  | (go_at_call 24; refine HM.out.mono ?_; rintro e w1 ⟨rfl, rfl⟩)
  | (go_at_call 25; refine HN.out.mono ?_; rintro e w1 ⟨rfl, q1, q2⟩; have HW1 := Lib.hid (And.intro q1 q2); clear q1 q2))
 have HBO1 := Lib.hid (HBO.out w1 HW1.out.2)
 go_upto_region 7 with (first
  | (go_at_call 27; refine HBO1.out.mono ?_; rintro e w2 ⟨lo, lc, xs, W1, rfl, q3, q4, q5, q6, q7⟩; have HPB1 := Lib.hid (HPB.out w1 w2 W1 lo lc xs HW1.out.1 HW1.out.2 q3 q4 q5 q6 q7); have HB2 := Lib.hid (HBB.out w1 W1 w2 HW1.out.2 q5 q6); clear q3 q4 q5 q6 q7)
  | (go_at_call 26; refine HPB1.out.mono ?_; rintro e w3 ⟨rfl, q8⟩; have HBY1 := Lib.hid (HBY.out w2 w3 HB2.out q8); clear q8))
 go_wp2_with (go_at_call 28; refine HBY1.out.mono ?_; rintro e w4 ⟨v, rfl, z1, z2⟩; have HE := Lib.hid (And.intro z1 z2); clear z1 z2)
 go_ret2
 exact ⟨_, rfl, HE.out.1, HE.out.2⟩
set_option maxHeartbeats 1000000 in
theorem deflate_arg (W : World) (v : Value) (lv : Int) (h : ¬ (0 <= lv /\ lv <= 9)) : Calls Tryz.prog 9 #[v, .int .i64 lv] W fun e w' => e = .returned (.tuple #[.slice none 0 0, .int .i64 1]) /\ W = w' := by
 have HM := Lib.hid (mayBe_any lv W)
 rw [decide_eq_false h] at HM
 go_enter Tryz.func9, Tryz.ntmps9
 go_wp2_with (go_at_call 24; refine HM.out.mono ?_; rintro e w1 ⟨rfl, rfl⟩)
 go_ret2
 exact ⟨rfl, rfl⟩
set_option maxHeartbeats 1000000 in
theorem deflate_size (W : World) (ao : Option Addr) (n c : Nat) (lv : Int) (h : 0 <= lv /\ lv <= 9) (hn : 524288 < n) : Calls Tryz.prog 9 #[.slice ao n c, .int .i64 lv] W fun e w' => e = .returned (.tuple #[.slice none 0 0, .int .i64 6]) /\ W = w' := by
 have HM := Lib.hid (mayBe_any lv W)
 rw [decide_eq_true h] at HM
 have hz : (n : Int) > 524288 := by omega
 go_enter Tryz.func9, Tryz.ntmps9
 go_wp2_with (go_at_call 24; refine HM.out.mono ?_; rintro e w1 ⟨rfl, rfl⟩)
 go_ret2
 exact ⟨rfl, rfl⟩
end Go.Proofs.YthmbbpfgbpacnaaGreatDoor.Def
namespace Go.Proofs.YthmbbpfgbpacnaaGreatDoor.Def
open Go.RowKit Go.Shelf Go.Lib Mem Bit Huf Lz Inf
theorem bytO_B (b : List UInt8) : opsB (bytO b) = rawL b := by
 unfold opsB bytO rawL
 rw [List.flatMap_map]
theorem takeP_at (P Q : List Bool) (v k t : Nat) (h : v < 2 ^ k) (ht : t = P.length) : takeP (pk (P ++ bitsOf (v : Int) k ++ Q)) k t = .ok v (t + k) := by
 subst ht
 rw [takeP_back P Q v k h, List.length_append, bitsOf_len]
theorem storO_B (begin : Nat) (b : List UInt8) : opsB (storO begin b) = bitsOf 0 (padN (begin + 3)) ++ (bitsOf ((b.length : Nat) : Int) 16 ++ (bitsOf ((65535 - b.length : Nat) : Int) 16 ++ rawL b)) := by
 unfold storO
 rw [opsB_append, opsB_cons, opsB_cons, opsB_cons, bytO_B]
 show bitsOf _ _ ++ (bitsOf _ _ ++ (bitsOf _ _ ++ [])) ++ _ = _
 simp only [List.append_nil, List.append_assoc]
 rfl
theorem stor_back (P Q : List Bool) (begin : Nat) (b out : List UInt8) (m : Nat) (hP : P.length = begin + 3) (hb : b.length <= 65535) (hm : out.length + b.length <= m) :
  storP (pk (P ++ opsB (storO begin b) ++ Q)) m out P.length = .ok (out ++ b) (P ++ opsB (storO begin b)).length := by
 rw [storO_B]
 have hpad : (P ++ bitsOf 0 (padN (begin + 3))).length = 8 * ((P.length + 7) / 8) := by
  rw [List.length_append, bitsOf_len, <- hP]
  unfold padN
  omega
 obtain ⟨P1, hP1⟩ : ∃ P1, P1 = P ++ bitsOf 0 (padN (begin + 3)) := ⟨_, rfl⟩
 rw [<- hP1] at hpad
 have e0 : P ++ (bitsOf 0 (padN (begin + 3)) ++ (bitsOf ((b.length : Nat) : Int) 16 ++ (bitsOf ((65535 - b.length : Nat) : Int) 16 ++ rawL b))) = P1 ++ bitsOf ((b.length : Nat) : Int) 16 ++ (bitsOf ((65535 - b.length : Nat) : Int) 16 ++ rawL b) := by rw [hP1]; simp only [List.append_assoc]
 rw [e0]
 have t1 := takeP_at P1 (bitsOf ((65535 - b.length : Nat) : Int) 16 ++ rawL b ++ Q) b.length 16 (8 * ((P.length + 7) / 8)) (by omega) hpad.symm
 have t2 := takeP_at (P1 ++ bitsOf ((b.length : Nat) : Int) 16) (rawL b ++ Q) (65535 - b.length) 16 (8 * ((P.length + 7) / 8) + 16) (by omega) (by rw [List.length_append, bitsOf_len, hpad])
 have e1 : P1 ++ bitsOf ((b.length : Nat) : Int) 16 ++ (bitsOf ((65535 - b.length : Nat) : Int) 16 ++ rawL b ++ Q) = P1 ++ bitsOf ((b.length : Nat) : Int) 16 ++ (bitsOf ((65535 - b.length : Nat) : Int) 16 ++ rawL b) ++ Q := by simp only [List.append_assoc]
 have e2 : P1 ++ bitsOf ((b.length : Nat) : Int) 16 ++ bitsOf ((65535 - b.length : Nat) : Int) 16 ++ (rawL b ++ Q) = P1 ++ bitsOf ((b.length : Nat) : Int) 16 ++ (bitsOf ((65535 - b.length : Nat) : Int) 16 ++ rawL b) ++ Q := by simp only [List.append_assoc]
 have e3 : P1 ++ bitsOf ((b.length : Nat) : Int) 16 ++ bitsOf ((65535 - b.length : Nat) : Int) 16 ++ rawL b ++ Q = P1 ++ bitsOf ((b.length : Nat) : Int) 16 ++ (bitsOf ((65535 - b.length : Nat) : Int) 16 ++ rawL b) ++ Q := by simp only [List.append_assoc]
 rw [e1] at t1
 rw [e2] at t2
 have hl : (P1 ++ bitsOf ((b.length : Nat) : Int) 16 ++ bitsOf ((65535 - b.length : Nat) : Int) 16).length = 8 * ((P.length + 7) / 8) + 32 := by rw [List.length_append, List.length_append, bitsOf_len, bitsOf_len, hpad]
 have hr := raw_back (P1 ++ bitsOf ((b.length : Nat) : Int) 16 ++ bitsOf ((65535 - b.length : Nat) : Int) 16) Q b (by rw [hl]; omega)
 rw [e3, hl] at hr
 have hpk := pk_room (P1 ++ bitsOf ((b.length : Nat) : Int) 16 ++ (bitsOf ((65535 - b.length : Nat) : Int) 16 ++ rawL b) ++ Q)
 have hlen : (P1 ++ bitsOf ((b.length : Nat) : Int) 16 ++ (bitsOf ((65535 - b.length : Nat) : Int) 16 ++ rawL b)).length = 8 * ((P.length + 7) / 8) + 32 + 8 * b.length := by
  rw [List.length_append, List.length_append, List.length_append, bitsOf_len, bitsOf_len, rawL_len, hpad]
  omega
 rw [List.length_append, hlen] at hpk
 generalize pk (P1 ++ bitsOf ((b.length : Nat) : Int) 16 ++ (bitsOf ((65535 - b.length : Nat) : Int) 16 ++ rawL b) ++ Q) = bs at *
 unfold storP
 rw [t1]
 simp only
 rw [t2]
 simp only
 rw [if_neg (by omega), if_neg (by omega), if_neg (by omega), hlen]
 rw [show (8 * ((P.length + 7) / 8) + 16 + 16 + 7) / 8 = (8 * ((P.length + 7) / 8) + 32) / 8 by omega, hr]
 congr 1
 omega
theorem sumN_zeros {f : Nat -> Nat} (n : Nat) : ∀ m, (∀ j, n <= j -> j < n + m -> f j = 0) -> sumN f (n + m) = sumN f n
 | 0, _ => rfl
 | m + 1, h => by
  have := sumN_zeros n m (fun j h1 h2 => h j h1 (by omega))
  show sumN f (n + m) + f (n + m) = _
  rw [this, h (n + m) (by omega) (by omega)]
  rfl
structure Cut (l l' : List Int) : Prop where
 le : l'.length <= l.length
 at_ : ∀ j, j < l'.length -> numAt l' j = numAt l j
 z : ∀ j, l'.length <= j -> numAt l j = 0
theorem Cut.len {l l' : List Int} (h : Cut l l') (j : Nat) : lenN l' j = lenN l j := by
 unfold lenN
 rcases Nat.lt_or_ge j l'.length with q | q
 ·rw [h.at_ j q]
 ·rw [h.z j q, numAt_out l' j q]
theorem Cut.acc {l l' : List Int} (h : Cut l l') (n i : Nat) : accAt (lenN l) l.length n i = accAt (lenN l') l'.length n i := by
 unfold accAt
 obtain ⟨m, hm⟩ : ∃ m, l.length = l'.length + m := ⟨l.length - l'.length, by have := h.le; omega⟩
 rw [hm, sumN_zeros]
 ·exact sumN_eq _ fun j hj => by rw [h.len]
 ·intro j h1 _
  have : lenN l j = 0 := by unfold lenN; rw [h.z j h1]; rfl
  rw [this]
  split <;> rfl
theorem Cut.weight {l l' : List Int} (h : Cut l l') : weightN (lenN l') l'.length = weightN (lenN l) l.length := by
 unfold weightN
 obtain ⟨m, hm⟩ : ∃ m, l.length = l'.length + m := ⟨l.length - l'.length, by have := h.le; omega⟩
 rw [hm, sumN_zeros]
 ·exact sumN_eq _ fun j hj => by rw [h.len]
 ·intro j h1 _
  have : lenN l j = 0 := by unfold lenN; rw [h.z j h1]; rfl
  rw [this]
  rfl
theorem Cut.code {l l' : List Int} (h : Cut l l') (s : Nat) : codeL l' s = codeL l s := by
 unfold codeL codeN
 rw [h.len, h.acc]
theorem Cut.sym {l l' : List Int} (h : Cut l l') (s : Nat) : symB l' s = symB l s := by
 unfold symB
 rw [h.len, h.code]
theorem Cut.pc {l l' d d' : List Int} (h : Cut l l') (k : Cut d d') (p : Pc) : pcB l' d' p = pcB l d p := by
 unfold pcB
 simp only [h.sym, k.sym]
theorem Cut.known {l l' : List Int} (h : Cut l l') {s : Nat} (k : Known l s) : Known l' s := by
 refine ⟨?_, by rw [h.len]; exact k.2⟩
 rcases Nat.lt_or_ge s l'.length with q | q
 ·exact q
 ·have := k.2
  unfold lenN at this
  rw [h.z s q] at this
  exact absurd rfl this
theorem Cut.pcK {l l' d d' : List Int} (h : Cut l l') (k : Cut d d') {p : Pc} (q : pcK l d p) : pcK l' d' p := by
 unfold Inf.pcK at q ⊢
 split at q
 ·rename_i e; rw [if_pos e]; exact h.known q
 ·rename_i e; rw [if_neg e]; exact ⟨h.known q.1, k.known q.2⟩
theorem Cut.fine {l l' : List Int} (h : Cut l l') (f : Fine l) : Fine l' :=
 ⟨Nat.le_trans h.le f.n, fun i hi => by rw [h.at_ i hi]; exact f.all i (Nat.lt_of_lt_of_le hi h.le), by rw [h.weight]; exact f.w⟩
theorem told_zero (l : List Int) (least : Nat) : ∀ n, ∀ j, toldN l least n <= j -> j < n -> numAt l j = 0
 | 0, j, _, h => by omega
 | n + 1, j, h1, h2 => by
  unfold toldN at h1
  split at h1
  ·rename_i hc
   rcases Nat.lt_or_ge j n with q | q
   ·exact told_zero l least n j h1 q
   ·rw [show j = n by omega]; exact hc.2
  ·omega
theorem told_cut (l : List Int) (least : Nat) (h : least <= l.length) : Cut l (l.take (toldN l least l.length)) := by
 have hb := toldN_bd l least l.length h
 have hl : (l.take (toldN l least l.length)).length = toldN l least l.length := by rw [List.length_take]; omega
 refine ⟨by omega, fun j hj => ?_, fun j hj => ?_⟩
 ·rw [numAt_take, if_pos (by omega)]
 ·rcases Nat.lt_or_ge j l.length with q | q
  ·exact told_zero l least l.length j (by omega) q
  ·exact numAt_out l j q
end Go.Proofs.YthmbbpfgbpacnaaGreatDoor.Def
namespace Go.Proofs.YthmbbpfgbpacnaaGreatDoor.Def
open Go.RowKit Go.Shelf Go.Lib Mem Bit Huf Lz Inf
theorem runO_B (o : List Int) (r : Int × Nat × Nat) : opsB (runO o r) = symB o r.1.toNat ++ bitsOf ((r.2.2 : Nat) : Int) r.2.1 := by
 unfold runO
 rw [opsB_cons, opsB_cons, symO_B]
 show _ ++ (_ ++ []) = _
 rw [List.append_nil]
theorem nextP_at {o : List Int} (hf : Fine o) {s : Nat} (h : Known o s) (P R : List Bool) : nextP o (pk (P ++ (symB o s ++ R))) P.length = .ok s (P ++ symB o s).length := by
 have := nextP_back hf h P R
 rwa [List.append_assoc] at this
theorem takeP_at2 (P Q : List Bool) (v k : Nat) (h : v < 2 ^ k) : takeP (pk (P ++ (bitsOf ((v : Nat) : Int) k ++ Q))) k P.length = .ok v (P ++ bitsOf ((v : Nat) : Int) k).length := by
 have := takeP_back P Q v k h
 rwa [List.append_assoc] at this
theorem drop_num (row : List Int) (k i : Nat) : numAt (row.drop k) i = numAt row (k + i) := by
 unfold numAt
 simp only [List.getD_eq_getElem?_getD, List.getElem?_drop]
theorem take_run (row : List Int) (k n : Nat) (v : Int) (hk : k + n <= row.length) (h : ∀ i, i < n -> numAt row (k + i) = v) : row.take k ++ List.replicate n v = row.take (k + n) := by
 rw [List.take_add]
 congr 1
 apply List.ext_getElem
 ·rw [List.length_replicate, List.length_take, List.length_drop]; omega
 ·intro i h1 h2
  rw [List.length_replicate] at h1
  rw [List.getElem_replicate, List.getElem_take, List.getElem_drop, <- h i h1, numAt_eq row (k + i) (by omega)]
theorem run_alike (row : List Int) (k : Nat) (i : Nat) (hi : i < (runAtN row k).2) : numAt row (k + i) = numAt row k := by
 have h1 : ∀ i, i < alkN (row.drop k) -> numAt row (k + i) = numAt row k := fun i hi => by
  have := alkN_all (row.drop k) i hi
  rwa [drop_num, drop_num] at this
 unfold runAtN at hi
 split at hi
 ·exact h1 i (by simp only at hi; omega)
 ·split at hi
  ·exact h1 i hi
  ·split at hi
   ·exact h1 i (by simp only at hi; omega)
   ·rw [show i = 0 by simp only at hi; omega]
    rfl
theorem run_back {o row : List Int} (ho : Fine o) (k : Nat) (hk : k < row.length) (hv : 0 <= numAt row k /\ numAt row k <= 15) (hkn : Known o (runAtN row k).1.1.toNat) (P Q : List Bool) :
  runP o (pk (P ++ opsB (runO o (runAtN row k).1) ++ Q)) (row.take k) P.length = .ok (numAt row k, (runAtN row k).2) (P ++ opsB (runO o (runAtN row k).1)).length := by
 rw [runO_B]
 have e0 : ∀ (A B : List Bool), P ++ (A ++ B) ++ Q = P ++ (A ++ (B ++ Q)) := fun A B => by simp only [List.append_assoc]
 have e1 : ∀ (A B : List Bool), P ++ (A ++ B) ++ Q = P ++ A ++ (B ++ Q) := fun A B => by simp only [List.append_assoc]
 have e2 : ∀ (A B : List Bool), (P ++ (A ++ B)).length = (P ++ A ++ B).length := fun A B => by rw [List.append_assoc]
 have hlt : (row.take k).length = k := by rw [List.length_take]; omega
 have hN : nextP o (pk (P ++ (symB o (runAtN row k).1.1.toNat ++ bitsOf (((runAtN row k).1.2.2 : Nat) : Int) (runAtN row k).1.2.1) ++ Q)) P.length = .ok (runAtN row k).1.1.toNat (P ++ symB o (runAtN row k).1.1.toNat).length := by
  rw [e0]
  exact nextP_at ho hkn P _
 have hT : ∀ w, (runAtN row k).1.2.1 = w -> (runAtN row k).1.2.2 < 2 ^ w -> takeP (pk (P ++ (symB o (runAtN row k).1.1.toNat ++ bitsOf (((runAtN row k).1.2.2 : Nat) : Int) (runAtN row k).1.2.1) ++ Q)) w (P ++ symB o (runAtN row k).1.1.toNat).length = .ok (runAtN row k).1.2.2 (P ++ (symB o (runAtN row k).1.1.toNat ++ bitsOf (((runAtN row k).1.2.2 : Nat) : Int) (runAtN row k).1.2.1)).length := fun w hw hb => by
  subst hw
  rw [e1, takeP_at2 _ Q _ _ hb, e2]
 have hal := alkN_bd (row.drop k) (by rw [List.length_drop]; omega)
 unfold runP
 rw [hN]
 simp only
 generalize hbs : pk (P ++ (symB o (runAtN row k).1.1.toNat ++ bitsOf (((runAtN row k).1.2.2 : Nat) : Int) (runAtN row k).1.2.1) ++ Q) = bs at *
 clear hbs e0 e1 e2 hN hkn
 generalize (P ++ symB o (runAtN row k).1.1.toNat).length = u at *
 generalize hfin : (P ++ (symB o (runAtN row k).1.1.toNat ++ bitsOf (((runAtN row k).1.2.2 : Nat) : Int) (runAtN row k).1.2.1)).length = fin at *
 by_cases c1 : numAt row k = 0 /\ 11 <= alkN (row.drop k)
 ·have hr : runAtN row k = ((18, 7, min (alkN (row.drop k)) 138 - 11), min (alkN (row.drop k)) 138) := by unfold runAtN; rw [if_pos c1]
  have ht := hT 7 (by rw [hr]) (by rw [hr]; show min _ 138 - 11 < 128; omega)
  rw [hr] at ht ⊢
  simp only at ht ⊢
  rw [if_neg (by decide), if_neg (by decide), if_pos (by decide), ht, c1.1]
  simp only
  congr 2
  omega
 ·by_cases c2 : numAt row k = 0 /\ 3 <= alkN (row.drop k)
  ·have hr : runAtN row k = ((17, 3, alkN (row.drop k) - 3), alkN (row.drop k)) := by unfold runAtN; rw [if_neg c1, if_pos c2]
   have h11 : alkN (row.drop k) < 11 := by
    rcases Nat.lt_or_ge (alkN (row.drop k)) 11 with q | q
    ·exact q
    ·exact absurd ⟨c2.1, q⟩ c1
   have ht := hT 3 (by rw [hr]) (by rw [hr]; show _ - 3 < 8; omega)
   rw [hr] at ht ⊢
   simp only at ht ⊢
   rw [if_neg (by decide), if_pos (by decide), ht, c2.1]
   simp only
   congr 2
   omega
  ·by_cases c3 : numAt row k ≠ 0 /\ 3 <= alkN (row.drop k) /\ 0 < k /\ numAt row (k - 1) = numAt row k
   ·have hr : runAtN row k = ((16, 2, min (alkN (row.drop k)) 6 - 3), min (alkN (row.drop k)) 6) := by unfold runAtN; rw [if_neg c1, if_neg c2, if_pos c3]
    have ht := hT 2 (by rw [hr]) (by rw [hr]; show min _ 6 - 3 < 4; omega)
    have hg : (row.take k).getD (k - 1) 0 = numAt row k := by
     have := numAt_take row k (k - 1)
     rw [if_pos (by omega), c3.2.2.2] at this
     exact this
    rw [hr] at ht ⊢
    simp only at ht ⊢
    rw [if_pos (by decide), ht]
    simp only
    rw [hlt, if_neg (by omega), hg]
    congr 2
    omega
   ·have hr : runAtN row k = ((numAt row k, 0, 0), 1) := by unfold runAtN; rw [if_neg c1, if_neg c2, if_neg c3]
    have ht := hT 0 (by rw [hr]) (by rw [hr]; show 0 < 2 ^ 0; decide)
    rw [hr] at ht ⊢
    simp only at ht ⊢
    have hu : u = fin := by
     unfold takeP at ht
     split at ht
     ·simp only [Rd.ok.injEq] at ht
      omega
     ·cases ht
    rw [if_neg (by omega), if_neg (by omega), if_neg (by omega), hu]
    congr 2
    omega
theorem rows_back {o row : List Int} (ho : Fine o) (hv : ∀ j, 0 <= numAt row j /\ numAt row j <= 15) (Q : List Bool) : ∀ (f k F : Nat) (P : List Bool), (∀ r ∈ runsF row f k, Known o r.1.toNat) -> k <= row.length -> row.length - k <= f -> f + 1 <= F ->
  rowP o (pk (P ++ opsB ((runsF row f k).flatMap (runO o)) ++ Q)) row.length F (row.take k) P.length = .ok row (P ++ opsB ((runsF row f k).flatMap (runO o))).length := by
 intro f
 induction f with
 | zero =>
  intro k F P _ hk hf hF
  obtain ⟨F, rfl⟩ : ∃ F', F = F' + 1 := ⟨F - 1, by omega⟩
  rw [rowP_succ, if_pos (by rw [List.length_take]; omega)]
  have e : k = row.length := by omega
  subst e
  rw [List.take_length]
  show Rd.ok row P.length = .ok row (P ++ opsB []).length
  rw [show opsB [] = [] from rfl, List.append_nil]
 | succ f ih =>
  intro k F P hkn hk hf hF
  obtain ⟨F, rfl⟩ : ∃ F', F = F' + 1 := ⟨F - 1, by omega⟩
  have hlt : (row.take k).length = k := by rw [List.length_take]; omega
  by_cases hc : k < row.length
  ·have hrs : runsF row (f + 1) k = (runAtN row k).1 :: runsF row f (k + (runAtN row k).2) := by
    show (if k < row.length then _ else _) = _
    rw [if_pos hc]
   have hbd := runAtN_bd row k hc
   rw [hrs, List.flatMap_cons, opsB_append, rowP_succ, if_neg (by omega)]
   have e1 : P ++ (opsB (runO o (runAtN row k).1) ++ opsB ((runsF row f (k + (runAtN row k).2)).flatMap (runO o))) ++ Q = P ++ opsB (runO o (runAtN row k).1) ++ (opsB ((runsF row f (k + (runAtN row k).2)).flatMap (runO o)) ++ Q) := by simp only [List.append_assoc]
   have e2 : P ++ opsB (runO o (runAtN row k).1) ++ opsB ((runsF row f (k + (runAtN row k).2)).flatMap (runO o)) ++ Q = P ++ (opsB (runO o (runAtN row k).1) ++ opsB ((runsF row f (k + (runAtN row k).2)).flatMap (runO o))) ++ Q := by simp only [List.append_assoc]
   have h1 := run_back ho k hc (hv k) (hkn _ (by rw [hrs]; exact List.mem_cons_self)) P (opsB ((runsF row f (k + (runAtN row k).2)).flatMap (runO o)) ++ Q)
   rw [<- e1] at h1
   have h2 := ih (k + (runAtN row k).2) F (P ++ opsB (runO o (runAtN row k).1)) (fun r hr => hkn r (by rw [hrs]; exact List.mem_cons_of_mem _ hr)) hbd.2 (by omega) (by omega)
   rw [e2] at h2
   rw [h1]
   simp only
   rw [if_neg (by omega), take_run row k _ _ hbd.2 (fun i hi => run_alike row k i hi), h2]
   congr 1
   simp only [List.length_append]
   omega
  ·have hrs : runsF row (f + 1) k = [] := by
    show (if k < row.length then _ else _) = _
    rw [if_neg hc]
   have e : k = row.length := by omega
   subst e
   rw [hrs, rowP_succ, if_pos (by omega), List.take_length]
   show Rd.ok row P.length = .ok row (P ++ opsB []).length
   rw [show opsB [] = [] from rfl, List.append_nil]
def setO : List Int -> Nat -> List Int -> List Int
 | [], _, a => a
 | v :: vs, k, a => setO vs (k + 1) (a.set (ordL.getD k 0) v)
theorem setO_snoc : ∀ (vs : List Int) (v : Int) (k : Nat) (a : List Int), setO (vs ++ [v]) k a = (setO vs k a).set (ordL.getD (k + vs.length) 0) v
 | [], v, k, a => rfl
 | w :: vs, v, k, a => by
  show setO (vs ++ [v]) (k + 1) _ = _
  rw [setO_snoc vs v (k + 1), List.length_cons, show k + 1 + vs.length = k + (vs.length + 1) by omega]
  rfl
theorem setO_len : ∀ (vs : List Int) (k : Nat) (a : List Int), (setO vs k a).length = a.length
 | [], _, _ => rfl
 | v :: vs, k, a => by
  show (setO vs (k + 1) _).length = _
  rw [setO_len vs, List.length_set]
theorem told_back (Q : List Bool) : ∀ (vs : List Int) (k : Nat) (a : List Int) (P : List Bool), (∀ v ∈ vs, 0 <= v /\ v <= 7) ->
  toldP (pk (P ++ opsB (thrO vs) ++ Q)) vs.length k a P.length = .ok (setO vs k a) (P ++ opsB (thrO vs)).length
 | [], k, a, P, _ => by
  show Rd.ok a P.length = .ok a (P ++ opsB []).length
  rw [show opsB [] = [] from rfl, List.append_nil]
 | v :: vs, k, a, P, h => by
  have hv := h v List.mem_cons_self
  have e0 : opsB (thrO (v :: vs)) = bitsOf ((v.toNat : Nat) : Int) 3 ++ opsB (thrO vs) := by
   show opsB ((v.toNat, 3) :: thrO vs) = _
   rw [opsB_cons]
  rw [e0, List.length_cons]
  have e1 : P ++ (bitsOf ((v.toNat : Nat) : Int) 3 ++ opsB (thrO vs)) ++ Q = P ++ (bitsOf ((v.toNat : Nat) : Int) 3 ++ (opsB (thrO vs) ++ Q)) := by simp only [List.append_assoc]
  have e2 : P ++ bitsOf ((v.toNat : Nat) : Int) 3 ++ opsB (thrO vs) ++ Q = P ++ (bitsOf ((v.toNat : Nat) : Int) 3 ++ (opsB (thrO vs) ++ Q)) := by simp only [List.append_assoc]
  have h1 := takeP_at2 P (opsB (thrO vs) ++ Q) v.toNat 3 (by show v.toNat < 8; omega)
  have ih := told_back Q vs (k + 1) (a.set (ordL.getD k 0) v) (P ++ bitsOf ((v.toNat : Nat) : Int) 3) (fun w hw => h w (List.mem_cons_of_mem _ hw))
  rw [e2] at ih
  rw [e1]
  show (match takeP _ 3 P.length with | .ok x u => toldP _ vs.length (k + 1) (a.set (ordL.getD k 0) (x : Int)) u | .no e => .no e) = _
  rw [h1]
  simp only
  rw [show ((v.toNat : Nat) : Int) = v by omega] at ih ⊢
  rw [ih]
  congr 1
  simp only [List.length_append]
  omega
def posO (j : Nat) : Nat := [3, 17, 15, 13, 11, 9, 7, 5, 4, 6, 8, 10, 12, 14, 16, 18, 0, 1, 2].getD j 0
theorem posO_lt : ∀ j : _root_.Fin 19, posO j.val < 19 /\ ordL.getD (posO j.val) 0 = j.val := by decide
theorem posO_ord : ∀ k : _root_.Fin 19, posO (ordL.getD k.val 0) = k.val /\ ordL.getD k.val 0 < 19 := by decide
theorem setO_at (o : List Int) : ∀ n, n <= 19 -> ∀ j, j < 19 -> numAt (setO ((ordR o).take n) 0 (List.replicate 19 0)) j = if posO j < n then numAt o j else 0
 | 0, _, j, hj => by
  rw [List.take_zero, if_neg (by omega)]
  show numAt (List.replicate 19 0) j = 0
  unfold numAt
  rw [List.getD_eq_getElem?_getD, List.getElem?_replicate, if_pos hj]
  rfl
 | n + 1, hn, j, hj => by
  have ih := setO_at o n (by omega) j hj
  have hol := ordR_len o
  rw [List.take_add_one, List.getElem?_eq_getElem (show n < (ordR o).length by omega)]
  have hlt : ((ordR o).take n).length = n := by rw [List.length_take]; omega
  have hv : (ordR o)[n]'(by omega) = numAt o (ordL.getD n 0) := by simp only [ordR, List.getElem_map, List.getElem_range]
  rw [hv]
  show numAt (setO ((ordR o).take n ++ [numAt o (ordL.getD n 0)]) 0 _) j = _
  rw [setO_snoc, hlt, Nat.zero_add]
  have hp := posO_ord ⟨n, by omega⟩
  have hq := posO_lt ⟨j, hj⟩
  simp only at hp hq
  unfold numAt at ih ⊢
  rw [List.getD_eq_getElem?_getD] at ih ⊢
  rw [List.getElem?_set]
  by_cases e : ordL.getD n 0 = j
  ·rw [if_pos e, if_pos (by rw [setO_len, List.length_replicate]; omega), if_pos (by rw [<- e, hp.1]; omega), e]
   rfl
  ·rw [if_neg e, ih]
   by_cases q : posO j < n
   ·rw [if_pos q, if_pos (by omega)]
   ·rw [if_neg q, if_neg (fun q2 => e (by rw [<- hq.2, show posO j = n by omega]))]
theorem ordR_at (o : List Int) (j : Nat) (hj : j < 19) : numAt (ordR o) (posO j) = numAt o j := by
 have hq := posO_lt ⟨j, hj⟩
 simp only at hq
 rw [numAt_eq _ _ (by rw [ordR_len]; exact hq.1)]
 simp only [ordR, List.getElem_map, List.getElem_range]
 rw [hq.2]
theorem setO_back (o : List Int) (ho : o.length = 19) : setO (otR o) 0 (List.replicate 19 0) = o := by
 have hb := toldN_bd (ordR o) 4 (ordR o).length (by rw [ordR_len]; decide)
 have hl := ordR_len o
 apply List.ext_getElem
 ·rw [setO_len, List.length_replicate, ho]
 ·intro j h1 h2
  have hj : j < 19 := by omega
  have h3 := setO_at o (toldN (ordR o) 4 (ordR o).length) (by omega) j hj
  rw [<- numAt_eq _ j h1, <- numAt_eq _ j h2]
  unfold otR
  rw [h3]
  split
  ·rfl
  ·rename_i q
   rw [<- ordR_at o j hj]
   have hp := (posO_lt ⟨j, hj⟩).1
   simp only at hp
   exact (told_zero (ordR o) 4 (ordR o).length (posO j) (by omega) (by omega)).symm
theorem otR_bd (o : List Int) (ho : ∀ j, 0 <= numAt o j /\ numAt o j <= 7) : ∀ v ∈ otR o, 0 <= v /\ v <= 7 := fun v hv => by
 unfold otR at hv
 have := List.mem_of_mem_take hv
 unfold ordR at this
 obtain ⟨i, -, rfl⟩ := List.mem_map.1 this
 exact ho _
end Go.Proofs.YthmbbpfgbpacnaaGreatDoor.Def
