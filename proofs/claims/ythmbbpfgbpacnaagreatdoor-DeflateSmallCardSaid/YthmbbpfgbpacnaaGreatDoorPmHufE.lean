/- The best lengths: they are full, each that is wanted has one, and none cost less. No program is spoken of here. Package huff's Lengths: what it answers, and the counting of symbols in a row (no program). Package huff's Lengths. Package huff's Lengths, whatever it is handed. The lengths that Lengths answers: they may be, they leave nothing, and none cost less (no program). -/
import Derived.Test.YthmbbpfgbpacnaaGreatDoorPmHufJ
import Derived.Test.YthmbbpfgbpacnaaGreatDoorPmHufK
import Derived.Test.YthmbbpfgbpacnaaGreatDoorPmSrtH
namespace Go.Proofs.YthmbbpfgbpacnaaGreatDoor.Huf
def spend (t : Nat) : List (Nat × Nat) -> Nat
 | [] => 0
 | x :: l => 2 ^ (t - x.2) + spend t l
theorem wide_spend (t : Nat) : ∀ xs, wideL t xs + spend t xs = xs.length * 2 ^ t
 | [] => by simp [wideL, spend]
 | x :: xs => by
  have ih := wide_spend t xs
  have hp : (2 : Nat) ^ (t - x.2) <= 2 ^ t := Nat.pow_le_pow_right (by decide) (by omega)
  simp only [wideL, spend, List.length_cons, Nat.add_mul, Nat.one_mul]
  omega
theorem spend_len (t : Nat) : ∀ xs, xs.length <= spend t xs
 | [] => Nat.le_refl _
 | x :: xs => by
  have ih := spend_len t xs
  have hp : 0 < (2 : Nat) ^ (t - x.2) := Nat.pow_pos (by decide)
  simp only [spend, List.length_cons]
  omega
theorem spend_zero (t : Nat) : ∀ xs : List (Nat × Nat), (∃ x ∈ xs, x.2 = 0) -> 2 ^ t + xs.length <= spend t xs + 1
 | [], h => by obtain ⟨x, hx, _⟩ := h; cases hx
 | y :: xs, h => by
  obtain ⟨x, hx, h0⟩ := h
  simp only [spend, List.length_cons]
  rcases List.mem_cons.1 hx with rfl | hx
  ·have := spend_len t xs
   rw [h0, Nat.sub_zero]
   omega
  ·have := spend_zero t xs ⟨x, hx, h0⟩
   have hp : 0 < (2 : Nat) ^ (t - y.2) := Nat.pow_pos (by decide)
   omega
theorem spend_all (t : Nat) (val : Nat -> Nat) : ∀ sy : List Nat, spend t (sy.map fun i => (val i, t)) = sy.length
 | [] => rfl
 | x :: sy => by
  have ih := spend_all t val sy
  simp only [List.map_cons, spend, List.length_cons]
  rw [ih, Nat.sub_self]
  omega
section
variable (val : Nat -> Nat) (sy : List Nat)
theorem rows_low (hr : Rising (sy.map (coin val))) (t m : Nat) (xs : List (Nat × Nat)) (hx : (xs.map (·.1)).Sublist (sy.map val)) (hl : ∀ x ∈ xs, x.2 <= t) (hm : m * 2 ^ t <= 2 * wideL t xs) :
  m <= (rowS (sy.map (coin val)) t).length /\ tot (((rowS (sy.map (coin val)) t).take m).map (·.1)) <= costL xs := by
 have h := cost_low (sy.map val) (fun t => (rowS (sy.map (coin val)) t).map (·.1)) rfl
  (fun t => List.pairwise_map.2 (rowS_rising hr (t + 1)))
  (fun t => by
   have h1 := (mergeS_perm (sy.map (coin val)) (pairS (rowS (sy.map (coin val)) t))).map (·.1)
   rw [List.map_append, pairS_fst, List.map_map] at h1
   exact h1) t m xs hx hl hm
 rw [List.length_map, <- List.map_take] at h
 exact h
def bestLen (L i : Nat) : Nat := occ i ((rowS (sy.map (coin val)) L).take (2 * sy.length - 2))
theorem best_room (hr : Rising (sy.map (coin val))) (L : Nat) (hk : sy.length <= 2 ^ L) : 2 * sy.length - 2 <= (rowS (sy.map (coin val)) L).length := by
 have hw := wide_spend L (sy.map fun i => (val i, L))
 rw [spend_all, List.length_map] at hw
 refine (rows_low val sy hr L _ (sy.map fun i => (val i, L)) ?_ ?_ ?_).1
 ·rw [List.map_map]; exact List.Sublist.refl _
 ·intro x hx
  obtain ⟨i, _, rfl⟩ := List.mem_map.1 hx
  exact Nat.le_refl _
 ·rw [Nat.sub_mul, Nat.mul_assoc]
  omega
theorem best_le (hn : sy.Nodup) (hr : Rising (sy.map (coin val))) (L : Nat) (hk : sy.length <= 2 ^ L) (i : Nat) : bestLen val sy L i <= L :=
 (row_main val sy hn hr L _ (best_room val sy hr L hk)).1 i
theorem best_none (L i : Nat) (h : i ∉ sy) : bestLen val sy L i = 0 := by
 rcases Nat.eq_zero_or_pos (bestLen val sy L i) with h0 | h0
 ·exact h0
 ·obtain ⟨x, hx, hi⟩ := occ_pos i _ h0
  exact absurd (row_worth val sy L x (List.mem_of_mem_take hx) i hi).1 h
theorem best_full (hn : sy.Nodup) (hr : Rising (sy.map (coin val))) (L : Nat) (h2 : 2 <= sy.length) (hk : sy.length <= 2 ^ L) : spend L (sy.map fun i => (val i, bestLen val sy L i)) = 2 ^ L := by
 have hm := (row_main val sy hn hr L _ (best_room val sy hr L hk)).2.1
 have hw := wide_spend L (sy.map fun i => (val i, bestLen val sy L i))
 rw [List.length_map] at hw
 unfold bestLen at *
 rw [Nat.sub_mul, Nat.mul_assoc] at hm
 have hq : 2 * 2 ^ L <= sy.length * 2 ^ L := Nat.mul_le_mul_right _ h2
 omega
theorem best_some (hn : sy.Nodup) (hr : Rising (sy.map (coin val))) (L : Nat) (h2 : 2 <= sy.length) (hk : sy.length <= 2 ^ L) (i : Nat) (hi : i ∈ sy) : 0 < bestLen val sy L i := by
 rcases Nat.eq_zero_or_pos (bestLen val sy L i) with h0 | h0
 ·have hf := best_full val sy hn hr L h2 hk
  have := spend_zero L (sy.map fun i => (val i, bestLen val sy L i)) ⟨_, List.mem_map.2 ⟨i, hi, rfl⟩, h0⟩
  rw [List.length_map] at this
  omega
 ·exact h0
end
end Go.Proofs.YthmbbpfgbpacnaaGreatDoor.Huf
namespace Go.Proofs.YthmbbpfgbpacnaaGreatDoor.Huf
structure Able (l : List Int) (L : Nat) : Prop where
 all : l.all okCount = true
 n : l.length <= 320
 lo : 1 <= L
 hi : L <= 15
 k : (rankL l).length <= 2 ^ L
def lensOut (l : List Int) (L : Nat) : List Int := if (rankL l).length = 1 then (List.range l.length).map (fun i => if i ∈ rankL l then 1 else 0) else (List.range l.length).map (fun i => (bestLen (valOf l) (rankL l) L i : Int))
def lengthsR (l : List Int) (limit : Int) : List Int × Int :=
 if l.all okCount = true /\ l.length <= 320 /\ 1 <= limit /\ limit <= 15 /\ (rankL l).length <= 2 ^ limit.toNat then (lensOut l limit.toNat, 0) else ([], 1)
theorem lengthsR_able {l : List Int} {L : Nat} (h : Able l L) : lengthsR l (L : Int) = (lensOut l L, 0) := by
 unfold lengthsR
 have h1 := h.lo
 have h2 := h.hi
 rw [if_pos ⟨h.all, h.n, by omega, by omega, h.k⟩]
 rfl
theorem okCount_at {l : List Int} (h : l.all okCount = true) {s : Nat} (hs : s < l.length) : 0 <= numAt l s /\ numAt l s <= 1099511627776 := by
 rw [numAt_eq l s hs]
 rw [List.all_eq_true] at h
 exact of_decide_eq_true (h _ (List.getElem_mem hs))
theorem rank_rising {l : List Int} (h : l.all okCount = true) : Rising ((rankL l).map (coin (valOf l))) := by
 unfold Rising
 rw [List.pairwise_map]
 refine List.Pairwise.imp_of_mem ?_ (rankL_pair l)
 intro a b ha hb hab
 have h1 := okCount_at h ((rankL_mem l a).1 ha).1
 have h2 := okCount_at h ((rankL_mem l b).1 hb).1
 show valOf l a <= valOf l b
 unfold valOf
 unfold Lt2 at hab
 omega
theorem rank_bnd {l : List Int} (h : l.all okCount = true) : Bnd 1099511627776 1 ((rankL l).map (coin (valOf l))) := fun x hx => by
 obtain ⟨s, hs, rfl⟩ := List.mem_map.1 hx
 have h1 := okCount_at h ((rankL_mem l s).1 hs).1
 refine ⟨?_, Nat.le_refl _⟩
 show valOf l s <= _
 unfold valOf
 omega
def lensI (n : Nat) (R : List Item) (j : Nat) (ss : List Nat) : List Int := (List.range n).map fun i => ((occ i (R.take j) + ss.count i : Nat) : Int)
theorem lensI_len (n : Nat) (R : List Item) (j : Nat) (ss : List Nat) : (lensI n R j ss).length = n := by simp [lensI]
theorem lensI_zero (n : Nat) (R : List Item) : lensI n R 0 [] = List.replicate n 0 := by
 unfold lensI
 apply List.ext_getElem
 ·simp
 ·intro i h1 h2; simp [occ]
theorem lensI_item (n : Nat) (R : List Item) (j : Nat) (hj : j < R.length) : lensI n R j (R[j]).2 = lensI n R (j + 1) [] := by
 unfold lensI
 congr 1
 funext i
 rw [List.take_succ_eq_append_getElem hj, occ_append]
 simp [occ]
theorem lensI_at (n : Nat) (R : List Item) (j : Nat) (ss : List Nat) (s : Nat) (hs : s < n) : (lensI n R j ss)[s]'(by rw [lensI_len]; exact hs) = ((occ s (R.take j) + ss.count s : Nat) : Int) := by
 unfold lensI
 rw [List.getElem_map, List.getElem_range]
theorem lensI_step (n : Nat) (R : List Item) (j : Nat) (ss : List Nat) (s : Nat) : (lensI n R j ss).set s (((occ s (R.take j) + ss.count s : Nat) : Int) + 1) = lensI n R j (ss ++ [s]) := by
 apply List.ext_getElem
 ·rw [List.length_set, lensI_len, lensI_len]
 ·intro i h1 h2
  rw [List.length_set, lensI_len] at h1
  rw [List.getElem_set, lensI_at n R j (ss ++ [s]) i h1, List.count_append]
  by_cases e : s = i
  ·subst e
   rw [if_pos rfl]
   simp only [List.count_singleton_self]
   omega
  ·rw [if_neg e, lensI_at n R j ss i h1]
   have : List.count i [s] = 0 := by
    rw [List.count_eq_zero]
    intro h
    exact e (List.mem_singleton.1 h).symm
   rw [this]
   rfl
theorem occ_bound (S : Nat) (i : Nat) : ∀ l : List Item, (∀ x ∈ l, x.2.length <= S) -> occ i l <= l.length * S
 | [], _ => Nat.zero_le _
 | x :: l, h => by
  have h1 := occ_bound S i l (fun y hy => h y (List.mem_cons_of_mem _ hy))
  have h2 := h x (List.mem_cons_self ..)
  have h3 := List.count_le_length (a := i) (l := x.2)
  simp only [occ, List.length_cons]
  rw [Nat.add_mul, Nat.one_mul]
  omega
theorem lens_best {l : List Int} {L : Nat} (hk : (rankL l).length ≠ 1) : lensI l.length (rowS ((rankL l).map (coin (valOf l))) L) (2 * (rankL l).length - 2) [] = lensOut l L := by
 unfold lensI lensOut bestLen
 rw [if_neg hk]
 congr 1
theorem lens_none {l : List Int} {L : Nat} (hk : (rankL l).length = 0) : List.replicate l.length 0 = lensOut l L := by
 rw [<- lens_best (L := L) (by omega), hk, <- lensI_zero l.length (rowS ((rankL l).map (coin (valOf l))) L)]
theorem lens_one {l : List Int} {L : Nat} (hk : (rankL l).length = 1) : (List.replicate l.length (0 : Int)).set ((rankL l)[0]'(by omega)) 1 = lensOut l L := by
 unfold lensOut
 rw [if_pos hk]
 apply List.ext_getElem
 ·simp
 ·intro i h1 h2
  rw [List.getElem_set, List.getElem_map, List.getElem_range]
  have hm : ∀ i, i ∈ rankL l ↔ (rankL l)[0]'(by omega) = i := fun i => by
   constructor
   ·intro h
    obtain ⟨j, hj, rfl⟩ := List.mem_iff_getElem.1 h
    congr 1
    omega
   ·rintro rfl
    exact List.getElem_mem _
  by_cases e : (rankL l)[0]'(by omega) = i
  ·rw [if_pos e, if_pos ((hm i).2 e)]
  ·rw [if_neg e, if_neg (fun g => e ((hm i).1 g))]
   simp
end Go.Proofs.YthmbbpfgbpacnaaGreatDoor.Huf
namespace Go.Proofs.YthmbbpfgbpacnaaGreatDoor.Huf
open Go.RowKit Go.Shelf Go.Lib Mem
set_option maxHeartbeats 16000000 in
set_option maxRecDepth 100000 in
theorem lengths_able (W : World) (v : Value) (l : List Int) (L : Nat) (hs : SrcI W v l) (ha : Able l L) :
  Calls Tryz.prog 138 #[v, .int .i64 (L : Int)] W fun e w' => ∃ u, e = .returned (.tuple #[u, .int .i64 0]) /\ w'.ownsRow W.heap.size 3 1 u (lensOut l L).length (iVs (lensOut l L)) /\ Below W.heap.size W w' := by
 have hn := ha.n
 have hL1 := ha.lo
 have hL2 := ha.hi
 have hk := ha.k
 have HA : Aside (Able l L) := ha
 have hmc := mayCount_any W v l hs (by omega)
 rw [ha.all, decide_eq_true hn] at hmc
 have HMC := Lib.hid hmc
 have HR := Lib.hid (ranked_any W v l hs (by omega))
 have hlen : (lensOut l L).length = l.length := by unfold lensOut; split <;> simp
 rw [hlen]
 obtain ⟨ao, c, rfl, hao⟩ := hs.shape
 have HS : Aside (SrcI W (.slice ao l.length c) l) := hs
 obtain ⟨P, hP⟩ : ∃ P, P = 2 ^ L := ⟨_, rfl⟩
 have hP2 : P <= 32768 := by
  rw [hP]
  exact Nat.le_trans (Nat.pow_le_pow_right (by decide) hL2) (by decide)
 have zP : (2 : Int) ^ L = (P : Int) := by rw [hP, Int.natCast_pow]; rfl
 have wP : IntKind.i64.wrap (P : Int) = (P : Int) := by rw [IntKind.wrap_i64]; omega
 rw [<- hP] at hk
 have hL1z : ¬ (L : Int) < 1 := by omega
 have hL2z : ¬ (L : Int) > 15 := by omega
 have hL3z : ¬ (15 : Int) < (L : Int) := by omega
 have hL0 : (0 : Int) <= (L : Int) := by omega
 have HMK : Aside (∀ W1 : World, ∃ g vm W2, vm = .slice (some ⟨g, 0, none⟩) l.length l.length /\ (Instr.makeSlice 111 (.int .i64 (l.length : Int)) (.int .i64 (l.length : Int))).run Tryz.prog W1 = .ok vm W2 /\ W2.ownsRow W1.heap.size 3 1 vm l.length (iVs (List.replicate l.length 0)) /\ Below W1.heap.size W1 W2) := fun W1 => by
  obtain ⟨vm, W2, h1, h2, h3, g, hg⟩ := makeI_any W1 l.length (by omega)
  exact ⟨g, vm, W2, hg, h1, h2, h3⟩
 have hrl := rankL_len l
 obtain ⟨k, hkk⟩ : ∃ k, k = (rankL l).length := ⟨_, rfl⟩
 rw [<- hkk] at hk hrl
 have HK : Aside (k = (rankL l).length) := hkk
 have hkP : ¬ (k : Int) > (P : Int) := by omega
 have hkP2 : ¬ (P : Int) < (k : Int) := by omega
 clear hs hao hmc ha hP hlen
 rw [<- hkk] at HR
 clear hkk
 go_enter Tryz.func138, Tryz.ntmps138
 go_upto_region 4 with (first
  | (go_at_call 153; refine HMC.out.mono ?_; rintro e w1 ⟨rfl, rfl⟩)
  | (go_at_call 152; refine HR.out.mono ?_; rintro e w2 ⟨u, rfl, hu, hb⟩; obtain ⟨uo, cap, rfl, hcap, hcm, hnone⟩ := own_shape hu))
 obtain ⟨g, vm, W2, rfl, m1, m2, m3⟩ := HMK.out w2
 have hg : W.heap.size <= w2.heap.size /\ w2.heap.size <= g /\ g < W2.heap.size := by
  obtain ⟨g', e1, e2, e3⟩ := own_block m2
  cases e1
  exact ⟨hb.size, e2, e3⟩
 have HW2 : Aside (W2.ownsRow W.heap.size 3 1 (.slice (some ⟨g, 0, none⟩) l.length l.length) l.length (iVs (List.replicate l.length 0)) /\ W2.ownsRow W.heap.size 3 1 (.slice uo k cap) k (iVs ((rankL l).map Int.ofNat)) /\ Below W.heap.size W W2) :=
  ⟨ownsRow_mono m2 hb.size, own_below hu m3, hb.trans (m3.mono hb.size)⟩
 have HG : Aside (W.heap.size <= g /\ g < W2.heap.size /\ ∀ b, (Value.slice uo k cap).ownBlock = some b -> b ≠ g) := ⟨by omega, hg.2.2, fun b hb e => by
  have := (hu.lt b hb).2
  omega⟩
 have HN : Aside (uo = none -> k = 0 /\ cap = 0) := hnone
 clear m2 m3 hu hb hnone hg HMK HMC HR
 by_cases hk1 : k = 1
 ·have hk1z : (k : Int) = 1 := by omega
  obtain ⟨p, rfl⟩ : ∃ p, uo = some p := by
   cases uo with
   | none => have := (HN.out rfl).1; omega
   | some p => exact ⟨p, rfl⟩
  obtain ⟨h1, h2, h3⟩ := HW2.out
  obtain ⟨g2, rfl, hg2, -⟩ := own_block h2
  have hk0 : 0 < (rankL l).length := by rw [<- HK.out]; omega
  have hm := (rankL_mem l _).1 (List.getElem_mem hk0)
  have cr : W2.cell? ⟨g2, 0, none⟩ = some (.int .i64 (((rankL l)[0] : Nat) : Int)) := by
   have := (own_cellI h2 0 (by rw [List.length_map]; exact hk0)).1
   rw [this, List.getElem_map]
   rfl
  obtain ⟨cc, ff⟩ := own_cellI h1 (rankL l)[0] (by rw [List.length_replicate]; exact hm.1)
  have hset := own_setI h1 (rankL l)[0] 1
  rw [lens_one (L := L) (by rw [<- HK.out]; exact hk1)] at hset
  have hss : Only (fun i => i = g) W2 (W2.setCell ⟨g, (rankL l)[0], none⟩ (.int .i64 1)) := Only.setCell (S := fun i => i = g) rfl _ _
  have HQ : Aside ((W2.setCell ⟨g, (rankL l)[0], none⟩ (.int .i64 1)).ownsRow W.heap.size 3 1 (.slice (some ⟨g, 0, none⟩) l.length l.length) l.length (iVs (lensOut l L)) /\ Below W.heap.size W (W2.setCell ⟨g, (rankL l)[0], none⟩ (.int .i64 1))) :=
   ⟨hset, h3.trans (hss.below h3.size (fun i hi => by rw [hi]; exact HG.out.1))⟩
  have cc' : ∃ old : Int, W2.cell? ⟨g, (rankL l)[0], none⟩ = some (.int .i64 old) := ⟨_, cc⟩
  have hml := hm.1
  obtain ⟨s, hs⟩ : ∃ s, s = (rankL l)[0] := ⟨_, rfl⟩
  rw [<- hs] at cr HQ cc' ff hml
  obtain ⟨old, hold⟩ := cc'
  have hslz : (s : Int) < (l.length : Int) := by omega
  have hpz : (0 : Int) < (k : Int) := by omega
  clear h1 h2 h3 cc hset hss hs hm hk0 hk1
  go_wp2_with fail
  go_ret2
  exact ⟨_, rfl, HQ.out.1, HQ.out.2⟩
 ·by_cases hk2 : 1 < k
  ·have hk1z : ¬ (k : Int) = 1 := by omega
   have hk2z : (k : Int) > 1 := by omega
   have hk3z : (1 : Int) < (k : Int) := by omega
   obtain ⟨h1, h2, h3⟩ := HW2.out
   have hall := HA.out.all
   have hco := coinsOf_any W2 (.slice ao l.length c) (.slice uo k cap) l (rankL l) (HS.out.below h3) (by
    have := SrcI.of_own (l := natI (rankL l)) (by rw [natI_len, <- HK.out]; exact h2)
    exact this) (by omega) (by rw [<- HK.out]; omega) (fun s hs => ⟨((rankL_mem l s).1 hs).1, (okCount_at hall ((rankL_mem l s).1 hs).1).1⟩)
   obtain ⟨m, hm⟩ : ∃ m, m + 1 = L := ⟨L - 1, by omega⟩
   have hlast : ∀ (w1 : World) (u : Value) (cs : List ItV), OwnIt 216 w1 W2.heap.size u cs -> cs.map ItV.item = (rankL l).map (coin (valOf l)) -> (∀ x ∈ cs, ∀ a, x.ba = some a -> W2.heap.size <= a.block) -> Below W2.heap.size W2 w1 ->
     Calls Tryz.prog 154 #[u, .int .i64 (L : Int)] w1 fun e w' => ∃ a rn rc, e = .returned (.slice (some a) rn rc) /\ 2 * k - 2 <= rc /\ Aside (∃ xs, rn = xs.length /\ SrcIt w' (.slice (some a) rn rc) xs /\ LocIt W2.heap.size (.slice (some a) rn rc) xs /\ xs.map ItV.item = rowS ((rankL l).map (coin (valOf l))) L /\ Below W2.heap.size W2 w') := fun w1 u cs y1 y2 y3 y4 => by
    have hl : cs.length <= 320 := by
     have := congrArg List.length y2
     rw [List.length_map, List.length_map, <- HK.out] at this
     omega
    have := lastRow_any w1 W2.heap.size u cs m y1.src ⟨fun g hg => (y1.row.lt g hg).1, y3⟩ y4.size hl (by rw [y2]; exact rank_bnd hall) (by omega)
    rw [show ((m : Int) + 1) = (L : Int) by omega] at this
    refine this.mono ?_
    rintro e w' ⟨u2, rfl, xs, z1, z2, z3, z4⟩
    obtain ⟨ro, rc, rfl, hrc, hrn, -⟩ := z1.sh
    have hroom := best_room (valOf l) (rankL l) (rank_rising hall) L HA.out.k
    have hxl := congrArg List.length z3
    rw [List.length_map, y2, hm] at hxl
    have hrc2 : 2 * k - 2 <= rc := by
     rw [HK.out]
     omega
    cases ro with
    | none => have := hrn rfl; omega
    | some a => exact ⟨a, _, rc, rfl, hrc2, xs, rfl, z1, z2, by rw [z3, y2, hm], y4.trans (z4.mono y4.size)⟩
   have HCO := Lib.hid hco
   have HLA : Aside _ := hlast
   obtain ⟨k2, hk2e⟩ : ∃ q, q = 2 * k - 2 := ⟨_, rfl⟩
   have zk2 : 2 * (k : Int) - 2 = (k2 : Int) := by omega
   have wk2 : IntKind.i64.wrap (2 * (k : Int)) = 2 * (k : Int) := by rw [IntKind.wrap_i64]; omega
   have wk3 : IntKind.i64.wrap (2 * (k : Int) - 2) = (k2 : Int) := by rw [IntKind.wrap_i64]; omega
   have wk4 : IntKind.i64.wrap (k2 : Int) = (k2 : Int) := by rw [IntKind.wrap_i64]; omega
   have k20 : (0 : Int) <= (k2 : Int) := by omega
   have HK2 : Aside (k2 = 2 * k - 2 /\ 1 < k) := ⟨hk2e, hk2⟩
   have hk2b : k2 <= 640 := by omega
   rw [<- hk2e] at HLA
   clear hco hlast h1 h2 h3 hm hk2e hk1 hk2 m
   go_upto_region 12 with (first
    | (go_at_call 155; refine HCO.out.mono ?_; rintro e w3 ⟨u, rfl, cs, y1, y2, y3, y4⟩)
    | (go_at_call 154; refine (HLA.out w3 u cs y1 y2 y3 y4).mono ?_; rintro e w4 ⟨a, rn, rc, rfl, hrc, hz⟩; have hrcz : (k2 : Int) <= (rc : Int) := (by omega); have hrc0 : ¬ rc = 0 := (by have := HK2.out; omega)))
   obtain ⟨R, hR⟩ : ∃ R, R = rowS ((rankL l).map (coin (valOf l))) L := ⟨_, rfl⟩
   rw [<- hR] at hz
   have HRR : Aside (R = rowS ((rankL l).map (coin (valOf l))) L) := hR
   obtain ⟨xs, hrn, z1, z2, z3, z4⟩ := hz.out
   subst hrn
   have hk2x : k2 <= xs.length := by
    have hroom := best_room (valOf l) (rankL l) (rank_rising HA.out.all) L HA.out.k
    have hxl := congrArg List.length z3
    rw [List.length_map, hR] at hxl
    have := HK2.out
    rw [HK.out] at this
    omega
   have hbnd : ∀ x ∈ R, x.2.length <= 16384 := by
    intro x hx
    obtain ⟨m, hm⟩ : ∃ m, m + 1 = L := ⟨L - 1, by omega⟩
    rw [hR, <- hm] at hx
    have := (row_bnd (rank_bnd HA.out.all) m x hx).2
    have hp : (2 : Nat) ^ m <= 2 ^ 14 := Nat.pow_le_pow_right (by decide) (by omega)
    have hpe : (2 : Nat) ^ 14 = 16384 := rfl
    omega
   have hsym : ∀ x ∈ R, ∀ i ∈ x.2, i < l.length := by
    intro x hx i hi
    rw [hR] at hx
    exact ((rankL_mem l i).1 (row_worth (valOf l) (rankL l) L x hx i hi).1).1
   have HX : Aside (SrcIt w4 (.slice (some a) xs.length rc) xs /\ LocIt W2.heap.size (.slice (some a) xs.length rc) xs /\ xs.map ItV.item = R /\ (∀ x ∈ R, x.2.length <= 16384) /\ ∀ x ∈ R, ∀ i ∈ x.2, i < l.length) := ⟨z1, z2, z3, hbnd, hsym⟩
   have HW4 : Aside (w4.ownsRow W.heap.size 3 1 (.slice (some ⟨g, 0, none⟩) l.length l.length) l.length (iVs (lensI l.length R 0 [])) /\ Below W.heap.size W w4) := by
    obtain ⟨h1, -, h3⟩ := HW2.out
    rw [lensI_zero]
    exact ⟨own_below h1 z4, h3.trans (z4.mono h3.size)⟩
   clear hR z1 z2 z3 z4 hbnd hsym y1 y2 y3 y4 hz
   go_loopg [57] k2 (fun kx s57 wr => ∃ (j : Nat), s57 = .int .i64 j /\ j <= k2 /\ k2 - j <= kx /\ Aside (wr.ownsRow W.heap.size 3 1 (.slice (some ⟨g, 0, none⟩) l.length l.length) l.length (iVs (lensI l.length R j [])) /\ Only (fun b => b = g) w4 wr))
   case atStart => exact ⟨0, rfl, Nat.zero_le _, Nat.le_refl _, HW4.out.1, Only.refl _ _⟩
   case round =>
    obtain ⟨j, rfl, hj, hkx, HO⟩ := hrel
    by_cases hlt : j < k2
    ·have hltz : (j : Int) < (k2 : Int) := by omega
     have hjx : j < xs.length := by omega
     have hag : a.block ≠ g := by
      have := HX.out.2.1.1 a.block rfl
      have := HG.out.2.1
      omega
     obtain ⟨a', rc', ea, e1, e2, e3⟩ := HX.out.1.at j hjx
     cases ea
     have hit := HX.out.1.its _ (List.getElem_mem hjx)
     have hloc := HX.out.2.1.2 _ (List.getElem_mem hjx)
     have hjR : j < R.length := by rw [<- HX.out.2.2.1, List.length_map]; exact hjx
     have hRj : R[j] = (xs[j]).item := by
      have : R[j]? = some (xs[j]).item := by rw [<- HX.out.2.2.1, List.getElem?_map, List.getElem?_eq_getElem hjx]; rfl
      exact (List.getElem?_eq_some_iff.1 this).2
     have K5 : wr.cell? (a.add (j * 2)) = some (.int .i64 ((xs[j]).n : Int)) := HO.out.2.cell e2 (by rw [Lib.block_add]; exact hag)
     have K6 : wr.cell? ⟨(a.add (j * 2)).block, (a.add (j * 2)).off + 1, none⟩ = some (.slice (xs[j]).ba (xs[j]).s.length (xs[j]).bc) := by
      have e := Deep.add_add a (j * 2) 1
      have h : (⟨(a.add (j * 2)).block, (a.add (j * 2)).off + 1, none⟩ : Addr) = (a.add (j * 2)).add 1 := rfl
      rw [h, e]
      exact HO.out.2.cell e3 (by rw [Lib.block_add]; exact hag)
     have hxR : (xs[j]).item ∈ R := by rw [<- hRj]; exact List.getElem_mem hjR
     have hsl := HX.out.2.2.2.1 _ hxR
     have hsy := HX.out.2.2.2.2 _ hxR
     have hfin : lensI l.length R j (xs[j]).s = lensI l.length R (j + 1) [] := by
      rw [<- lensI_item l.length R j hjR, hRj]
      rfl
     obtain ⟨x, hx⟩ : ∃ x, x = xs[j] := ⟨_, rfl⟩
     rw [<- hx] at K5 K6 hit hloc hsl hsy hfin
     obtain ⟨p, hp⟩ : ∃ p, x.ba = some p := by
      obtain ⟨ao3, c3, e4, e5⟩ := hit.1.shape
      unfold ItV.sl at e4
      injection e4 with e6 _ _
      obtain ⟨q, hq⟩ := e5 (by rw [natI_len]; exact hit.2)
      exact ⟨q, by rw [e6, hq]⟩
     have hpb : p.block ≠ g := by
      have := hloc p hp
      have := HG.out.2.1
      omega
     have hsrc : SrcI w4 (.slice (some p) x.s.length x.bc) (natI x.s) := by
      have := hit.1
      unfold ItV.sl at this
      rw [hp] at this
      exact this
     rw [hp] at K6
     have HXX : Aside (SrcI w4 (.slice (some p) x.s.length x.bc) (natI x.s) /\ p.block ≠ g /\ x.s.length <= 16384 /\ (∀ i ∈ x.s, i < l.length) /\ lensI l.length R j x.s = lensI l.length R (j + 1) []) := ⟨hsrc, hpb, hsl, hsy, hfin⟩
     have hocc : ∀ s, occ s (R.take j) <= 640 * 16384 := fun s => by
      refine Nat.le_trans (occ_bound 16384 s _ (fun y hy => HX.out.2.2.2.1 y (List.mem_of_mem_take hy))) (Nat.mul_le_mul_right _ ?_)
      rw [List.length_take]
      omega
     have HOC : Aside (∀ s, occ s (R.take j) <= 640 * 16384) := hocc
     have hsl2 : x.s.length <= 16384 := hsl
     have H5 : Aside ((wr.alloc (.cells #[.int .i64 (x.n : Int), .slice (some p) x.s.length x.bc] 216)).ownsRow W.heap.size 3 1 (.slice (some ⟨g, 0, none⟩) l.length l.length) l.length (iVs (lensI l.length R j [])) /\ Only (fun b => b = g) w4 (wr.alloc (.cells #[.int .i64 (x.n : Int), .slice (some p) x.s.length x.bc] 216))) := by
      have hA := (Below.refl wr.heap.size wr).alloc (Nat.le_refl _) (.cells #[.int .i64 (x.n : Int), .slice (some p) x.s.length x.bc] 216)
      exact ⟨own_below HO.out.1 hA, HO.out.2.trans (Only.of_below (S := fun b => b = g) hA) (fun i hi => .inl hi)⟩
     clear hx hfin hsy hsl hsrc hpb hp hit hloc hjR hRj hxR e1 e2 e3 hocc hag HO hjx
     go_upto_region 15 with fail
     generalize wr.alloc (.cells #[.int .i64 (x.n : Int), .slice (some p) x.s.length x.bc] 216) = wb at H5 ⊢
     go_loopg [64] x.s.length (fun kx s64 wi => ∃ (q : Nat), s64 = .int .i64 q /\ q <= x.s.length /\ x.s.length - q <= kx /\ Aside (wi.ownsRow W.heap.size 3 1 (.slice (some ⟨g, 0, none⟩) l.length l.length) l.length (iVs (lensI l.length R j (x.s.take q))) /\ Only (fun b => b = g) w4 wi))
     case atStart => exact ⟨0, rfl, Nat.zero_le _, Nat.le_refl _, H5.out.1, H5.out.2⟩
     case round =>
      obtain ⟨q, rfl, hq, hkq, HI⟩ := hrel
      by_cases hqt : q < x.s.length
      ·have hqz : (q : Int) < (x.s.length : Int) := by omega
       obtain ⟨i1, i2⟩ := HI.out
       have hsrc := HXX.out.1
       have hsn := HXX.out.2.2.2.1 _ (List.getElem_mem hqt)
       have cs : wr.cell? (p.add q) = some (.int .i64 ((x.s[q] : Nat) : Int)) := by
        have := i2.cell (srci_cell hsrc q (by rw [natI_len]; exact hqt)) (by rw [Lib.block_add]; exact HXX.out.2.1)
        rw [this]
        unfold natI
        rw [List.getElem_map]
        rfl
       obtain ⟨cc, ff⟩ := own_cellI i1 x.s[q] (by rw [lensI_len]; exact hsn)
       rw [lensI_at _ _ _ _ _ hsn] at cc
       have hstep := lensI_step l.length R j (x.s.take q) x.s[q]
       have htk : x.s.take (q + 1) = x.s.take q ++ [x.s[q]] := List.take_succ_eq_append_getElem hqt
       rw [<- htk] at hstep
       have hob := HOC.out x.s[q]
       have hcb : (x.s.take q).count x.s[q] <= 16384 := by
        refine Nat.le_trans List.count_le_length ?_
        rw [List.length_take]
        omega
       obtain ⟨cz, hcz⟩ : ∃ cz, cz = occ x.s[q] (R.take j) + (x.s.take q).count x.s[q] := ⟨_, rfl⟩
       rw [<- hcz] at cc hstep
       obtain ⟨s, hs⟩ : ∃ s, s = x.s[q] := ⟨_, rfl⟩
       rw [<- hs] at hsn cs cc ff hstep
       have hss : Only (fun i => i = g) wr (wr.setCell ⟨g, s, none⟩ (.int .i64 ((cz : Int) + 1))) := Only.setCell (S := fun i => i = g) rfl _ _
       have HQ : Aside ((wr.setCell ⟨g, s, none⟩ (.int .i64 ((cz : Int) + 1))).ownsRow W.heap.size 3 1 (.slice (some ⟨g, 0, none⟩) l.length l.length) l.length (iVs (lensI l.length R j (x.s.take (q + 1)))) /\ Only (fun b => b = g) w4 (wr.setCell ⟨g, s, none⟩ (.int .i64 ((cz : Int) + 1)))) := by
        refine ⟨?_, i2.trans hss (fun i hi => .inl hi)⟩
        rw [<- hstep]
        exact own_setI i1 s _
       have hcz2 : cz <= 640 * 16384 + 16384 := by omega
       have wcz : IntKind.i64.wrap ((cz : Int) + 1) = (cz : Int) + 1 := by rw [IntKind.wrap_i64]; omega
       have hsz : (s : Int) < (l.length : Int) := by omega
       clear i1 i2 hsrc hstep htk hob hcb hcz hs hss HI
       go_wp2_with fail
       go_roundg (x.s.length - (q + 1))
       case measure => omega
       case rel => exact ⟨q + 1, by go_num, by omega, Nat.le_refl _, HQ⟩
      ·obtain rfl : q = x.s.length := by omega
       have hqz : ¬ (x.s.length : Int) < (x.s.length : Int) := by omega
       obtain ⟨i1, i2⟩ := HI.out
       rw [List.take_length, HXX.out.2.2.2.2] at i1
       have HQ : Aside (wr.ownsRow W.heap.size 3 1 (.slice (some ⟨g, 0, none⟩) l.length l.length) l.length (iVs (lensI l.length R (j + 1) [])) /\ Only (fun b => b = g) w4 wr) := ⟨i1, i2⟩
       clear i1 i2 HI
       go_wp2_with fail
       go_roundg (k2 - (j + 1))
       case measure => omega
       case rel => exact ⟨j + 1, by go_num, by omega, Nat.le_refl _, HQ⟩
    ·obtain rfl : j = k2 := by omega
     have hltz : ¬ (j : Int) < (j : Int) := by omega
     go_wp2_with fail
     go_ret2
     refine ⟨_, rfl, ?_, HW4.out.2.trans (HO.out.2.below (HW4.out.2.size) (fun b hb => by rw [hb]; exact HG.out.1))⟩
     have := HO.out.1
     rw [HK2.out.1, HK.out, HRR.out, lens_best (by rw [<- HK.out]; have := HK2.out.2; omega)] at this
     exact this
  ·have hk0 : k = 0 := by omega
   have hk0z : ¬ (k : Int) = 1 := by omega
   have hk0y : ¬ (k : Int) > 1 := by omega
   have hk0x : ¬ (1 : Int) < (k : Int) := by omega
   have H0 : Aside (k = 0) := hk0
   clear hk0
   go_wp2_with fail
   go_ret2
   obtain ⟨h1, h2, h3⟩ := HW2.out
   refine ⟨_, rfl, ?_, h3⟩
   rw [<- lens_none (L := L) (by rw [<- HK.out]; exact H0.out)]
   exact h1
end Go.Proofs.YthmbbpfgbpacnaaGreatDoor.Huf
namespace Go.Proofs.YthmbbpfgbpacnaaGreatDoor.Huf
open Go.RowKit Go.Shelf Go.Lib Mem
set_option maxHeartbeats 4000000 in
theorem lengths_any (W : World) (v : Value) (l : List Int) (limit : Int) (hs : SrcI W v l) (hl : l.length <= 17592186044416) :
  Calls Tryz.prog 138 #[v, .int .i64 limit] W fun e w' => ∃ u, e = .returned (.tuple #[u, .int .i64 (lengthsR l limit).2]) /\ w'.ownsRow W.heap.size 3 1 u (lengthsR l limit).1.length (iVs (lengthsR l limit).1) /\ Below W.heap.size W w' := by
 by_cases hA : l.all okCount = true /\ l.length <= 320 /\ 1 <= limit /\ limit <= 15 /\ (rankL l).length <= 2 ^ limit.toNat
 ·obtain ⟨a1, a2, a3, a4, a5⟩ := hA
  obtain ⟨L, rfl⟩ : ∃ L : Nat, limit = (L : Int) := ⟨limit.toNat, by omega⟩
  have ha : Able l L := ⟨a1, a2, by omega, by omega, by simpa using a5⟩
  rw [lengthsR_able ha]
  exact lengths_able W v l L hs ha
 ·have hr : lengthsR l limit = ([], 1) := by unfold lengthsR; rw [if_neg hA]
  rw [hr]
  have hmc := mayCount_any W v l hs hl
  by_cases h0 : l.all okCount = true /\ l.length <= 320
  ·rw [h0.1, decide_eq_true h0.2] at hmc
   have HMC := Lib.hid hmc
   by_cases h1 : limit < 1
   ·clear hmc hs hA hr h0
    go_enter Tryz.func138, Tryz.ntmps138
    go_wp2_with (first | (go_at_call 153; refine HMC.out.mono ?_; rintro e w1 ⟨rfl, rfl⟩))
    go_ret2
    exact ⟨_, rfl, own_nilI _ _, Below.refl _ _⟩
   ·by_cases h2 : limit > 15
    ·have h3 : (15 : Int) < limit := h2
     clear hmc hs hA hr h0
     go_enter Tryz.func138, Tryz.ntmps138
     go_wp2_with (first | (go_at_call 153; refine HMC.out.mono ?_; rintro e w1 ⟨rfl, rfl⟩))
     go_ret2
     exact ⟨_, rfl, own_nilI _ _, Below.refl _ _⟩
    ·have h3 : ¬ (15 : Int) < limit := h2
     obtain ⟨L, rfl⟩ : ∃ L : Nat, limit = (L : Int) := ⟨limit.toNat, by omega⟩
     obtain ⟨P, hP⟩ : ∃ P, P = 2 ^ L := ⟨_, rfl⟩
     have hkP : P < (rankL l).length := by
      rcases Nat.lt_or_ge P (rankL l).length with q | q
      ·exact q
      ·exact absurd ⟨h0.1, h0.2, by omega, by omega, by rw [Int.toNat_natCast, <- hP]; exact q⟩ hA
     have hP2 : P <= 32768 := by
      rw [hP]
      exact Nat.le_trans (Nat.pow_le_pow_right (by decide) (show L <= 15 by omega)) (by decide)
     have zP : (2 : Int) ^ L = (P : Int) := by rw [hP, Int.natCast_pow]; rfl
     have wP : IntKind.i64.wrap (P : Int) = (P : Int) := by rw [IntKind.wrap_i64]; omega
     have HR := Lib.hid (ranked_any W v l hs (by omega))
     have hL0 : (0 : Int) <= (L : Int) := by omega
     obtain ⟨ao, c, rfl, -⟩ := hs.shape
     have HMK : Aside (∀ W1 : World, ∃ g vm W2, vm = .slice (some ⟨g, 0, none⟩) l.length l.length /\ (Instr.makeSlice 111 (.int .i64 (l.length : Int)) (.int .i64 (l.length : Int))).run Tryz.prog W1 = .ok vm W2 /\ Below W1.heap.size W1 W2) := fun W1 => by
      obtain ⟨vm, W2, q1, q2, q3, g, hg⟩ := makeI_any W1 l.length (by omega)
      exact ⟨g, vm, W2, hg, q1, q3⟩
     obtain ⟨k, hkk⟩ : ∃ k, k = (rankL l).length := ⟨_, rfl⟩
     rw [<- hkk] at hkP HR
     have hkz : (k : Int) > (P : Int) := by omega
     have hky : (P : Int) < (k : Int) := by omega
     clear hmc hs hA hr h0 hP hkk
     go_enter Tryz.func138, Tryz.ntmps138
     go_upto_region 4 with (first
      | (go_at_call 153; refine HMC.out.mono ?_; rintro e w1 ⟨rfl, rfl⟩)
      | (go_at_call 152; refine HR.out.mono ?_; rintro e w2 ⟨u, rfl, hu, hb⟩; obtain ⟨uo, cap, rfl, hcap, hcm, hnone⟩ := own_shape hu))
     obtain ⟨g, vm, W2, rfl, m1, m2⟩ := HMK.out w2
     have HB : Aside (Below W.heap.size W W2) := hb.trans (m2.mono hb.size)
     clear hu hb hnone m2
     go_wp2_with fail
     go_ret2
     exact ⟨_, rfl, own_nilI _ _, HB.out⟩
  ·have hf : (l.all okCount && decide (l.length <= 320)) = false := by
    cases h : (l.all okCount && decide (l.length <= 320)) with
    | false => rfl
    | true =>
     rw [Bool.and_eq_true] at h
     exact absurd ⟨h.1, of_decide_eq_true h.2⟩ h0
   rw [hf] at hmc
   have HMC := Lib.hid hmc
   clear hmc hs hA hr h0 hf
   go_enter Tryz.func138, Tryz.ntmps138
   go_wp2_with (first | (go_at_call 153; refine HMC.out.mono ?_; rintro e w1 ⟨rfl, rfl⟩))
   go_ret2
   exact ⟨_, rfl, own_nilI _ _, Below.refl _ _⟩
end Go.Proofs.YthmbbpfgbpacnaaGreatDoor.Huf
namespace Go.Proofs.YthmbbpfgbpacnaaGreatDoor.Huf
theorem tot_range (f : Nat -> Nat) : ∀ n, sumN f n = tot ((List.range n).map f)
 | 0 => rfl
 | n + 1 => by
  rw [List.range_succ, List.map_append, tot_append, <- tot_range f n]
  simp [sumN, tot]
theorem tot_filter (f : Nat -> Nat) (p : Nat -> Bool) : ∀ l : List Nat, (∀ i ∈ l, p i = false -> f i = 0) -> tot (l.map f) = tot ((l.filter p).map f)
 | [], _ => rfl
 | x :: l, h => by
  have ih := tot_filter f p l (fun i hi => h i (List.mem_cons_of_mem _ hi))
  rw [List.filter_cons, List.map_cons]
  split
  ·simp only [tot, List.map_cons, ih]
  ·rename_i hp
   have := h x (List.mem_cons_self ..) (by simpa using hp)
   simp only [tot, this, ih, Nat.zero_add]
theorem sum_rank (l : List Int) (f : Nat -> Nat) (h : ∀ i, i < l.length -> i ∉ rankL l -> f i = 0) : sumN f l.length = tot ((rankL l).map f) := by
 rw [tot_range, tot_filter f (fun i => decide (i ∈ rankL l)) _ (fun i hi hp => h i (List.mem_range.1 hi) (of_decide_eq_false hp))]
 refine tot_perm ((List.Perm.map f) ?_)
 refine (List.perm_ext_iff_of_nodup (List.nodup_range.filter _) (rankL_nodup l)).2 fun i => ?_
 rw [List.mem_filter, List.mem_range]
 constructor
 ·rintro ⟨_, h2⟩; exact of_decide_eq_true h2
 ·intro h2; exact ⟨((rankL_mem l i).1 h2).1, decide_eq_true h2⟩
theorem spend_tot (L : Nat) (g : Nat -> Nat × Nat) (hL : L <= 15) : ∀ r : List Nat, (∀ i ∈ r, 0 < (g i).2 /\ (g i).2 <= L) -> spend L (r.map g) * 2 ^ (15 - L) = tot (r.map fun i => w15 (g i).2)
 | [], _ => by simp [spend, tot]
 | x :: r, h => by
  have ih := spend_tot L g hL r (fun i hi => h i (List.mem_cons_of_mem _ hi))
  have hx := h x (List.mem_cons_self ..)
  have hp : (2 : Nat) ^ (L - (g x).2) * 2 ^ (15 - L) = 2 ^ (15 - (g x).2) := by rw [<- Nat.pow_add]; congr 1; omega
  simp only [List.map_cons, spend, tot, Nat.add_mul, ih, hp, w15_pos hx.1]
theorem two_L (L : Nat) (hL : L <= 15) : (2 : Nat) ^ L * 2 ^ (15 - L) = 32768 := by
 rw [<- Nat.pow_add, show L + (15 - L) = 15 by omega]
structure Trial (c t : List Int) (L : Nat) : Prop where
 n : t.length = c.length
 at_ : ∀ i, i < c.length -> 0 <= numAt t i /\ numAt t i <= L /\ (numAt c i ≠ 0 -> numAt t i ≠ 0)
 w : weightN (lenN t) c.length <= 32768
theorem out_at {c : List Int} {L : Nat} {i : Nat} (hi : i < c.length) : numAt (lensOut c L) i = if (rankL c).length = 1 then (if i ∈ rankL c then 1 else 0) else (bestLen (valOf c) (rankL c) L i : Int) := by
 have hl : (lensOut c L).length = c.length := by unfold lensOut; split <;> simp
 rw [numAt_eq _ i (by rw [hl]; exact hi)]
 unfold lensOut
 split
 ·rw [List.getElem_map, List.getElem_range]
 ·rw [List.getElem_map, List.getElem_range]
theorem out_len (c : List Int) (L : Nat) : (lensOut c L).length = c.length := by unfold lensOut; split <;> simp
theorem out_sym {c : List Int} {L : Nat} (h : Able c L) {i : Nat} (hi : i < c.length) : 0 <= numAt (lensOut c L) i /\ numAt (lensOut c L) i <= L /\ (numAt (lensOut c L) i = 0 ↔ numAt c i = 0) := by
 rw [out_at hi]
 have hlo := h.lo
 have hm := rankL_mem c i
 split
 ·split
  ·rename_i hr
   exact ⟨by omega, by omega, ⟨fun e => by omega, fun e => absurd e (hm.1 hr).2⟩⟩
  ·rename_i hr
   refine ⟨by omega, by omega, ⟨fun _ => ?_, fun _ => rfl⟩⟩
   rcases Classical.em (numAt c i = 0) with e | e
   ·exact e
   ·exact absurd (hm.2 ⟨hi, e⟩) hr
 ·rename_i hk
  have hb := best_le (valOf c) (rankL c) (rankL_nodup c) (rank_rising h.all) L h.k i
  refine ⟨by omega, by omega, ⟨fun e => ?_, fun e => ?_⟩⟩
  ·rcases Classical.em (i ∈ rankL c) with hr | hr
   ·have hp := List.length_pos_of_mem hr
    have := best_some (valOf c) (rankL c) (rankL_nodup c) (rank_rising h.all) L (by omega) h.k i hr
    omega
   ·rcases Classical.em (numAt c i = 0) with e | e
    ·exact e
    ·exact absurd (hm.2 ⟨hi, e⟩) hr
  ·have := best_none (valOf c) (rankL c) L i (fun hr => (hm.1 hr).2 e)
   omega
theorem out_lenN {c : List Int} {L : Nat} (hk : (rankL c).length ≠ 1) {i : Nat} (hi : i < c.length) : lenN (lensOut c L) i = bestLen (valOf c) (rankL c) L i := by
 unfold lenN
 rw [out_at hi, if_neg hk]
 exact Int.toNat_natCast _
theorem out_weight {c : List Int} {L : Nat} (h : Able c L) : weightN (lenN (lensOut c L)) c.length = tot ((rankL c).map fun i => w15 (lenN (lensOut c L) i)) :=
 sum_rank c _ fun i hi hn => by
  have h0 : numAt c i = 0 := by
   rcases Classical.em (numAt c i = 0) with e | e
   ·exact e
   ·exact absurd ((rankL_mem c i).2 ⟨hi, e⟩) hn
  have := (out_sym h hi).2.2.2 h0
  unfold lenN
  rw [this]
  rfl
theorem out_full {c : List Int} {L : Nat} (h : Able c L) (h2 : 2 <= (rankL c).length) : weightN (lenN (lensOut c L)) c.length = 32768 := by
 have hf := best_full (valOf c) (rankL c) (rankL_nodup c) (rank_rising h.all) L h2 h.k
 have hs := spend_tot L (fun i => (valOf c i, bestLen (valOf c) (rankL c) L i)) h.hi (rankL c) (fun i hi => ⟨best_some (valOf c) (rankL c) (rankL_nodup c) (rank_rising h.all) L h2 h.k i hi, best_le (valOf c) (rankL c) (rankL_nodup c) (rank_rising h.all) L h.k i⟩)
 rw [hf, two_L L h.hi] at hs
 rw [out_weight h, hs]
 congr 1
 refine List.map_congr_left fun i hi => ?_
 rw [out_lenN (by omega) ((rankL_mem c i).1 hi).1]
theorem out_trial {c : List Int} {L : Nat} (h : Able c L) : Trial c (lensOut c L) L := by
 refine ⟨out_len c L, fun i hi => ?_, ?_⟩
 ·obtain ⟨h1, h2, h3⟩ := out_sym h hi
  exact ⟨h1, h2, fun h4 h5 => h4 (h3.1 h5)⟩
 ·rcases Nat.lt_or_ge (rankL c).length 2 with q | q
  ·rw [out_weight h]
   match hr : rankL c, q with
   | [], _ => simp [tot]
   | [s], _ =>
    have := w15_le (lenN (lensOut c L) s)
    simp only [List.map_cons, List.map_nil, tot]
    omega
   | _ :: _ :: _, q => exact absurd q (by simp)
  ·rw [out_full h q]
   exact Nat.le_refl _
end Go.Proofs.YthmbbpfgbpacnaaGreatDoor.Huf
