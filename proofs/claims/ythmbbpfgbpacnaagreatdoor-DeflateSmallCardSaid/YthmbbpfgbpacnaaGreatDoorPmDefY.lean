/- Package deflate: the pieces of a text; how many of them make a block. Package deflate: the blocks of a text, in numbers (no program). Package deflate: a text is cut into pieces. -/
import Derived.Test.YthmbbpfgbpacnaaGreatDoorPmDefD
import Derived.Test.YthmbbpfgbpacnaaGreatDoorPmLzH
import Derived.Test.YthmbbpfgbpacnaaGreatDoorPmLzZ
import Derived.Test.YthmbbpfgbpacnaaGreatDoorPmDefU
namespace Go.Proofs.YthmbbpfgbpacnaaGreatDoor.Def
open Go.RowKit Go.Shelf Go.Lib Mem Bit Huf Lz Inf
def fulB (lv n s : Nat) : Bool := if lv = 0 then decide (s = 30000) else (decide (n = 8192) || decide (30000 < s))
def fillF (lv : Nat) : List Pc -> Nat -> Nat -> Nat × Nat
 | [], n, s => (n, s)
 | p :: ps, n, s => if fulB lv n s = true then (n, s) else fillF lv ps (n + 1) (s + (max p.len 1).toNat)
def sumP : List Pc -> Nat
 | [] => 0
 | p :: ps => (max p.len 1).toNat + sumP ps
set_option maxHeartbeats 1000000 in
theorem full_any (n s lv : Nat) (W : World) : Calls Tryz.prog 57 #[.int .i64 (n : Int), .int .i64 (s : Int), .int .i64 (lv : Int)] W fun e w' => e = .returned (.bool (fulB lv n s)) /\ W = w' := by
 unfold fulB
 by_cases h0 : lv = 0
 ·subst h0
  rw [if_pos rfl]
  by_cases h1 : s = 30000
  ·subst h1
   go_enter Tryz.func57, Tryz.ntmps57
   go_wp2
   go_ret
   exact ⟨rfl, rfl⟩
  ·have h1z : ¬ (s : Int) = 30000 := by omega
   have h1b : ((s : Int) == 30000) = false := by rw [beq_eq_false_iff_ne]; exact h1z
   rw [decide_eq_false h1]
   go_enter Tryz.func57, Tryz.ntmps57
   go_wp2
   go_ret
   exact ⟨rfl, rfl⟩
 ·have h0z : ¬ (lv : Int) = 0 := by omega
  have h0b : ((lv : Int) == 0) = false := by rw [beq_eq_false_iff_ne]; exact h0z
  rw [if_neg h0]
  by_cases h1 : n = 8192
  ·subst h1
   go_enter Tryz.func57, Tryz.ntmps57
   go_wp2
   go_ret
   exact ⟨rfl, rfl⟩
  ·have h1z : ¬ (n : Int) = 8192 := by omega
   have h1b : ((n : Int) == 8192) = false := by rw [beq_eq_false_iff_ne]; exact h1z
   rw [decide_eq_false h1]
   by_cases h2 : 30000 < s
   ·have h2z : (s : Int) > 30000 := by omega
    rw [decide_eq_true h2]
    go_enter Tryz.func57, Tryz.ntmps57
    go_wp2
    go_ret
    exact ⟨rfl, rfl⟩
   ·have h2z : ¬ (s : Int) > 30000 := by omega
    rw [decide_eq_false h2]
    go_enter Tryz.func57, Tryz.ntmps57
    go_wp2
    go_ret
    exact ⟨rfl, rfl⟩
set_option maxHeartbeats 1000000 in
theorem mayBe_any (lv : Int) (W : World) : Calls Tryz.prog 24 #[.int .i64 lv] W fun e w' => e = .returned (.bool (decide (0 <= lv /\ lv <= 9))) /\ W = w' := by
 by_cases h0 : 0 <= lv
 ·have h0g : lv ≥ 0 := h0
  by_cases h1 : lv <= 9
  ·rw [decide_eq_true ⟨h0, h1⟩]
   go_enter Tryz.func24, Tryz.ntmps24
   go_wp2
   go_ret
   exact ⟨rfl, rfl⟩
  ·rw [decide_eq_false (fun q => h1 q.2)]
   go_enter Tryz.func24, Tryz.ntmps24
   go_wp2
   go_ret
   exact ⟨rfl, rfl⟩
 ·have h0g : ¬ lv ≥ 0 := h0
  rw [decide_eq_false (fun q => h0 q.1)]
  go_enter Tryz.func24, Tryz.ntmps24
  go_wp2
  go_ret
  exact ⟨rfl, rfl⟩
theorem len_bd {p : Pc} (h : mayB p = true) : 0 <= p.len /\ p.len <= 258 := by
 unfold mayB at h
 split at h
 ·rename_i e; omega
 ·have := of_decide_eq_true h; omega
set_option maxRecDepth 100000 in
set_option maxHeartbeats 4000000 in
theorem fill_any (W : World) (v : Value) (ps : List Pc) (lv : Nat) (hs : SrcP W v ps) (hm : ∀ p ∈ ps, mayB p = true) (hl : ps.length <= 1048576) :
  Calls Tryz.prog 40 #[v, .int .i64 (lv : Int)] W fun e w' => e = .returned (.tuple #[.int .i64 ((fillF lv ps 0 0).1 : Int), .int .i64 ((fillF lv ps 0 0).2 : Int)]) /\ Drew W w' := by
 obtain ⟨ao, c, rfl, hao⟩ := hs.shape
 have HS : Aside (SrcP W (.slice ao ps.length c) ps) := hs
 have HA : Aside (0 < ps.length -> ∃ a, ao = some a) := hao
 have HM : Aside (∀ p ∈ ps, mayB p = true) := hm
 obtain ⟨r, hr⟩ : ∃ r, r = fillF lv ps 0 0 := ⟨_, rfl⟩
 rw [<- hr]
 have H0 : Aside (fillF lv (ps.drop 0) 0 0 = r) := hr.symm
 have HF := fun w n s => Lib.hid (full_any n s lv w)
 clear hs hao hm hr
 go_enter Tryz.func40, Tryz.ntmps40
 go_upto_region 1 with fail
 go_loopg [4, 5] ps.length (fun kx s4 s5 wr => ∃ (n s : Nat), s4 = .int .i64 (n : Int) /\ s5 = .int .i64 (s : Int) /\ n <= ps.length /\ s <= 258 * n /\ ps.length - n <= kx /\ Aside (fillF lv (ps.drop n) n s = r) /\ Aside (Drew W wr))
 case atStart => exact ⟨0, 0, rfl, rfl, Nat.zero_le _, Nat.le_refl _, Nat.le_refl _, H0.out, Drew.refl _⟩
 case round =>
  clear H0
  obtain ⟨n, s, rfl, rfl, hn, hsz, hkx, HX, HD⟩ := hrel
  by_cases hlt : n < ps.length
  ·have hltz : (n : Int) < (ps.length : Int) := by omega
   have n0 : (0 : Int) <= (n : Int) := by omega
   have HFn := fun w => HF w n s
   have hX := HX.out
   rw [List.drop_eq_getElem_cons hlt] at hX
   unfold fillF at hX
   by_cases hfu : fulB lv n s = true
   ·rw [if_pos hfu] at hX
    have HR : Aside (r = (n, s)) := hX.symm
    rw [hfu] at HFn
    clear hX HX HF hfu
    go_wp2_with (go_at_call 57; refine (HFn _).out.mono ?_; rintro e w1 ⟨rfl, rfl⟩)
    go_ret2
    rw [HR.out]
    exact ⟨rfl, HD.out⟩
   ·rw [if_neg hfu] at hX
    obtain ⟨a, rfl⟩ := HA.out (by omega)
    obtain ⟨c1, c2, c3⟩ := srcp_cells (HS.out.drew HD.out) n hlt
    have hb := len_bd (HM.out _ (List.getElem_mem hlt))
    rw [Bool.not_eq_true] at hfu
    rw [hfu] at HFn
    have wn : IntKind.i64.wrap ((n : Int) + 1) = (n : Int) + 1 := by rw [IntKind.wrap_i64]; omega
    obtain ⟨z, hz⟩ : ∃ z, z = (ps[n]).len := ⟨_, rfl⟩
    rw [<- hz] at hX c1 hb
    have mx : (max z 1).toNat <= 258 := by omega
    have ws : IntKind.i64.wrap ((s : Int) + max z 1) = ((s + (max z 1).toNat : Nat) : Int) := by rw [IntKind.wrap_i64]; omega
    have HXn : Aside (fillF lv (ps.drop (n + 1)) (n + 1) (s + (max z 1).toNat) = r) := hX
    have hsz2 : s + (max z 1).toNat <= 258 * (n + 1) := by omega
    clear hX HX HF hfu c2 c3 hz
    generalize s + (max z 1).toNat = s2 at *
    go_wp2_with (go_at_call 57; refine (HFn _).out.mono ?_; rintro e w1 ⟨rfl, rfl⟩)
    go_roundg (ps.length - (n + 1))
    case measure => omega
    case rel => exact ⟨n + 1, s2, by go_num, by first | rfl | go_num, by omega, hsz2, Nat.le_refl _, HXn.out, HD.out⟩
  ·obtain rfl : n = ps.length := by omega
   have hltz : ¬ (ps.length : Int) < (ps.length : Int) := by omega
   have hX := HX.out
   rw [List.drop_length] at hX
   have HR : Aside (r = (ps.length, s)) := hX.symm
   clear hX HX HF
   go_wp2_with fail
   go_ret2
   rw [HR.out]
   exact ⟨rfl, HD.out⟩
end Go.Proofs.YthmbbpfgbpacnaaGreatDoor.Def
namespace Go.Proofs.YthmbbpfgbpacnaaGreatDoor.Def
open Go.RowKit Go.Shelf Go.Lib Mem Bit Huf Lz Inf
theorem fulB_0 (lv : Nat) : fulB lv 0 0 = false := by
 unfold fulB
 split <;> rfl
theorem fillF_spec (lv : Nat) : ∀ (ps : List Pc) (n s : Nat), n <= (fillF lv ps n s).1 /\ (fillF lv ps n s).1 <= n + ps.length /\ (fillF lv ps n s).2 = s + sumP (ps.take ((fillF lv ps n s).1 - n)) /\ ((fillF lv ps n s).1 = n + ps.length \/ fulB lv (fillF lv ps n s).1 (fillF lv ps n s).2 = true)
 | [], n, s => ⟨Nat.le_refl _, Nat.le_refl _, by simp [fillF, sumP], .inl rfl⟩
 | p :: ps, n, s => by
  unfold fillF
  split
  ·rename_i h
   exact ⟨Nat.le_refl _, Nat.le_add_right _ _, by simp [sumP], .inr h⟩
  ·have ih := fillF_spec lv ps (n + 1) (s + (max p.len 1).toNat)
   obtain ⟨i1, i2, i3, i4⟩ := ih
   rw [List.length_cons]
   refine ⟨by omega, by omega, ?_, i4.imp (fun q => by omega) id⟩
   rw [i3]
   obtain ⟨k, hk⟩ : ∃ k, (fillF lv ps (n + 1) (s + (max p.len 1).toNat)).1 - n = k + 1 := ⟨(fillF lv ps (n + 1) (s + (max p.len 1).toNat)).1 - n - 1, by omega⟩
   rw [hk, show (fillF lv ps (n + 1) (s + (max p.len 1).toNat)).1 - (n + 1) = k by omega, List.take_succ_cons]
   show _ = s + ((max p.len 1).toNat + sumP _)
   omega
theorem fillF_pos (lv : Nat) (p : Pc) (ps : List Pc) : 1 <= (fillF lv (p :: ps) 0 0).1 := by
 unfold fillF
 rw [if_neg (by rw [fulB_0]; decide)]
 exact (fillF_spec lv ps 1 _).1
theorem fillF_bd {lv : Nat} (h0 : lv ≠ 0) : ∀ (ps : List Pc) (n s : Nat), (∀ p ∈ ps, mayB p = true) -> n <= 8192 -> s <= 30258 -> (fillF lv ps n s).1 <= 8192 /\ (fillF lv ps n s).2 <= 30258
 | [], n, s, _, h1, h2 => ⟨h1, h2⟩
 | p :: ps, n, s, hm, h1, h2 => by
  unfold fillF
  split
  ·exact ⟨h1, h2⟩
  ·rename_i h
   unfold fulB at h
   rw [if_neg h0, Bool.or_eq_true, decide_eq_true_iff, decide_eq_true_iff] at h
   have := len_bd (hm p List.mem_cons_self)
   exact fillF_bd h0 ps (n + 1) _ (fun q hq => hm q (List.mem_cons_of_mem _ hq)) (by omega) (by omega)
theorem fillF_bd0 : ∀ (ps : List Pc) (n s : Nat), (∀ p ∈ ps, p.len = 0) -> n = s -> s <= 30000 -> (fillF 0 ps n s).1 = (fillF 0 ps n s).2 /\ (fillF 0 ps n s).2 <= 30000
 | [], n, s, _, h1, h2 => ⟨h1, h2⟩
 | p :: ps, n, s, hm, h1, h2 => by
  unfold fillF
  split
  ·exact ⟨h1, h2⟩
  ·rename_i h
   unfold fulB at h
   rw [if_pos rfl, decide_eq_true_iff] at h
   have := hm p List.mem_cons_self
   exact fillF_bd0 ps (n + 1) _ (fun q hq => hm q (List.mem_cons_of_mem _ hq)) (by rw [this]; omega) (by rw [this]; omega)
theorem sumP_append : ∀ x y : List Pc, sumP (x ++ y) = sumP x + sumP y
 | [], y => (Nat.zero_add _).symm
 | p :: x, y => by
  show _ + sumP (x ++ y) = _ + sumP x + _
  rw [sumP_append x y]; omega
theorem sumP_ge : ∀ x : List Pc, x.length <= sumP x
 | [] => Nat.le_refl _
 | p :: x => by
  have := sumP_ge x
  show x.length + 1 <= (max p.len 1).toNat + sumP x
  omega
theorem sumP_split (ps : List Pc) (k : Nat) : sumP (ps.take k) + sumP (ps.drop k) = sumP ps := by
 rw [<- sumP_append, List.take_append_drop]
theorem exp_len : ∀ (ps : List Pc) (m : Int) (out w : List UInt8), expR ps m out = (w, 0) -> w.length = out.length + sumP ps
 | [], m, out, w, h => by
  obtain rfl : out = w := congrArg Prod.fst h
  rfl
 | p :: ps, m, out, w, h => by
  rw [expR_cons] at h
  split at h
  ·cases congrArg Prod.snd h
  ·rename_i h1
   split at h
   ·cases congrArg Prod.snd h
   ·have := exp_len ps m _ w h
    rw [ontoN_len p out (by simpa using fun q => h1 (.inl q))] at this
    show _ = _ + (_ + sumP ps)
    omega
theorem exp_split : ∀ (xs ys : List Pc) (m : Int) (out w : List UInt8), expR (xs ++ ys) m out = (w, 0) -> ∃ mid, expR xs m out = (mid, 0) /\ expR ys m mid = (w, 0)
 | [], ys, m, out, w, h => ⟨out, rfl, h⟩
 | p :: xs, ys, m, out, w, h => by
  rw [List.cons_append, expR_cons] at h
  split at h
  ·cases congrArg Prod.snd h
  ·rename_i h1
   split at h
   ·cases congrArg Prod.snd h
   ·rename_i h2
    obtain ⟨mid, i1, i2⟩ := exp_split xs ys m _ w h
    exact ⟨mid, by rw [expR_cons, if_neg h1, if_neg h2]; exact i1, i2⟩
theorem cpN_pre : ∀ (n d : Nat) (out : List UInt8), ∃ t, cpN n d out = out ++ t
 | 0, _, out => ⟨[], (List.append_nil _).symm⟩
 | n + 1, d, out => by
  obtain ⟨t, ht⟩ := cpN_pre n d (out ++ [out.getD (out.length - d) 0])
  exact ⟨[out.getD (out.length - d) 0] ++ t, by rw [cpN_succ, ht, List.append_assoc]⟩
theorem exp_pre : ∀ (ps : List Pc) (m : Int) (out w : List UInt8), expR ps m out = (w, 0) -> ∃ t, w = out ++ t
 | [], m, out, w, h => ⟨[], by rw [List.append_nil]; exact (congrArg Prod.fst h).symm⟩
 | p :: ps, m, out, w, h => by
  rw [expR_cons] at h
  split at h
  ·cases congrArg Prod.snd h
  ·split at h
   ·cases congrArg Prod.snd h
   ·obtain ⟨t, ht⟩ := exp_pre ps m _ w h
    have : ∃ u, ontoN p out = out ++ u := by
     unfold ontoN
     split
     ·exact ⟨_, rfl⟩
     ·exact cpN_pre _ _ _
    obtain ⟨u, hu⟩ := this
    exact ⟨u ++ t, by rw [ht, hu, List.append_assoc]⟩
theorem exp_mono : ∀ (ps : List Pc) (m m' : Int) (out w : List UInt8), m <= m' -> expR ps m out = (w, 0) -> expR ps m' out = (w, 0)
 | [], _, _, _, _, _, h => h
 | p :: ps, m, m', out, w, hm, h => by
  rw [expR_cons] at h ⊢
  split at h
  ·cases congrArg Prod.snd h
  ·rename_i h1
   split at h
   ·cases congrArg Prod.snd h
   ·rename_i h2
    rw [if_neg h1, if_neg (by omega)]
    exact exp_mono ps m m' _ w hm h
def litP (c : UInt8) : Pc := ⟨0, 0, c⟩
theorem exp_lits (m : Int) : ∀ (l out : List UInt8), ((out.length + l.length : Nat) : Int) <= m -> expR (l.map litP) m out = (out ++ l, 0)
 | [], out, _ => by rw [List.append_nil]; rfl
 | c :: l, out, h => by
  rw [List.length_cons] at h
  rw [List.map_cons, expR_cons, if_neg (by
   rintro (q | q)
   ·cases q
   ·have : (litP c).dist = 0 := rfl
    omega), if_neg (by show ¬ (max (0 : Int) 1 > _); omega)]
  have := exp_lits m l (out ++ [c]) (by rw [List.length_append, List.length_singleton]; omega)
  rw [show ontoN (litP c) out = out ++ [c] from rfl, this, List.append_assoc]
  rfl
def piecesD (b : List UInt8) (lv : Nat) : List Pc := if lv = 0 then b.map litP else (piecesR b 32768 ((2 * 2 ^ lv : Nat) : Int)).1
theorem piecesD_exp (b : List UInt8) (lv : Nat) (hb : b.length <= 1048576) (hl : lv <= 9) : expR (piecesD b lv) ((1048576 : Nat) : Int) [] = (b, 0) := by
 unfold piecesD
 split
 ·have := exp_lits ((1048576 : Nat) : Int) b [] (by rw [List.length_nil]; omega)
  rwa [List.nil_append] at this
 ·have hp : (2 : Nat) ^ lv <= 2 ^ 9 := Nat.pow_le_pow_right (by decide) hl
  rcases piecesR_cases b 32768 ((2 * 2 ^ lv : Nat) : Int) with ⟨-, -, h⟩ | ⟨wd, dp, h1, h2, h3, h4, h5, h6, h7⟩
  ·exfalso
   rw [show (2 : Nat) ^ 9 = 512 by decide] at hp
   omega
  ·rw [h7]
   have := expand_back b wd dp h4 h6
   unfold expandR at this
   rw [if_neg (by omega)] at this
   exact exp_mono _ _ _ _ _ (by omega) this
theorem piecesD_lit (b : List UInt8) : ∀ p ∈ piecesD b 0, p.len = 0 := fun p hp => by
 unfold piecesD at hp
 rw [if_pos rfl] at hp
 obtain ⟨c, -, rfl⟩ := List.mem_map.1 hp
 rfl
def blocksF (lv ways last : Nat) : Nat -> List Pc -> List UInt8 -> List PB
 | 0, _, _ => []
 | f + 1, ps, b => if (fillF lv ps 0 0).1 < ps.length then ⟨ps.take (fillF lv ps 0 0).1, b.take (fillF lv ps 0 0).2, 0, ways⟩ :: blocksF lv ways last f (ps.drop (fillF lv ps 0 0).1) (b.drop (fillF lv ps 0 0).2)
  else [⟨ps.take (fillF lv ps 0 0).1, b.take (fillF lv ps 0 0).2, last, ways⟩]
theorem blocksF_last (lv ways last : Nat) : ∀ (f : Nat) (ps : List Pc) (b : List UInt8), ps.length < f -> ∃ ys x, blocksF lv ways 0 f ps b = ys ++ [x] /\ blocksF lv ways last f ps b = ys ++ [{ x with last := last }]
 | 0, _, _, h => by omega
 | f + 1, ps, b, h => by
  unfold blocksF
  split
  ·rename_i hc
   have h1 : 1 <= (fillF lv ps 0 0).1 := by
    cases ps with
    | nil => simp at hc
    | cons p ps => exact fillF_pos lv p ps
   obtain ⟨ys, x, e1, e2⟩ := blocksF_last lv ways last f (ps.drop (fillF lv ps 0 0).1) (b.drop (fillF lv ps 0 0).2) (by rw [List.length_drop]; omega)
   exact ⟨_ :: ys, x, by rw [e1]; rfl, by rw [e2]; rfl⟩
  ·exact ⟨[], _, rfl, rfl⟩
def Chain (M : Int) : List PB -> List UInt8 -> Prop
 | [], _ => True
 | x :: xs, out => expR x.ps M out = (out ++ x.b, 0) /\ x.ok /\ Chain M xs (out ++ x.b)
theorem fill_block {lv : Nat} {M : Int} {ps : List Pc} {b out : List UInt8} (he : expR ps M out = (out ++ b, 0)) (h0 : lv = 0 -> ∀ p ∈ ps, p.len = 0) :
  (fillF lv ps 0 0).1 <= ps.length /\ (fillF lv ps 0 0).2 <= b.length /\ sumP (ps.take (fillF lv ps 0 0).1) = (fillF lv ps 0 0).2 /\ (fillF lv ps 0 0).1 <= 30000 /\ (fillF lv ps 0 0).2 <= 30258 /\ ((fillF lv ps 0 0).1 = ps.length -> (fillF lv ps 0 0).2 = b.length) /\
   expR (ps.take (fillF lv ps 0 0).1) M out = (out ++ b.take (fillF lv ps 0 0).2, 0) /\ expR (ps.drop (fillF lv ps 0 0).1) M (out ++ b.take (fillF lv ps 0 0).2) = (out ++ b.take (fillF lv ps 0 0).2 ++ b.drop (fillF lv ps 0 0).2, 0) /\ ((fillF lv ps 0 0).1 < ps.length -> 8192 <= (fillF lv ps 0 0).2) := by
 have hm := expR_may ps M out _ he
 obtain ⟨s1, s2, s3, s4⟩ := fillF_spec lv ps 0 0
 rw [Nat.sub_zero, Nat.zero_add] at s3
 rw [Nat.zero_add] at s2 s4
 have hl := exp_len ps M out _ he
 rw [List.length_append] at hl
 have hsp := sumP_split ps (fillF lv ps 0 0).1
 have hbd : (fillF lv ps 0 0).1 <= 30000 /\ (fillF lv ps 0 0).2 <= 30258 := by
  by_cases q : lv = 0
  ·subst q
   have := fillF_bd0 ps 0 0 (h0 rfl) rfl (by decide)
   omega
  ·have := fillF_bd q ps 0 0 hm (by decide) (by decide)
   omega
 have he2 := he
 rw [<- List.take_append_drop (fillF lv ps 0 0).1 ps] at he2
 obtain ⟨mid, e1, e2⟩ := exp_split _ _ _ _ _ he2
 have hml := exp_len _ _ _ _ e1
 obtain ⟨t, ht⟩ := exp_pre _ _ _ _ e1
 obtain ⟨u, hu⟩ := exp_pre _ _ _ _ e2
 have htl : t.length = (fillF lv ps 0 0).2 := by
  rw [ht, List.length_append] at hml
  omega
 have hbtu : b = t ++ u := by
  rw [ht, List.append_assoc] at hu
  exact List.append_cancel_left hu
 have htk : b.take (fillF lv ps 0 0).2 = t := by rw [hbtu, <- htl]; exact List.take_left
 have hdr : b.drop (fillF lv ps 0 0).2 = u := by rw [hbtu, <- htl]; exact List.drop_left
 refine ⟨s2, by omega, s3.symm, hbd.1, hbd.2, fun q => ?_, ?_, ?_, fun q => ?_⟩
 ·rw [q, List.drop_length] at hsp
  have : sumP ([] : List Pc) = 0 := rfl
  rw [q] at s3
  omega
 ·rw [htk, <- ht]; exact e1
 ·rw [htk, hdr, <- ht, <- hu]; exact e2
 ·have hf : fulB lv (fillF lv ps 0 0).1 (fillF lv ps 0 0).2 = true := s4.resolve_left (by omega)
  have hg := sumP_ge (ps.take (fillF lv ps 0 0).1)
  rw [List.length_take] at hg
  unfold fulB at hf
  split at hf
  ·have := of_decide_eq_true hf; omega
  ·rw [Bool.or_eq_true, decide_eq_true_iff, decide_eq_true_iff] at hf
   omega
theorem blocksF_chain {lv ways last : Nat} {M : Int} (hl : last < 2) (hw1 : 1 <= ways) (hw3 : ways <= 3) : ∀ (f : Nat) (ps : List Pc) (b out : List UInt8), ps.length < f -> expR ps M out = (out ++ b, 0) -> (lv = 0 -> ∀ p ∈ ps, p.len = 0) -> Chain M (blocksF lv ways last f ps b) out /\ ((blocksF lv ways last f ps b).map PB.b).flatten = b
 | 0, _, _, _, h, _, _ => by omega
 | f + 1, ps, b, out, h, he, h0 => by
  obtain ⟨q1, q2, q3, q4, q5, q6, q7, q8, q9⟩ := fill_block he h0
  have hm := expR_may ps M out _ he
  have hok : ∀ l, l < 2 -> PB.ok ⟨ps.take (fillF lv ps 0 0).1, b.take (fillF lv ps 0 0).2, l, ways⟩ := fun l hl =>
   ⟨fun p hp => hm p (List.mem_of_mem_take hp), by simp only [List.length_take]; omega, by simp only [List.length_take]; omega, hl, hw1, hw3⟩
  unfold blocksF
  split
  ·rename_i hc
   have h1 : 1 <= (fillF lv ps 0 0).1 := by
    cases ps with
    | nil => simp at hc
    | cons p ps => exact fillF_pos lv p ps
   obtain ⟨i1, i2⟩ := blocksF_chain hl hw1 hw3 f (ps.drop (fillF lv ps 0 0).1) (b.drop (fillF lv ps 0 0).2) (out ++ b.take (fillF lv ps 0 0).2) (by rw [List.length_drop]; omega) q8 (fun e p hp => h0 e p (List.mem_of_mem_drop hp))
   refine ⟨⟨q7, hok 0 (by decide), i1⟩, ?_⟩
   rw [List.map_cons, List.flatten_cons, i2]
   exact List.take_append_drop _ _
  ·rename_i hc
   refine ⟨⟨q7, hok last hl, trivial⟩, ?_⟩
   rw [List.map_cons, List.map_nil, List.flatten_cons, List.flatten_nil, List.append_nil]
   show b.take _ = b
   rw [q6 (by omega), List.take_length]
theorem blocksF_size {lv ways last : Nat} {M : Int} : ∀ (f : Nat) (ps : List Pc) (b out : List UInt8) (L : List Bool), ps.length < f -> expR ps M out = (out ++ b, 0) -> (lv = 0 -> ∀ p ∈ ps, p.len = 0) -> ∀ i, i < (blocksF lv ways last f ps b).length -> (streamB L ((blocksF lv ways last f ps b).take i)).length <= L.length + 9 * b.length
 | 0, _, _, _, _, h, _, _ => by omega
 | f + 1, ps, b, out, L, h, he, h0 => by
  intro i hi
  obtain ⟨q1, q2, q3, q4, q5, q6, q7, q8, q9⟩ := fill_block he h0
  cases i with
  | zero =>
   rw [List.take_zero]
   show L.length <= _
   omega
  | succ i =>
   unfold blocksF at hi ⊢
   split at hi
   ·rename_i hc
    rw [if_pos hc]
    have h1 : 1 <= (fillF lv ps 0 0).1 := by
     cases ps with
     | nil => simp at hc
     | cons p ps => exact fillF_pos lv p ps
    rw [List.length_cons] at hi
    have hl1 := blk1_len L ⟨ps.take (fillF lv ps 0 0).1, b.take (fillF lv ps 0 0).2, 0, ways⟩
    have ih := blocksF_size (lv := lv) (ways := ways) (last := last) f (ps.drop (fillF lv ps 0 0).1) (b.drop (fillF lv ps 0 0).2) (out ++ b.take (fillF lv ps 0 0).2) (blk1 L ⟨ps.take (fillF lv ps 0 0).1, b.take (fillF lv ps 0 0).2, 0, ways⟩) (by rw [List.length_drop]; omega) q8 (fun e p hp => h0 e p (List.mem_of_mem_drop hp)) i (by omega)
    have h9 := q9 hc
    rw [List.take_succ_cons]
    show (streamB (blk1 L _) _).length <= _
    rw [List.length_drop] at ih
    simp only [List.length_take] at hl1
    omega
   ·rw [List.length_singleton] at hi; omega
end Go.Proofs.YthmbbpfgbpacnaaGreatDoor.Def
namespace Go.Proofs.YthmbbpfgbpacnaaGreatDoor.Def
open Go.RowKit Go.Shelf Go.Lib Mem Bit Huf Lz Inf
theorem info_lpc : (Tryz.prog.info? 105).map (fun i => (i.zero, i.size, i.bytes)) = some (some (.agg #[.int .i64 0, .int .i64 0, .int .u8 0]), 3, 24) := by kernel_rfl
def noP : Pc := ⟨0, 0, 0⟩
theorem made_pcs (n : Nat) : (madeCells #[.int .i64 0, .int .i64 0, .int .u8 0] (n * 3)).toList = pcsCells (List.replicate n noP) := by
 apply List.ext_getElem?
 intro i
 by_cases hi : i < n * 3
 ·have h2 := pcsCells_at (List.replicate n noP) (i / 3) noP (i % 3) (by rw [List.getElem?_replicate, if_pos (by omega)]) (Nat.mod_lt _ (by decide))
  rw [show i / 3 * 3 + i % 3 = i by omega] at h2
  rw [h2]
  unfold madeCells
  have h3 : i % 3 = 0 \/ i % 3 = 1 \/ i % 3 = 2 := by omega
  rw [Array.getElem?_toList]
  simp only [Array.getElem?_map, Array.getElem?_range, hi, if_true, Option.map_some]
  rcases h3 with h | h | h <;> simp [h, pcCells, noP]
 ·rw [List.getElem?_eq_none (by rw [Array.length_toList, size_madeCells]; omega), List.getElem?_eq_none (by rw [pcsCells_len, List.length_replicate]; omega)]
theorem makeP_any (W : World) (n : Nat) (hn : n * 24 <= 140737488355328) :
  ∃ v W', (Instr.makeSlice 77 (.int .i64 (n : Int)) (.int .i64 (n : Int))).run Tryz.prog W = .ok v W' /\ W'.ownsRow W.heap.size 105 3 v n (pcsCells (List.replicate n noP)) /\ Below W.heap.size W W' /\ v = .slice (some ⟨W.heap.size, 0, none⟩) n n := by
 obtain ⟨i0, hi, hz0, hz1, hz2⟩ := info_parts info_lpc
 obtain ⟨W1, hr1, ho1, hg1⟩ := run_make_full (P := Tryz.prog) W W.heap.size 77 105 i0 (.agg #[.int .i64 0, .int .i64 0, .int .u8 0]) 3 Tryz.underlying77 hi hz0 hz1 .i64 .i64 n (by rw [hz2]; omega) (by unfold maxLen; omega) (Nat.le_refl _)
 have hb1 : Below W.heap.size W W1 := ⟨hg1.os, hg1.tape, hg1.output, hg1.size, fun k hk => hg1.block k hk (fun e => by cases e)⟩
 rw [show (Value.agg #[.int .i64 0, .int .i64 0, .int .u8 0]).cells = #[.int .i64 0, .int .i64 0, .int .u8 0] from rfl, made_pcs] at ho1
 exact ⟨_, W1, hr1, ho1, hb1, rfl⟩
def fillP (b : List UInt8) (i : Nat) : List Pc := (b.take i).map litP ++ List.replicate (b.length - i) noP
theorem fillP_len (b : List UInt8) (i : Nat) (h : i <= b.length) : (fillP b i).length = b.length := by
 unfold fillP
 rw [List.length_append, List.length_map, List.length_take, List.length_replicate]
 omega
theorem fillP_set (b : List UInt8) (i : Nat) (h : i < b.length) : (pcsCells (fillP b i)).set (i * 3 + 2) (.int .u8 ((b[i]).toNat : Int)) = pcsCells (fillP b (i + 1)) := by
 obtain ⟨k, hk⟩ : ∃ k, b.length - i = k + 1 := ⟨b.length - i - 1, by omega⟩
 unfold fillP
 rw [hk, show b.length - (i + 1) = k by omega, List.replicate_succ, List.take_add_one, List.getElem?_eq_getElem h, List.map_append]
 have e1 : pcsCells ((b.take i).map litP ++ noP :: List.replicate k noP) = pcsCells ((b.take i).map litP) ++ (pcCells noP ++ pcsCells (List.replicate k noP)) := by unfold pcsCells; rw [List.flatMap_append, List.flatMap_cons]
 have e2 : pcsCells ((b.take i).map litP ++ (some b[i]).toList.map litP ++ List.replicate k noP) = pcsCells ((b.take i).map litP) ++ (pcCells (litP b[i]) ++ pcsCells (List.replicate k noP)) := by
  rw [List.append_assoc]
  unfold pcsCells
  rw [List.flatMap_append]
  show _ ++ ((litP b[i]) :: List.replicate k noP).flatMap pcCells = _
  rw [List.flatMap_cons]
 have hl : (pcsCells ((b.take i).map litP)).length = i * 3 := by rw [pcsCells_len, List.length_map, List.length_take]; omega
 rw [e1, e2, List.set_append_right _ _ (by omega), hl, show i * 3 + 2 - i * 3 = 2 by omega]
 rfl
set_option maxRecDepth 100000 in
set_option maxHeartbeats 4000000 in
theorem piecesOf_any (W : World) (ao : Option Addr) (c : Nat) (b : List UInt8) (lv : Nat) (hs : Mem.Src W (.slice ao b.length c) b) (hc : b.length <= c) (hb : b.length <= 1048576) (hl : lv <= 9) :
  Calls Tryz.prog 39 #[.slice ao b.length c, .int .i64 (lv : Int)] W fun e w' => ∃ v, e = .returned v /\ w'.ownsRow W.heap.size 105 3 v (piecesD b lv).length (pcsCells (piecesD b lv)) /\ Below W.heap.size W w' := by
 by_cases h0 : lv = 0
 ·subst h0
  have hD : piecesD b 0 = b.map litP := by unfold piecesD; rw [if_pos rfl]
  have hDl : (piecesD b 0).length = b.length := by rw [hD, List.length_map]
  rw [hDl, hD]
  obtain ⟨v, W1, hr1, ho1, hb1, rfl⟩ := makeP_any W b.length (by omega)
  have HS : Aside (Mem.Src W (.slice ao b.length c) b) := hs
  have HA : Aside (0 < b.length -> ∃ a, ao = some a) := by
   obtain ⟨ao', c', e, h⟩ := srcB_shape hs
   cases e
   exact h
  obtain ⟨g, hg⟩ : ∃ g, g = W.heap.size := ⟨_, rfl⟩
  rw [<- hg] at hr1 ho1
  have H0 : Aside (W1.ownsRow W.heap.size 105 3 (.slice (some ⟨g, 0, none⟩) b.length b.length) b.length (pcsCells (fillP b 0)) /\ Below W.heap.size W W1) := by
   refine ⟨?_, hb1⟩
   unfold fillP
   rw [List.take_zero, List.map_nil, List.nil_append, Nat.sub_zero, <- hg]
   exact ho1
  have HEND : Aside (∀ w : World, w.ownsRow W.heap.size 105 3 (.slice (some ⟨g, 0, none⟩) b.length b.length) b.length (pcsCells (fillP b b.length)) -> w.ownsRow W.heap.size 105 3 (.slice (some ⟨g, 0, none⟩) b.length b.length) b.length (pcsCells (b.map litP))) := fun w h => by
   unfold fillP at h
   rwa [List.take_length, Nat.sub_self, List.replicate_zero, List.append_nil] at h
  have HGW : Aside (g = W.heap.size) := hg
  clear hs ho1 hb1 hD hDl hg
  go_enter Tryz.func39, Tryz.ntmps39
  go_upto_region 4 with fail
  clear hr1
  go_loopg [6, 7, 17] b.length (fun kx s6 s7 s17 wr => ∃ (i : Nat), s17 = .int .i64 (i : Int) /\ i <= b.length /\ b.length - i <= kx /\ Aside (wr.ownsRow W.heap.size 105 3 (.slice (some ⟨g, 0, none⟩) b.length b.length) b.length (pcsCells (fillP b i)) /\ Below W.heap.size W wr))
  case atStart => exact ⟨0, rfl, Nat.zero_le _, Nat.le_refl _, H0.out⟩
  case round =>
   clear H0
   obtain ⟨i, rfl, hi, hkx, HR⟩ := hrel
   by_cases hlt : i < b.length
   ·have hltz : (i : Int) < (b.length : Int) := by omega
    have i0 : (0 : Int) <= (i : Int) := by omega
    have wi : IntKind.i64.wrap ((i : Int) + 1) = (i : Int) + 1 := by rw [IntKind.wrap_i64]; omega
    obtain ⟨a, rfl⟩ := HA.out (by omega)
    obtain ⟨h1, h2⟩ := HR.out
    have cb := src_cell (HS.out.below h2) i hlt
    obtain ⟨st1, st2⟩ := h1.stored (i * 3 + 2) (.int .u8 ((b[i]).toNat : Int))
    rw [fillP_set b i hlt] at st1
    have hbl : Below W.heap.size W (wr.setCell ⟨g, i * 3 + 2, none⟩ (.int .u8 ((b[i]).toNat : Int))) := h2.trans (Below.setCell (Below.refl _ _) (by rw [HGW.out]; exact Nat.le_refl _) _)
    have HN : Aside ((wr.setCell ⟨g, i * 3 + 2, none⟩ (.int .u8 ((b[i]).toNat : Int))).ownsRow W.heap.size 105 3 (.slice (some ⟨g, 0, none⟩) b.length b.length) b.length (pcsCells (fillP b (i + 1))) /\ Below W.heap.size W (wr.setCell ⟨g, i * 3 + 2, none⟩ (.int .u8 ((b[i]).toNat : Int)))) := ⟨st1, hbl⟩
    have cc : wr.cell? ⟨g, i * 3 + 2, none⟩ = some (.int .u8 (((fillP b i)[i]'(by rw [fillP_len b i hi]; exact hlt)).byte.toNat : Int)) := by
     rw [h1.cellAt (i * 3 + 2) (by omega)]
     exact pcsCells_at (fillP b i) i _ 2 (List.getElem?_eq_getElem _) (by decide)
    have ff : wr.frozen? ⟨g, i * 3 + 2, none⟩ = false := by
     rcases h1.2 with ⟨hv, _⟩ | ⟨g', cap', cur, hv, _, hh, _⟩
     ·cases hv
     ·cases hv
      simp [World.frozen?, hh]
    have cc2 : ∃ z : Int, wr.cell? ⟨g, i * 3 + 2, none⟩ = some (.int .u8 z) := ⟨_, cc⟩
    obtain ⟨z, cc2⟩ := cc2
    clear h1 h2 st1 st2 hbl cc
    generalize (b[i]).toNat = y at *
    go_wp2_with fail
    go_roundg (b.length - (i + 1))
    case measure => omega
    case rel => exact ⟨i + 1, by go_num, by omega, Nat.le_refl _, HN.out⟩
   ·obtain rfl : i = b.length := by omega
    have hltz : ¬ (b.length : Int) < (b.length : Int) := by omega
    go_wp2_with fail
    go_ret
    exact ⟨_, rfl, HEND.out _ HR.out.1, HR.out.2⟩
 ·have h0z : ¬ (lv : Int) = 0 := by omega
  have h0b : ((lv : Int) == 0) = false := by rw [beq_eq_false_iff_ne]; exact h0z
  have hD : piecesD b lv = (piecesR b 32768 ((2 * 2 ^ lv : Nat) : Int)).1 := by unfold piecesD; rw [if_neg h0]
  have HP := pieces_any W ao c b 32768 ((2 * 2 ^ lv : Nat) : Int) hs hc
  rw [<- hD] at HP
  have hp : (2 : Nat) ^ lv <= 2 ^ 9 := Nat.pow_le_pow_right (by decide) hl
  rw [show (2 : Nat) ^ 9 = 512 by decide] at hp
  have zp : (2 : Int) ^ lv = ((2 ^ lv : Nat) : Int) := by rw [Int.natCast_pow]; rfl
  generalize (piecesR b 32768 ((2 * 2 ^ lv : Nat) : Int)).2 = er at *
  obtain ⟨P, hP⟩ : ∃ P, P = 2 ^ lv := ⟨_, rfl⟩
  rw [<- hP] at hp zp HP
  have wp : IntKind.i64.wrap (2 * (P : Int)) = ((2 * P : Nat) : Int) := by rw [IntKind.wrap_i64]; omega
  have lz0 : (0 : Int) <= (lv : Int) := by omega
  have lz9 : (lv : Int) <= 9 := by omega
  have HPP := Lib.hid HP
  clear hs HP hP hD
  generalize (2 * P) = P2 at *
  go_enter Tryz.func39, Tryz.ntmps39
  go_wp2_with (go_at_call 56; refine HPP.out.mono ?_; rintro e w1 ⟨v, rfl, q1, q2⟩; have HQ := Lib.hid (And.intro q1 q2); clear q1 q2)
  go_ret
  exact ⟨_, rfl, HQ.out.1, HQ.out.2⟩
end Go.Proofs.YthmbbpfgbpacnaaGreatDoor.Def
