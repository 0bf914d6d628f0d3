/- The document's own stream: the fixed lengths, the order, which lengths are enough. The document's own stream: a row of lengths. -/
import Derived.Test.YtdgfhbeofidbnaaDoorPkRinA
import Derived.Test.YtdgfhbeofidbnaaDoorPkRinG
namespace Go.Proofs.YtdgfhbeofidbnaaDoor.Inf
open Go.RowKit Go.Shelf Go.Lib Go.Proofs.YtdgfhbeofidbnaaDoor.Mem Go.Proofs.YtdgfhbeofidbnaaDoor.Bit Go.Proofs.YtdgfhbeofidbnaaDoor.Huf Go.Proofs.YtdgfhbeofidbnaaDoor.Lz

theorem rep_snoc (i : Nat) (z : Int) : List.replicate (i + 1) z = List.replicate i z ++ [z] := by rw [List.replicate_succ']

set_option maxRecDepth 100000 in
set_option maxHeartbeats 4000000 in
theorem rfixed_any (W : World) : Calls Tryd.prog 11 #[] W fun e w' => ∃ x y, e = .returned (.tuple #[x, y]) ∧ SrcI w' x fixL ∧ SrcI w' y fixD ∧ Below W.heap.size W w' := by
  have H0 : Aside (W.ownsRow W.heap.size 3 1 (.slice none 0 0) ((List.range 0).map fixN).length (iVs ((List.range 0).map fixN)) ∧ Below W.heap.size W W) := ⟨own_nilI W _, Below.refl _ _⟩
  go_enter Tryd.func11, Tryd.ntmps11
  go_upto_region 4 with fail
  go_loopg [2, 4, 5] 288 (fun kx s2 s4 s5 wr => ∃ (i : Nat) (x : Value), x = s2 ∧ s4 = .int .i64 (i : Int) ∧ i ≤ 288 ∧ 288 - i ≤ kx ∧ Aside (wr.ownsRow W.heap.size 3 1 x ((List.range i).map fixN).length (iVs ((List.range i).map fixN)) ∧ Below W.heap.size W wr))
  case atStart => exact ⟨0, _, rfl, rfl, Nat.zero_le _, Nat.le_refl _, H0.out⟩
  case round =>
    clear H0
    obtain ⟨i, x, rfl, rfl, hi, hkx, HX⟩ := hrel
    by_cases hlt : i < 288
    · have hltz : (i : Int) < 288 := by omega
      have wi : IntKind.i64.wrap ((i : Int) + 1) = (i : Int) + 1 := by rw [IntKind.wrap_i64]; omega
      obtain ⟨r1, r2⟩ := HX.out
      obtain ⟨v', W1, q1, q2, q3, q4, -, -⟩ := appI_one wr W.heap.size _ _ (fixN i) r1 r2.size (by rw [List.length_map, List.length_range]; omega)
      have HE : Aside (W1.ownsRow W.heap.size 3 1 v' ((List.range (i + 1)).map fixN).length (iVs ((List.range (i + 1)).map fixN)) ∧ Below W.heap.size W W1) := ⟨by rw [range_snoc]; exact q2, r2.trans q3⟩
      clear r1 r2 q2 q3 q4 HX
      by_cases h1 : 144 ≤ i
      · have h1z : (i : Int) ≥ 144 := by omega
        by_cases h2 : i < 256
        · have h2z : (i : Int) < 256 := by omega
          have h2y : ¬ (i : Int) ≥ 256 := by omega
          rw [show fixN i = 9 from if_pos ⟨h1, h2⟩] at q1
          go_wp2_with (at_builtin; refine Lib.wpList_append_run _ rfl _ _ _ _ rfl _ _ rfl rfl _ _ q1 ?_)
          go_roundg (288 - (i + 1))
          case measure => omega
          case rel => exact ⟨i + 1, _, rfl, by go_num, by omega, Nat.le_refl _, HE.out⟩
        · have h2z : ¬ (i : Int) < 256 := by omega
          have h2y : (i : Int) ≥ 256 := by omega
          by_cases h3 : i < 280
          · have h3z : (i : Int) < 280 := by omega
            rw [show fixN i = 7 by unfold fixN; rw [if_neg (by omega), if_pos (by omega)]] at q1
            go_wp2_with (at_builtin; refine Lib.wpList_append_run _ rfl _ _ _ _ rfl _ _ rfl rfl _ _ q1 ?_)
            go_roundg (288 - (i + 1))
            case measure => omega
            case rel => exact ⟨i + 1, _, rfl, by go_num, by omega, Nat.le_refl _, HE.out⟩
          · have h3z : ¬ (i : Int) < 280 := by omega
            rw [show fixN i = 8 by unfold fixN; rw [if_neg (by omega), if_neg (by omega)]] at q1
            go_wp2_with (at_builtin; refine Lib.wpList_append_run _ rfl _ _ _ _ rfl _ _ rfl rfl _ _ q1 ?_)
            go_roundg (288 - (i + 1))
            case measure => omega
            case rel => exact ⟨i + 1, _, rfl, by go_num, by omega, Nat.le_refl _, HE.out⟩
      · have h1z : ¬ (i : Int) ≥ 144 := by omega
        have h2z : ¬ (i : Int) ≥ 256 := by omega
        rw [show fixN i = 8 by unfold fixN; rw [if_neg (by omega), if_neg (by omega)]] at q1
        go_wp2_with (at_builtin; refine Lib.wpList_append_run _ rfl _ _ _ _ rfl _ _ rfl rfl _ _ q1 ?_)
        go_roundg (288 - (i + 1))
        case measure => omega
        case rel => exact ⟨i + 1, _, rfl, by go_num, by omega, Nat.le_refl _, HE.out⟩
    · obtain rfl : i = 288 := by omega
      obtain ⟨r1, r2⟩ := HX.out
      rw [← fixL_eq] at r1
      obtain ⟨wo, hwo⟩ : ∃ wo, wo = wr := ⟨_, rfl⟩
      rw [← hwo] at r1 r2 ⊢
      have H1 : Aside (wo.ownsRow wo.heap.size 3 1 (.slice none 0 0) (List.replicate 0 (5 : Int)).length (iVs (List.replicate 0 5)) ∧ Below wo.heap.size wo wo) := ⟨own_nilI wo _, Below.refl _ _⟩
      have HXL : Aside (∀ w, Below wo.heap.size wo w → SrcI w x fixL ∧ Below W.heap.size W w) := fun w hb => ⟨SrcI.of_own (own_below r1 hb), r2.trans (hb.mono r2.size)⟩
      clear r1 r2 HX hwo
      go_upto_region 13 with fail
      go_loopg [3, 6] 32 (fun kx s3 s6 wr => ∃ (j : Nat) (y : Value), y = s3 ∧ s6 = .int .i64 (j : Int) ∧ j ≤ 32 ∧ 32 - j ≤ kx ∧ Aside (wr.ownsRow wo.heap.size 3 1 y (List.replicate j (5 : Int)).length (iVs (List.replicate j 5)) ∧ Below wo.heap.size wo wr))
      case atStart => exact ⟨0, _, rfl, rfl, Nat.zero_le _, Nat.le_refl _, H1.out⟩
      case round =>
        clear H1
        obtain ⟨j, y, rfl, rfl, hj, hkj, HX⟩ := hrel
        by_cases hlt : j < 32
        · have hltz : (j : Int) < 32 := by omega
          have wi : IntKind.i64.wrap ((j : Int) + 1) = (j : Int) + 1 := by rw [IntKind.wrap_i64]; omega
          obtain ⟨r1, r2⟩ := HX.out
          obtain ⟨v', W1, q1, q2, q3, q4, -, -⟩ := appI_one wr wo.heap.size _ _ 5 r1 r2.size (by rw [List.length_replicate]; omega)
          have HE : Aside (W1.ownsRow wo.heap.size 3 1 v' (List.replicate (j + 1) (5 : Int)).length (iVs (List.replicate (j + 1) 5)) ∧ Below wo.heap.size wo W1) := ⟨by rw [rep_snoc]; exact q2, r2.trans q3⟩
          clear r1 r2 q2 q3 q4 HX
          go_wp2_with (at_builtin; refine Lib.wpList_append_run _ rfl _ _ _ _ rfl _ _ rfl rfl _ _ q1 ?_)
          go_roundg (32 - (j + 1))
          case measure => omega
          case rel => exact ⟨j + 1, _, rfl, by go_num, by omega, Nat.le_refl _, HE.out⟩
        · obtain rfl : j = 32 := by omega
          obtain ⟨r1, r2⟩ := HX.out
          have HE : Aside (SrcI wr x fixL ∧ SrcI wr y fixD ∧ Below W.heap.size W wr) := ⟨(HXL.out _ r2).1, SrcI.of_own r1, (HXL.out _ r2).2⟩
          clear r1 r2 HX
          go_wp2
          go_ret2
          exact ⟨_, _, rfl, HE.out⟩

theorem order_laid (W : World) : SrcI (W.alloc (.cells #[.int .i64 16, .int .i64 17, .int .i64 18, .int .i64 0, .int .i64 8, .int .i64 7, .int .i64 9, .int .i64 6, .int .i64 10, .int .i64 5, .int .i64 11, .int .i64 4, .int .i64 12, .int .i64 3, .int .i64 13, .int .i64 2, .int .i64 14, .int .i64 1, .int .i64 15] 3)) (.slice (some ⟨W.heap.size, 0, none⟩) 19 19) (ordL.map Int.ofNat) :=
  .inr ⟨_, 19, rfl, fun j u hj => by
    rw [Lib.addr_add, cell_of_row _ _ _ _ _ (0, 0) (heap_alloc_new _ _), Nat.zero_add, ← Array.getElem?_toList]
    exact hj⟩
set_option maxHeartbeats 1000000 in
theorem rorder_any (W : World) : Calls Tryd.prog 85 #[] W fun e w' => ∃ q, e = .returned (.slice (some ⟨q, 0, none⟩) 19 19) ∧ W.heap.size ≤ q ∧ SrcI w' (.slice (some ⟨q, 0, none⟩) 19 19) (ordL.map Int.ofNat) ∧ Below W.heap.size W w' := by
  have HE : Aside (∀ w, Drew W w → W.heap.size ≤ w.heap.size ∧ SrcI (w.alloc (.cells #[.int .i64 16, .int .i64 17, .int .i64 18, .int .i64 0, .int .i64 8, .int .i64 7, .int .i64 9, .int .i64 6, .int .i64 10, .int .i64 5, .int .i64 11, .int .i64 4, .int .i64 12, .int .i64 3, .int .i64 13, .int .i64 2, .int .i64 14, .int .i64 1, .int .i64 15] 3)) (.slice (some ⟨w.heap.size, 0, none⟩) 19 19) (ordL.map Int.ofNat) ∧ Below W.heap.size W (w.alloc (.cells #[.int .i64 16, .int .i64 17, .int .i64 18, .int .i64 0, .int .i64 8, .int .i64 7, .int .i64 9, .int .i64 6, .int .i64 10, .int .i64 5, .int .i64 11, .int .i64 4, .int .i64 12, .int .i64 3, .int .i64 13, .int .i64 2, .int .i64 14, .int .i64 1, .int .i64 15] 3))) := fun w d =>
    ⟨by rw [d.heap]; exact Nat.le_refl _, order_laid w, (d.below _).alloc (by rw [d.heap]; exact Nat.le_refl _) _⟩
  go_enter Tryd.func85, Tryd.ntmps85
  go_wp2
  go_ret
  exact ⟨_, rfl, HE.out _ (Drew.refl _)⟩

/-- Is each that is not 0 a 1? -/
def oneB (l : List Int) : Bool := l.all fun z => decide (z = 0) || decide (z = 1)
theorem oneB_append (l : List Int) (z : Int) : oneB (l ++ [z]) = (oneB l && (decide (z = 0) || decide (z = 1))) := by simp [oneB]
theorem oneB_sum : ∀ l : List Int, (∀ z ∈ l, 0 ≤ z ∧ z ≤ 15) → (cntN l = 0 → sumZ l = 0 ∧ oneB l = true) ∧ (cntN l = 1 → (oneB l = true ↔ sumZ l = 1))
  | [], _ => ⟨fun _ => ⟨rfl, rfl⟩, fun h => by cases h⟩
  | z :: l, h => by
    obtain ⟨i1, i2⟩ := oneB_sum l (fun y hy => h y (List.mem_cons_of_mem _ hy))
    have hz := h z (List.mem_cons_self)
    have e1 : cntN (z :: l) = if z = 0 then cntN l else cntN l + 1 := rfl
    have e2 : sumZ (z :: l) = z + sumZ l := rfl
    have e3 : oneB (z :: l) = ((decide (z = 0) || decide (z = 1)) && oneB l) := rfl
    rw [e1, e2, e3]
    by_cases h0 : z = 0
    · subst h0
      simp only [if_true, Int.zero_add]
      exact ⟨fun q => ⟨(i1 q).1, by rw [(i1 q).2]; rfl⟩, fun q => by rw [← i2 q]; simp⟩
    · rw [if_neg h0]
      refine ⟨fun q => by omega, fun q => ?_⟩
      obtain ⟨j1, j2⟩ := i1 (by omega)
      rw [j1, j2, Bool.and_true, Bool.or_eq_true, decide_eq_true_eq, decide_eq_true_eq]
      omega

set_option maxRecDepth 100000 in
set_option maxHeartbeats 4000000 in
theorem renough_any (W : World) (v : Value) (l : List Int) (hs : SrcI W v l) (hl : l.length ≤ 400) (ha : ∀ z ∈ l, 0 ≤ z ∧ z ≤ 15) :
    Calls Tryd.prog 88 #[v] W fun e w' => e = .returned (.bool (enB l)) ∧ W = w' := by
  obtain ⟨ao, cap, rfl, hao⟩ := hs.shape
  have HF : Hid (Calls Tryd.prog 86 #[.slice ao l.length cap] W fun e w' => e = .returned (.bool (fullB l)) ∧ W = w') := Lib.hid (refFull_any W _ l hs (by omega))
  have HS : Aside (SrcI W (.slice ao l.length cap) l) := hs
  have HA : Aside (0 < l.length → ∃ a, ao = some a) := hao
  have HAL : Aside (∀ z ∈ l, 0 ≤ z ∧ z ≤ 15) := ha
  have hlz : (l.length : Int) ≤ 400 := by omega
  obtain ⟨en, hen⟩ : ∃ en, en = enB l := ⟨_, rfl⟩
  rw [← hen]
  have hone := oneB_sum l ha
  have HEN : Aside (∀ x, fullB l = x → (cntN l = 0 → en = true) ∧ (cntN l = 1 → en = (x || oneB l)) ∧ (cntN l ≠ 0 → cntN l ≠ 1 → en = x)) := fun x h1 => by
    refine ⟨fun q => hen.trans ((enB_eq h1 (decide_eq_true q) rfl rfl).trans (by simp)), fun q => ?_, fun q1 q2 => hen.trans ((enB_eq h1 (decide_eq_false q1) (decide_eq_false q2) rfl).trans (by simp))⟩
    have := hone.2 q
    refine hen.trans ((enB_eq h1 (decide_eq_false (by omega)) (decide_eq_true q) rfl).trans ?_)
    cases ho : oneB l with
    | true => rw [decide_eq_true (this.1 ho)]; simp
    | false => rw [decide_eq_false (fun z => by rw [this.2 z] at ho; cases ho)]; simp
  clear hs hao ha hen hone
  go_enter Tryd.func88, Tryd.ntmps88
  go_upto_region 4 with fail
  go_loopg [3, 4, 5] l.length (fun kx s3 s4 s5 wr => ∃ (i : Nat) (b : Bool), s3 = .int .i64 ((cntN (l.take i) : Nat) : Int) ∧ s4 = .bool b ∧ s5 = .int .i64 (i : Int) ∧ i ≤ l.length ∧ l.length - i ≤ kx ∧ W = wr ∧ Aside (b = oneB (l.take i)))
  case atStart => exact ⟨0, true, rfl, rfl, rfl, Nat.zero_le _, Nat.le_refl _, rfl, rfl⟩
  case round =>
    obtain ⟨i, b, rfl, rfl, rfl, hi, hkx, rfl, hb⟩ := hrel
    have hc1 := cntN_le (l.take i)
    rw [List.length_take, Nat.min_eq_left hi] at hc1
    by_cases hlt : i < l.length
    · have hltz : (i : Int) < (l.length : Int) := by omega
      obtain ⟨a, rfl⟩ := HA.out (by omega)
      have hcell : W.cell? (a.add i) = some (.int .i64 (numAt l i)) := by rw [numAt_eq l i hlt]; exact srci_cell HS.out i hlt
      have HTK : Aside ((numAt l i = 0 → cntN (l.take (i + 1)) = cntN (l.take i)) ∧ (numAt l i ≠ 0 → cntN (l.take (i + 1)) = cntN (l.take i) + 1) ∧ oneB (l.take (i + 1)) = (oneB (l.take i) && (decide (numAt l i = 0) || decide (numAt l i = 1)))) := by
        rw [take_snocI l i hlt]; exact ⟨fun h => by rw [cntN_append, if_pos h]; rfl, fun h => by rw [cntN_append, if_neg h], oneB_append _ _⟩
      have hn := HAL.out (numAt l i) (by rw [numAt_eq l i hlt]; exact List.getElem_mem hlt)
      obtain ⟨hn1, hn2⟩ := hn
      generalize numAt l i = z at *
      generalize cntN (l.take i) = c at *
      generalize oneB (l.take i) = ob at *
      have i0 : (0 : Int) ≤ (i : Int) := by omega
      have wi : IntKind.i64.wrap ((i : Int) + 1) = (i : Int) + 1 := by rw [IntKind.wrap_i64]; omega
      have wc : IntKind.i64.wrap ((c : Int) + 1) = (c : Int) + 1 := by rw [IntKind.wrap_i64]; omega
      by_cases hz : z = 0
      · have hzg : ¬ z > 0 := by omega
        have HB : Aside (b = oneB (l.take (i + 1)) ∧ cntN (l.take (i + 1)) = c) := by
          obtain ⟨e1, -, e2⟩ := HTK.out
          exact ⟨by rw [e2, hb.out, decide_eq_true hz]; simp, e1 hz⟩
        clear hb HTK hz
        go_wp2_with fail
        go_roundg (l.length - (i + 1))
        case measure => omega
        case rel => exact ⟨i + 1, b, by rw [HB.out.2], rfl, by go_num, by omega, Nat.le_refl _, rfl, HB.out.1⟩
      · have hzg : z > 0 := by omega
        cases b with
        | false =>
          have HB : Aside (false = oneB (l.take (i + 1)) ∧ cntN (l.take (i + 1)) = c + 1) := by
            obtain ⟨-, e1, e2⟩ := HTK.out
            exact ⟨by rw [e2, ← hb.out]; rfl, e1 hz⟩
          clear hb HTK hz
          go_wp2_with fail
          go_roundg (l.length - (i + 1))
          case measure => omega
          case rel => exact ⟨i + 1, false, by rw [HB.out.2]; go_num, rfl, by go_num, by omega, Nat.le_refl _, rfl, HB.out.1⟩
        | true =>
          obtain ⟨b2, hb2⟩ : ∃ b2, b2 = (z == 1) := ⟨_, rfl⟩
          have HB : Aside (b2 = oneB (l.take (i + 1)) ∧ cntN (l.take (i + 1)) = c + 1) := by
            obtain ⟨-, e1, e2⟩ := HTK.out
            refine ⟨?_, e1 hz⟩
            rw [e2, ← hb.out, decide_eq_false hz, hb2]
            simp
            rfl
          have hb3 : (z == 1) = b2 := hb2.symm
          clear hb HTK hz hb2
          go_wp2_with fail
          go_roundg (l.length - (i + 1))
          case measure => omega
          case rel => exact ⟨i + 1, b2, by rw [HB.out.2]; go_num, rfl, by go_num, by omega, Nat.le_refl _, rfl, HB.out.1⟩
    · obtain rfl : i = l.length := by omega
      have hltz : ¬ (l.length : Int) < (l.length : Int) := by omega
      rw [List.take_length] at hc1 hb ⊢
      generalize fullB l = fb at *
      generalize cntN l = c at *
      generalize oneB l = ob at *
      obtain ⟨e0, e1, e2⟩ := HEN.out _ rfl
      by_cases h0 : c = 0
      · have HE : Aside (en = true) := e0 h0
        have h0b : ((c : Int) == 0) = true := by rw [beq_iff_eq]; omega
        clear e0 e1 e2 hb HEN
        go_wp2_with fail
        go_ret
        exact ⟨by rw [HE.out]; rfl, rfl⟩
      · have h0b : ((c : Int) == 0) = false := by rw [beq_eq_false_iff_ne]; omega
        by_cases h1 : c = 1
        · have h1b : ((c : Int) == 1) = true := by rw [beq_iff_eq]; omega
          have HE : Aside (en = (fb || ob) ∧ b = ob) := ⟨e1 h1, hb.out⟩
          clear e0 e1 e2 hb HEN h0 h1
          cases b with
          | true =>
            go_wp2_with fail
            go_ret
            exact ⟨by rw [HE.out.1, ← HE.out.2]; simp; try rfl, rfl⟩
          | false =>
            go_wp2_with (go_at_call 86; refine HF.out.mono ?_; rintro e w1 ⟨rfl, rfl⟩)
            go_ret
            exact ⟨by rw [HE.out.1, ← HE.out.2]; simp; try rfl, rfl⟩
        · have h1b : ((c : Int) == 1) = false := by rw [beq_eq_false_iff_ne]; omega
          have HE : Aside (en = fb) := e2 h0 h1
          clear e0 e1 e2 hb HEN h0 h1
          go_wp2_with (go_at_call 86; refine HF.out.mono ?_; rintro e w1 ⟨rfl, rfl⟩)
          go_ret
          exact ⟨by rw [HE.out]; rfl, rfl⟩
end Go.Proofs.YtdgfhbeofidbnaaDoor.Inf
namespace Go.Proofs.YtdgfhbeofidbnaaDoor.Inf
open Go.RowKit Go.Shelf Go.Lib Go.Proofs.YtdgfhbeofidbnaaDoor.Mem Go.Proofs.YtdgfhbeofidbnaaDoor.Bit Go.Proofs.YtdgfhbeofidbnaaDoor.Huf Go.Proofs.YtdgfhbeofidbnaaDoor.Lz

/-- A stream beside a row of lengths of the call's own. -/
def RX (W w : World) (B s r g : Nat) (v : Value) (bs out : List UInt8) (u m e : Nat) (x : Value) (row : List Int) : Prop :=
  ∃ g', RT w B s r g' v bs out u m e ∧ (g' = g ∨ W.heap.size ≤ g') ∧ Only (fun k => k = s ∨ k = r ∨ k = g) W w ∧ w.ownsRow W.heap.size 3 1 x row.length (iVs row) ∧ ∀ k, x.ownBlock = some k → k ≠ g'
section
variable {W w w' : World} {B s r g : Nat} {v x : Value} {bs out : List UInt8} {u m e : Nat} {row : List Int}
theorem RX.ts (h : RX W w B s r g v bs out u m e x row) : TStep W w B s r g v bs out u m e := by
  obtain ⟨g', h1, h2, h3, -⟩ := h
  exact ⟨g', h1, h2, h3⟩
theorem RX.c3 (h : RX W w B s r g v bs out u m e x row) : w.cell? ⟨s, 3, none⟩ = some (.int .i64 (e : Int)) := by
  obtain ⟨g', h1, -⟩ := h
  exact h1.c3
theorem RX.own (h : RX W w B s r g v bs out u m e x row) : w.ownsRow W.heap.size 3 1 x row.length (iVs row) := by
  obtain ⟨g', h1, h2, h3, h4, -⟩ := h
  exact h4
/-- Behind a call on the stream. -/
theorem RX.go {g' u' e' : Nat} (hs : s < W.heap.size) (hr : r < W.heap.size) (h2 : g' = g ∨ W.heap.size ≤ g') (h3 : Only (fun k => k = s ∨ k = r ∨ k = g) W w) (h4 : w.ownsRow W.heap.size 3 1 x row.length (iVs row)) (h5 : ∀ k, x.ownBlock = some k → k ≠ g')
    (q : TStep w w' B s r g' v bs out u' m e') : RX W w' B s r g v bs out u' m e' x row := by
  obtain ⟨g2, q1, q2, q3⟩ := q
  have hT : TStep W w' B s r g v bs out u' m e' := TStep.trans h2 h3 ⟨g2, q1, q2, q3⟩
  refine ⟨g2, q1, ?_, ?_, own_only h4 q3 (fun k hk => ?_), fun k hk => ?_⟩
  · rcases q2 with rfl | q2
    · exact h2
    · exact .inr (Nat.le_trans h3.size q2)
  · obtain ⟨_, _, _, o⟩ := hT
    exact o
  · have := (h4.lt k hk).1
    have := h5 k hk
    omega
  · have := (h4.lt k hk).2
    have := h5 k hk
    omega
theorem RX.drew (h : RX W w B s r g v bs out u m e x row) (hs : s < W.heap.size) (hr : r < W.heap.size) (d : Drew w w') : RX W w' B s r g v bs out u m e x row := by
  obtain ⟨g', h1, h2, h3, h4, h5⟩ := h
  exact RX.go hs hr h2 h3 h4 h5 ⟨g', h1.drew d, .inl rfl, d.only⟩
theorem RX.push (h : RX W w B s r g v bs out u m e x row) (hs : s < W.heap.size) (hr : r < W.heap.size) (hv : ∀ k, v.ownBlock = some k → k < W.heap.size) (z : Int) (hl : row.length ≤ 1000) :
    ∃ v' W1, (Builtin.append_ #[29, 29] 29 #[x, .slice (some ⟨w.heap.size, 0, none⟩) 1 1]).run Tryd.prog (w.alloc (.cells #[.int .i64 z] 3)) = .ok v' W1 ∧ RX W W1 B s r g v bs out u m e v' (row ++ [z]) := by
  obtain ⟨g', h1, h2, h3, h4, h5⟩ := h
  obtain ⟨v', W1, q1, q2, q3, q4, q5, q6⟩ := appI_one w W.heap.size x row z h4 h3.size (by omega)
  refine ⟨v', W1, q1, g', h1.same (q3.block s hs) (q3.block r hr) (q5.block g' h1.ltg (fun z => h5 _ z rfl)) (fun k hk => q3.block k (hv k hk)), h2, h3.trans q5 (fun i hi => .inr (h4.lt i hi).1), q2, fun k hk => ?_⟩
  rcases q6 with q6 | q6
  · exact h5 k (q6 ▸ hk)
  · have := q6 k hk
    have := h1.ltg
    omega
end
theorem rx_take_ok {W w : World} {B s r g : Nat} {v x : Value} {bs out : List UInt8} {u m n y u' : Nat} {row : List Int} (h : RX W w B s r g v bs out u m 0 x row) (hs : s < W.heap.size) (hr : r < W.heap.size) (hn : n ≤ 32) (hp : takeP bs n u = .ok y u') :
    Calls Tryd.prog 55 #[.pointer (some ⟨s, 0, none⟩), .int .i64 (n : Int)] w fun e w' => e = .returned (.int .i64 (y : Int)) ∧ RX W w' B s r g v bs out u' m 0 x row := by
  obtain ⟨g', h1, h2, h3, h4, h5⟩ := h
  exact (RNum.ok (rtake_any w B s r g' v bs out u m n h1 hn) hp).mono fun e w' q => ⟨q.1, RX.go hs hr h2 h3 h4 h5 q.2⟩
theorem rx_take_no {W w : World} {B s r g : Nat} {v x : Value} {bs out : List UInt8} {u m n c : Nat} {row : List Int} (h : RX W w B s r g v bs out u m 0 x row) (hs : s < W.heap.size) (hr : r < W.heap.size) (hn : n ≤ 32) (hp : takeP bs n u = .no c) :
    Calls Tryd.prog 55 #[.pointer (some ⟨s, 0, none⟩), .int .i64 (n : Int)] w fun e w' => e = .returned (.int .i64 0) ∧ RX W w' B s r g v bs out u m c x row := by
  obtain ⟨g', h1, h2, h3, h4, h5⟩ := h
  exact (rtake_no0 w B s r g' v bs out u m n c h1 hn hp).mono fun e w' q => ⟨q.1, RX.go hs hr h2 h3 h4 h5 q.2⟩
theorem rx_fail {W w : World} {B s r g : Nat} {v x : Value} {bs out : List UInt8} {u m e c : Nat} {row : List Int} (h : RX W w B s r g v bs out u m e x row) (hs : s < W.heap.size) (hr : r < W.heap.size) :
    Calls Tryd.prog 59 #[.pointer (some ⟨s, 0, none⟩), .int .i64 (c : Int)] w fun e' w' => e' = .returned (.tuple #[]) ∧ RX W w' B s r g v bs out u m (if e = 0 then c else e) x row := by
  obtain ⟨g', h1, h2, h3, h4, h5⟩ := h
  exact (rfail_any w B s r g' v bs out u m e c h1).mono fun e w' q => ⟨q.1, RX.go hs hr h2 h3 h4 h5 q.2⟩
theorem rx_next_ok {W w : World} {B s r g b Bd : Nat} {v v1 v2 x : Value} {d : List Int} {bs out : List UInt8} {u m y u' : Nat} {row : List Int} (h : RX W w B s r g v bs out u m 0 x row) (hs : s < W.heap.size) (hr : r < W.heap.size) (hd : ∀ w, Only (fun k => k = s ∨ k = r ∨ k = g) W w → RD w Bd b v1 v2 d) (hf : Fine d) (hp : nextP d bs u = .ok y u') :
    Calls Tryd.prog 83 #[.pointer (some ⟨s, 0, none⟩), .pointer (some ⟨b, 0, none⟩)] w fun e w' => e = .returned (.int .i64 (y : Int)) ∧ RX W w' B s r g v bs out u' m 0 x row := by
  obtain ⟨g', h1, h2, h3, h4, h5⟩ := h
  exact (RNum.ok (rnext_any w B s r g' Bd b v v1 v2 d bs out u m h1 (fun w2 o2 => hd w2 (h3.trans (S' := fun k => k = r) o2 (fun i q => .inl (.inr (.inl q))))) hf) hp).mono fun e w' q => ⟨q.1, RX.go hs hr h2 h3 h4 h5 q.2⟩
theorem rx_next_no {W w : World} {B s r g b Bd : Nat} {v v1 v2 x : Value} {d : List Int} {bs out : List UInt8} {u m c : Nat} {row : List Int} (h : RX W w B s r g v bs out u m 0 x row) (hs : s < W.heap.size) (hr : r < W.heap.size) (hd : ∀ w, Only (fun k => k = s ∨ k = r ∨ k = g) W w → RD w Bd b v1 v2 d) (hf : Fine d) (hp : nextP d bs u = .no c) :
    Calls Tryd.prog 83 #[.pointer (some ⟨s, 0, none⟩), .pointer (some ⟨b, 0, none⟩)] w fun e w' => ∃ (z u' : Nat), e = .returned (.int .i64 (z : Int)) ∧ RX W w' B s r g v bs out u' m c x row := by
  obtain ⟨g', h1, h2, h3, h4, h5⟩ := h
  exact (RNum.no (rnext_any w B s r g' Bd b v v1 v2 d bs out u m h1 (fun w2 o2 => hd w2 (h3.trans (S' := fun k => k = r) o2 (fun i q => .inl (.inr (.inl q))))) hf) hp).mono fun e w' ⟨z, u', q1, q2⟩ => ⟨z, u', q1, RX.go hs hr h2 h3 h4 h5 q2⟩

/-- What a call that makes a row of lengths leaves: the row, or an error. -/
def RRow (W : World) (B s r g : Nat) (v : Value) (bs out : List UInt8) (m : Nat) : Rd (List Int) → Ending → World → Prop
  | .ok row u, e, w' => ∃ x, e = .returned x ∧ w'.ownsRow W.heap.size 3 1 x row.length (iVs row) ∧ TStep W w' B s r g v bs out u m 0
  | .no c, e, w' => ∃ (z : Value) (u : Nat), e = .returned z ∧ TStep W w' B s r g v bs out u m c

set_option maxRecDepth 100000 in
set_option maxHeartbeats 8000000 in
theorem rrow_any (W : World) (B s r g Bd b : Nat) (v v1 v2 : Value) (d : List Int) (bs out : List UInt8) (t m size : Nat) (h : RT W B s r g v bs out t m 0) (hd : ∀ w, Only (fun k => k = s ∨ k = r ∨ k = g) W w → RD w Bd b v1 v2 d) (hf : Fine d) (hdl : d.length ≤ 19) (hsz : size ≤ 400) :
    Calls Tryd.prog 87 #[.pointer (some ⟨s, 0, none⟩), .pointer (some ⟨b, 0, none⟩), .int .i64 (size : Int)] W (RRow W B s r g v bs out m (rowP d bs size (size + 1) [] t)) := by
  have hs := h.lt
  have hr := h.rb.lt
  have hv := fun k (hk : v.ownBlock = some k) => (h.rb.2.1.lt k hk).2
  have HTO : Aside (∀ (w : World) (u n y u' : Nat) (x : Value) (row : List Int), n ≤ 32 → takeP bs n u = .ok y u' → RX W w B s r g v bs out u m 0 x row → Calls Tryd.prog 55 #[.pointer (some ⟨s, 0, none⟩), .int .i64 (n : Int)] w fun e w' => e = .returned (.int .i64 (y : Int)) ∧ RX W w' B s r g v bs out u' m 0 x row) := fun w u n y u' x row h1 h2 h3 => rx_take_ok h3 hs hr h1 h2
  have HTN : Aside (∀ (w : World) (u n c : Nat) (x : Value) (row : List Int), n ≤ 32 → takeP bs n u = .no c → RX W w B s r g v bs out u m 0 x row → Calls Tryd.prog 55 #[.pointer (some ⟨s, 0, none⟩), .int .i64 (n : Int)] w fun e w' => e = .returned (.int .i64 0) ∧ RX W w' B s r g v bs out u m c x row) := fun w u n c x row h1 h2 h3 => rx_take_no h3 hs hr h1 h2
  have HNO : Aside (∀ (w : World) (u y u' : Nat) (x : Value) (row : List Int), nextP d bs u = .ok y u' → RX W w B s r g v bs out u m 0 x row → Calls Tryd.prog 83 #[.pointer (some ⟨s, 0, none⟩), .pointer (some ⟨b, 0, none⟩)] w fun e w' => e = .returned (.int .i64 (y : Int)) ∧ RX W w' B s r g v bs out u' m 0 x row) := fun w u y u' x row h2 h3 => rx_next_ok h3 hs hr hd hf h2
  have HNN : Aside (∀ (w : World) (u c : Nat) (x : Value) (row : List Int), nextP d bs u = .no c → RX W w B s r g v bs out u m 0 x row → Calls Tryd.prog 83 #[.pointer (some ⟨s, 0, none⟩), .pointer (some ⟨b, 0, none⟩)] w fun e w' => ∃ (z u' : Nat), e = .returned (.int .i64 (z : Int)) ∧ RX W w' B s r g v bs out u' m c x row) := fun w u c x row h2 h3 => rx_next_no h3 hs hr hd hf h2
  have HFL : Aside (∀ (w : World) (u e c : Nat) (x : Value) (row : List Int), RX W w B s r g v bs out u m e x row → Calls Tryd.prog 59 #[.pointer (some ⟨s, 0, none⟩), .int .i64 (c : Int)] w fun e' w' => e' = .returned (.tuple #[]) ∧ RX W w' B s r g v bs out u m (if e = 0 then c else e) x row) := fun w u e c x row h3 => rx_fail h3 hs hr
  have HPU : Aside (∀ (w : World) (u : Nat) (x : Value) (row : List Int) (z : Int), RX W w B s r g v bs out u m 0 x row → row.length ≤ 1000 → ∃ v' W1, (Builtin.append_ #[29, 29] 29 #[x, .slice (some ⟨w.heap.size, 0, none⟩) 1 1]).run Tryd.prog (w.alloc (.cells #[.int .i64 z] 3)) = .ok v' W1 ∧ RX W W1 B s r g v bs out u m 0 v' (row ++ [z])) := fun w u x row z h3 hl => RX.push h3 hs hr hv z hl
  have HSH : Aside (∀ (w : World) (u e : Nat) (x : Value) (row : List Int), RX W w B s r g v bs out u m e x row → ∃ ao cap, x = .slice ao row.length cap ∧ (0 < row.length → ∃ k, ao = some ⟨k, 0, none⟩ ∧ w.cell? ⟨k, row.length - 1, none⟩ = some (.int .i64 (row.getD (row.length - 1) 0)))) := fun w u e x row h3 => by
    have ho := h3.own
    obtain ⟨ao, cap, rfl, -, -, hn⟩ := own_shape ho
    refine ⟨ao, cap, rfl, fun hl => ?_⟩
    cases ao with
    | none => have := (hn rfl).1; omega
    | some a =>
      obtain ⟨k, rfl, -, -⟩ := own_block ho
      obtain ⟨c1, -⟩ := own_cellI ho (row.length - 1) (by omega)
      refine ⟨k, rfl, c1.trans ?_⟩
      rw [List.getD_eq_getElem?_getD, List.getElem?_eq_getElem (by omega)]
      rfl
  have HNX : Aside (∀ y u u', nextP d bs u = .ok y u' → y ≤ 18) := fun y u u' hn => by
    obtain ⟨-, -, -, hxl, -, -⟩ := nextP_ok hn
    omega
  have HRB : Aside (∀ row u vn u', runP d bs row u = .ok vn u' → (∀ z ∈ row, 0 ≤ z ∧ z ≤ 15) → 0 ≤ vn.1 ∧ vn.1 ≤ 15 ∧ 1 ≤ vn.2 ∧ vn.2 ≤ 138) := fun row u vn u' hn hr => by
    have := runP_ok hn hdl hr
    exact ⟨this.1, this.2.1, this.2.2.1, this.2.2.2.1⟩
  obtain ⟨rs, hrs⟩ : ∃ rs, rs = rowP d bs size (size + 1) [] t := ⟨_, rfl⟩
  rw [← hrs]
  have H0 : Aside (RX W W B s r g v bs out t m 0 (.slice none 0 0) [] ∧ rowP d bs size (size + 1) [] t = rs) := ⟨⟨g, h, .inl rfl, Only.refl _ _, own_nilI W _, fun k hk => by cases hk⟩, hrs.symm⟩
  have hszz : (size : Int) ≤ 400 := by omega
  clear h hd hf hdl hs hr hv hrs
  go_enter Tryd.func87, Tryd.ntmps87
  go_upto_region 2 with fail
  go_loopg [7, 8, 9, 10, 11] (size + 1) (fun kx s7 s8 s9 s10 s11 wr => ∃ (f e u : Nat) (row : List Int) (ao : Option Addr) (cap : Nat), s7 = .slice ao row.length cap ∧ (e = 0 → f ≤ kx) ∧ Aside (RX W wr B s r g v bs out u m e (.slice ao row.length cap) row ∧ (e = 0 ∧ rowP d bs size f row u = rs ∧ size - row.length < f ∧ row.length ≤ size ∧ (∀ z ∈ row, 0 ≤ z ∧ z ≤ 15) ∨ e ≠ 0 ∧ rs = .no e)))
  case atStart => exact ⟨size + 1, 0, t, [], none, 0, rfl, fun _ => Nat.le_refl _, H0.out.1, .inl ⟨rfl, H0.out.2, by show size - 0 < _; omega, Nat.zero_le _, fun z hz => by cases hz⟩⟩
  case round =>
    clear H0
    obtain ⟨f, e, u, row, ao, cap, rfl, hfk, HX⟩ := hrel
    rcases HX.out with ⟨r1, ⟨rfl, r2, r3, r4, r5⟩ | ⟨he, hrsn⟩⟩
    · have hfk := hfk rfl
      obtain ⟨f, rfl⟩ : ∃ f', f = f' + 1 := ⟨f - 1, by omega⟩
      have c3 := r1.c3
      rw [rowP_succ] at r2
      by_cases hlt : row.length < size
      · rw [if_neg (by omega)] at r2
        have hltz : (row.length : Int) < (size : Int) := by omega
        cases hn : nextP d bs u with
        | no c =>
          have hrun : runP d bs row u = .no c := by unfold runP; rw [hn]
          rw [hrun] at r2
          have hc : c ≠ 0 := (nextP_no hn).2.1
          have hz : ((c : Int) != 0) = true := by rw [bne_iff_ne]; omega
          have HT := Lib.hid (HNN.out _ _ _ _ _ hn r1)
          have HE : Aside (rs = .no c) := r2.symm
          clear r1 r2 r3 r4 r5 hn HX hrun hc
          go_upto_region 6 with (go_at_call 83; refine HT.out.mono ?_; rintro e w3 ⟨z, u', rfl, q1⟩)
          clear c3
          have c3 := q1.c3
          go_wp2_with fail
          go_ret
          rw [HE.out]
          exact ⟨_, u', rfl, q1.ts⟩
        | ok y u1 =>
          have hy := HNX.out _ _ _ hn
          have hyz : (y : Int) ≤ 18 := by omega
          have HT := Lib.hid (HNO.out _ _ _ _ _ _ hn r1)
          have HL : Aside (size - row.length < f + 1 ∧ row.length ≤ size ∧ row.length < size ∧ ∀ z ∈ row, 0 ≤ z ∧ z ≤ 15) := ⟨r3, r4, hlt, r5⟩
          have HR2 : Aside ((match runP d bs row u with | .no e => .no e | .ok vn u => if size < row.length + vn.2 then .no 30 else rowP d bs size f (row ++ List.replicate vn.2 vn.1) u) = rs) := r2
          have HRUN : Aside (nextP d bs u = .ok y u1) := hn
          clear r1 r2 r3 r4 r5 hn HX
          go_upto_region 6 with (go_at_call 83; refine HT.out.mono ?_; rintro e w3 ⟨rfl, q1⟩)
          clear c3
          have c3 := q1.c3
          have lenz : (row.length : Int) ≤ 400 := by omega
          by_cases h16 : y = 16
          · subst h16
            cases hp : takeP bs 2 u1 with
            | no c =>
              have HRU : runP d bs row u = .no c := by unfold runP; simp only [HRUN.out, hp, if_true, reduceIte, Nat.reduceEqDiff]
              have hc : c ≠ 0 := by have := (takeP_no hp).1; omega
              have hz1 : ((c : Int) == 0) = false := by rw [beq_eq_false_iff_ne]; omega
              have HE : Aside (rs = .no c ∧ c ≠ 0) := ⟨by have := HR2.out; rw [HRU] at this; exact this.symm, hc⟩
              have HT2 := Lib.hid (HTN.out _ _ 2 _ _ _ (by decide) hp q1)
              clear hp HRU HRUN HR2 q1
              by_cases hl0 : row.length = 0
              · have hl0z : ((row.length : Int) == 0) = true := by rw [beq_iff_eq]; omega
                go_upto_region 10 with (go_at_call 55; refine HT2.out.mono ?_; rintro e w4 ⟨rfl, q2⟩)
                clear c3
                have HF6 := Lib.hid (HFL.out _ _ _ 30 _ _ q2)
                rw [if_neg hc] at HF6
                clear hl0 q2
                go_wp2_with (go_at_call 59; refine HF6.out.mono ?_; rintro e w5 ⟨rfl, q3⟩)
                go_ret
                rw [HE.out.1]
                exact ⟨_, u1, rfl, q3.ts⟩
              · have hl0z : ((row.length : Int) == 0) = false := by rw [beq_eq_false_iff_ne]; omega
                have wl : IntKind.i64.wrap ((row.length : Int) - 1) = ((row.length - 1 : Nat) : Int) := by rw [IntKind.wrap_i64]; omega
                have wl0 : (0 : Int) ≤ ((row.length - 1 : Nat) : Int) := by omega
                have wl1 : ((row.length - 1 : Nat) : Int) < (row.length : Int) := by omega
                go_upto_region 13 with (go_at_call 55; refine HT2.out.mono ?_; rintro e w4 ⟨rfl, q2⟩)
                obtain ⟨ao2, cap2, e2, hsh⟩ := HSH.out _ _ _ _ _ q2
                obtain ⟨k, hk, hcell⟩ := hsh (by omega)
                cases e2
                subst hk
                clear c3
                have c3 := q2.c3
                have Q2 : Aside (RX W w4 B s r g v bs out u1 m c (.slice (some ⟨k, 0, none⟩) row.length cap) row) := q2
                clear q2 hsh hc hl0
                generalize row.getD (row.length - 1) 0 = z at *
                generalize row.length - 1 = j at *
                go_wp2_with fail
                go_loopg [7, 11] 0 (fun ky s7 s11 wi => s7 = .slice (some ⟨k, 0, none⟩) row.length cap ∧ s11 = .int .i64 0 ∧ wi = w4)
                case atStart => exact ⟨rfl, rfl, rfl⟩
                case round =>
                  obtain ⟨rfl, rfl, rfl⟩ := hrel
                  go_wp2_with fail
                  go_roundg 0
                  case measure => omega
                  case rel => exact ⟨0, c, u1, row, (some ⟨k, 0, none⟩), cap, rfl, fun q => absurd q HE.out.2, Q2.out, .inr ⟨HE.out.2, HE.out.1⟩⟩
            | ok q u2 =>
              have HRU : runP d bs row u = if row.length = 0 then .no 30 else .ok (row.getD (row.length - 1) 0, 3 + q) u2 := by unfold runP; simp only [HRUN.out, hp, if_true, reduceIte, Nat.reduceEqDiff]
              have hq4 : q < 4 := (takeP_ok hp).2.2.2
              have HT2 := Lib.hid (HTO.out _ _ 2 _ _ _ _ (by decide) hp q1)
              clear hp q1
              by_cases hl0 : row.length = 0
              · rw [if_pos hl0] at HRU
                have HE : Aside (rs = .no 30) := by have := HR2.out; rw [HRU] at this; exact this.symm
                have hl0z : ((row.length : Int) == 0) = true := by rw [beq_iff_eq]; omega
                have wq : IntKind.i64.wrap (3 + (q : Int)) = 3 + (q : Int) := by rw [IntKind.wrap_i64]; omega
                clear HRU HRUN HR2
                go_upto_region 10 with (go_at_call 55; refine HT2.out.mono ?_; rintro e w4 ⟨rfl, q2⟩)
                clear c3
                have HF6 := Lib.hid (HFL.out _ _ _ 30 _ _ q2)
                rw [if_pos rfl] at HF6
                clear hl0 q2
                go_wp2_with (go_at_call 59; refine HF6.out.mono ?_; rintro e w5 ⟨rfl, q3⟩)
                go_ret
                rw [HE.out]
                exact ⟨_, u2, rfl, q3.ts⟩
              · rw [if_neg hl0] at HRU
                obtain ⟨n, hn⟩ : ∃ n, n = 3 + q := ⟨_, rfl⟩
                rw [← hn] at HRU
                have HNB : Aside (1 ≤ n ∧ 0 ≤ row.getD (row.length - 1) 0 ∧ row.getD (row.length - 1) 0 ≤ 15) := by have := HRB.out _ _ _ _ HRU HL.out.2.2.2; exact ⟨this.2.2.1, this.1, this.2.1⟩
                have HRV : Aside ((if size < row.length + n then .no 30 else rowP d bs size f (row ++ List.replicate n (row.getD (row.length - 1) 0)) u2) = rs) := by have := HR2.out; rw [HRU] at this; exact this
                have wq : IntKind.i64.wrap (3 + (q : Int)) = (n : Int) := by rw [IntKind.wrap_i64]; omega
                have hnz : (n : Int) ≤ 138 := by omega
                have hnz0 : (0 : Int) < (n : Int) := by omega
                have hl0z : ((row.length : Int) == 0) = false := by rw [beq_eq_false_iff_ne]; omega
                have wl : IntKind.i64.wrap ((row.length : Int) - 1) = ((row.length - 1 : Nat) : Int) := by rw [IntKind.wrap_i64]; omega
                have wl0 : (0 : Int) ≤ ((row.length - 1 : Nat) : Int) := by omega
                have wl1 : ((row.length - 1 : Nat) : Int) < (row.length : Int) := by omega
                clear hn hq4 HRU HRUN HR2
                go_upto_region 13 with (go_at_call 55; refine HT2.out.mono ?_; rintro e w4 ⟨rfl, q2⟩)
                obtain ⟨ao2, cap2, e2, hsh⟩ := HSH.out _ _ _ _ _ q2
                obtain ⟨k0, hk, hcell⟩ := hsh (by omega)
                cases e2
                subst hk
                clear c3 hsh hl0
                generalize row.getD (row.length - 1) 0 = z at *
                generalize row.length - 1 = j at *
                go_upto_region 20 with fail
                have c3 := q2.c3
                have wsz : IntKind.i64.wrap ((size : Int) - (row.length : Int)) = (size : Int) - (row.length : Int) := by rw [IntKind.wrap_i64]; omega
                by_cases hbig : size < row.length + n
                · have hbz : (n : Int) > (size : Int) - (row.length : Int) := by omega
                  have HE : Aside (rs = .no 30 ∧ (30 : Nat) ≠ 0) := ⟨by have := HRV.out; rw [if_pos hbig] at this; exact this.symm, by decide⟩
                  have HF6 := Lib.hid (HFL.out _ _ _ 30 _ _ q2)
                  clear hbig q2
                  go_upto_region 22 with (go_at_call 59; refine HF6.out.mono ?_; rintro e w6 ⟨rfl, q3⟩)
                  have q3 : RX W w6 B s r g v bs out u2 m 30 (.slice (some ⟨k0, 0, none⟩) row.length cap) row := q3
                  have Q3 : Aside (RX W w6 B s r g v bs out u2 m 30 (.slice (some ⟨k0, 0, none⟩) row.length cap) row) := q3
                  clear c3
                  have c3 := q3.c3
                  clear q3
                  go_wp2_with fail
                  go_loopg [7, 11] 0 (fun ky s7 s11 wi => s7 = .slice (some ⟨k0, 0, none⟩) row.length cap ∧ s11 = .int .i64 0 ∧ wi = w6)
                  case atStart => exact ⟨rfl, rfl, rfl⟩
                  case round =>
                    obtain ⟨rfl, rfl, rfl⟩ := hrel
                    go_wp2_with fail
                    go_roundg 0
                    case measure => omega
                    case rel => exact ⟨0, 30, u2, row, some ⟨k0, 0, none⟩, cap, rfl, fun q => absurd q HE.out.2, Q3.out, .inr ⟨HE.out.2, HE.out.1⟩⟩
                · have hbz : ¬ (n : Int) > (size : Int) - (row.length : Int) := by omega
                  have HE : Aside (rowP d bs size f (row ++ List.replicate n z) u2 = rs ∧ row.length + n ≤ size) := ⟨by have := HRV.out; rw [if_neg hbig] at this; exact this, by omega⟩
                  have Q2 : Aside (RX W w4 B s r g v bs out u2 m 0 (.slice (some ⟨k0, 0, none⟩) row.length cap) row) := q2
                  clear hbig q2
                  go_wp2_with fail
                  go_loopg [7, 11] n (fun ky s7 s11 wi => ∃ (k : Nat) (x : Value), s7 = x ∧ s11 = .int .i64 (k : Int) ∧ k ≤ n ∧ n - k ≤ ky ∧ Aside (RX W wi B s r g v bs out u2 m 0 x (row ++ List.replicate k z)))
                  case atStart => exact ⟨0, _, rfl, rfl, Nat.zero_le _, Nat.le_refl _, by rw [List.replicate_zero, List.append_nil]; exact Q2.out⟩
                  case round =>
                    clear Q2
                    obtain ⟨k, x, rfl, rfl, hk, hky, HY⟩ := hrel
                    clear c3
                    have c3 := HY.out.c3
                    by_cases hkn : k < n
                    · have hknz : (k : Int) < (n : Int) := by omega
                      have wk : IntKind.i64.wrap ((k : Int) + 1) = (k : Int) + 1 := by rw [IntKind.wrap_i64]; omega
                      obtain ⟨v', W1, p1, p2⟩ := HPU.out _ _ _ _ z HY.out (by rw [List.length_append, List.length_replicate]; have := HE.out.2; omega)
                      have HP : Aside (RX W W1 B s r g v bs out u2 m 0 v' (row ++ List.replicate (k + 1) z)) := by rw [List.replicate_succ', ← List.append_assoc]; exact p2
                      clear p2 HY
                      go_wp2_with (at_builtin; refine Lib.wpList_append_run _ rfl _ _ _ _ rfl _ _ rfl rfl _ _ p1 ?_)
                      go_roundg (n - (k + 1))
                      case measure => omega
                      case rel => exact ⟨k + 1, _, rfl, by go_num, by omega, Nat.le_refl _, HP.out⟩
                    · obtain rfl : k = n := by omega
                      have hknz : ¬ (k : Int) < (k : Int) := by omega
                      obtain ⟨ao2, cap2, rfl, -⟩ := HSH.out _ _ _ _ _ HY.out
                      go_wp2_with fail
                      go_roundg f
                      case measure => omega
                      case rel =>
                        exact ⟨f, 0, u2, _, ao2, cap2, by rw [List.length_append, List.length_replicate], fun _ => Nat.le_refl _, HY.out, .inl ⟨rfl, HE.out.1, by rw [List.length_append, List.length_replicate]; have := HL.out.1; have := HL.out.2.2.1; have := HNB.out.1; omega, by rw [List.length_append, List.length_replicate]; exact HE.out.2, fun y hy => by
                          rcases List.mem_append.1 hy with q | q
                          · exact HL.out.2.2.2 y q
                          · obtain ⟨_, rfl⟩ := List.mem_replicate.1 q
                            exact HNB.out.2⟩⟩
          · by_cases h17 : y = 17
            · subst h17
              cases hp : takeP bs 3 u1 with
              | no c =>
                have HRU : runP d bs row u = .no c := by unfold runP; simp only [HRUN.out, hp, if_true, reduceIte, Nat.reduceEqDiff]
                have hc : c ≠ 0 := by have := (takeP_no hp).1; omega
                have hz1 : ((c : Int) == 0) = false := by rw [beq_eq_false_iff_ne]; omega
                have HE : Aside (rs = .no c ∧ c ≠ 0) := ⟨by have := HR2.out; rw [HRU] at this; exact this.symm, hc⟩
                have HT2 := Lib.hid (HTN.out _ _ 3 _ _ _ (by decide) hp q1)
                clear hp HRU HRUN HR2 q1 hc
                go_upto_region 16 with (go_at_call 55; refine HT2.out.mono ?_; rintro e w4 ⟨rfl, q2⟩)
                clear c3
                have c3 := q2.c3
                have Q2 : Aside (RX W w4 B s r g v bs out u1 m c (.slice ao row.length cap) row) := q2
                clear q2
                go_wp2_with fail
                go_loopg [7, 11] 0 (fun ky s7 s11 wi => s7 = .slice ao row.length cap ∧ s11 = .int .i64 0 ∧ wi = w4)
                case atStart => exact ⟨rfl, rfl, rfl⟩
                case round =>
                  obtain ⟨rfl, rfl, rfl⟩ := hrel
                  go_wp2_with fail
                  go_roundg 0
                  case measure => omega
                  case rel => exact ⟨0, c, u1, row, ao, cap, rfl, fun q => absurd q HE.out.2, Q2.out, .inr ⟨HE.out.2, HE.out.1⟩⟩
              | ok q u2 =>
                have HRU : runP d bs row u = .ok (0, 3 + q) u2 := by unfold runP; simp only [HRUN.out, hp, if_true, reduceIte, Nat.reduceEqDiff]
                have hq4 : q < 2 ^ 3 := (takeP_ok hp).2.2.2
                have hq5 : q < 128 := Nat.lt_of_lt_of_le hq4 (by decide)
                have HT2 := Lib.hid (HTO.out _ _ 3 _ _ _ _ (by decide) hp q1)
                obtain ⟨n, hn⟩ : ∃ n, n = 3 + q := ⟨_, rfl⟩
                rw [← hn] at HRU
                have HNB : Aside (1 ≤ n ∧ (0 : Int) ≤ 0 ∧ (0 : Int) ≤ 15) := by have := HRB.out _ _ _ _ HRU HL.out.2.2.2; exact ⟨this.2.2.1, this.1, this.2.1⟩
                have HRV : Aside ((if size < row.length + n then .no 30 else rowP d bs size f (row ++ List.replicate n 0) u2) = rs) := by have := HR2.out; rw [HRU] at this; exact this
                have wq : IntKind.i64.wrap (3 + (q : Int)) = (n : Int) := by rw [IntKind.wrap_i64]; omega
                have hnz : (n : Int) ≤ 200 := by omega
                have hnz0 : (0 : Int) < (n : Int) := by omega
                clear hp q1 hn hq4 hq5 HRU HRUN HR2
                go_upto_region 20 with (go_at_call 55; refine HT2.out.mono ?_; rintro e w4 ⟨rfl, q2⟩)
                have c3 := q2.c3
                have wsz : IntKind.i64.wrap ((size : Int) - (row.length : Int)) = (size : Int) - (row.length : Int) := by rw [IntKind.wrap_i64]; omega
                by_cases hbig : size < row.length + n
                · have hbz : (n : Int) > (size : Int) - (row.length : Int) := by omega
                  have HE : Aside (rs = .no 30 ∧ (30 : Nat) ≠ 0) := ⟨by have := HRV.out; rw [if_pos hbig] at this; exact this.symm, by decide⟩
                  have HF6 := Lib.hid (HFL.out _ _ _ 30 _ _ q2)
                  clear hbig q2
                  go_upto_region 22 with (go_at_call 59; refine HF6.out.mono ?_; rintro e w6 ⟨rfl, q3⟩)
                  have q3 : RX W w6 B s r g v bs out u2 m 30 (.slice ao row.length cap) row := q3
                  have Q3 : Aside (RX W w6 B s r g v bs out u2 m 30 (.slice ao row.length cap) row) := q3
                  clear c3
                  have c3 := q3.c3
                  clear q3
                  go_wp2_with fail
                  go_loopg [7, 11] 0 (fun ky s7 s11 wi => s7 = .slice ao row.length cap ∧ s11 = .int .i64 0 ∧ wi = w6)
                  case atStart => exact ⟨rfl, rfl, rfl⟩
                  case round =>
                    obtain ⟨rfl, rfl, rfl⟩ := hrel
                    go_wp2_with fail
                    go_roundg 0
                    case measure => omega
                    case rel => exact ⟨0, 30, u2, row, ao, cap, rfl, fun q => absurd q HE.out.2, Q3.out, .inr ⟨HE.out.2, HE.out.1⟩⟩
                · have hbz : ¬ (n : Int) > (size : Int) - (row.length : Int) := by omega
                  have HE : Aside (rowP d bs size f (row ++ List.replicate n (0 : Int)) u2 = rs ∧ row.length + n ≤ size) := ⟨by have := HRV.out; rw [if_neg hbig] at this; exact this, by omega⟩
                  have Q2 : Aside (RX W w4 B s r g v bs out u2 m 0 (.slice ao row.length cap) row) := q2
                  clear hbig q2
                  go_wp2_with fail
                  go_loopg [7, 11] n (fun ky s7 s11 wi => ∃ (k : Nat) (x : Value), s7 = x ∧ s11 = .int .i64 (k : Int) ∧ k ≤ n ∧ n - k ≤ ky ∧ Aside (RX W wi B s r g v bs out u2 m 0 x (row ++ List.replicate k (0 : Int))))
                  case atStart => exact ⟨0, _, rfl, rfl, Nat.zero_le _, Nat.le_refl _, by rw [List.replicate_zero, List.append_nil]; exact Q2.out⟩
                  case round =>
                    clear Q2
                    obtain ⟨k, x, rfl, rfl, hk, hky, HY⟩ := hrel
                    clear c3
                    have c3 := HY.out.c3
                    by_cases hkn : k < n
                    · have hknz : (k : Int) < (n : Int) := by omega
                      have wk : IntKind.i64.wrap ((k : Int) + 1) = (k : Int) + 1 := by rw [IntKind.wrap_i64]; omega
                      obtain ⟨v', W1, p1, p2⟩ := HPU.out _ _ _ _ (0 : Int) HY.out (by rw [List.length_append, List.length_replicate]; have := HE.out.2; omega)
                      have HP : Aside (RX W W1 B s r g v bs out u2 m 0 v' (row ++ List.replicate (k + 1) (0 : Int))) := by rw [List.replicate_succ', ← List.append_assoc]; exact p2
                      clear p2 HY
                      go_wp2_with (at_builtin; refine Lib.wpList_append_run _ rfl _ _ _ _ rfl _ _ rfl rfl _ _ p1 ?_)
                      go_roundg (n - (k + 1))
                      case measure => omega
                      case rel => exact ⟨k + 1, _, rfl, by go_num, by omega, Nat.le_refl _, HP.out⟩
                    · obtain rfl : k = n := by omega
                      have hknz : ¬ (k : Int) < (k : Int) := by omega
                      obtain ⟨ao2, cap2, rfl, -⟩ := HSH.out _ _ _ _ _ HY.out
                      go_wp2_with fail
                      go_roundg f
                      case measure => omega
                      case rel =>
                        exact ⟨f, 0, u2, _, ao2, cap2, by rw [List.length_append, List.length_replicate], fun _ => Nat.le_refl _, HY.out, .inl ⟨rfl, HE.out.1, by rw [List.length_append, List.length_replicate]; have := HL.out.1; have := HL.out.2.2.1; have := HNB.out.1; omega, by rw [List.length_append, List.length_replicate]; exact HE.out.2, fun y hy => by
                          rcases List.mem_append.1 hy with q | q
                          · exact HL.out.2.2.2 y q
                          · obtain ⟨_, rfl⟩ := List.mem_replicate.1 q
                            exact HNB.out.2⟩⟩
            · by_cases h18 : y = 18
              · subst h18
                cases hp : takeP bs 7 u1 with
                | no c =>
                  have HRU : runP d bs row u = .no c := by unfold runP; simp only [HRUN.out, hp, if_true, reduceIte, Nat.reduceEqDiff]
                  have hc : c ≠ 0 := by have := (takeP_no hp).1; omega
                  have hz1 : ((c : Int) == 0) = false := by rw [beq_eq_false_iff_ne]; omega
                  have HE : Aside (rs = .no c ∧ c ≠ 0) := ⟨by have := HR2.out; rw [HRU] at this; exact this.symm, hc⟩
                  have HT2 := Lib.hid (HTN.out _ _ 7 _ _ _ (by decide) hp q1)
                  clear hp HRU HRUN HR2 q1 hc
                  go_upto_region 19 with (go_at_call 55; refine HT2.out.mono ?_; rintro e w4 ⟨rfl, q2⟩)
                  clear c3
                  have c3 := q2.c3
                  have Q2 : Aside (RX W w4 B s r g v bs out u1 m c (.slice ao row.length cap) row) := q2
                  clear q2
                  go_wp2_with fail
                  go_loopg [7, 11] 0 (fun ky s7 s11 wi => s7 = .slice ao row.length cap ∧ s11 = .int .i64 0 ∧ wi = w4)
                  case atStart => exact ⟨rfl, rfl, rfl⟩
                  case round =>
                    obtain ⟨rfl, rfl, rfl⟩ := hrel
                    go_wp2_with fail
                    go_roundg 0
                    case measure => omega
                    case rel => exact ⟨0, c, u1, row, ao, cap, rfl, fun q => absurd q HE.out.2, Q2.out, .inr ⟨HE.out.2, HE.out.1⟩⟩
                | ok q u2 =>
                  have HRU : runP d bs row u = .ok (0, 11 + q) u2 := by unfold runP; simp only [HRUN.out, hp, if_true, reduceIte, Nat.reduceEqDiff]
                  have hq4 : q < 2 ^ 7 := (takeP_ok hp).2.2.2
                  have hq5 : q < 128 := Nat.lt_of_lt_of_le hq4 (by decide)
                  have HT2 := Lib.hid (HTO.out _ _ 7 _ _ _ _ (by decide) hp q1)
                  obtain ⟨n, hn⟩ : ∃ n, n = 11 + q := ⟨_, rfl⟩
                  rw [← hn] at HRU
                  have HNB : Aside (1 ≤ n ∧ (0 : Int) ≤ 0 ∧ (0 : Int) ≤ 15) := by have := HRB.out _ _ _ _ HRU HL.out.2.2.2; exact ⟨this.2.2.1, this.1, this.2.1⟩
                  have HRV : Aside ((if size < row.length + n then .no 30 else rowP d bs size f (row ++ List.replicate n 0) u2) = rs) := by have := HR2.out; rw [HRU] at this; exact this
                  have wq : IntKind.i64.wrap (11 + (q : Int)) = (n : Int) := by rw [IntKind.wrap_i64]; omega
                  have hnz : (n : Int) ≤ 200 := by omega
                  have hnz0 : (0 : Int) < (n : Int) := by omega
                  clear hp q1 hn hq4 hq5 HRU HRUN HR2
                  go_upto_region 20 with (go_at_call 55; refine HT2.out.mono ?_; rintro e w4 ⟨rfl, q2⟩)
                  have c3 := q2.c3
                  have wsz : IntKind.i64.wrap ((size : Int) - (row.length : Int)) = (size : Int) - (row.length : Int) := by rw [IntKind.wrap_i64]; omega
                  by_cases hbig : size < row.length + n
                  · have hbz : (n : Int) > (size : Int) - (row.length : Int) := by omega
                    have HE : Aside (rs = .no 30 ∧ (30 : Nat) ≠ 0) := ⟨by have := HRV.out; rw [if_pos hbig] at this; exact this.symm, by decide⟩
                    have HF6 := Lib.hid (HFL.out _ _ _ 30 _ _ q2)
                    clear hbig q2
                    go_upto_region 22 with (go_at_call 59; refine HF6.out.mono ?_; rintro e w6 ⟨rfl, q3⟩)
                    have q3 : RX W w6 B s r g v bs out u2 m 30 (.slice ao row.length cap) row := q3
                    have Q3 : Aside (RX W w6 B s r g v bs out u2 m 30 (.slice ao row.length cap) row) := q3
                    clear c3
                    have c3 := q3.c3
                    clear q3
                    go_wp2_with fail
                    go_loopg [7, 11] 0 (fun ky s7 s11 wi => s7 = .slice ao row.length cap ∧ s11 = .int .i64 0 ∧ wi = w6)
                    case atStart => exact ⟨rfl, rfl, rfl⟩
                    case round =>
                      obtain ⟨rfl, rfl, rfl⟩ := hrel
                      go_wp2_with fail
                      go_roundg 0
                      case measure => omega
                      case rel => exact ⟨0, 30, u2, row, ao, cap, rfl, fun q => absurd q HE.out.2, Q3.out, .inr ⟨HE.out.2, HE.out.1⟩⟩
                  · have hbz : ¬ (n : Int) > (size : Int) - (row.length : Int) := by omega
                    have HE : Aside (rowP d bs size f (row ++ List.replicate n (0 : Int)) u2 = rs ∧ row.length + n ≤ size) := ⟨by have := HRV.out; rw [if_neg hbig] at this; exact this, by omega⟩
                    have Q2 : Aside (RX W w4 B s r g v bs out u2 m 0 (.slice ao row.length cap) row) := q2
                    clear hbig q2
                    go_wp2_with fail
                    go_loopg [7, 11] n (fun ky s7 s11 wi => ∃ (k : Nat) (x : Value), s7 = x ∧ s11 = .int .i64 (k : Int) ∧ k ≤ n ∧ n - k ≤ ky ∧ Aside (RX W wi B s r g v bs out u2 m 0 x (row ++ List.replicate k (0 : Int))))
                    case atStart => exact ⟨0, _, rfl, rfl, Nat.zero_le _, Nat.le_refl _, by rw [List.replicate_zero, List.append_nil]; exact Q2.out⟩
                    case round =>
                      clear Q2
                      obtain ⟨k, x, rfl, rfl, hk, hky, HY⟩ := hrel
                      clear c3
                      have c3 := HY.out.c3
                      by_cases hkn : k < n
                      · have hknz : (k : Int) < (n : Int) := by omega
                        have wk : IntKind.i64.wrap ((k : Int) + 1) = (k : Int) + 1 := by rw [IntKind.wrap_i64]; omega
                        obtain ⟨v', W1, p1, p2⟩ := HPU.out _ _ _ _ (0 : Int) HY.out (by rw [List.length_append, List.length_replicate]; have := HE.out.2; omega)
                        have HP : Aside (RX W W1 B s r g v bs out u2 m 0 v' (row ++ List.replicate (k + 1) (0 : Int))) := by rw [List.replicate_succ', ← List.append_assoc]; exact p2
                        clear p2 HY
                        go_wp2_with (at_builtin; refine Lib.wpList_append_run _ rfl _ _ _ _ rfl _ _ rfl rfl _ _ p1 ?_)
                        go_roundg (n - (k + 1))
                        case measure => omega
                        case rel => exact ⟨k + 1, _, rfl, by go_num, by omega, Nat.le_refl _, HP.out⟩
                      · obtain rfl : k = n := by omega
                        have hknz : ¬ (k : Int) < (k : Int) := by omega
                        obtain ⟨ao2, cap2, rfl, -⟩ := HSH.out _ _ _ _ _ HY.out
                        go_wp2_with fail
                        go_roundg f
                        case measure => omega
                        case rel =>
                          exact ⟨f, 0, u2, _, ao2, cap2, by rw [List.length_append, List.length_replicate], fun _ => Nat.le_refl _, HY.out, .inl ⟨rfl, HE.out.1, by rw [List.length_append, List.length_replicate]; have := HL.out.1; have := HL.out.2.2.1; have := HNB.out.1; omega, by rw [List.length_append, List.length_replicate]; exact HE.out.2, fun y hy => by
                            rcases List.mem_append.1 hy with q | q
                            · exact HL.out.2.2.2 y q
                            · obtain ⟨_, rfl⟩ := List.mem_replicate.1 q
                              exact HNB.out.2⟩⟩
              · have HRU : runP d bs row u = .ok ((y : Int), 1) u1 := by unfold runP; rw [HRUN.out]; simp only; rw [if_neg h16, if_neg h17, if_neg h18]
                have h16z : ((y : Int) == 16) = false := by rw [beq_eq_false_iff_ne]; omega
                have h17z : ((y : Int) == 17) = false := by rw [beq_eq_false_iff_ne]; omega
                have h18z : ((y : Int) == 18) = false := by rw [beq_eq_false_iff_ne]; omega
                have HNB : Aside ((1 : Nat) ≤ 1 ∧ 0 ≤ (y : Int) ∧ (y : Int) ≤ 15) := by have := HRB.out _ _ _ _ HRU HL.out.2.2.2; exact ⟨this.2.2.1, this.1, this.2.1⟩
                have HRV : Aside ((if size < row.length + 1 then .no 30 else rowP d bs size f (row ++ List.replicate 1 (y : Int)) u1) = rs) := by have := HR2.out; rw [HRU] at this; exact this
                have q2 := q1
                clear HRU HRUN HR2 q1
                go_upto_region 20 with fail
                have c3 := q2.c3
                have wsz : IntKind.i64.wrap ((size : Int) - (row.length : Int)) = (size : Int) - (row.length : Int) := by rw [IntKind.wrap_i64]; omega
                have hbig : ¬ size < row.length + 1 := by have := HL.out.2.2.1; omega
                have hbz2 : (1 : Int) ≤ (size : Int) - (row.length : Int) := by omega
                have hbz3 : decide ((1 : Int) > (size : Int) - (row.length : Int)) = false := decide_eq_false (by omega)
                have hbz4 : ¬ ((size : Int) - (row.length : Int) < 1) := by omega
                · have hbz : ¬ (1 : Int) > (size : Int) - (row.length : Int) := by omega
                  have HE : Aside (rowP d bs size f (row ++ List.replicate 1 (y : Int)) u1 = rs ∧ row.length + 1 ≤ size) := ⟨by have := HRV.out; rw [if_neg hbig] at this; exact this, by omega⟩
                  have Q2 : Aside (RX W w3 B s r g v bs out u1 m 0 (.slice ao row.length cap) row) := q2
                  clear hbig q2
                  go_wp2_with fail
                  go_loopg [7, 11] 1 (fun ky s7 s11 wi => ∃ (k : Nat) (x : Value), s7 = x ∧ s11 = .int .i64 (k : Int) ∧ k ≤ 1 ∧ 1 - k ≤ ky ∧ Aside (RX W wi B s r g v bs out u1 m 0 x (row ++ List.replicate k (y : Int))))
                  case atStart => exact ⟨0, _, rfl, rfl, Nat.zero_le _, Nat.le_refl _, by rw [List.replicate_zero, List.append_nil]; exact Q2.out⟩
                  case round =>
                    clear Q2
                    obtain ⟨k, x, rfl, rfl, hk, hky, HY⟩ := hrel
                    clear c3
                    have c3 := HY.out.c3
                    by_cases hkn : k < 1
                    · have hknz : (k : Int) < (1 : Int) := by omega
                      have wk : IntKind.i64.wrap ((k : Int) + 1) = (k : Int) + 1 := by rw [IntKind.wrap_i64]; omega
                      obtain ⟨v', W1, p1, p2⟩ := HPU.out _ _ _ _ (y : Int) HY.out (by rw [List.length_append, List.length_replicate]; have := HE.out.2; omega)
                      have HP : Aside (RX W W1 B s r g v bs out u1 m 0 v' (row ++ List.replicate (k + 1) (y : Int))) := by rw [List.replicate_succ', ← List.append_assoc]; exact p2
                      clear p2 HY
                      go_wp2_with (at_builtin; refine Lib.wpList_append_run _ rfl _ _ _ _ rfl _ _ rfl rfl _ _ p1 ?_)
                      go_roundg (1 - (k + 1))
                      case measure => omega
                      case rel => exact ⟨k + 1, _, rfl, by go_num, by omega, Nat.le_refl _, HP.out⟩
                    · obtain rfl : k = 1 := by omega
                      have hknz : ¬ ((1 : Nat) : Int) < ((1 : Nat) : Int) := by omega
                      obtain ⟨ao2, cap2, rfl, -⟩ := HSH.out _ _ _ _ _ HY.out
                      go_wp2_with fail
                      go_roundg f
                      case measure => omega
                      case rel =>
                        exact ⟨f, 0, u1, _, ao2, cap2, by rw [List.length_append, List.length_replicate], fun _ => Nat.le_refl _, HY.out, .inl ⟨rfl, HE.out.1, by rw [List.length_append, List.length_replicate]; have := HL.out.1; have := HL.out.2.2.1; have := HNB.out.1; omega, by rw [List.length_append, List.length_replicate]; exact HE.out.2, fun y hy => by
                          rcases List.mem_append.1 hy with q | q
                          · exact HL.out.2.2.2 y q
                          · obtain ⟨_, rfl⟩ := List.mem_replicate.1 q
                            exact HNB.out.2⟩⟩
      · rw [if_pos (by omega)] at r2
        have hltz : ¬ (row.length : Int) < (size : Int) := by omega
        have HE : Aside (rs = .ok row u ∧ wr.ownsRow W.heap.size 3 1 (.slice ao row.length cap) row.length (iVs row) ∧ TStep W wr B s r g v bs out u m 0) := ⟨r2.symm, r1.own, r1.ts⟩
        clear r1 r2 r3 r4 r5 HX
        go_wp2_with fail
        go_ret
        rw [HE.out.1]
        exact ⟨_, rfl, HE.out.2⟩
    · have c3 := r1.c3
      have hz : ((e : Int) == 0) = false := by rw [beq_eq_false_iff_ne]; omega
      have HE : Aside (rs = .no e ∧ TStep W wr B s r g v bs out u m e) := ⟨hrsn, r1.ts⟩
      clear hfk HX r1 hrsn he
      by_cases hlt : row.length < size
      · have hltz : (row.length : Int) < (size : Int) := by omega
        go_wp2_with fail
        go_ret
        rw [HE.out.1]
        exact ⟨_, u, rfl, HE.out.2⟩
      · have hltz : ¬ (row.length : Int) < (size : Int) := by omega
        go_wp2_with fail
        go_ret
        rw [HE.out.1]
        exact ⟨_, u, rfl, HE.out.2⟩
end Go.Proofs.YtdgfhbeofidbnaaDoor.Inf
