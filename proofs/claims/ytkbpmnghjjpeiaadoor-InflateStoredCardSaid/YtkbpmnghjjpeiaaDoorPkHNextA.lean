/- What a decoder reads, as numbers; Next of a decoder that NewDecoder made, over a reader that NewReader made. -/
import Derived.Test.YtkbpmnghjjpeiaaDoorPkHDecA
import Derived.Test.YtkbpmnghjjpeiaaDoorPkBitE
namespace Go.Proofs.YtkbpmnghjjpeiaaDoor.Huf
open Go.RowKit Go.Shelf Go.Lib Go.Proofs.YtkbpmnghjjpeiaaDoor.Mem Go.Proofs.YtkbpmnghjjpeiaaDoor.Bit
open Go.Maps

/-- The symbol of a code. -/
def symOf (l : List Int) (n c : Nat) : Option Nat := (List.range l.length).find? (fun s => decide (lenN l s = n ∧ codeL l s = c))
theorem symOf_some {l : List Int} {n c s : Nat} (h : symOf l n c = some s) : s < l.length ∧ lenN l s = n ∧ codeL l s = c := by
  unfold symOf at h
  have h2 := List.find?_some h
  exact ⟨List.mem_range.1 (List.mem_of_find?_eq_some h), by simpa using h2⟩
theorem symOf_none {l : List Int} {n c : Nat} (h : symOf l n c = none) : ∀ s, s < l.length → ¬ (lenN l s = n ∧ codeL l s = c) := fun s hs => by
  unfold symOf at h
  rw [List.find?_eq_none] at h
  simpa using h s (List.mem_range.2 hs)
/-- A symbol, behind k bits that are the number c. -/
def nextN (l : List Int) (bs : List UInt8) (at_ : Nat) : Nat → Nat → Nat → Nat × Nat × Nat
  | 0, k, _ => (0, 30, at_ + k)
  | f + 1, k, c => if 8 * bs.length < at_ + k + 1 then (0, 20, at_ + k) else
    match symOf l (k + 1) (2 * c + bitN bs (at_ + k)) with
    | some s => (s, 0, at_ + k + 1)
    | none => nextN l bs at_ f (k + 1) (2 * c + bitN bs (at_ + k))
theorem nextN_le (l : List Int) (bs : List UInt8) (at_ : Nat) : ∀ f k c, at_ + k ≤ 8 * bs.length → (nextN l bs at_ f k c).2.2 ≤ 8 * bs.length
  | 0, k, c, h => h
  | f + 1, k, c, h => by
    unfold nextN
    split
    · exact h
    · split
      · show at_ + k + 1 ≤ _; omega
      · exact nextN_le l bs at_ f (k + 1) _ (by omega)
open Classical in
/-- P304: what Next answers, and where it leaves its reader. -/
noncomputable def nextR (l : List Int) (bs : List UInt8) (at_ : Nat) : Nat × Nat × Nat :=
  if ∀ s, s < l.length → lenN l s = 0 then (0, 30, at_) else nextN l bs at_ 15 0 0
theorem take_one (bs : List UInt8) (i : Nat) : takeN bs i 1 = bitN bs i := by simp [takeN]
theorem bit_or (c x : Nat) (hc : c ≤ 65536) (hx : x < 2) : IntKind.i64.wrap ((c : Int) * 2) = (c : Int) * 2 ∧ bits BinOp.or IntKind.i64 ((c : Int) * 2) (x : Int) = ((2 * c + x : Nat) : Int) := by
  refine ⟨by rw [IntKind.wrap_i64]; omega, ?_⟩
  have h := i64_or_low (c : Int) (x : Int) (by omega) (by omega) (by omega)
  rw [show (c : Int) * 2 = 2 * (c : Int) by omega]
  rw [h]
  omega

/-- The look-up. -/
theorem lookD {W : World} {m i : Nat} {l : List Int} (h : MapAt W m l i) (hi : i = l.length) (n c : Nat) (hn : 0 < n) (hn2 : n ≤ 15) (hc : c ≤ 65536) :
    (Instr.lookup 159 (.map (some m)) (kv n c) true).run Tryd.prog W = .ok (.tuple #[.int .i64 (((symOf l n c).getD 0 : Nat) : Int), .bool (symOf l n c).isSome]) W := by
  obtain ⟨D, h1, h2⟩ := h
  subst hi
  have wn := wf_small n (by omega)
  have wc := wf_small c (by omega)
  have w0 : (Lit.int .i64 0).wf = true := by decide
  obtain ⟨v, ps, hrun, hv⟩ := h1.look_ok lawK Tryd.underlying159 (zeroE W) (plainElem_int Tryd.underlying3 w0) (key_of n c wn wc)
  obtain ⟨a, rfl, hz, -⟩ := plainElem_int_inv Tryd.underlying3 hv
  rw [hrun]
  cases hs : symOf l n c with
  | some s =>
    obtain ⟨s1, s2, s3⟩ := symOf_some hs
    obtain ⟨y1, y2⟩ := h2.yes s s1 (by omega)
    rw [s2, s3] at y1 y2
    rw [y2] at hz
    rw [y1]
    simp only [Prod.mk.injEq, DataW.lit.injEq, Lit.int.injEq] at hz
    rw [← hz.1.2]
    rfl
  | none =>
    have hno := symOf_none hs
    have hh := h2.no n c wn wc (fun s hs2 hn3 hq => hno s hs2 (by omega))
    rw [hh]
    rw [atKey_of_not_has hh] at hz
    simp only [Prod.mk.injEq, DataW.lit.injEq, Lit.int.injEq] at hz
    rw [← hz.1.2]
    rfl
theorem lenD {W : World} {m i : Nat} {l : List Int} (h : MapAt W m l i) (hi : i = l.length) : ∃ n : Nat, (n = 0 ↔ ∀ s, s < l.length → lenN l s = 0) ∧ n ≤ l.length ∧ ∀ ty, (Builtin.len_ #[159] ty #[.map (some m)]).run Tryd.prog W = .ok (.int .i64 (n : Int)) W := by
  obtain ⟨D, h1, h2⟩ := h
  subst hi
  exact ⟨Maps.size D, h2.none_, h1.size_le, fun ty => h1.len Tryd.underlying159 ty⟩

set_option maxHeartbeats 8000000 in
set_option maxRecDepth 100000 in
theorem next_any (W : World) (B b m r : Nat) (v : Value) (l : List Int) (bs : List UInt8) (at_ : Nat) (hd : DecAt W B b m l) (hr : RB W B r v bs at_) (hm : Masks W B) (hbr : b ≠ r) (hmr : m ≠ r) :
    Calls Tryd.prog 111 #[.pointer (some ⟨b, 0, none⟩), .pointer (some ⟨r, 0, none⟩)] W fun e w' => e = .returned (.tuple #[.int .i64 ((nextR l bs at_).1 : Int), .int .i64 ((nextR l bs at_).2.1 : Int)]) ∧ RB w' B r v bs (nextR l bs at_).2.2 ∧ Only (fun k => k = r) W w' := by
  have HM := Lib.hid (dmade_yes W B b m l hd)
  have hat : at_ ≤ 8 * bs.length := hr.2.2.2.2.1
  have HT : Aside (Calls Tryd.prog 88 #[.pointer (some ⟨r, 0, none⟩), .int .i64 0] W fun e w' => e = .returned (.tuple #[.int .i64 0, .int .i64 0]) ∧ RB w' B r v bs at_ ∧ Only (fun k => k = r) W w') := take_ok W B r v bs at_ 0 hr hm (by decide) (by omega)
  have HK : Aside (∀ w, Only (fun k => k = r) W w → DecAt w B b m l ∧ Masks w B) := fun w o => ⟨hd.only o hbr hmr, hm.only o (fun k hk => by rw [hk]; exact hr.2.2.2.1)⟩
  have hrW : r < W.heap.size := hr.lt
  have HV : Aside (∀ g, v.ownBlock = some g → g < W.heap.size) := fun g hg => (hr.2.1.lt g hg).2
  have HF : Aside (∀ w, Only (fun k => k = r) W w → ∀ o, Only (fun k => k = r) W (w.alloc o)) := fun w o ob => o.trans (Only.of_below (S := fun _ => False) ((Below.refl w.heap.size w).alloc (Nat.le_refl _) ob)) (fun i q => q.elim)
  obtain ⟨rs, hrs⟩ : ∃ rs, rs = nextR l bs at_ := ⟨_, rfl⟩
  rw [← hrs]
  clear hd hr hm
  go_enter Tryd.func111, Tryd.ntmps111
  go_upto_region 6 with (first
    | (go_at_call 115; refine HM.out.mono ?_; rintro e w1 ⟨rfl, rfl⟩)
    | (go_at_call 88; refine HT.out.mono ?_; rintro e w1 ⟨rfl, q1, q2⟩))
  obtain ⟨hdc, -⟩ := HK.out w1 q2
  have c1 : w1.cell? ⟨b, 1, none⟩ = some (.map (some m)) := by rw [Lib.cell_of_heap hdc.1]; rfl
  obtain ⟨nn, hnn1, hnn2, hln⟩ := lenD hdc.2.1 rfl
  have HQ1 : Aside (RB w1 B r v bs at_ ∧ Only (fun k => k = r) W w1) := ⟨q1, q2⟩
  clear HM HT
  by_cases hz : nn = 0
  · have hR : nextR l bs at_ = (0, 30, at_) := if_pos (hnn1.1 hz)
    rw [hR] at hrs
    subst hz hrs
    clear q1 q2 hdc hnn1
    go_wp2_with fail
    go_ret2
    exact ⟨rfl, HQ1.out.1, HQ1.out.2⟩
  · have hR : nextR l bs at_ = nextN l bs at_ 15 0 0 := if_neg (fun q => hz (hnn1.2 q))
    rw [hR] at hrs
    have hzz : ¬ (nn : Int) = 0 := by omega
    have hzb : ((nn : Int) == 0) = false := by rw [beq_eq_false_iff_ne]; exact hzz
    have hzc : (nn == 0) = false := by rw [beq_eq_false_iff_ne]; exact hz
    have hlt1 : r < w1.heap.size := Nat.lt_of_lt_of_le hrW q2.size
    have H0 : Aside ((w1.alloc (.cells #[.int .i64 0, .int .i64 0] 163)).heap[w1.heap.size]? = some (.cells #[.int .i64 ((0 : Nat) : Int), .int .i64 ((0 : Nat) : Int)] 163 (0, 0)) ∧ RB (w1.alloc (.cells #[.int .i64 0, .int .i64 0] 163)) B r v bs (at_ + 0) ∧ Only (fun k => k = r) W (w1.alloc (.cells #[.int .i64 0, .int .i64 0] 163)) ∧ nextN l bs at_ 15 0 0 = rs) :=
      ⟨heap_alloc_new _ _, q1.below ((Below.refl w1.heap.size w1).alloc (Nat.le_refl _) _), HF.out w1 q2 _, hrs.symm⟩
    have hsz := q2.size
    clear q1 q2 hdc hnn1 hR hrs HQ1
    go_upto_region 9 with fail
    obtain ⟨w2, hw2⟩ : ∃ w2, w2 = w1.alloc (.cells #[.int .i64 0, .int .i64 0] 163) := ⟨_, rfl⟩
    rw [← hw2] at H0 ⊢
    obtain ⟨t, ht⟩ : ∃ t, t = w1.heap.size := ⟨_, rfl⟩
    rw [← ht] at H0 hlt1 hsz ⊢
    clear hw2 ht c1 hln
    go_loopg [9] 15 (fun kx s9 wr => ∃ (k c : Nat), k ≤ 15 ∧ c < 2 ^ k ∧ 15 - k ≤ kx ∧ Aside (wr.heap[t]? = some (.cells #[.int .i64 (k : Int), .int .i64 (c : Int)] 163 (0, 0)) ∧ RB wr B r v bs (at_ + k) ∧ Only (fun k => k = r) W wr ∧ nextN l bs at_ (15 - k) k c = rs))
    case atStart => exact ⟨0, 0, by omega, by decide, by omega, H0.out⟩
    case round =>
      clear H0
      obtain ⟨k, c, hk, hc, hkx, HR⟩ := hrel
      obtain ⟨r1, r2, r3, r4⟩ := HR.out
      have c0 : wr.cell? ⟨t, 0, none⟩ = some (.int .i64 (k : Int)) := by rw [Lib.cell_of_heap r1]; rfl
      have c1 : wr.cell? ⟨t, 1, none⟩ = some (.int .i64 (c : Int)) := by rw [Lib.cell_of_heap r1]; rfl
      by_cases hlt : k < 15
      · have hltz : (k : Int) < 15 := by omega
        obtain ⟨f, hf⟩ : ∃ f, 15 - k = f + 1 := ⟨15 - k - 1, by omega⟩
        rw [hf] at r4
        by_cases hend : 8 * bs.length < at_ + k + 1
        · have hrs : rs = (0, 20, at_ + k) := by rw [← r4]; unfold nextN; rw [if_pos hend]
          have HT : Aside (Calls Tryd.prog 88 #[.pointer (some ⟨r, 0, none⟩), .int .i64 1] wr fun e w' => e = .returned (.tuple #[.int .i64 0, .int .i64 20]) ∧ Drew wr w') := take_end wr B r v bs (at_ + k) 1 r2 (by decide) (by omega)
          have HE : Aside (∀ w, Drew wr w → RB w B r v bs (at_ + k) ∧ Only (fun k => k = r) W w) := fun w d => ⟨r2.drew d, r3.trans d.only (fun i q => .inl q)⟩
          subst hrs
          clear r1 r2 r3 r4 HR hc
          go_wp2_with (first
            | (go_at_call 88; refine HT.out.mono ?_; rintro e w3 ⟨rfl, hd3⟩))
          go_ret2
          exact ⟨rfl, (HE.out _ hd3).1, (HE.out _ hd3).2⟩
        · have htk := take_ok wr B r v bs (at_ + k) 1 r2 (HK.out wr r3).2 (by decide) (by omega)
          rw [take_one] at htk
          have hx2 := bitN_lt bs (at_ + k)
          obtain ⟨x, hx⟩ : ∃ x, x = bitN bs (at_ + k) := ⟨_, rfl⟩
          rw [← hx] at htk hx2
          have HT : Aside (Calls Tryd.prog 88 #[.pointer (some ⟨r, 0, none⟩), .int .i64 1] wr fun e w' => e = .returned (.tuple #[.int .i64 (x : Int), .int .i64 0]) ∧ RB w' B r v bs (at_ + (k + 1)) ∧ Only (fun k => k = r) wr w') := htk
          have hcb : c ≤ 16384 := by
            have h1 : 2 ^ k ≤ 2 ^ 14 := Nat.pow_le_pow_right (by decide) (by omega)
            have h2 : (2 : Nat) ^ 14 = 16384 := by decide
            omega
          obtain ⟨hw1, hw2⟩ := bit_or c x (by omega) hx2
          obtain ⟨cc, hcc⟩ : ∃ cc, cc = 2 * c + x := ⟨_, rfl⟩
          rw [← hcc] at hw2
          have hccb : cc ≤ 65536 := by omega
          have hcc2 : cc < 2 ^ (k + 1) := by rw [Nat.pow_succ]; omega
          have HN4 : Aside (nextN l bs at_ (f + 1) k c = match symOf l (k + 1) cc with | some s => (s, 0, at_ + k + 1) | none => nextN l bs at_ f (k + 1) cc) := by
            show nextN l bs at_ (f + 1) k c = _
            rw [hcc, hx]
            show (if _ then _ else _) = _
            rw [if_neg hend]
          have HR4 : Aside (nextN l bs at_ (f + 1) k c = rs) := r4
          have HCC : Aside (cc < 2 ^ (k + 1) ∧ 15 - (k + 1) = f) := ⟨hcc2, by omega⟩
          clear hx hcc r4 hc hcc2 hf hend
          have wk1 : IntKind.i64.wrap ((k : Int) + 1) = (k : Int) + 1 := by rw [IntKind.wrap_i64]; omega
          have htr : t ≠ r := by omega
          go_upto_region 13 with (first
            | (go_at_call 88; refine HT.out.mono ?_; rintro e w3 ⟨rfl, q3, o3⟩))
          have r1' : w3.heap[t]? = some (.cells #[.int .i64 (k : Int), .int .i64 (c : Int)] 163 (0, 0)) := (o3.block t (Array.getElem?_eq_some_iff.1 r1).1 htr).trans r1
          have c0' : w3.cell? ⟨t, 0, none⟩ = some (.int .i64 (k : Int)) := by rw [Lib.cell_of_heap r1']; rfl
          have c1' : w3.cell? ⟨t, 1, none⟩ = some (.int .i64 (c : Int)) := by rw [Lib.cell_of_heap r1']; rfl
          have f0' := Lib.frozen_of_heap r1' 0
          have f1' := Lib.frozen_of_heap r1' 1
          have HQ3 : Aside (RB w3 B r v bs (at_ + (k + 1)) ∧ Only (fun k => k = r) W w3) := ⟨q3, r3.trans o3 (fun i q => .inl q)⟩
          clear q3 o3 c0 c1 htk HT r1 r2 r3 HR
          go_upto_region 14 with fail
          obtain ⟨w4, hw4⟩ : ∃ w4, w4 = (w3.setCell ⟨t, 0, none⟩ (.int .i64 ((k : Int) + 1))).setCell ⟨t, 1, none⟩ (.int .i64 (cc : Int)) := ⟨_, rfl⟩
          have r5 : w4.heap[t]? = some (.cells #[.int .i64 ((k : Int) + 1), .int .i64 (cc : Int)] 163 (0, 0)) := by
            rw [hw4]
            exact (Lib.heap_setCell_same (i := 1) ((Lib.heap_setCell_same (i := 0) r1' _).trans rfl) _).trans rfl
          have o5 : Only (fun k => k = t) w3 w4 := by
            rw [hw4]
            exact (Only.setCell (S := fun k => k = t) rfl _ _).trans (Only.setCell (S := fun k => k = t) rfl _ _) (fun i q => .inl q)
          have hot : ∀ i, i = t → i = r ∨ W.heap.size ≤ i := fun i q => by omega
          have o6 : Only (fun k => k = r) W w4 := HQ3.out.2.trans o5 hot
          have HQ4 : Aside (w4.heap[t]? = some (.cells #[.int .i64 (((k + 1 : Nat)) : Int), .int .i64 (cc : Int)] 163 (0, 0)) ∧ RB w4 B r v bs (at_ + (k + 1)) ∧ Only (fun k => k = r) W w4) := by
            exact ⟨r5, HQ3.out.1.only o5 (fun q => htr q.symm) (fun g hg q => by have := HV.out g hg; omega), o6⟩
          have hdec := (HK.out w4 o6).1
          have K0 : ∀ q, (w4.drewN q).cell? ⟨t, 0, none⟩ = some (.int .i64 ((k : Int) + 1)) := fun q => by
            show w4.cell? _ = _
            rw [Lib.cell_of_heap r5]; rfl
          have K1 : ∀ q, (w4.drewN q).cell? ⟨t, 1, none⟩ = some (.int .i64 (cc : Int)) := fun q => by
            show w4.cell? _ = _
            rw [Lib.cell_of_heap r5]; rfl
          have K3 : ∀ q, (w4.drewN q).cell? ⟨b, 1, none⟩ = some (.map (some m)) := fun q => by
            show w4.cell? _ = _
            rw [Lib.cell_of_heap hdec.1]; rfl
          have KL : ∀ q, (Instr.lookup 159 (.map (some m)) (.agg #[.int .i64 ((k : Int) + 1), .int .i64 (cc : Int)]) true).run Tryd.prog (w4.drewN q) = .ok (.tuple #[.int .i64 (((symOf l (k + 1) cc).getD 0 : Nat) : Int), .bool (symOf l (k + 1) cc).isSome]) (w4.drewN q) := fun q =>
            lookD ((hdec.drew (Drew.drewN w4 q)).2.1) rfl (k + 1) cc (by omega) (by omega) hccb
          have HQ5 : Aside (∀ q, RB (w4.drewN q) B r v bs (at_ + (k + 1)) ∧ Only (fun k => k = r) W (w4.drewN q) ∧ (w4.drewN q).heap[t]? = some (.cells #[.int .i64 (((k + 1 : Nat)) : Int), .int .i64 (cc : Int)] 163 (0, 0))) := fun q =>
            ⟨HQ4.out.2.1.drew (Drew.drewN w4 q), HQ4.out.2.2.trans (Drew.drewN w4 q).only (fun i q => .inl q), HQ4.out.1⟩
          have H4 : Aside (w4 = (w3.setCell ⟨t, 0, none⟩ (.int .i64 ((k : Int) + 1))).setCell ⟨t, 1, none⟩ (.int .i64 (cc : Int))) := hw4
          clear r5 o5 o6 hdec HQ4 HQ3 r1' c0' c1' f0' f1' hot
          rw [← hw4]
          clear hw4 H4
          cases hsy : symOf l (k + 1) cc with
          | some s =>
            have hrs : rs = (s, 0, at_ + k + 1) := by rw [← HR4.out, HN4.out, hsy]
            simp only [hsy, Option.getD_some, Option.isSome_some] at KL
            subst hrs
            clear hsy HN4 HR4
            go_quiet (fail)
            go_wp2_with fail
            go_ret2
            exact ⟨rfl, (HQ5.out _).1, (HQ5.out _).2.1⟩
          | none =>
            have HRS : Aside (nextN l bs at_ f (k + 1) cc = rs) := by show nextN l bs at_ f (k + 1) cc = rs; rw [← HR4.out, HN4.out, hsy]
            simp only [hsy, Option.getD_none, Option.isSome_none] at KL
            clear hsy HN4 HR4
            go_quiet (fail)
            go_wp2_with fail
            go_roundg (15 - (k + 1))
            case measure => omega
            case rel =>
              refine ⟨k + 1, cc, by omega, HCC.out.1, Nat.le_refl _, (HQ5.out _).2.2, (HQ5.out _).1, (HQ5.out _).2.1, ?_⟩
              rw [HCC.out.2]
              exact HRS.out
      · obtain rfl : k = 15 := by omega
        have hrs : rs = (0, 30, at_ + 15) := by rw [← r4]; rfl
        have HE : Aside (RB wr B r v bs (at_ + 15) ∧ Only (fun k => k = r) W wr) := ⟨r2, r3⟩
        subst hrs
        clear r1 r2 r3 r4 HR hc
        go_wp2_with fail
        go_ret2
        exact ⟨rfl, HE.out.1, HE.out.2⟩
end Go.Proofs.YtkbpmnghjjpeiaaDoor.Huf
