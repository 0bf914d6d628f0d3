/- The document's own decoder: NewDecoder, and Next over its own reader. -/
import Derived.Test.YtdgfhbeofidbnaaDoorPkHDecA
import Derived.Test.YtdgfhbeofidbnaaDoorPkHufL
import Derived.Test.YtdgfhbeofidbnaaDoorPkBitL
import Derived.BigQuiet
namespace Go.Proofs.YtdgfhbeofidbnaaDoor.Huf
open Go.RowKit Go.Shelf Go.Lib Go.Proofs.YtdgfhbeofidbnaaDoor.Mem Go.Proofs.YtdgfhbeofidbnaaDoor.Bit

/-- '[]int{}'. -/
theorem build_none (w : World) : (Instr.buildSlice 29 0 #[]).run Tryd.prog w = .ok (.slice (some ⟨w.heap.size, 0, none⟩) 0 0) (w.alloc (.cells #[] 3)) := by
  obtain ⟨i0, hi, hz0, hz1, hz2⟩ := info_parts info3
  simp [Instr.buildSlice, run_underlying Tryd.underlying29, sizeOf, typeInfo, hi, newRow, Instr.fill]
  rw [show Array.range 0 = #[] from Array.eq_empty_of_size_eq_zero (by simp), Array.map_empty]
theorem step_none {o : Oper} {a : Act} {w : World} {K : Act → World → Prop} {Q : Exit → Act → World → Prop} (ho : o.op = .buildSlice 29 0 #[])
    (h : K (a.put o.dst (.slice (some ⟨w.heap.size, 0, none⟩) 0 0)) (w.alloc (.cells #[] 3))) : o.wp Tryd.prog a w K Q := by
  unfold Oper.wp execOp
  have hb := build_none w
  simp only [ho, Sem.run_bind, Array.map_empty, hb, Result.andThen_ok]
  exact h
/-- 'append([]int{}, v...)'. -/
theorem fresh_ints (W : World) (v : Value) (l : List Int) (hs : SrcI W v l) (hl : l.length ≤ 17592186044416) :
    ∃ x W', (Builtin.append_ #[29, 29] 29 #[.slice (some ⟨W.heap.size, 0, none⟩) 0 0, v]).run Tryd.prog (W.alloc (.cells #[] 3)) = .ok x W' ∧ W'.ownsRow W.heap.size 3 1 x l.length (iVs l) ∧ Below W.heap.size W W' := by
  have hA := (Below.refl W.heap.size W).alloc (Nat.le_refl _) (.cells #[] 3)
  have hown : (W.alloc (.cells #[] 3)).ownsRow W.heap.size 3 1 (.slice (some ⟨W.heap.size, 0, none⟩) 0 0) ([] : List Int).length (iVs []) := World.ownsRow_made W #[] 0 (Nat.le_refl _) (Nat.zero_le _) rfl
  obtain ⟨x, W', h1, h2, h3, -⟩ := appI_any (W.alloc (.cells #[] 3)) W.heap.size _ v 29 [] l hown hA.size (hs.below hA) (by simp only [List.length_nil]; omega)
  rw [List.nil_append] at h2
  exact ⟨x, W', h1, h2, hA.trans (bel_grown hown h3 hA.size (Nat.le_refl _))⟩

/-- Has the set a code? -/
def someB (l : List Int) : Bool := decide (0 < (weightR l).1)
theorem w15_some (n : Nat) : 0 < w15 n ↔ n ≠ 0 := by
  unfold w15
  split
  · omega
  · have := Nat.pow_pos (n := 15 - n) (show 0 < 2 by decide); omega
theorem sumN_pos {f : Nat → Nat} : ∀ n, 0 < sumN f n ↔ ∃ j, j < n ∧ 0 < f j
  | 0 => by simp [sumN]
  | n + 1 => by
    have ih := sumN_pos (f := f) n
    simp only [sumN]
    constructor
    · intro h
      rcases Nat.eq_zero_or_pos (f n) with e | e
      · obtain ⟨j, h1, h2⟩ := ih.1 (by omega)
        exact ⟨j, by omega, h2⟩
      · exact ⟨n, by omega, e⟩
    · rintro ⟨j, h1, h2⟩
      rcases Nat.lt_or_ge j n with q | q
      · have := ih.2 ⟨j, q, h2⟩; omega
      · obtain rfl : j = n := by omega
        omega
theorem someB_iff {l : List Int} (hf : Fine l) : someB l = false ↔ ∀ s, s < l.length → lenN l s = 0 := by
  have e : (weightR l).1 = (weightN (lenN l) l.length : Nat) := by
    have h2 := (fine_iff l).2 hf
    unfold weightR at h2 ⊢
    split
    · rfl
    · rename_i h; rw [if_neg h] at h2; cases h2
  unfold someB
  rw [e, decide_eq_false_iff_not]
  unfold weightN
  constructor
  · intro h s hs
    rcases Nat.eq_zero_or_pos (lenN l s) with q | q
    · exact q
    · have hp := (sumN_pos (f := fun j => w15 (lenN l j)) l.length).2 ⟨s, hs, (w15_some (lenN l s)).2 (by omega)⟩
      exact absurd (show (0 : Int) < ((sumN (fun j => w15 (lenN l j)) l.length : Nat) : Int) by omega) h
  · intro h q
    obtain ⟨j, h1, h2⟩ := (sumN_pos l.length).1 (Int.ofNat_lt.1 q)
    rw [h j h1] at h2
    cases h2

/-- Block c is the document's decoder of the lengths l; all of it lies from Bd on. -/
def RD (W : World) (Bd c : Nat) (v1 v2 : Value) (l : List Int) : Prop :=
  W.heap[c]? = some (.cells #[v1, v2, .bool (someB l)] 161 (0, 0)) ∧ SrcI W v1 l ∧ SrcI W v2 (codesR l).1 ∧ Bd ≤ c ∧ (∀ a n k, v1 = .slice (some a) n k → Bd ≤ a.block) ∧ (∀ a n k, v2 = .slice (some a) n k → Bd ≤ a.block)
theorem RD.lt {W : World} {Bd c : Nat} {v1 v2 : Value} {l : List Int} (h : RD W Bd c v1 v2 l) : c < W.heap.size := (Array.getElem?_eq_some_iff.1 h.1).1
theorem RD.below {W W' : World} {Bd c : Nat} {v1 v2 : Value} {l : List Int} (h : RD W Bd c v1 v2 l) (hb : Below W.heap.size W W') : RD W' Bd c v1 v2 l :=
  ⟨(hb.block c h.lt).trans h.1, h.2.1.below hb, h.2.2.1.below hb, h.2.2.2⟩
theorem RD.only {S : Nat → Prop} {W W' : World} {Bd c : Nat} {v1 v2 : Value} {l : List Int} (h : RD W Bd c v1 v2 l) (o : Only S W W') (hs : ∀ k, S k → k < Bd) : RD W' Bd c v1 v2 l := by
  obtain ⟨q1, q2, q3, q4, q5, q6⟩ := h
  exact ⟨(o.block c (Array.getElem?_eq_some_iff.1 q1).1 (fun z => by have := hs c z; omega)).trans q1,
    q2.only o (fun a n k e z => by have := hs _ z; have := q5 a n k e; omega), q3.only o (fun a n k e z => by have := hs _ z; have := q6 a n k e; omega), q4, q5, q6⟩

set_option maxHeartbeats 4000000 in
set_option maxRecDepth 100000 in
theorem refDec_ok (W : World) (v : Value) (l : List Int) (hs : SrcI W v l) (hf : Fine l) :
    Calls Tryd.prog 82 #[v] W fun e w' => ∃ c, e = .returned (.tuple #[.pointer (some ⟨c, 0, none⟩), .int .i64 0]) ∧ (∃ v1 v2, RD w' W.heap.size c v1 v2 l) ∧ Below W.heap.size W w' := by
  have hn := hf.n
  have hfi := (fine_iff l).2 hf
  have hc := refCodes_any W v l hs (by omega)
  have e1 : (codesR l).2 = 0 := by unfold codesR; rw [if_pos hfi]
  rw [e1] at hc
  have HC := Lib.hid hc
  have HW : Aside (∀ w, Below W.heap.size W w → Calls Tryd.prog 111 #[v] w fun e w' => e = .returned (.tuple #[.int .i64 (weightR l).1, .bool true]) ∧ w = w') := fun w hb => by
    refine (refWeight_any w v l (hs.below hb) (by omega)).mono ?_
    rintro e w' ⟨n, h1, h2, h3⟩
    rw [hfi] at h1
    rw [h2.out hfi] at h1
    exact ⟨h1, h3⟩
  have HS : Aside (SrcI W v l) := hs
  obtain ⟨cr, hcr⟩ : ∃ cr, cr = (codesR l).1 := ⟨_, rfl⟩
  obtain ⟨wt, hwt⟩ : ∃ wt, wt = (weightR l).1 := ⟨_, rfl⟩
  rw [← hcr] at HC
  rw [← hwt] at HW
  have hsb : someB l = decide (0 < wt) := by rw [hwt]; rfl
  have HSB : Aside (someB l = decide (0 < wt) ∧ cr = (codesR l).1) := ⟨hsb, hcr⟩
  clear hs hf hc e1 hfi hcr hwt hsb
  go_enter Tryd.func82, Tryd.ntmps82
  go_upto_region 5 with (first
    | (go_at_call 110; refine HC.out.mono ?_; rintro e w1 ⟨u, rfl, hu, hb⟩; obtain ⟨uo, ucap, rfl, -, -, -⟩ := own_shape hu)
    | (go_at_call 111; refine (HW.out w1 hb).mono ?_; rintro e w2 ⟨rfl, rfl⟩))
  obtain ⟨x, w5, hx1, hx2, hx3⟩ := fresh_ints w1 v l (HS.out.below hb) (by omega)
  obtain ⟨xo, xcap, rfl, -, -, -⟩ := own_shape hx2
  have HF : Aside (SrcI w5 (.slice xo l.length xcap) l ∧ SrcI w5 (.slice uo cr.length ucap) cr ∧ Below W.heap.size W w5 ∧ (∀ a, xo = some a → W.heap.size ≤ a.block) ∧ (∀ a, uo = some a → W.heap.size ≤ a.block)) := ⟨SrcI.of_own hx2, (SrcI.of_own hu).below hx3, hb.trans (hx3.mono hb.size),
    fun a e => (by subst e; obtain ⟨g, rfl, h1, _⟩ := own_block hx2; exact Nat.le_trans hb.size h1), fun a e => (by subst e; obtain ⟨g, rfl, h1, _⟩ := own_block hu; exact h1)⟩
  clear hu hb hx2 hx3
  go_step
  go_step
  refine step_none rfl ?_
  by_cases hw : 0 < wt
  · have hw2 : wt > 0 := hw
    have hd : someB l = true := by rw [HSB.out.1]; exact decide_eq_true hw
    have HE : Aside (RD (w5.alloc (.cells #[.slice xo l.length xcap, .slice uo cr.length ucap, .bool true] 161)) W.heap.size w5.heap.size (.slice xo l.length xcap) (.slice uo cr.length ucap) l ∧ Below W.heap.size W (w5.alloc (.cells #[.slice xo l.length xcap, .slice uo cr.length ucap, .bool true] 161))) := by
      have hA := (Below.refl w5.heap.size w5).alloc (Nat.le_refl _) (.cells #[.slice xo l.length xcap, .slice uo cr.length ucap, .bool true] 161)
      obtain ⟨q1, q2, q3, q5, q6⟩ := HF.out
      have q4 := q2.below hA
      refine ⟨⟨by rw [hd]; exact heap_alloc_new _ _, q1.below hA, ?_, q3.size, fun a n k e => (by cases e; exact q5 _ rfl), fun a n k e => (by cases e; exact q6 _ rfl)⟩, q3.trans (hA.mono q3.size)⟩
      rw [← HSB.out.2]
      exact q4
    clear hd
    go_wp2_with (at_builtin; refine Lib.wpList_append_run _ rfl _ _ _ _ rfl _ _ rfl rfl _ _ hx1 ?_)
    go_ret2
    exact ⟨_, rfl, ⟨_, _, HE.out.1⟩, HE.out.2⟩
  · have hw2 : ¬ wt > 0 := hw
    have hd : someB l = false := by rw [HSB.out.1]; exact decide_eq_false hw
    have HE : Aside (RD (w5.alloc (.cells #[.slice xo l.length xcap, .slice uo cr.length ucap, .bool false] 161)) W.heap.size w5.heap.size (.slice xo l.length xcap) (.slice uo cr.length ucap) l ∧ Below W.heap.size W (w5.alloc (.cells #[.slice xo l.length xcap, .slice uo cr.length ucap, .bool false] 161))) := by
      have hA := (Below.refl w5.heap.size w5).alloc (Nat.le_refl _) (.cells #[.slice xo l.length xcap, .slice uo cr.length ucap, .bool false] 161)
      obtain ⟨q1, q2, q3, q5, q6⟩ := HF.out
      have q4 := q2.below hA
      refine ⟨⟨by rw [hd]; exact heap_alloc_new _ _, q1.below hA, ?_, q3.size, fun a n k e => (by cases e; exact q5 _ rfl), fun a n k e => (by cases e; exact q6 _ rfl)⟩, q3.trans (hA.mono q3.size)⟩
      rw [← HSB.out.2]
      exact q4
    clear hd
    go_wp2_with (at_builtin; refine Lib.wpList_append_run _ rfl _ _ _ _ rfl _ _ rfl rfl _ _ hx1 ?_)
    go_ret2
    exact ⟨_, rfl, ⟨_, _, HE.out.1⟩, HE.out.2⟩

theorem refDec_no (W : World) (v : Value) (l : List Int) (hs : SrcI W v l) (hl : l.length ≤ 17592186044416) (hf : ¬ Fine l) :
    Calls Tryd.prog 82 #[v] W fun e w' => e = .returned (.tuple #[.pointer none, .int .i64 30]) ∧ Below W.heap.size W w' := by
  have hc := refCodes_any W v l hs hl
  have e1 : codesR l = ([], 30) := by unfold codesR; rw [if_neg (fun q => hf ((fine_iff l).1 q))]
  rw [e1] at hc
  have HC := Lib.hid hc
  clear hs hf hc e1
  go_enter Tryd.func82, Tryd.ntmps82
  go_wp2_with (first
    | (go_at_call 110; refine HC.out.mono ?_; rintro e w1 ⟨u, rfl, hu, hb⟩))
  go_ret2
  exact ⟨rfl, hb⟩

theorem symOf_first {l : List Int} (hf : Fine l) {n c i : Nat} (hn : n ≠ 0) (hi : i < l.length) (h : lenN l i = n ∧ codeL l i = c) : symOf l n c = some i := by
  cases hs : symOf l n c with
  | none => exact absurd h (symOf_none hs i hi)
  | some s =>
    obtain ⟨s1, s2, s3⟩ := symOf_some hs
    rcases Nat.eq_or_lt_of_le (Nat.le_refl s) with _ | q
    · by_cases e : s = i
      · rw [e]
      · exact absurd (s3.trans h.2.symm) (code_apart hf s1 hi e (by omega) (by omega))
    · omega
theorem symOf_nothing {l : List Int} {n c : Nat} (h : ∀ j, j < l.length → ¬ (lenN l j = n ∧ codeL l j = c)) : symOf l n c = none := by
  cases hs : symOf l n c with
  | none => rfl
  | some s =>
    obtain ⟨s1, s2, s3⟩ := symOf_some hs
    exact absurd ⟨s2, s3⟩ (h s s1)

set_option maxHeartbeats 8000000 in
set_option maxRecDepth 100000 in
theorem refNext_any (W : World) (B Bd c q : Nat) (v v1 v2 : Value) (l : List Int) (bs : List UInt8) (at_ : Nat) (hd : ∀ w, Only (fun k => k = q) W w → RD w Bd c v1 v2 l) (hr : RR W B q v bs at_) (hf : Fine l) :
    Calls Tryd.prog 112 #[.pointer (some ⟨c, 0, none⟩), .pointer (some ⟨q, 0, none⟩)] W fun e w' => e = .returned (.tuple #[.int .i64 ((nextR l bs at_).1 : Int), .int .i64 ((nextR l bs at_).2.1 : Int)]) ∧ RR w' B q v bs (nextR l bs at_).2.2 ∧ Only (fun k => k = q) W w' := by
  obtain ⟨ao, cp, rfl, hao⟩ := (hd W (Only.refl _ _)).2.1.shape
  obtain ⟨bo, cq, rfl, hbo⟩ := (hd W (Only.refl _ _)).2.2.1.shape
  have hcl : (codesR l).1.length = l.length := by unfold codesR; rw [if_pos ((fine_iff l).2 hf)]; simp
  have hca : ∀ i (h : i < (codesR l).1.length), (codesR l).1[i] = (codeL l i : Int) := by
    intro i h
    unfold codesR at *
    simp only [(fine_iff l).2 hf, if_true] at h ⊢
    rw [List.getElem_map, List.getElem_range]
  rw [hcl] at hd hbo
  have HCE : Aside ((codesR l).1.length = l.length ∧ ∀ i (h : i < (codesR l).1.length), (codesR l).1[i] = (codeL l i : Int)) := ⟨hcl, hca⟩
  have HD : Aside (∀ w, Only (fun k => k = q) W w → RD w Bd c (.slice ao l.length cp) (.slice bo l.length cq) l) := hd
  have HL : Aside ((0 < l.length → ∃ a, ao = some a) ∧ (0 < l.length → ∃ a, bo = some a)) := ⟨hao, hbo⟩
  have HF : Aside (Fine l) := hf
  have HR0 : Aside (RR W B q v bs at_) := hr
  have hn := hf.n
  have c2 : W.cell? ⟨c, 2, none⟩ = some (.bool (someB l)) := by rw [Lib.cell_of_heap (hd W (Only.refl _ _)).1]; rfl
  obtain ⟨rs, hrs⟩ : ∃ rs, rs = nextR l bs at_ := ⟨_, rfl⟩
  rw [← hrs]
  clear hcl hca hao hbo hd hr
  by_cases hsome : someB l = false
  · have hR : nextR l bs at_ = (0, 30, at_) := if_pos ((someB_iff hf).1 hsome)
    rw [hR] at hrs
    rw [hsome] at c2
    subst hrs
    have HE : Aside (Only (fun k => k = q) W W) := Only.refl _ _
    clear hf hR hsome
    go_enter Tryd.func112, Tryd.ntmps112
    go_wp2_with fail
    go_ret2
    exact ⟨rfl, HR0.out, HE.out⟩
  · have hR : nextR l bs at_ = nextN l bs at_ 15 0 0 := if_neg (fun z => hsome ((someB_iff hf).2 z))
    rw [hR] at hrs
    have hs2 : someB l = true := by simpa using hsome
    rw [hs2] at c2
    have H0 : Aside (RR W B q v bs (at_ + 0) ∧ Only (fun k => k = q) W W ∧ nextN l bs at_ (15 - 0) 0 0 = rs) := ⟨HR0.out, Only.refl _ _, hrs.symm⟩
    clear hf hR hsome hs2 hrs HR0
    go_enter Tryd.func112, Tryd.ntmps112
    go_upto_region 5 with fail
    clear c2
    go_loopg [6, 7] 16 (fun kx s6 s7 wr => ∃ (k cc : Nat), s7 = .int .i64 ((k : Int) + 1) ∧ s6 = .int .i64 cc ∧ k ≤ 15 ∧ cc < 2 ^ k ∧ 16 - k ≤ kx ∧ Aside (RR wr B q v bs (at_ + k) ∧ Only (fun k => k = q) W wr ∧ nextN l bs at_ (15 - k) k cc = rs))
    case atStart => exact ⟨0, 0, rfl, rfl, by omega, by decide, by omega, H0.out⟩
    case round =>
      clear H0
      obtain ⟨k, cc, rfl, rfl, hk, hcc, hkx, HR⟩ := hrel
      obtain ⟨r2, r3, r4⟩ := HR.out
      by_cases hlt : k < 15
      · have hltz : (k : Int) + 1 ≤ 15 := by omega
        obtain ⟨f, hff⟩ : ∃ f, 15 - k = f + 1 := ⟨15 - k - 1, by omega⟩
        rw [hff] at r4
        by_cases hend : 8 * bs.length < at_ + k + 1
        · have hrs : rs = (0, 20, at_ + k) := by rw [← r4]; unfold nextN; rw [if_pos hend]
          have HT : Aside (Calls Tryd.prog 79 #[.pointer (some ⟨q, 0, none⟩), .int .i64 1] wr fun e w' => e = .returned (.tuple #[.int .i64 0, .int .i64 20]) ∧ Drew wr w') := refTake_end wr B q v bs (at_ + k) 1 r2 (by decide) (by omega)
          have HE : Aside (∀ w, Drew wr w → RR w B q v bs (at_ + k) ∧ Only (fun k => k = q) W w) := fun w d => ⟨r2.drew d, r3.trans d.only (fun i z => .inl z)⟩
          subst hrs
          clear r2 r3 r4 HR hcc
          go_wp2_with (first
            | (go_at_call 79; refine HT.out.mono ?_; rintro e w3 ⟨rfl, hd3⟩))
          go_ret2
          exact ⟨rfl, (HE.out _ hd3).1, (HE.out _ hd3).2⟩
        · have htk := refTake_ok wr B q v bs (at_ + k) 1 r2 (by decide) (by omega)
          rw [take_one] at htk
          have hx2 := bitN_lt bs (at_ + k)
          obtain ⟨x, hx⟩ : ∃ x, x = bitN bs (at_ + k) := ⟨_, rfl⟩
          rw [← hx] at htk hx2
          have HT : Aside (Calls Tryd.prog 79 #[.pointer (some ⟨q, 0, none⟩), .int .i64 1] wr fun e w' => e = .returned (.tuple #[.int .i64 (x : Int), .int .i64 0]) ∧ RR w' B q v bs (at_ + (k + 1)) ∧ Only (fun k => k = q) wr w') := htk
          have hcb : cc ≤ 16384 := by
            have h1 : 2 ^ k ≤ 2 ^ 14 := Nat.pow_le_pow_right (by decide) (by omega)
            have h2 : (2 : Nat) ^ 14 = 16384 := by decide
            omega
          obtain ⟨c4, hc4⟩ : ∃ c4, c4 = 2 * cc + x := ⟨_, rfl⟩
          have hcc2 : c4 < 2 ^ (k + 1) := by rw [Nat.pow_succ]; omega
          have zz1 : IntKind.i64.wrap (2 * (cc : Int)) = 2 * (cc : Int) := by rw [IntKind.wrap_i64]; omega
          have zz2 : IntKind.i64.wrap (2 * (cc : Int) + (x : Int)) = (c4 : Int) := by rw [IntKind.wrap_i64]; omega
          have zz3 : 2 * (cc : Int) + (x : Int) = (c4 : Int) := by omega
          have HN4 : Aside (nextN l bs at_ (f + 1) k cc = match symOf l (k + 1) c4 with | some s => (s, 0, at_ + k + 1) | none => nextN l bs at_ f (k + 1) c4) := by
            show nextN l bs at_ (f + 1) k cc = _
            rw [hc4, hx]
            show (if _ then _ else _) = _
            rw [if_neg hend]
            cases symOf l (k + 1) (2 * cc + bitN bs (at_ + k)) <;> rfl
          have HR4 : Aside (nextN l bs at_ (f + 1) k cc = rs) := r4
          have HO3 : Aside (∀ w, Only (fun k => k = q) wr w → Only (fun k => k = q) W w) := fun w o => r3.trans o (fun i z => .inl z)
          have HCC : Aside (c4 < 2 ^ (k + 1) ∧ 15 - (k + 1) = f) := ⟨hcc2, by omega⟩
          have wk1 : IntKind.i64.wrap ((k : Int) + 1 + 1) = (k : Int) + 1 + 1 := by rw [IntKind.wrap_i64]; omega
          clear hx hc4 r4 hcc hcc2 hff hend r2 r3 HR htk
          go_upto_region 12 with (first
            | (go_at_call 79; refine HT.out.mono ?_; rintro e w3 ⟨rfl, q3, o3⟩))
          have HQ3 : Aside (RR w3 B q v bs (at_ + (k + 1)) ∧ Only (fun k => k = q) W w3) := ⟨q3, HO3.out w3 o3⟩
          clear q3 o3 HT HO3
          go_loopg [10] l.length (fun kx s10 wi => ∃ (i : Nat), s10 = .int .i64 i ∧ i ≤ l.length ∧ l.length - i ≤ kx ∧ Aside (RR wi B q v bs (at_ + (k + 1)) ∧ Only (fun k => k = q) W wi ∧ ∀ j, j < i → ¬ (lenN l j = k + 1 ∧ codeL l j = c4)))
          case atStart => exact ⟨0, rfl, Nat.zero_le _, Nat.le_refl _, HQ3.out.1, HQ3.out.2, fun j hj => by omega⟩
          case round =>
            clear HQ3
            obtain ⟨i, rfl, hi, hki, HI⟩ := hrel
            obtain ⟨i1, i2, i3⟩ := HI.out
            have hrd := HD.out wr i2
            have d0 : wr.cell? ⟨c, 0, none⟩ = some (.slice ao l.length cp) := by rw [Lib.cell_of_heap hrd.1]; rfl
            have d1 : wr.cell? ⟨c, 1, none⟩ = some (.slice bo l.length cq) := by rw [Lib.cell_of_heap hrd.1]; rfl
            by_cases hit : i < l.length
            · have hitz : (i : Int) < (l.length : Int) := by omega
              obtain ⟨p1, rfl⟩ := HL.out.1 (by omega)
              obtain ⟨p2, rfl⟩ := HL.out.2 (by omega)
              have hlen := HF.out.len hit
              have wi1 : IntKind.i64.wrap ((i : Int) + 1) = (i : Int) + 1 := by rw [IntKind.wrap_i64]; omega
              have e1 : wr.cell? (p1.add i) = some (.int .i64 (lenN l i : Int)) := by
                rw [hlen.1, numAt_eq l i hit]
                exact srci_cell hrd.2.1 i hit
              have e2 : wr.cell? (p2.add i) = some (.int .i64 (codeL l i : Int)) := by
                have h2 := hrd.2.2.1
                rw [show (Value.slice (some p2) l.length cq) = .slice (some p2) (codesR l).1.length cq by rw [HCE.out.1]] at h2
                have := srci_cell h2 i (by rw [HCE.out.1]; exact hit)
                rw [HCE.out.2] at this
                exact this
              have HQI : Aside (RR wr B q v bs (at_ + (k + 1)) ∧ Only (fun k => k = q) W wr) := ⟨i1, i2⟩
              have HP : Aside (lenN l i = k + 1 ∧ codeL l i = c4 → symOf l (k + 1) c4 = some i) := fun h => symOf_first HF.out (by omega) hit h
              have HI3 : Aside (∀ j, j < i → ¬ (lenN l j = k + 1 ∧ codeL l j = c4)) := i3
              have HG : Aside (¬ (lenN l i = k + 1 ∧ codeL l i = c4) → ∀ j, j < i + 1 → ¬ (lenN l j = k + 1 ∧ codeL l j = c4)) := fun h j hj => by
                rcases Nat.lt_or_ge j i with z | z
                · exact HI3.out j z
                · obtain rfl : j = i := by omega
                  exact h
              clear i1 i2 i3 hrd HI hlen HI3
              generalize lenN l i = ln at e1 HP HG
              generalize codeL l i = cd at e2 HP HG
              by_cases hl1 : ln = k + 1
              · have hl1z : (ln : Int) = (k : Int) + 1 := by omega
                rw [hl1z] at e1
                by_cases hc1 : cd = c4
                · subst hc1
                  have hrs : rs = (i, 0, at_ + k + 1) := by rw [← HR4.out, HN4.out, HP.out ⟨hl1, rfl⟩]
                  subst hrs
                  clear HP HG HN4 HR4
                  go_wp2_with fail
                  go_ret2
                  exact ⟨rfl, HQI.out.1, HQI.out.2⟩
                · have hc1z : ¬ (cd : Int) = (c4 : Int) := by omega
                  have hc1b : ((cd : Int) == (c4 : Int)) = false := by rw [beq_eq_false_iff_ne]; exact hc1z
                  have hc1c : (cd == c4) = false := by rw [beq_eq_false_iff_ne]; exact hc1
                  have HG2 : Aside _ := HG.out (fun z => hc1 z.2)
                  clear HP HG
                  go_wp2_with fail
                  go_roundg (l.length - (i + 1))
                  case measure => omega
                  case rel => exact ⟨i + 1, by go_num, by omega, Nat.le_refl _, HQI.out.1, HQI.out.2, HG2.out⟩
              · have hl1z : ¬ (ln : Int) = (k : Int) + 1 := by omega
                have hl1b : ((ln : Int) == (k : Int) + 1) = false := by rw [beq_eq_false_iff_ne]; exact hl1z
                have HG2 : Aside _ := HG.out (fun z => hl1 z.1)
                clear HP HG
                go_wp2_with fail
                go_roundg (l.length - (i + 1))
                case measure => omega
                case rel => exact ⟨i + 1, by go_num, by omega, Nat.le_refl _, HQI.out.1, HQI.out.2, HG2.out⟩
            · obtain rfl : i = l.length := by omega
              have hitz : ¬ (l.length : Int) < (l.length : Int) := by omega
              have HRS : Aside (nextN l bs at_ f (k + 1) c4 = rs) := by show nextN l bs at_ f (k + 1) c4 = rs; rw [← HR4.out, HN4.out, symOf_nothing i3]
              have HQI : Aside (RR wr B q v bs (at_ + (k + 1)) ∧ Only (fun k => k = q) W wr) := ⟨i1, i2⟩
              clear i1 i2 i3 hrd HI HN4 HR4
              go_wp2_with fail
              go_roundg (16 - (k + 1))
              case measure => omega
              case rel =>
                refine ⟨k + 1, c4, by go_num, rfl, by omega, HCC.out.1, Nat.le_refl _, HQI.out.1, HQI.out.2, ?_⟩
                rw [HCC.out.2]
                exact HRS.out
      · obtain rfl : k = 15 := by omega
        have hltz : ¬ ((15 : Nat) : Int) + 1 ≤ 15 := by omega
        have hrs : rs = (0, 30, at_ + 15) := by rw [← r4]; rfl
        have HE : Aside (RR wr B q v bs (at_ + 15) ∧ Only (fun k => k = q) W wr) := ⟨r2, r3⟩
        subst hrs
        clear r2 r3 r4 HR hcc
        go_wp2_with fail
        go_ret2
        exact ⟨rfl, HE.out.1, HE.out.2⟩
end Go.Proofs.YtdgfhbeofidbnaaDoor.Huf
