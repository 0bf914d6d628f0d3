/- What the document's own stream holds, and bytes more for it. The document's own stream: its error, a number, a symbol. The document's own stream: a stored block. -/
import Derived.Test.YtdgfhbeofidbnaaDoorPkInfO
import Derived.Test.YtdgfhbeofidbnaaDoorPkBitL
import Derived.Test.YtdgfhbeofidbnaaDoorPkHRefD
import Derived.BigQuiet
namespace Go.Proofs.YtdgfhbeofidbnaaDoor.Inf
open Go.RowKit Go.Shelf Go.Lib Go.Proofs.YtdgfhbeofidbnaaDoor.Mem Go.Proofs.YtdgfhbeofidbnaaDoor.Bit Go.Proofs.YtdgfhbeofidbnaaDoor.Huf Go.Proofs.YtdgfhbeofidbnaaDoor.Lz

/-- Block s is a stream over the reader r, that has made the bytes out (in block g; s, where there are none). -/
def RT (W : World) (B s r g : Nat) (v : Value) (bs out : List UInt8) (t m er : Nat) : Prop :=
  ∃ vo, W.heap[s]? = some (.cells #[.pointer (some ⟨r, 0, none⟩), vo, .int .i64 (m : Int), .int .i64 (er : Int)] 101 (0, 0)) ∧ RR W B r v bs t ∧ W.ownsRow B 5 1 vo out.length (bVs out) ∧
    (vo.ownBlock = none ∧ g = s ∨ vo.ownBlock = some g ∧ g ≠ s) ∧ g ≠ r ∧ s ≠ r ∧ v.ownBlock ≠ some s ∧ v.ownBlock ≠ some g ∧ B ≤ s
section
variable {W W' : World} {B s r g : Nat} {v : Value} {bs out : List UInt8} {t m er : Nat}
theorem RT.lt (h : RT W B s r g v bs out t m er) : s < W.heap.size := by obtain ⟨vo, hc, _⟩ := h; exact (Array.getElem?_eq_some_iff.1 hc).1
theorem RT.ltg (h : RT W B s r g v bs out t m er) : g < W.heap.size := by
  obtain ⟨vo, hc, hr, ho, ⟨_, rfl⟩ | ⟨hk, _⟩, _⟩ := h
  · exact (Array.getElem?_eq_some_iff.1 hc).1
  · exact (ho.lt g hk).2
theorem RT.leg (h : RT W B s r g v bs out t m er) : B ≤ g := by
  obtain ⟨vo, hc, hr, ho, ⟨_, rfl⟩ | ⟨hk, _⟩, _, _, _, _, hb⟩ := h
  · exact hb
  · exact (ho.lt g hk).1
theorem RT.les (h : RT W B s r g v bs out t m er) : B ≤ s := by obtain ⟨vo, hc, hr, ho, _, _, _, _, _, hb⟩ := h; exact hb
theorem RT.rb (h : RT W B s r g v bs out t m er) : RR W B r v bs t := by obtain ⟨vo, hc, hr, _⟩ := h; exact hr
theorem RT.ler (h : RT W B s r g v bs out t m er) : B ≤ r := h.rb.2.2.2.1
theorem RT.zone (h : RT W B s r g v bs out t m er) : ∀ k, (k = s ∨ k = r ∨ k = g) → B ≤ k := by
  rintro k (rfl | rfl | rfl)
  · exact h.les
  · exact h.ler
  · exact h.leg
theorem RT.c0 (h : RT W B s r g v bs out t m er) : W.cell? ⟨s, 0, none⟩ = some (.pointer (some ⟨r, 0, none⟩)) := by obtain ⟨vo, hc, _⟩ := h; rw [Lib.cell_of_heap hc]; rfl
theorem RT.c2 (h : RT W B s r g v bs out t m er) : W.cell? ⟨s, 2, none⟩ = some (.int .i64 (m : Int)) := by obtain ⟨vo, hc, _⟩ := h; rw [Lib.cell_of_heap hc]; rfl
theorem RT.c3 (h : RT W B s r g v bs out t m er) : W.cell? ⟨s, 3, none⟩ = some (.int .i64 (er : Int)) := by obtain ⟨vo, hc, _⟩ := h; rw [Lib.cell_of_heap hc]; rfl
theorem RT.fr (h : RT W B s r g v bs out t m er) (i : Nat) : W.frozen? ⟨s, i, none⟩ = false := by obtain ⟨vo, hc, _⟩ := h; exact Lib.frozen_of_heap hc i
theorem RT.c1 (h : RT W B s r g v bs out t m er) : ∃ ao cap, W.cell? ⟨s, 1, none⟩ = some (.slice ao out.length cap) ∧ W.ownsRow B 5 1 (.slice ao out.length cap) out.length (bVs out) ∧ (0 < out.length → ao = some ⟨g, 0, none⟩) ∧ out.length ≤ cap ∧ cap ≤ 9223372036854775807 := by
  obtain ⟨vo, hc, hr, ho, hg, _⟩ := h
  obtain ⟨ao, cap, rfl, h1, h2, h3⟩ := own_shape ho
  refine ⟨ao, cap, by rw [Lib.cell_of_heap hc]; rfl, ho, fun hl => ?_, h1, h2⟩
  cases ao with
  | none => have := (h3 rfl).1; omega
  | some a =>
    obtain ⟨k, rfl, -, -⟩ := own_block ho
    rcases hg with ⟨hg, _⟩ | ⟨hg, _⟩
    · cases hg
    · obtain rfl : k = g := by simpa [Value.ownBlock] using hg
      rfl
theorem RT.same (h : RT W B s r g v bs out t m er) (h1 : W'.heap[s]? = W.heap[s]?) (h2 : W'.heap[r]? = W.heap[r]?) (h3 : W'.heap[g]? = W.heap[g]?) (h4 : ∀ k, v.ownBlock = some k → W'.heap[k]? = W.heap[k]?) : RT W' B s r g v bs out t m er := by
  obtain ⟨vo, hc, hr, ho, hg, h5⟩ := h
  refine ⟨vo, h1.trans hc, hr.same h2 h4, own_same ho fun k e => ?_, hg, h5⟩
  rcases hg with ⟨hn, _⟩ | ⟨hs, _⟩
  · rw [e] at hn; cases hn
  · rw [e] at hs
    obtain rfl : k = g := by simpa using hs
    exact h3
theorem RT.below (h : RT W B s r g v bs out t m er) (hb : Below W.heap.size W W') : RT W' B s r g v bs out t m er :=
  h.same (hb.block s h.lt) (hb.block r h.rb.lt) (hb.block g h.ltg) (fun k hk => hb.block k (h.rb.2.1.lt k hk).2)
theorem RT.drew (h : RT W B s r g v bs out t m er) (d : Drew W W') : RT W' B s r g v bs out t m er := h.below (d.below _)
/-- The reader has read on. -/
theorem RT.read {u : Nat} (h : RT W B s r g v bs out t m er) (hr : RR W' B r v bs u) (o : Only (fun k => k = r) W W') : RT W' B s r g v bs out u m er := by
  have hs := h.lt
  have hgl := h.ltg
  obtain ⟨vo, hc, hr0, ho, hg, h1, h2, h5⟩ := h
  refine ⟨vo, (o.block s hs h2).trans hc, hr, own_same ho fun k e => ?_, hg, h1, h2, h5⟩
  rcases hg with ⟨hn, _⟩ | ⟨hs, _⟩
  · rw [e] at hn; cases hn
  · rw [e] at hs
    obtain rfl : k = g := by simpa using hs
    exact o.block k hgl h1
end

/-- What a call on the stream leaves: it may have got another row for its bytes. -/
def TStep (W W' : World) (B s r g : Nat) (v : Value) (bs out : List UInt8) (t m er : Nat) : Prop :=
  ∃ g', RT W' B s r g' v bs out t m er ∧ (g' = g ∨ W.heap.size ≤ g') ∧ Only (fun k => k = s ∨ k = r ∨ k = g) W W'
theorem TStep.refl {W : World} {B s r g : Nat} {v : Value} {bs out : List UInt8} {t m er : Nat} (h : RT W B s r g v bs out t m er) : TStep W W B s r g v bs out t m er := ⟨g, h, .inl rfl, Only.refl _ _⟩
theorem TStep.trans {U V W : World} {B s r g g' : Nat} {v : Value} {bs out : List UInt8} {t m er : Nat} (h2 : g' = g ∨ U.heap.size ≤ g') (h3 : Only (fun k => k = s ∨ k = r ∨ k = g) U V) (h : TStep V W B s r g' v bs out t m er) : TStep U W B s r g v bs out t m er := by
  obtain ⟨g2, q1, q2, q3⟩ := h
  refine ⟨g2, q1, ?_, h3.trans q3 ?_⟩
  · rcases q2 with rfl | q2
    · exact h2
    · exact .inr (Nat.le_trans h3.size q2)
  · rintro i (rfl | rfl | rfl)
    · exact .inl (.inl rfl)
    · exact .inl (.inr (.inl rfl))
    · rcases h2 with rfl | h2
      · exact .inl (.inr (.inr rfl))
      · exact .inr h2
theorem TStep.read {W W' : World} {B s r g u : Nat} {v : Value} {bs out : List UInt8} {t m er : Nat} (h : RT W B s r g v bs out t m er) (hr : RR W' B r v bs u) (o : Only (fun k => k = r) W W') : TStep W W' B s r g v bs out u m er :=
  ⟨g, h.read hr o, .inl rfl, o.mono (fun _ q => .inl (.inr (.inl q)))⟩

/-- Bytes more: the append's run, and what the store behind it leaves. -/
theorem rt_push {W U : World} {B s r g : Nat} {v x : Value} {bs out l : List UInt8} {t m er : Nat} (h : RT W B s r g v bs out t m er) (hb : Below W.heap.size W U) (hx : Mem.Src U x l) (hl : out.length + l.length ≤ 140737488355328) :
    ∃ ao cap ao' n' cap' W1, W.cell? ⟨s, 1, none⟩ = some (.slice ao out.length cap) ∧ U.cell? ⟨s, 1, none⟩ = some (.slice ao out.length cap) ∧ (Builtin.append_ #[22, 22] 22 #[.slice ao out.length cap, x]).run Tryd.prog U = .ok (.slice ao' n' cap') W1 ∧ (W1.cell? ⟨s, 1, none⟩ = some (.slice ao out.length cap) ∧ W1.frozen? ⟨s, 1, none⟩ = false) ∧
      TStep W (W1.setCell ⟨s, 1, none⟩ (.slice ao' n' cap')) B s r g v bs (out ++ l) t m er := by
  have hs := h.lt
  have hgl := h.ltg
  have hrl := h.rb.lt
  have hvl := fun k (hk : v.ownBlock = some k) => (h.rb.2.1.lt k hk).2
  have hBU : B ≤ U.heap.size := Nat.le_trans (Nat.le_trans h.les (Nat.le_of_lt hs)) hb.size
  obtain ⟨vo, hc, hr, ho, hg, h1, h2, h3, h4, h5⟩ := h
  obtain ⟨ao, cap, rfl, -, -, -⟩ := own_shape ho
  have hU : U.heap[s]? = _ := (hb.block s hs).trans hc
  obtain ⟨v', W1, q1, q2, q3, q4⟩ := app_any U B _ x 22 out l (own_below ho hb) hBU hx hl
  have hgs : (Value.slice ao out.length cap).ownBlock ≠ some s := by
    rcases hg with ⟨hn, _⟩ | ⟨hn, hne⟩
    · rw [hn]; exact fun e => by cases e
    · rw [hn]; exact fun e => hne (by simpa using e)
  have hgk : ∀ k, (Value.slice ao out.length cap).ownBlock = some k → k = g := fun k hk => by
    rcases hg with ⟨hn, _⟩ | ⟨hn, _⟩
    · rw [hn] at hk; cases hk
    · rw [hn] at hk; simpa using hk.symm
  have hW1 : W1.heap[s]? = _ := (q3.block s (Nat.lt_of_lt_of_le hs hb.size) (fun e => hgs e.symm)).trans hU
  have oW1 : Only (fun k => k = g) W W1 := (Only.of_below (S := fun k => k = g) hb).trans (only_grown (S := fun k => k = g) q3 hgk) (fun i q => .inl q)
  have oV : Only (fun k => k = s ∨ k = g) W (W1.setCell ⟨s, 1, none⟩ v') := (oW1.mono (S' := fun k => k = s ∨ k = g) (fun i q => .inl (.inr q))).trans (S' := fun k => k = s) (Only.setCell (S := fun k => k = s) rfl _ _) (fun i q => .inl (.inl q))
  have hnew : ∀ k, v'.ownBlock = some k → k = g ∧ g ≠ s ∨ W.heap.size ≤ k := fun k hk => by
    rcases q4 with q | q
    · rw [q] at hk
      have := hgk k hk
      subst this
      exact .inl ⟨rfl, fun e => hgs (by rw [← e]; exact hk)⟩
    · exact .inr (Nat.le_trans hb.size (q k hk))
  obtain ⟨ao', cap', hv', -, -, -⟩ := own_shape q2
  refine ⟨ao, cap, ao', (out ++ l).length, cap', W1, by rw [Lib.cell_of_heap hc]; rfl, by rw [Lib.cell_of_heap hU]; rfl, by rw [← hv']; exact q1, ⟨by rw [Lib.cell_of_heap hW1]; rfl, Lib.frozen_of_heap hW1 1⟩, ?_⟩
  rw [← hv']
  have hset : (W1.setCell ⟨s, 1, none⟩ v').heap[s]? = some (.cells #[.pointer (some ⟨r, 0, none⟩), v', .int .i64 (m : Int), .int .i64 (er : Int)] 101 (0, 0)) := (Lib.heap_setCell_same (i := 1) hW1 _).trans rfl
  have hrv : RR (W1.setCell ⟨s, 1, none⟩ v') B r v bs t := hr.same (oV.block r hrl (fun q => q.elim (fun e => h2 e.symm) (fun e => h1 e.symm))) (fun k hk => oV.block k (hvl k hk) (fun q => by
    rcases q with rfl | rfl
    · exact h3 hk
    · exact h4 hk))
  have hrow : (W1.setCell ⟨s, 1, none⟩ v').ownsRow B 5 1 v' (out ++ l).length (bVs (out ++ l)) := own_same q2 (fun k hk => Below.heap_setCell _ _ _ _ (fun e => by
    subst e
    rcases hnew _ hk with ⟨e, hne⟩ | hk
    · exact hne e.symm
    · omega))
  cases hvk : v'.ownBlock with
  | none =>
    refine ⟨s, ⟨v', hset, hrv, hrow, .inl ⟨hvk, rfl⟩, h2, h2, h3, h3, h5⟩, ?_, oV.mono (fun i q => .inl (q.elim .inl (fun e => .inr (.inr e))))⟩
    rcases hg with ⟨_, e⟩ | ⟨hn, _⟩
    · exact .inl e.symm
    · exfalso
      rcases q2.2 with ⟨e0, hl0⟩ | ⟨k, cp, cu, e0, _⟩
      · rw [e0] at q1
        rw [List.length_append] at hl0
        have hl2 : l = [] := List.eq_nil_of_length_eq_zero (by omega)
        obtain ⟨i0, hi, hz0, hz1, hz2⟩ := info_parts info5
        rcases hx with ⟨hx, _⟩ | ⟨a, c, hx, _⟩
        · have := run_append_owned_none (P := Tryd.prog) (w := U) B 22 22 5 i0 1 Tryd.underlying22 hi _ _ _ (own_below ho hb)
          rw [hx] at q1
          rw [q1] at this
          injection this with e2 e3
          rw [← e2] at hn
          cases hn
        · subst hx hl2
          rcases (own_below ho hb).2 with ⟨e2, _⟩ | ⟨g', cap', cur, e2, hbg, hgg, hnc, hcm, hcs, htk⟩
          · rw [e2] at hn; cases hn
          · rw [e2] at q1
            have hr2 := run_append_room (P := Tryd.prog) U 22 22 5 i0 Tryd.underlying22 hi g' out.length cap' cur hgg a 0 c (bVs []) (by simp [bVs]) (fun j v hj => by simp [bVs] at hj) (bVs_one []) (by omega) (by rw [hz1]; simp [bVs]; omega)
            simp only [List.length_nil] at q1
            rw [q1] at hr2
            injection hr2 with e3 e4
            cases e3
      · rw [e0] at hvk; cases hvk
  | some k =>
    have hk := hnew k hvk
    have hks : k ≠ s := by
      rcases hk with ⟨e, hne⟩ | hk
      · rw [e]; exact hne
      · omega
    refine ⟨k, ⟨v', hset, hrv, hrow, .inr ⟨hvk, hks⟩, ?_, h2, h3, ?_, h5⟩, ?_, oV.mono (fun i q => .inl (q.elim .inl (fun e => .inr (.inr e))))⟩
    · rcases hk with ⟨e, _⟩ | hk
      · rw [e]; exact h1
      · omega
    · rcases hk with ⟨e, _⟩ | hk
      · rw [e]; exact h4
      · intro e; have := hvl k e; omega
    · rcases hk with ⟨e, _⟩ | hk
      · exact .inl e
      · exact .inr hk
end Go.Proofs.YtdgfhbeofidbnaaDoor.Inf
namespace Go.Proofs.YtdgfhbeofidbnaaDoor.Inf
open Go.RowKit Go.Shelf Go.Lib Go.Proofs.YtdgfhbeofidbnaaDoor.Mem Go.Proofs.YtdgfhbeofidbnaaDoor.Bit Go.Proofs.YtdgfhbeofidbnaaDoor.Huf Go.Proofs.YtdgfhbeofidbnaaDoor.Lz

/-- Another error. -/
theorem RT.err {W : World} {B s r g : Nat} {v : Value} {bs out : List UInt8} {t m er : Nat} (h : RT W B s r g v bs out t m er) (c : Nat) : TStep W (W.setCell ⟨s, 3, none⟩ (.int .i64 (c : Int))) B s r g v bs out t m c := by
  have hrl := h.rb.lt
  have hvl := fun k (hk : v.ownBlock = some k) => (h.rb.2.1.lt k hk).2
  obtain ⟨vo, hc, hr, ho, hg, h1, h2, h3, h4, h5⟩ := h
  have o : Only (fun k => k = s) W (W.setCell ⟨s, 3, none⟩ (.int .i64 (c : Int))) := Only.setCell (S := fun k => k = s) rfl _ _
  refine ⟨g, ⟨vo, (Lib.heap_setCell_same (i := 3) hc _).trans rfl, hr.same (o.block r hrl (fun e => h2 e.symm)) (fun k hk => o.block k (hvl k hk) (fun e => h3 (by rw [hk, e]))), own_same ho (fun k hk => Below.heap_setCell _ _ _ _ (fun e => ?_)), hg, h1, h2, h3, h4, h5⟩, .inl rfl, o.mono (fun _ q => .inl (.inl q))⟩
  rcases hg with ⟨hn, _⟩ | ⟨hn, hne⟩
  · rw [hk] at hn; cases hn
  · rw [hk] at hn
    simp only [Option.some.injEq] at hn e
    omega

set_option maxHeartbeats 1000000 in
theorem rfail_any (W : World) (B s r g : Nat) (v : Value) (bs out : List UInt8) (t m er c : Nat) (h : RT W B s r g v bs out t m er) :
    Calls Tryd.prog 59 #[.pointer (some ⟨s, 0, none⟩), .int .i64 (c : Int)] W fun e w' => e = .returned (.tuple #[]) ∧ TStep W w' B s r g v bs out t m (if er = 0 then c else er) := by
  have c3 := h.c3
  have f3 := h.fr 3
  by_cases h0 : er = 0
  · have HE : Aside (∀ w, Drew W w → TStep W (w.setCell ⟨s, 3, none⟩ (.int .i64 (c : Int))) B s r g v bs out t m c) := fun w d => by
      exact TStep.trans (.inl rfl) d.only ((h.drew d).err c)
    rw [if_pos h0]
    subst h0
    clear h
    go_enter Tryd.func59, Tryd.ntmps59
    go_wp2
    go_end0
    exact ⟨rfl, HE.out _ (Drew.refl _)⟩
  · have hz : ((er : Int) == 0) = false := by rw [beq_eq_false_iff_ne]; omega
    have HE : Aside (∀ w, Drew W w → TStep W w B s r g v bs out t m er) := fun w d => ⟨g, h.drew d, .inl rfl, d.only⟩
    rw [if_neg h0]
    clear h h0
    go_enter Tryd.func59, Tryd.ntmps59
    go_wp2
    go_end0
    exact ⟨rfl, HE.out _ (Drew.refl _)⟩

/-- What a call that reads for a number leaves: the number, or an error and some number. -/
def RNum (W : World) (B s r g : Nat) (v : Value) (bs out : List UInt8) (m : Nat) : Rd Nat → Ending → World → Prop
  | .ok x u, e, w' => e = .returned (.int .i64 (x : Int)) ∧ TStep W w' B s r g v bs out u m 0
  | .no c, e, w' => ∃ (z : Nat) (u : Nat), e = .returned (.int .i64 (z : Int)) ∧ TStep W w' B s r g v bs out u m c

set_option maxHeartbeats 1000000 in
theorem rtake_any (W : World) (B s r g : Nat) (v : Value) (bs out : List UInt8) (t m n : Nat) (h : RT W B s r g v bs out t m 0) (hn : n ≤ 32) :
    Calls Tryd.prog 55 #[.pointer (some ⟨s, 0, none⟩), .int .i64 (n : Int)] W (RNum W B s r g v bs out m (takeP bs n t)) := by
  have c0 := h.c0
  have c3 := h.c3
  unfold takeP
  by_cases hl : t + n ≤ 8 * bs.length
  · rw [if_pos hl]
    have HT := Lib.hid (refTake_ok W B r v bs t n h.rb hn hl)
    have HE : Aside (∀ w, RR w B r v bs (t + n) → Only (fun k => k = r) W w → TStep W w B s r g v bs out (t + n) m 0) := fun w q o => TStep.read h q o
    clear h hn hl
    show Calls _ _ _ _ fun e w' => _ ∧ _
    go_enter Tryd.func55, Tryd.ntmps55
    go_wp2_with (go_at_call 79; refine HT.out.mono ?_; rintro e w1 ⟨rfl, q1, q2⟩)
    go_ret
    exact ⟨rfl, HE.out _ q1 q2⟩
  · rw [if_neg hl]
    have HT := Lib.hid (refTake_end W B r v bs t n h.rb hn (by omega))
    have HF : Aside (∀ w, Drew W w → Calls Tryd.prog 59 #[.pointer (some ⟨s, 0, none⟩), .int .i64 20] w fun e w' => e = .returned (.tuple #[]) ∧ TStep W w' B s r g v bs out t m 20) := fun w d =>
      (rfail_any w B s r g v bs out t m 0 20 (h.drew d)).mono fun e w' q => ⟨q.1, TStep.trans (.inl rfl) d.only q.2⟩
    clear h hn hl
    show Calls _ _ _ _ fun e w' => ∃ (z : Nat) (u : Nat), _ ∧ _
    go_enter Tryd.func55, Tryd.ntmps55
    go_wp2_with (first
      | (go_at_call 79; refine HT.out.mono ?_; rintro e w1 ⟨rfl, q1⟩)
      | (go_at_call 59; refine (HF.out _ q1).mono ?_; rintro e w2 ⟨rfl, q2⟩))
    go_ret
    exact ⟨0, t, rfl, q2⟩
set_option maxHeartbeats 1000000 in
/-- Behind an error nothing is read. -/
theorem rtake_dead (W : World) (s er : Nat) (x : Int) (c3 : W.cell? ⟨s, 3, none⟩ = some (.int .i64 (er : Int))) (he : er ≠ 0) :
    Calls Tryd.prog 55 #[.pointer (some ⟨s, 0, none⟩), .int .i64 x] W fun e w' => e = .returned (.int .i64 0) ∧ W = w' := by
  have hz : ((er : Int) != 0) = true := by rw [bne_iff_ne]; omega
  clear he
  go_enter Tryd.func55, Tryd.ntmps55
  go_wp2
  go_ret
  exact ⟨rfl, rfl⟩
set_option maxHeartbeats 1000000 in
theorem rnext_dead (W : World) (s er : Nat) (x : Value) (c3 : W.cell? ⟨s, 3, none⟩ = some (.int .i64 (er : Int))) (he : er ≠ 0) :
    Calls Tryd.prog 83 #[.pointer (some ⟨s, 0, none⟩), x] W fun e w' => e = .returned (.int .i64 0) ∧ W = w' := by
  have hz : ((er : Int) != 0) = true := by rw [bne_iff_ne]; omega
  clear he
  go_enter Tryd.func83, Tryd.ntmps83
  go_wp2
  go_ret
  exact ⟨rfl, rfl⟩
set_option maxHeartbeats 1000000 in
theorem rnext_any (W : World) (B s r g Bd c : Nat) (v v1 v2 : Value) (l : List Int) (bs out : List UInt8) (t m : Nat) (h : RT W B s r g v bs out t m 0) (hd : ∀ w, Only (fun k => k = r) W w → RD w Bd c v1 v2 l) (hf : Fine l) :
    Calls Tryd.prog 83 #[.pointer (some ⟨s, 0, none⟩), .pointer (some ⟨c, 0, none⟩)] W (RNum W B s r g v bs out m (nextP l bs t)) := by
  have c0 := h.c0
  have c3 := h.c3
  have HT := refNext_any W B Bd c r v v1 v2 l bs t hd h.rb hf
  have HE : Aside (∀ u w, RR w B r v bs u → Only (fun k => k = r) W w → TStep W w B s r g v bs out u m 0) := fun u w q o => TStep.read h q o
  clear h hd hf
  unfold nextP
  generalize nextR l bs t = q at HT
  obtain ⟨x, er, u⟩ := q
  by_cases he : er = 0
  · subst he
    have HT := Lib.hid HT
    rw [if_pos rfl]
    show Calls _ _ _ _ fun e w' => _ ∧ _
    go_enter Tryd.func83, Tryd.ntmps83
    go_wp2_with (go_at_call 112; refine HT.out.mono ?_; rintro e w1 ⟨rfl, q1, q2⟩)
    go_ret
    exact ⟨rfl, HE.out _ _ q1 q2⟩
  · rw [if_neg he]
    have hz : ((er : Int) != 0) = true := by rw [bne_iff_ne]; omega
    have HT := Lib.hid HT
    have HF : Aside (∀ w, TStep W w B s r g v bs out u m 0 → Calls Tryd.prog 59 #[.pointer (some ⟨s, 0, none⟩), .int .i64 (er : Int)] w fun e w' => e = .returned (.tuple #[]) ∧ TStep W w' B s r g v bs out u m er) := fun w q => by
      obtain ⟨g', q1, q2, q3⟩ := q
      refine (rfail_any w B s r g' v bs out u m 0 er q1).mono fun e w' q => ⟨q.1, TStep.trans q2 q3 ?_⟩
      have := q.2
      rwa [if_pos rfl] at this
    clear he
    show Calls _ _ _ _ fun e w' => ∃ (z : Nat) (u : Nat), _ ∧ _
    go_enter Tryd.func83, Tryd.ntmps83
    go_wp2_with (first
      | (go_at_call 112; refine HT.out.mono ?_; rintro e w1 ⟨rfl, q1, q2⟩)
      | (go_at_call 59; refine (HF.out _ (HE.out _ _ q1 q2)).mono ?_; rintro e w2 ⟨rfl, q3⟩))
    go_ret
    exact ⟨x, u, rfl, q3⟩
end Go.Proofs.YtdgfhbeofidbnaaDoor.Inf
namespace Go.Proofs.YtdgfhbeofidbnaaDoor.Inf
open Go.RowKit Go.Shelf Go.Lib Go.Proofs.YtdgfhbeofidbnaaDoor.Mem Go.Proofs.YtdgfhbeofidbnaaDoor.Bit Go.Proofs.YtdgfhbeofidbnaaDoor.Huf Go.Proofs.YtdgfhbeofidbnaaDoor.Lz

/-- What a call that makes bytes leaves: the bytes, or an error. -/
def RDone (W : World) (B s r g : Nat) (v : Value) (bs : List UInt8) (m : Nat) : Rd (List UInt8) → Ending → World → Prop
  | .ok o u, e, w' => e = .returned (.tuple #[]) ∧ TStep W w' B s r g v bs o u m 0
  | .no c, e, w' => ∃ (o : List UInt8) (u : Nat), e = .returned (.tuple #[]) ∧ TStep W w' B s r g v bs o u m c
theorem RNum.ok {W w : World} {B s r g : Nat} {v : Value} {bs out : List UInt8} {m x u : Nat} {q : Rd Nat} {f : Nat} {args : Array Value} (h : Calls Tryd.prog f args w (RNum W B s r g v bs out m q)) (e : q = .ok x u) : Calls Tryd.prog f args w fun e w' => e = .returned (.int .i64 (x : Int)) ∧ TStep W w' B s r g v bs out u m 0 := by subst e; exact h
theorem RNum.no {W w : World} {B s r g : Nat} {v : Value} {bs out : List UInt8} {m c : Nat} {q : Rd Nat} {f : Nat} {args : Array Value} (h : Calls Tryd.prog f args w (RNum W B s r g v bs out m q)) (e : q = .no c) : Calls Tryd.prog f args w fun e w' => ∃ (z : Nat) (u : Nat), e = .returned (.int .i64 (z : Int)) ∧ TStep W w' B s r g v bs out u m c := by subst e; exact h

set_option maxRecDepth 100000 in
set_option maxHeartbeats 1000000 in
theorem rstored_any (W : World) (B s r g : Nat) (v : Value) (bs out : List UInt8) (t m : Nat) (h : RT W B s r g v bs out t m 0) (hm : m ≤ 1048576) (ho : out.length ≤ m) :
    Calls Tryd.prog 56 #[.pointer (some ⟨s, 0, none⟩)] W (RDone W B s r g v bs m (storP bs m out t)) := by
  have c0 := h.c0
  have HAL := Lib.hid (refAlign_any W B r v bs t h.rb)
  have HAS : Aside (∀ w, RR w B r v bs (8 * ((t + 7) / 8)) → Only (fun k => k = r) W w → TStep W w B s r g v bs out (8 * ((t + 7) / 8)) m 0) := fun w q o => TStep.read h q o
  have HF : Aside (∀ (w : World) (o : List UInt8) (u c : Nat), TStep W w B s r g v bs o u m 0 → Calls Tryd.prog 59 #[.pointer (some ⟨s, 0, none⟩), .int .i64 (c : Int)] w fun e w' => e = .returned (.tuple #[]) ∧ TStep W w' B s r g v bs o u m c) := fun w o u c q => by
    obtain ⟨g', q1, q2, q3⟩ := q
    refine (rfail_any w B s r g' v bs o u m 0 c q1).mono fun e w' q => ⟨q.1, TStep.trans q2 q3 ?_⟩
    have := q.2
    rwa [if_pos rfl] at this
  have HTK : Aside (∀ (w : World) (u : Nat), TStep W w B s r g v bs out u m 0 → Calls Tryd.prog 55 #[.pointer (some ⟨s, 0, none⟩), .int .i64 16] w (RNum W B s r g v bs out m (takeP bs 16 u))) := fun w u q => by
    obtain ⟨g', q1, q2, q3⟩ := q
    refine (rtake_any w B s r g' v bs out u m 16 q1 (by decide)).mono fun e w' q => ?_
    cases hp : takeP bs 16 u with
    | ok x y => rw [hp] at q; exact ⟨q.1, TStep.trans q2 q3 q.2⟩
    | no c => rw [hp] at q; obtain ⟨z, y, e1, e2⟩ := q; exact ⟨z, y, e1, TStep.trans q2 q3 e2⟩
  have HC3 : Aside (∀ (w : World) (o : List UInt8) (u e : Nat), TStep W w B s r g v bs o u m e → w.cell? ⟨s, 3, none⟩ = some (.int .i64 (e : Int)) ∧ w.cell? ⟨s, 2, none⟩ = some (.int .i64 (m : Int)) ∧ w.cell? ⟨s, 0, none⟩ = some (.pointer (some ⟨r, 0, none⟩)) ∧ ∃ ao cap, w.cell? ⟨s, 1, none⟩ = some (.slice ao o.length cap)) := fun w o u e q => by
    obtain ⟨g', q1, q2, q3⟩ := q
    obtain ⟨ao, cap, p, -⟩ := q1.c1
    exact ⟨q1.c3, q1.c2, q1.c0, ao, cap, p⟩
  unfold storP
  cases hp : takeP bs 16 (8 * ((t + 7) / 8)) with
  | no c =>
    have hc : c ≠ 0 := by have := (takeP_no hp).1; omega
    have hz1 : ((c : Int) == 0) = false := by rw [beq_eq_false_iff_ne]; omega
    have hz2 : ((c : Int) != 0) = true := by rw [bne_iff_ne]; omega
    show Calls _ _ _ _ fun e w' => ∃ (o : List UInt8) (u : Nat), _ ∧ _
    clear h ho
    go_enter Tryd.func56, Tryd.ntmps56
    go_upto_region 2 with (first
      | (go_at_call 80; refine HAL.out.mono ?_; rintro e w1 ⟨rfl, q1, q2⟩)
      | (go_at_call 55; refine (RNum.no (HTK.out _ _ (HAS.out _ q1 q2)) hp).mono ?_; rintro e w2 ⟨z, u, rfl, q3⟩))
    obtain ⟨c3, c2, -, ao, cap, c1⟩ := HC3.out _ _ _ _ q3
    have HD : Hid (∀ k, Calls Tryd.prog 55 #[.pointer (some ⟨s, 0, none⟩), .int .i64 16] (w2.drewN k) fun e w' => e = .returned (.int .i64 0) ∧ w2.drewN k = w') := Lib.hid fun k => rtake_dead _ s c 16 c3 hc
    have HQ : Aside (∀ k, TStep W (w2.drewN k) B s r g v bs out u m c) := fun k => by
      obtain ⟨g', p1, p2, p3⟩ := q3
      exact TStep.trans p2 p3 ⟨g', p1.drew (Drew.drewN _ _), .inl rfl, (Drew.drewN _ _).only⟩
    clear q1 q2 q3 hc hp HAL HAS HTK HF HC3
    go_upto_region 5 with (go_at_call 55; refine (HD.out 0).mono ?_; rintro e w3 ⟨rfl, rfl⟩)
    go_quiet (fail)
    go_wp2
    refine bodyPost_ret (results_none rfl _ _ _) rfl ?_
    exact ⟨out, u, rfl, HQ.out _⟩
  | ok n t1 =>
    have hn : n < 65536 := (takeP_ok hp).2.2.2
    simp only
    cases hp2 : takeP bs 16 t1 with
    | no c =>
      have hc : c ≠ 0 := by have := (takeP_no hp2).1; omega
      have hz1 : ((c : Int) == 0) = false := by rw [beq_eq_false_iff_ne]; omega
      have hz2 : ((c : Int) != 0) = true := by rw [bne_iff_ne]; omega
      show Calls _ _ _ _ fun e w' => ∃ (o : List UInt8) (u : Nat), _ ∧ _
      clear h ho
      go_enter Tryd.func56, Tryd.ntmps56
      go_upto_region 2 with (first
        | (go_at_call 80; refine HAL.out.mono ?_; rintro e w1 ⟨rfl, q1, q2⟩)
        | (go_at_call 55; refine (RNum.ok (HTK.out _ _ (HAS.out _ q1 q2)) hp).mono ?_; rintro e w2 ⟨rfl, q3⟩))
      go_upto_region 3 with (go_at_call 55; refine (RNum.no (HTK.out _ _ q3) hp2).mono ?_; rintro e w3 ⟨z, u, rfl, q4⟩)
      obtain ⟨c3, c2, -, ao, cap, c1⟩ := HC3.out _ _ _ _ q4
      have HQ : Aside (∀ j, TStep W (w3.drewN j) B s r g v bs out u m c) := fun j => by
        obtain ⟨g', p1, p2, p3⟩ := q4
        exact TStep.trans p2 p3 ⟨g', p1.drew (Drew.drewN _ _), .inl rfl, (Drew.drewN _ _).only⟩
      clear q1 q2 q3 q4 hc hp hp2 HAL HAS HTK HF HC3
      go_upto_region 5 with fail
      go_quiet (fail)
      go_wp2
      refine bodyPost_ret (results_none rfl _ _ _) rfl ?_
      exact ⟨out, u, rfl, HQ.out _⟩
    | ok k t2 =>
      have hk : k < 65536 := (takeP_ok hp2).2.2.2
      have hw1 : IntKind.i64.wrap (65535 - (n : Int)) = 65535 - (n : Int) := by rw [IntKind.wrap_i64]; omega
      have hw2 : IntKind.i64.wrap ((m : Int) - (out.length : Int)) = (m : Int) - (out.length : Int) := by rw [IntKind.wrap_i64]; omega
      simp only
      by_cases hs : n + k ≠ 65535
      · rw [if_pos hs]
        have hd : ((k : Int) != 65535 - (n : Int)) = true := by rw [bne_iff_ne]; omega
        show Calls _ _ _ _ fun e w' => ∃ (o : List UInt8) (u : Nat), _ ∧ _
        clear h ho hs hn hk
        go_enter Tryd.func56, Tryd.ntmps56
        go_upto_region 2 with (first
          | (go_at_call 80; refine HAL.out.mono ?_; rintro e w1 ⟨rfl, q1, q2⟩)
          | (go_at_call 55; refine (RNum.ok (HTK.out _ _ (HAS.out _ q1 q2)) hp).mono ?_; rintro e w2 ⟨rfl, q3⟩))
        go_upto_region 3 with (go_at_call 55; refine (RNum.ok (HTK.out _ _ q3) hp2).mono ?_; rintro e w3 ⟨rfl, q4⟩)
        obtain ⟨c3, c2, c0', ao, cap, c1⟩ := HC3.out _ _ _ _ q4
        have HQ : Aside (∀ j, TStep W (w3.drewN j) B s r g v bs out t2 m 0) := fun j => by
          obtain ⟨g', p1, p2, p3⟩ := q4
          exact TStep.trans p2 p3 ⟨g', p1.drew (Drew.drewN _ _), .inl rfl, (Drew.drewN _ _).only⟩
        clear q1 q2 q3 q4 hp hp2 HAL HAS HTK
        go_upto_region 5 with (go_at_call 59; refine (HF.out _ _ _ 31 (HQ.out 0)).mono ?_; rintro e w4 ⟨rfl, q5⟩)
        obtain ⟨d3, d2, d0, bo, bcap, d1⟩ := HC3.out _ _ _ _ q5
        have HQ2 : Aside (∀ j, TStep W (w4.drewN j) B s r g v bs out t2 m 31) := fun j => by
          obtain ⟨g', p1, p2, p3⟩ := q5
          exact TStep.trans p2 p3 ⟨g', p1.drew (Drew.drewN _ _), .inl rfl, (Drew.drewN _ _).only⟩
        clear q5 c3 c2 c1 c0' HF HC3 HQ
        go_quiet (fail)
        go_wp2
        refine bodyPost_ret (results_none rfl _ _ _) rfl ?_
        exact ⟨out, t2, rfl, HQ2.out _⟩
      · rw [if_neg hs]
        have hd : ((k : Int) != 65535 - (n : Int)) = false := by rw [bne_eq_false_iff_eq]; omega
        by_cases hz : m < out.length + n
        · rw [if_pos hz]
          have hgt : (n : Int) > (m : Int) - (out.length : Int) := by omega
          show Calls _ _ _ _ fun e w' => ∃ (o : List UInt8) (u : Nat), _ ∧ _
          clear h ho hs hz hn hk
          go_enter Tryd.func56, Tryd.ntmps56
          go_upto_region 2 with (first
            | (go_at_call 80; refine HAL.out.mono ?_; rintro e w1 ⟨rfl, q1, q2⟩)
            | (go_at_call 55; refine (RNum.ok (HTK.out _ _ (HAS.out _ q1 q2)) hp).mono ?_; rintro e w2 ⟨rfl, q3⟩))
          go_upto_region 3 with (go_at_call 55; refine (RNum.ok (HTK.out _ _ q3) hp2).mono ?_; rintro e w3 ⟨rfl, q4⟩)
          obtain ⟨c3, c2, c0', ao, cap, c1⟩ := HC3.out _ _ _ _ q4
          have HQ : Aside (∀ j, TStep W (w3.drewN j) B s r g v bs out t2 m 0) := fun j => by
            obtain ⟨g', p1, p2, p3⟩ := q4
            exact TStep.trans p2 p3 ⟨g', p1.drew (Drew.drewN _ _), .inl rfl, (Drew.drewN _ _).only⟩
          clear q1 q2 q3 q4 hp hp2 HAL HAS HTK
          go_upto_region 5 with fail
          go_quiet (fail)
          go_wp2_with (go_at_call 59; refine (HF.out _ _ _ 6 (HQ.out _)).mono ?_; rintro e w4 ⟨rfl, q5⟩; have d3 := (HC3.out _ _ _ _ q5).1)
          refine bodyPost_ret (results_none rfl _ _ _) rfl ?_
          exact ⟨out, t2, rfl, q5⟩
        · rw [if_neg hz]
          have hgt : ¬ (n : Int) > (m : Int) - (out.length : Int) := by omega
          by_cases he : bs.length < (t2 + 7) / 8 + n
          · rw [if_pos he]
            have HR : Aside (∀ w, TStep W w B s r g v bs out t2 m 0 → Calls Tryd.prog 81 #[.pointer (some ⟨r, 0, none⟩), .int .i64 (n : Int)] w fun e w' => e = .returned (.tuple #[.slice none 0 0, .int .i64 20]) ∧ w = w') := fun w q => by
              obtain ⟨g', p1, -⟩ := q
              exact refRaw_end w B r v bs t2 n p1.rb he
            show Calls _ _ _ _ fun e w' => ∃ (o : List UInt8) (u : Nat), _ ∧ _
            clear h ho hs hz hn hk he
            go_enter Tryd.func56, Tryd.ntmps56
            go_upto_region 2 with (first
              | (go_at_call 80; refine HAL.out.mono ?_; rintro e w1 ⟨rfl, q1, q2⟩)
              | (go_at_call 55; refine (RNum.ok (HTK.out _ _ (HAS.out _ q1 q2)) hp).mono ?_; rintro e w2 ⟨rfl, q3⟩))
            go_upto_region 3 with (go_at_call 55; refine (RNum.ok (HTK.out _ _ q3) hp2).mono ?_; rintro e w3 ⟨rfl, q4⟩)
            obtain ⟨c3, c2, c0', ao, cap, c1⟩ := HC3.out _ _ _ _ q4
            have HQ : Aside (∀ j, TStep W (w3.drewN j) B s r g v bs out t2 m 0) := fun j => by
              obtain ⟨g', p1, p2, p3⟩ := q4
              exact TStep.trans p2 p3 ⟨g', p1.drew (Drew.drewN _ _), .inl rfl, (Drew.drewN _ _).only⟩
            clear q1 q2 q3 q4 hp hp2 HAL HAS HTK
            go_upto_region 5 with fail
            go_quiet (fail)
            go_wp2_with (first
              | (go_at_call 81; refine (HR.out _ (HQ.out _)).mono ?_; rintro e w4 ⟨rfl, rfl⟩)
              | (go_at_call 59; refine (HF.out _ _ _ 20 (HQ.out _)).mono ?_; rintro e w4 ⟨rfl, q5⟩))
            refine bodyPost_ret (results_none rfl _ _ _) rfl ?_
            exact ⟨out, t2, rfl, q5⟩
          · rw [if_neg he]
            have HR : Aside (∀ w, TStep W w B s r g v bs out t2 m 0 → Calls Tryd.prog 81 #[.pointer (some ⟨r, 0, none⟩), .int .i64 (n : Int)] w fun e w' => ∃ ao' n' cap' ao2 cap2 ao3 n3 cap3 W1, e = .returned (.tuple #[.slice ao2 n' cap2, .int .i64 0]) ∧ w'.cell? ⟨s, 1, none⟩ = some (.slice ao' out.length cap') ∧
                (Builtin.append_ #[22, 22] 22 #[.slice ao' out.length cap', .slice ao2 n' cap2]).run Tryd.prog w' = .ok (.slice ao3 n3 cap3) W1 ∧ W1.frozen? ⟨s, 1, none⟩ = false ∧ (∃ y, W1.cell? ⟨s, 1, none⟩ = some y) ∧ TStep W (W1.setCell ⟨s, 1, none⟩ (.slice ao3 n3 cap3)) B s r g v bs (out ++ (bs.drop ((t2 + 7) / 8)).take n) (8 * ((t2 + 7) / 8 + n)) m 0) := fun w q => by
              obtain ⟨g', p1, p2, p3⟩ := q
              refine (refRaw_ok w B r v bs t2 n p1.rb (by omega)).mono fun e w' q => ?_
              obtain ⟨v', rfl, o1, o2, o3⟩ := q
              have hlen : ((bs.drop ((t2 + 7) / 8)).take n).length = n := by rw [List.length_take, List.length_drop]; omega
              obtain ⟨ao2, cap2, rfl, -, -, -⟩ := own_shape o1
              have st1 := p1.read o2 o3
              obtain ⟨ao', cap', ao3, n3, cap3, W1, y1, -, y2, ⟨y3, y4⟩, y5⟩ := rt_push st1 (Below.refl _ _) (Src.of_own o1 hlen.symm) (by rw [hlen]; omega)
              exact ⟨ao', n, cap', ao2, cap2, ao3, n3, cap3, W1, rfl, y1, y2, y4, ⟨_, y3⟩, TStep.trans p2 p3 (TStep.trans (.inl rfl) (o3.mono (fun _ q => .inl (.inr (.inl q)))) y5)⟩
            show Calls _ _ _ _ fun e w' => _ ∧ _
            clear h ho hs hz hn hk he
            go_enter Tryd.func56, Tryd.ntmps56
            go_upto_region 2 with (first
              | (go_at_call 80; refine HAL.out.mono ?_; rintro e w1 ⟨rfl, q1, q2⟩)
              | (go_at_call 55; refine (RNum.ok (HTK.out _ _ (HAS.out _ q1 q2)) hp).mono ?_; rintro e w2 ⟨rfl, q3⟩))
            go_upto_region 3 with (go_at_call 55; refine (RNum.ok (HTK.out _ _ q3) hp2).mono ?_; rintro e w3 ⟨rfl, q4⟩)
            obtain ⟨c3, c2, c0', ao, cap, c1⟩ := HC3.out _ _ _ _ q4
            have HQ : Aside (∀ j, TStep W (w3.drewN j) B s r g v bs out t2 m 0) := fun j => by
              obtain ⟨g', p1, p2, p3⟩ := q4
              exact TStep.trans p2 p3 ⟨g', p1.drew (Drew.drewN _ _), .inl rfl, (Drew.drewN _ _).only⟩
            clear q1 q2 q3 q4 hp hp2 HAL HAS HTK
            go_upto_region 5 with fail
            go_quiet (fail)
            go_wp2_with (first
              | (go_at_call 81; refine (HR.out _ (HQ.out _)).mono ?_; rintro e w4 ⟨ao', n', cap', ao2, cap2, ao3, n3, cap3, W1, rfl, d1, r1, f1, ⟨y, g1⟩, q5⟩)
              | (at_builtin; refine wpList_append_at _ rfl _ _ _ _ rfl _ _ rfl rfl _ _ r1 ?_))
            go_end0
            exact ⟨rfl, q5⟩
end Go.Proofs.YtdgfhbeofidbnaaDoor.Inf
