/- Two pairs of queues, by turns; a pair may not be there (its limit may not be). -/
import Derived.Test.YtaibehfpbcgijaaDoorAscZ9
namespace Go.Proofs.YtaibehfpbcgijaaDoor.Asc
open Go.RowKit Go.Shelf

/-- A pair that was made, or none: S: where it lies. -/
def PairAt (W : World) (B : Nat) (q r : Value) (S : Nat → Prop) : Prop :=
  (q = .pointer none ∧ r = .pointer none ∧ ∀ i, ¬ S i) ∨
  ∃ b g c k s lim l, q = .pointer (some ⟨b, 0, none⟩) ∧ r = .pointer (some ⟨c, 0, none⟩) ∧ Pr W b g c k s lim l ∧ (∀ i, S i → B ≤ i ∧ i < W.heap.size) ∧ S b ∧ S g ∧ S c ∧ S k
theorem Pr.same {W W' : World} {b g c k s : Nat} {lim : Int} {l : List UInt8} (h : Pr W b g c k s lim l) (h1 : W'.heap[b]? = W.heap[b]?) (h2 : W'.heap[g]? = W.heap[g]?) (h3 : W'.heap[c]? = W.heap[c]?) (h4 : W'.heap[k]? = W.heap[k]?) : Pr W' b g c k s lim l :=
  { h with q := h.q.same h1 h2, r := h.r.same h3 h4 }
theorem PairAt.same {W W' : World} {B : Nat} {q r : Value} {S : Nat → Prop} (h : PairAt W B q r S) (hs : W.heap.size ≤ W'.heap.size) (hk : ∀ i, i < W.heap.size → S i → W'.heap[i]? = W.heap[i]?) : PairAt W' B q r S := by
  rcases h with h | ⟨b, g, c, k, s, lim, l, e1, e2, hp, hS, s1, s2, s3, s4⟩
  · exact .inl h
  · exact .inr ⟨b, g, c, k, s, lim, l, e1, e2, hp.same (hk b (hS b s1).2 s1) (hk g (hS g s2).2 s2) (hk c (hS c s3).2 s3) (hk k (hS k s4).2 s4), fun i hi => ⟨(hS i hi).1, Nat.lt_of_lt_of_le (hS i hi).2 hs⟩, s1, s2, s3, s4⟩
theorem PairAt.lt {W : World} {B : Nat} {q r : Value} {S : Nat → Prop} (h : PairAt W B q r S) : ∀ i, S i → B ≤ i ∧ i < W.heap.size := by
  rcases h with ⟨_, _, h⟩ | ⟨b, g, c, k, s, lim, l, e1, e2, hp, hS, _⟩
  · exact fun i hi => absurd hi (h i)
  · exact hS

/-- Both pairs, in memory of their own. -/
def Two (W wr : World) (B : Nat) (q r p t : Value) : Prop :=
  ∃ S T, PairAt wr B q r S ∧ PairAt wr B p t T ∧ (∀ i, S i → ¬ T i) ∧ Below B W wr ∧ B ≤ wr.heap.size
theorem Two.swap {W wr : World} {B : Nat} {q r p t : Value} (h : Two W wr B q r p t) : Two W wr B p t q r := by
  obtain ⟨S, T, h1, h2, h3, h4, h5⟩ := h
  exact ⟨T, S, h2, h1, fun i hi hj => h3 i hj hi, h4, h5⟩
theorem Two.bel {W wr : World} {B : Nat} {q r p t : Value} (h : Two W wr B q r p t) : Below B W wr ∧ B ≤ wr.heap.size := by
  obtain ⟨S, T, h1, h2, h3, h4, h5⟩ := h
  exact ⟨h4, h5⟩
theorem Two.drew {W wr w' : World} {B : Nat} {q r p t : Value} (h : Two W wr B q r p t) (d : Drew wr w') : Two W w' B q r p t := by
  obtain ⟨S, T, h1, h2, h3, h4, h5⟩ := h
  exact ⟨S, T, h1.same (by rw [d.heap]; exact Nat.le_refl _) (fun i _ _ => by rw [d.heap]), h2.same (by rw [d.heap]; exact Nat.le_refl _) (fun i _ _ => by rw [d.heap]), h3, h4.trans (d.below B), by rw [d.heap]; exact h5⟩

/-- What Len and the document's bytes say behind a call. -/
structure Says (w : World) (q r : Value) (n : Nat) (x : Value) : Prop where
  len : ∀ w', Drew w w' → Calls Tryd.prog 36 #[q] w' fun e w'' => e = .returned (.int .i64 (n : Int)) ∧ Drew w' w''
  row : ∃ a c, x = .slice a n c
  cell : ∀ c, r = .pointer (some ⟨c, 0, none⟩) → ∀ w', Drew w w' → w'.cell? ⟨c, 0, none⟩ = some x
  le : n ≤ 1048576

/-- A call on the first pair. -/
theorem Two.step {W wr : World} {B b : Nat} {r p t : Value} (h : Two W wr B (.pointer (some ⟨b, 0, none⟩)) r p t) (hB : W.heap.size = B) (o : OpV) (hx : ∀ w', Below B W w' → Src w' (.slice o.ba o.b.length o.bc) o.b) (hl : o.b.length ≤ 1048576) :
    ∃ c, r = .pointer (some ⟨c, 0, none⟩) ∧ (∃ x, ∀ u, Drew wr u → u.cell? ⟨c, 0, none⟩ = some x) ∧ ∀ u, Drew wr u → Calls Tryd.prog 35 #[.pointer (some ⟨b, 0, none⟩), .pointer (some ⟨c, 0, none⟩), .agg #[.int .i64 o.kind, .int .i64 o.n, .slice o.ba o.b.length o.bc]] u fun e w' => e = .returned (.bool true) ∧ Two W w' B (.pointer (some ⟨b, 0, none⟩)) r p t ∧ ∃ n x, Says w' (.pointer (some ⟨b, 0, none⟩)) r n x := by
  obtain ⟨S, T, h1, h2, h3, h4, h5⟩ := h
  rcases h1 with ⟨e, _⟩ | ⟨b', g, c, k, s, lim, l, e1, rfl, hp, hS, s1, s2, s3, s4⟩
  · cases e
  · obtain rfl : b = b' := by simpa using e1
    refine ⟨c, rfl, ?_, fun u hd => ?_⟩
    · obtain ⟨v, hc, -⟩ := hp.r
      exact ⟨v, fun u hd => by rw [Lib.cell_of_heap (by rw [hd.heap]; exact hc)]; rfl⟩
    have hp' : Pr u b g c k s lim l := hp.same (by rw [hd.heap]) (by rw [hd.heap]) (by rw [hd.heap]) (by rw [hd.heap])
    have hbu : Below B W u := h4.trans (hd.below B)
    have hoff : Off o.ba o.b b g c := fun hne a ha => by
      rcases hx W (Below.refl _ _) with ⟨hv, hl0⟩ | ⟨a', c', hv, hc⟩
      · exact absurd hl0 hne
      · obtain ⟨hq, -⟩ : o.ba = some a' ∧ o.bc = c' := by simpa using hv
        obtain rfl : a' = a := by rw [ha] at hq; simpa using hq.symm
        have hlen : 0 < (bVs o.b).length := by rw [bVs_len]; exact List.length_pos_iff.2 hne
        have := block_lt_of_cell (hc 0 _ (List.getElem?_eq_getElem hlen))
        rw [Lib.block_add, hB] at this
        have q1 := (hS b s1).1
        have q2 := (hS g s2).1
        have q3 := (hS c s3).1
        exact ⟨by omega, by omega, by omega⟩
    refine (step_any u b g c k s lim o.kind o.n o.ba o.bc l o.b hp' (hx u hbu) hoff hl).mono ?_
    rintro e w' ⟨rfl, g', k', s', l', hq, hg, hk, hu⟩
    have hsz : u.heap.size = wr.heap.size := by rw [hd.heap]
    have hblk : ∀ i, i < wr.heap.size → ¬ (i = b ∨ i = g ∨ i = c ∨ i = k) → w'.heap[i]? = wr.heap[i]? := fun i hi hn => (hu.block i (by omega) (fun e => hn (.inl e)) (fun e => hn (.inr (.inl e))) (fun e => hn (.inr (.inr (.inl e)))) (fun e => hn (.inr (.inr (.inr e))))).trans (by rw [hd.heap])
    have hin : ∀ i, (i = b ∨ i = g ∨ i = c ∨ i = k) → S i := by rintro i (rfl | rfl | rfl | rfl) <;> assumption
    have hws : wr.heap.size ≤ w'.heap.size := by rw [← hsz]; exact hu.size
    have hT := h2.lt
    refine ⟨rfl, ⟨fun i => i = b ∨ i = g' ∨ i = c ∨ i = k', T, .inr ⟨b, g', c, k', s', lim, l', rfl, rfl, hq, ?_, .inl rfl, .inr (.inl rfl), .inr (.inr (.inl rfl)), .inr (.inr (.inr rfl))⟩, h2.same hws (fun i hi ht => hblk i hi (fun e => h3 i (hin i e) ht)), ?_, ?_, Nat.le_trans h5 hws⟩, ?_⟩
    · have q1 := hS b s1
      have q2 := hS g s2
      have q3 := hS c s3
      have q4 := hS k s4
      have lg := hq.q.ltg
      have lk := hq.r.ltk
      rintro i (rfl | rfl | rfl | rfl)
      · omega
      · refine ⟨?_, lg⟩; rcases hg with rfl | hg <;> omega
      · omega
      · refine ⟨?_, lk⟩; rcases hk with rfl | rfl | hk <;> omega
    · rintro i hi ht
      have ti := (hT i ht).2
      rcases hi with rfl | rfl | rfl | rfl
      · exact h3 _ s1 ht
      · rcases hg with rfl | hg
        · exact h3 _ s2 ht
        · omega
      · exact h3 _ s3 ht
      · rcases hk with rfl | rfl | hk
        · exact h3 _ s3 ht
        · exact h3 _ s4 ht
        · omega
    · exact hbu.trans ⟨hu.os, hu.tape, hu.output, hu.size, fun i hi => by
        have q1 := (hS b s1).1
        have q2 := (hS g s2).1
        have q3 := (hS c s3).1
        have q4 := (hS k s4).1
        exact hu.block i (by omega) (by omega) (by omega) (by omega) (by omega)⟩
    · have hll := hq.len
      obtain ⟨v, hc, ho, -⟩ := hq.r
      obtain ⟨a, cp, rfl⟩ := own_shape ho
      refine ⟨l'.length, _, ⟨fun w1 d1 => ?_, ⟨a, cp, rfl⟩, fun c' e w1 d1 => ?_, hll⟩⟩
      · have := len_yes w1 b g' lim (s' : Int) (bVs l') (hq.q.same (by rw [d1.heap]) (by rw [d1.heap])) (by rw [bVs_len]; exact hll)
        rw [bVs_len] at this
        exact this
      · obtain rfl : c = c' := by simpa using e
        rw [Lib.cell_of_heap (by rw [d1.heap]; exact hc)]
        rfl

end Go.Proofs.YtaibehfpbcgijaaDoor.Asc
