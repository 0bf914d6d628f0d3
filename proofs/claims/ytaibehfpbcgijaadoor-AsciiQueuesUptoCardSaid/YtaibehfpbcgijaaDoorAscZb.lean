/- Two pairs of queues, as they are made; a call of a list, in any later world. -/
import Derived.Test.YtaibehfpbcgijaaDoorAscZa
namespace Go.Proofs.YtaibehfpbcgijaaDoor.Asc
open Go.RowKit Go.Shelf

/-- A queue that was made, or refused. -/
def MadeQ (W w' : World) (lim : Int) (q : Value) (ee : Int) : Prop :=
  ((1 ≤ lim ∧ lim ≤ 1048576) ∧ q = .pointer (some ⟨W.heap.size, 0, none⟩) ∧ ee = 0 ∧ Bf w' W.heap.size W.heap.size lim 0 (bVs [])) ∨ (¬ (1 ≤ lim ∧ lim ≤ 1048576) ∧ q = .pointer none ∧ ee = 1)
def MadeR (W w' : World) (lim : Int) (r : Value) : Prop :=
  ((1 ≤ lim ∧ lim ≤ 1048576) ∧ r = .pointer (some ⟨W.heap.size, 0, none⟩) ∧ Rq w' W.heap.size W.heap.size lim []) ∨ (¬ (1 ≤ lim ∧ lim ≤ 1048576) ∧ r = .pointer none)
theorem newQueue_opt (W : World) (lim : Int) : Calls Tryd.prog 33 #[.int .i64 lim] W fun e w' => ∃ q ee, e = .returned (.tuple #[q, .int .i64 ee]) ∧ MadeQ W w' lim q ee ∧ Below W.heap.size W w' := by
  by_cases h : 1 ≤ lim ∧ lim ≤ 1048576
  · refine (newQueue_any W lim h.1 h.2).mono ?_
    rintro e w' ⟨rfl, q1, q2⟩
    exact ⟨_, _, rfl, .inl ⟨h, rfl, rfl, q1⟩, q2⟩
  · refine (newQueue_no W lim (by omega)).mono ?_
    rintro e w' ⟨rfl, rfl⟩
    exact ⟨_, _, rfl, .inr ⟨h, rfl, rfl⟩, Below.refl _ _⟩
theorem refNew_opt (W : World) (lim : Int) : Calls Tryd.prog 34 #[.int .i64 lim] W fun e w' => ∃ r, e = .returned r ∧ MadeR W w' lim r ∧ Below W.heap.size W w' := by
  by_cases h : 1 ≤ lim ∧ lim ≤ 1048576
  · refine (refNew_any W lim h.1 h.2).mono ?_
    rintro e w' ⟨rfl, q1, q2⟩
    exact ⟨_, rfl, .inl ⟨h, rfl, q1⟩, q2⟩
  · refine (refNew_no W lim (by omega)).mono ?_
    rintro e w' ⟨rfl, rfl⟩
    exact ⟨_, rfl, .inr ⟨h, rfl⟩, Below.refl _ _⟩

theorem pair_new {w0 w1 w2 w3 w4 : World} {B : Nat} {lim ee : Int} {q r : Value} (h1 : MadeQ w0 w1 lim q ee) (hb2 : Below w1.heap.size w1 w2) (h2 : MadeR w2 w3 lim r) (hb3 : Below w2.heap.size w2 w3) (hb4 : Below w3.heap.size w3 w4) (hB : B ≤ w0.heap.size) :
    PairAt w4 B q r (fun i => (1 ≤ lim ∧ lim ≤ 1048576) ∧ (i = w0.heap.size ∧ w0.heap.size < w1.heap.size ∨ i = w2.heap.size ∧ w2.heap.size < w3.heap.size)) := by
  rcases h1 with ⟨hl, rfl, rfl, hq⟩ | ⟨hl, rfl, rfl⟩
  · rcases h2 with ⟨-, rfl, hr⟩ | ⟨hn, _⟩
    · have q1 := hq.lt
      have q2 := hr.lt
      have s2 := hb2.size
      have s3 := hb3.size
      have s4 := hb4.size
      have hp := pr_new hl.1 hl.2 hq (hb2.trans (hb3.mono s2)) hr s2
      refine .inr ⟨_, _, _, _, _, _, _, rfl, rfl, hp.below hb4, ?_, ⟨hl, .inl ⟨rfl, q1⟩⟩, ⟨hl, .inl ⟨rfl, q1⟩⟩, ⟨hl, .inr ⟨rfl, q2⟩⟩, ⟨hl, .inr ⟨rfl, q2⟩⟩⟩
      rintro i ⟨-, ⟨rfl, _⟩ | ⟨rfl, _⟩⟩
      · exact ⟨hB, by omega⟩
      · exact ⟨by omega, by omega⟩
    · exact absurd hl hn
  · rcases h2 with ⟨hn, _⟩ | ⟨-, rfl⟩
    · exact absurd hn hl
    · exact .inl ⟨rfl, rfl, fun i h => hl h.1⟩

/-- The four of them, made one behind the other. -/
theorem two_new {W w1 w2 w3 w4 w5 : World} {a b e1 e2 : Int} {q p r t : Value} (h1 : MadeQ W w1 a q e1) (b1 : Below W.heap.size W w1) (h2 : MadeQ w1 w2 b p e2) (b2 : Below w1.heap.size w1 w2) (h3 : MadeR w2 w3 a r) (b3 : Below w2.heap.size w2 w3) (h4 : MadeR w3 w4 b t) (b4 : Below w3.heap.size w3 w4) (b5 : Below w4.heap.size w4 w5) :
    Two W w5 W.heap.size q r p t := by
  have s1 := b1.size
  have s2 := b2.size
  have s3 := b3.size
  have s4 := b4.size
  have s5 := b5.size
  have p1 := pair_new (B := W.heap.size) h1 b2 h3 b3 (b4.trans (b5.mono s4)) (Nat.le_refl _)
  have p2 := pair_new (B := W.heap.size) h2 (b3.mono (Nat.le_refl _)) h4 b4 b5 s1
  refine ⟨_, _, p1, p2, ?_, b1.trans ((b2.trans ((b3.trans ((b4.trans (b5.mono s4)).mono s3)).mono s2)).mono s1), by omega⟩
  rintro i ⟨ha, hi⟩ ⟨hb, hj⟩
  omega

theorem Two.q_shape {W wr : World} {B : Nat} {q r p t : Value} (h : Two W wr B q r p t) : q = .pointer none ∨ ∃ b, q = .pointer (some ⟨b, 0, none⟩) := by
  obtain ⟨S, T, ⟨rfl, _⟩ | ⟨b, g, c, k, s, lim, l, rfl, _⟩, _⟩ := h
  · exact .inl rfl
  · exact .inr ⟨b, rfl⟩

/-- The r-th call of a list, in any later world. -/
theorem op_later {W : World} {B : Nat} {ao : Option Addr} {r : Nat} {o : OpV} (hB : W.heap.size = B) (h : OpAt W ao r o) : ∃ a, ao = some a ∧ o.b.length ≤ 1048576 ∧ ∀ w', Below B W w' → w'.cell? (a.add (r * 3)) = some (.int .i64 o.kind) ∧ w'.cell? ⟨(a.add (r * 3)).block, (a.add (r * 3)).off + 1, none⟩ = some (.int .i64 o.n) ∧
    w'.cell? ⟨(a.add (r * 3)).block, (a.add (r * 3)).off + 2, none⟩ = some (.slice o.ba o.b.length o.bc) ∧ Src w' (.slice o.ba o.b.length o.bc) o.b := by
  obtain ⟨a, rfl, p0, p1, p2, p4, p5⟩ := h
  have mv : ∀ w', Below B W w' → ∀ (j : Nat) (y : Value), W.cell? (a.add j) = some y → w'.cell? (a.add j) = some y := fun w' hb j y hy => (hb.cell (by have := block_lt_of_cell hy; rw [hB] at this; exact this)).trans hy
  have e1 : (⟨(a.add (r * 3)).block, (a.add (r * 3)).off + 1, none⟩ : Addr) = a.add (r * 3 + 1) := (show _ = (a.add (r * 3)).add 1 from rfl).trans (Deep.add_add a _ _)
  have e2 : (⟨(a.add (r * 3)).block, (a.add (r * 3)).off + 2, none⟩ : Addr) = a.add (r * 3 + 2) := (show _ = (a.add (r * 3)).add 2 from rfl).trans (Deep.add_add a _ _)
  refine ⟨a, rfl, p5, fun w' hb => ⟨mv w' hb _ _ p0, ?_, ?_, p4.below (hb.mono (Nat.le_of_eq hB))⟩⟩
  · rw [e1]; exact mv w' hb _ _ p1
  · rw [e2]; exact mv w' hb _ _ p2

end Go.Proofs.YtaibehfpbcgijaaDoor.Asc
