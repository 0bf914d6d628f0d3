/- Symbols by their numbers, rising, those of one number as they stand (no program). -/
import Derived.ProofKit
namespace Go.Proofs.YtkbpmnghjjpeiaaDoor.Huf

/-- By the number, then by the place. -/
def Lt2 (K : Nat → Int) (s t : Nat) : Prop := K s < K t ∨ K s = K t ∧ s < t
theorem Lt2.trans {K : Nat → Int} {a b c : Nat} (h : Lt2 K a b) (k : Lt2 K b c) : Lt2 K a c := by unfold Lt2 at *; omega
theorem Lt2.irrefl {K : Nat → Int} (a : Nat) : ¬ Lt2 K a a := by unfold Lt2; omega
theorem Lt2.total {K : Nat → Int} {a b : Nat} (h : a ≠ b) : Lt2 K a b ∨ Lt2 K b a := by unfold Lt2; omega

/-- Two rows sorted so, of the same members, are one. -/
theorem lt2_unique {K : Nat → Int} : ∀ {r q : List Nat}, r.Pairwise (Lt2 K) → q.Pairwise (Lt2 K) → (∀ s, s ∈ r ↔ s ∈ q) → r = q
  | [], [], _, _, _ => rfl
  | [], y :: q, _, _, h => by have := (h y).2 (List.mem_cons_self ..); cases this
  | x :: r, [], _, _, h => by have := (h x).1 (List.mem_cons_self ..); cases this
  | x :: r, y :: q, hr, hq, h => by
    rw [List.pairwise_cons] at hr hq
    have e : x = y := by
      rcases Classical.em (x = y) with e | e
      · exact e
      · have hx : x ∈ q := by
          rcases List.mem_cons.1 ((h x).1 (List.mem_cons_self ..)) with g | g
          · exact absurd g e
          · exact g
        have hy : y ∈ r := by
          rcases List.mem_cons.1 ((h y).2 (List.mem_cons_self ..)) with g | g
          · exact absurd g.symm e
          · exact g
        exact absurd ((hr.1 y hy).trans (hq.1 x hx)) (Lt2.irrefl x)
    subst e
    have : r = q := lt2_unique hr.2 hq.2 (fun s => by
      have hs := h s
      simp only [List.mem_cons] at hs
      constructor
      · intro g
        rcases hs.1 (.inr g) with e | g2
        · subst e; exact absurd (hr.1 s g) (Lt2.irrefl s)
        · exact g2
      · intro g
        rcases hs.2 (.inr g) with e | g2
        · subst e; exact absurd (hq.1 s g) (Lt2.irrefl s)
        · exact g2)
    rw [this]

/-- s comes ahead of the first one whose number is not smaller. -/
def insR (K : Nat → Int) (s : Nat) : List Nat → List Nat
  | [] => [s]
  | t :: r => if K s ≤ K t then s :: t :: r else t :: insR K s r
theorem insR_mem (K : Nat → Int) (s : Nat) : ∀ (r : List Nat) (t : Nat), t ∈ insR K s r ↔ t = s ∨ t ∈ r
  | [], t => by simp [insR]
  | x :: r, t => by
    unfold insR
    split
    · simp
    · rw [List.mem_cons, insR_mem K s r t, List.mem_cons]
      constructor
      · rintro (h | h | h)
        · exact .inr (.inl h)
        · exact .inl h
        · exact .inr (.inr h)
      · rintro (h | h | h)
        · exact .inr (.inl h)
        · exact .inl h
        · exact .inr (.inr h)
theorem insR_pair (K : Nat → Int) (s : Nat) : ∀ r : List Nat, r.Pairwise (Lt2 K) → (∀ t ∈ r, s < t) → (insR K s r).Pairwise (Lt2 K)
  | [], _, _ => by simp [insR]
  | x :: r, h, hs => by
    unfold insR
    rw [List.pairwise_cons] at h
    split
    · rename_i hle
      have hx := hs x (List.mem_cons_self ..)
      have h1 : Lt2 K s x := by unfold Lt2; omega
      rw [List.pairwise_cons, List.pairwise_cons]
      exact ⟨fun t ht => (List.mem_cons.1 ht).elim (fun e => e ▸ h1) (fun g => h1.trans (h.1 t g)), h⟩
    · rename_i hle
      rw [List.pairwise_cons]
      refine ⟨fun t ht => ?_, insR_pair K s r h.2 (fun t ht => hs t (List.mem_cons_of_mem _ ht))⟩
      rcases (insR_mem K s r t).1 ht with rfl | g
      · unfold Lt2; omega
      · exact h.1 t g
def rankX (K : Nat → Int) : List Nat → List Nat
  | [] => []
  | s :: xs => if K s = 0 then rankX K xs else insR K s (rankX K xs)
theorem rankX_spec (K : Nat → Int) : ∀ xs : List Nat, xs.Pairwise (· < ·) → (rankX K xs).Pairwise (Lt2 K) ∧ ∀ t, t ∈ rankX K xs ↔ t ∈ xs ∧ K t ≠ 0
  | [], _ => by simp [rankX]
  | s :: xs, h => by
    rw [List.pairwise_cons] at h
    obtain ⟨h1, h2⟩ := rankX_spec K xs h.2
    unfold rankX
    split
    · rename_i h0
      refine ⟨h1, fun t => ?_⟩
      rw [h2, List.mem_cons]
      constructor
      · rintro ⟨q1, q2⟩; exact ⟨.inr q1, q2⟩
      · rintro ⟨rfl | q1, q2⟩
        · exact absurd h0 q2
        · exact ⟨q1, q2⟩
    · rename_i h0
      refine ⟨insR_pair K s _ h1 (fun t ht => h.1 t ((h2 t).1 ht).1), fun t => ?_⟩
      rw [insR_mem, h2, List.mem_cons]
      constructor
      · rintro (rfl | ⟨q1, q2⟩)
        · exact ⟨.inl rfl, h0⟩
        · exact ⟨.inr q1, q2⟩
      · rintro ⟨rfl | q1, q2⟩
        · exact .inl rfl
        · exact .inr ⟨q1, q2⟩
def numAt (l : List Int) (s : Nat) : Int := l.getD s 0
/-- The symbols whose number is not 0, by their numbers, rising, those of one number as they stand. -/
def rankL (l : List Int) : List Nat := rankX (numAt l) (List.range l.length)
theorem numAt_eq (l : List Int) (s : Nat) (h : s < l.length) : numAt l s = l[s] := by unfold numAt; rw [List.getD_eq_getElem?_getD, List.getElem?_eq_getElem h]; rfl
theorem rankL_pair (l : List Int) : (rankL l).Pairwise (Lt2 (numAt l)) := (rankX_spec _ _ List.pairwise_lt_range).1
theorem rankL_mem (l : List Int) (s : Nat) : s ∈ rankL l ↔ s < l.length ∧ numAt l s ≠ 0 := by
  have := (rankX_spec (numAt l) (List.range l.length) List.pairwise_lt_range).2 s
  rw [List.mem_range] at this
  exact this
theorem rankL_eq {l : List Int} {r : List Nat} (h : r.Pairwise (Lt2 (numAt l))) (hm : ∀ s, s ∈ r ↔ s < l.length ∧ numAt l s ≠ 0) : r = rankL l :=
  lt2_unique h (rankL_pair l) (fun s => by rw [hm, rankL_mem])
theorem rankL_nodup (l : List Int) : (rankL l).Nodup := (rankL_pair l).imp (fun h e => by subst e; exact Lt2.irrefl _ h)
theorem insR_len (K : Nat → Int) (s : Nat) : ∀ r : List Nat, (insR K s r).length = r.length + 1
  | [] => rfl
  | t :: r => by
    unfold insR
    split
    · rfl
    · rw [List.length_cons, insR_len K s r, List.length_cons]
theorem rankX_len (K : Nat → Int) : ∀ xs : List Nat, (rankX K xs).length ≤ xs.length
  | [] => Nat.le_refl _
  | s :: xs => by
    have := rankX_len K xs
    unfold rankX
    split
    · rw [List.length_cons]; omega
    · rw [insR_len, List.length_cons]; omega
theorem rankL_len (l : List Int) : (rankL l).length ≤ l.length := by
  have := rankX_len (numAt l) (List.range l.length)
  rwa [List.length_range] at this
end Go.Proofs.YtkbpmnghjjpeiaaDoor.Huf
