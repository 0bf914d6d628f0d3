/- Packages: what the first items of a row make: lengths of just that width, of just that cost. No program is spoken of here. -/
import Derived.Test.YtenkbmkecgnfmaaHufB
namespace Go.Proofs.Ytenkbmkecgnfmaa.Huf

/-- A coin or a pair: its count; the symbols in it. -/
abbrev Item := Nat × List Nat
/-- Coins and pairs by their counts, a coin ahead of a pair of the same count. -/
def mergeS : List Item → List Item → List Item
  | [], b => b
  | a :: as, [] => a :: as
  | a :: as, b :: bs => if b.1 < a.1 then b :: mergeS (a :: as) bs else a :: mergeS as (b :: bs)
termination_by a b => a.length + b.length
def pairS : List Item → List Item
  | x :: y :: l => (x.1 + y.1, x.2 ++ y.2) :: pairS l
  | _ => []
theorem pairS_fst : ∀ l, (pairS l).map (·.1) = pairUp (l.map (·.1))
  | [] => rfl
  | [_] => rfl
  | x :: y :: l => by simp only [pairS, List.map_cons, pairUp, pairS_fst l]
theorem pairS_len : ∀ l : List Item, (pairS l).length = l.length / 2
  | [] => rfl
  | [_] => by simp [pairS]
  | x :: y :: l => by simp only [pairS, List.length_cons, pairS_len l]; omega
theorem mergeS_perm : ∀ a b : List Item, (a ++ b).Perm (mergeS a b)
  | [], b => by unfold mergeS; exact List.Perm.refl _
  | a :: as, [] => by unfold mergeS; rw [List.append_nil]
  | a :: as, b :: bs => by
    unfold mergeS
    split
    · exact (List.perm_middle (a := b) (l₁ := a :: as) (l₂ := bs)).trans ((mergeS_perm (a :: as) bs).cons b)
    · exact (mergeS_perm as (b :: bs)).cons a
termination_by a b => a.length + b.length
def Rising (l : List Item) : Prop := l.Pairwise (fun x y => x.1 ≤ y.1)
theorem mergeS_rising : ∀ a b, Rising a → Rising b → Rising (mergeS a b)
  | [], b, _, hb => by unfold mergeS; exact hb
  | a :: as, [], ha, _ => by unfold mergeS; exact ha
  | a :: as, b :: bs, ha, hb => by
    unfold mergeS
    have ha' := List.pairwise_cons.1 ha
    have hb' := List.pairwise_cons.1 hb
    split
    · rename_i h
      refine List.pairwise_cons.2 ⟨fun y hy => ?_, mergeS_rising (a :: as) bs ha hb'.2⟩
      rcases List.mem_append.1 ((mergeS_perm (a :: as) bs).mem_iff.2 hy) with h1 | h1
      · rcases List.mem_cons.1 h1 with rfl | h1
        · omega
        · have := ha'.1 y h1; omega
      · exact hb'.1 y h1
    · rename_i h
      refine List.pairwise_cons.2 ⟨fun y hy => ?_, mergeS_rising as (b :: bs) ha'.2 hb⟩
      rcases List.mem_append.1 ((mergeS_perm as (b :: bs)).mem_iff.2 hy) with h1 | h1
      · exact ha'.1 y h1
      · rcases List.mem_cons.1 h1 with rfl | h1
        · omega
        · have := hb'.1 y h1; omega
termination_by a b => a.length + b.length
theorem pairS_mem : ∀ l x, Rising l → (∀ z ∈ l, x ≤ z.1) → ∀ y ∈ pairS l, x + x ≤ y.1
  | [], _, _, _, y, hy => by cases hy
  | [_], _, _, _, y, hy => by cases hy
  | a :: b :: l, x, hr, h, y, hy => by
    have h1 := h a (List.mem_cons_self ..)
    have h2 := h b (List.mem_cons_of_mem _ (List.mem_cons_self ..))
    rcases List.mem_cons.1 hy with rfl | hy
    · show x + x ≤ a.1 + b.1
      omega
    · exact pairS_mem l x ((List.pairwise_cons.1 (List.pairwise_cons.1 hr).2).2) (fun z hz => h z (List.mem_cons_of_mem _ (List.mem_cons_of_mem _ hz))) y hy
theorem pairS_rising : ∀ l, Rising l → Rising (pairS l)
  | [], _ => List.Pairwise.nil
  | [_], _ => List.Pairwise.nil
  | a :: b :: l, h => by
    have h1 := List.pairwise_cons.1 h
    have h2 := List.pairwise_cons.1 h1.2
    refine List.pairwise_cons.2 ⟨fun y hy => ?_, pairS_rising l h2.2⟩
    have := pairS_mem l b.1 h2.2 (fun z hz => h2.1 z hz) y hy
    have := h1.1 b (List.mem_cons_self ..)
    show a.1 + b.1 ≤ y.1
    omega
/-- The first items of a row: the first coins and the first pairs; and each coin that is worth no more than one of these pairs. -/
theorem mergeS_take : ∀ (a b : List Item) (m : Nat), Rising a → m ≤ a.length + b.length → ∃ n p, n + p = m ∧ n ≤ a.length ∧ p ≤ b.length ∧ (a.take n ++ b.take p).Perm ((mergeS a b).take m) ∧ ∀ x ∈ b.take p, ∀ y ∈ a, y.1 ≤ x.1 → y ∈ a.take n
  | a, b, 0, _, _ => ⟨0, 0, rfl, Nat.zero_le _, Nat.zero_le _, by simp, fun x hx => by simp at hx⟩
  | [], b, m + 1, _, h => ⟨0, m + 1, by omega, Nat.zero_le _, by simpa using h, by unfold mergeS; simp, fun x _ y hy => by cases hy⟩
  | a :: as, [], m + 1, _, h => ⟨m + 1, 0, rfl, by simpa using h, Nat.zero_le _, by unfold mergeS; simp, fun x hx => by simp at hx⟩
  | a :: as, b :: bs, m + 1, hr, h => by
    unfold mergeS
    have hr' := List.pairwise_cons.1 hr
    split
    · rename_i hlt
      obtain ⟨n, p, q1, q2, q3, q4, q5⟩ := mergeS_take (a :: as) bs m hr (by simp at h ⊢; omega)
      refine ⟨n, p + 1, by omega, q2, by simpa using q3, ?_, ?_⟩
      · rw [List.take_succ_cons, List.take_succ_cons]
        exact List.perm_middle.trans (q4.cons b)
      · intro x hx y hy hle
        rw [List.take_succ_cons] at hx
        rcases List.mem_cons.1 hx with rfl | hx
        · rcases List.mem_cons.1 hy with rfl | hy
          · omega
          · have := hr'.1 y hy; omega
        · exact q5 x hx y hy hle
    · obtain ⟨n, p, q1, q2, q3, q4, q5⟩ := mergeS_take as (b :: bs) m hr'.2 (by simp at h ⊢; omega)
      refine ⟨n + 1, p, by omega, by simpa using q2, q3, ?_, ?_⟩
      · rw [List.take_succ_cons, List.take_succ_cons]
        exact q4.cons a
      · intro x hx y hy hle
        rw [List.take_succ_cons]
        rcases List.mem_cons.1 hy with rfl | hy
        · exact List.mem_cons_self ..
        · exact List.mem_cons_of_mem _ (q5 x hx y hy hle)
termination_by a b => a.length + b.length

/-- How often a symbol stands in items. -/
def occ (i : Nat) : List Item → Nat
  | [] => 0
  | x :: l => x.2.count i + occ i l
theorem occ_append (i : Nat) : ∀ a b, occ i (a ++ b) = occ i a + occ i b
  | [], b => by simp [occ]
  | x :: a, b => by
    have := occ_append i a b
    simp only [List.cons_append, occ]
    omega
theorem occ_perm (i : Nat) {a b : List Item} (h : a.Perm b) : occ i a = occ i b := by
  induction h with
  | nil => rfl
  | cons x _ ih => simp only [occ, ih]
  | swap x y l => simp only [occ]; omega
  | trans _ _ h1 h2 => exact h1.trans h2
theorem occ_pairs (i : Nat) : ∀ (p : Nat) (l : List Item), 2 * p ≤ l.length → occ i ((pairS l).take p) = occ i (l.take (2 * p))
  | 0, l, _ => by simp [occ]
  | p + 1, [], h => by simp at h
  | p + 1, [x], h => by simp at h; omega
  | p + 1, x :: y :: l, h => by
    have := occ_pairs i p l (by simp at h; omega)
    rw [show 2 * (p + 1) = 2 * p + 1 + 1 by omega]
    simp only [pairS, List.take_succ_cons, occ, List.count_append]
    omega
theorem occ_pos (i : Nat) : ∀ l : List Item, 0 < occ i l → ∃ x ∈ l, i ∈ x.2
  | [], h => by simp [occ] at h
  | x :: l, h => by
    simp only [occ] at h
    by_cases h1 : 0 < x.2.count i
    · exact ⟨x, List.mem_cons_self .., List.count_pos_iff.1 h1⟩
    · obtain ⟨y, hy, hi⟩ := occ_pos i l (by omega)
      exact ⟨y, List.mem_cons_of_mem _ hy, hi⟩

end Go.Proofs.Ytenkbmkecgnfmaa.Huf
