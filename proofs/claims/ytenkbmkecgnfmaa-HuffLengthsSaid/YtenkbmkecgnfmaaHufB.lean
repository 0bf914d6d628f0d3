/- Packages: no lengths of at most t cost less than the first items of row t. No program is spoken of here. -/
import Derived.ProofKit
namespace Go.Proofs.Ytenkbmkecgnfmaa.Huf

def tot : List Nat → Nat
  | [] => 0
  | x :: l => x + tot l
theorem tot_append : ∀ a b, tot (a ++ b) = tot a + tot b
  | [], b => by simp [tot]
  | x :: a, b => by
    have := tot_append a b
    simp only [List.cons_append, tot]
    omega
theorem tot_perm {a b : List Nat} (h : a.Perm b) : tot a = tot b := by
  induction h with
  | nil => rfl
  | cons x _ ih => simp only [tot, ih]
  | swap x y l => simp only [tot]; omega
  | trans _ _ h1 h2 => exact h1.trans h2
theorem tot_sub {a b : List Nat} (h : a.Sublist b) : tot a ≤ tot b := by
  induction h with
  | slnil => exact Nat.le_refl _
  | cons x _ ih => simp only [tot]; omega
  | cons_cons x _ ih => simp only [tot]; omega
/-- What is missing to x. -/
def gap (x : Nat) (l : List Nat) : Nat := tot (l.map (x - ·))
theorem gap_ge (x : Nat) : ∀ l : List Nat, l.length * x ≤ tot l + gap x l
  | [] => by simp [tot]
  | y :: l => by
    have := gap_ge x l
    unfold gap at *
    simp only [List.map_cons, tot, List.length_cons, Nat.add_mul]
    omega
theorem gap_eq (x : Nat) : ∀ l : List Nat, (∀ y ∈ l, y ≤ x) → l.length * x = tot l + gap x l
  | [], _ => by simp [tot, gap]
  | y :: l, h => by
    have := gap_eq x l (fun z hz => h z (List.mem_cons_of_mem _ hz))
    have := h y (List.mem_cons_self ..)
    unfold gap at *
    simp only [List.map_cons, tot, List.length_cons, Nat.add_mul]
    omega
theorem gap_zero (x : Nat) : ∀ l : List Nat, (∀ y ∈ l, x ≤ y) → gap x l = 0
  | [], _ => rfl
  | y :: l, h => by
    have := gap_zero x l (fun z hz => h z (List.mem_cons_of_mem _ hz))
    have := h y (List.mem_cons_self ..)
    unfold gap at *
    simp only [List.map_cons, tot]
    omega
/-- The first of a rising list are the least of all its choices. -/
theorem min_take {row T S : List Nat} {m : Nat} (hs : row.Pairwise (· ≤ ·)) (hp : T.Perm row) (hS : S.Sublist T) (hl : S.length = m) : m ≤ row.length ∧ tot (row.take m) ≤ tot S := by
  have hlen : m ≤ row.length := by rw [← hl, ← hp.length_eq]; exact hS.length_le
  refine ⟨hlen, ?_⟩
  cases m with
  | zero => simp [tot]
  | succ m =>
    have hm : m < row.length := hlen
    have hsplit : row = row.take (m + 1) ++ row.drop (m + 1) := (List.take_append_drop _ _).symm
    have hle : ∀ y ∈ row.take (m + 1), y ≤ row[m] := fun y hy => by
      obtain ⟨i, hi, rfl⟩ := List.getElem_of_mem hy
      rw [List.length_take] at hi
      rw [List.getElem_take]
      by_cases e : i = m
      · subst e; exact Nat.le_refl _
      · exact List.pairwise_iff_getElem.1 hs i m (by omega) hm (by omega)
    have hge : ∀ y ∈ row.drop (m + 1), row[m] ≤ y := fun y hy => by
      obtain ⟨i, hi, rfl⟩ := List.getElem_of_mem hy
      rw [List.length_drop] at hi
      rw [List.getElem_drop]
      exact List.pairwise_iff_getElem.1 hs m _ hm (by omega) (by omega)
    have g1 := gap_eq row[m] _ hle
    have g2 := gap_zero row[m] _ hge
    have g3 := gap_ge row[m] S
    have g4 : gap row[m] S ≤ gap row[m] T := tot_sub (hS.map _)
    have g5 : gap row[m] T = gap row[m] row := tot_perm (hp.map _)
    have g6 : gap row[m] row = gap row[m] (row.take (m + 1)) + gap row[m] (row.drop (m + 1)) := by
      unfold gap
      rw [← tot_append, ← List.map_append, List.take_append_drop]
    rw [List.length_take, Nat.min_eq_left hlen] at g1
    rw [hl] at g3
    omega

/-- Neighbours put together, an odd one left away. -/
def pairUp : List Nat → List Nat
  | x :: y :: l => (x + y) :: pairUp l
  | _ => []
theorem pairUp_take : ∀ (p : Nat) (l : List Nat), 2 * p ≤ l.length → ((pairUp l).take p).length = p ∧ tot ((pairUp l).take p) = tot (l.take (2 * p))
  | 0, l, _ => by simp [tot]
  | p + 1, [], h => by simp at h
  | p + 1, [x], h => by simp at h; omega
  | p + 1, x :: y :: l, h => by
    have := pairUp_take p l (by simp at h; omega)
    rw [show 2 * (p + 1) = 2 * p + 1 + 1 by omega]
    simp only [pairUp, List.take_succ_cons, tot, List.length_cons]
    omega

/-- Counts and lengths: what they cost; how much is taken below 2^t. -/
def costL : List (Nat × Nat) → Nat
  | [] => 0
  | x :: l => x.1 * x.2 + costL l
def wideL (t : Nat) : List (Nat × Nat) → Nat
  | [] => 0
  | x :: l => (2 ^ t - 2 ^ (t - x.2)) + wideL t l
/-- Those that have a length. -/
def some1 : List (Nat × Nat) → List Nat
  | [] => []
  | x :: xs => if x.2 = 0 then some1 xs else x.1 :: some1 xs
def less1 : List (Nat × Nat) → List (Nat × Nat)
  | [] => []
  | x :: xs => (x.1, x.2 - 1) :: less1 xs
theorem some1_sub : ∀ xs, (some1 xs).Sublist (xs.map (·.1))
  | [] => List.Sublist.slnil
  | x :: xs => by
    unfold some1
    split
    · exact (some1_sub xs).cons _
    · exact (some1_sub xs).cons_cons _
theorem less1_fst : ∀ xs, (less1 xs).map (·.1) = xs.map (·.1)
  | [] => rfl
  | x :: xs => by simp only [less1, List.map_cons, less1_fst xs]
theorem less1_le (t : Nat) : ∀ xs : List (Nat × Nat), (∀ x ∈ xs, x.2 ≤ t + 1) → ∀ x ∈ less1 xs, x.2 ≤ t
  | [], _, x, hx => by cases hx
  | y :: xs, h, x, hx => by
    rcases List.mem_cons.1 hx with rfl | hx
    · have := h y (List.mem_cons_self ..)
      show y.2 - 1 ≤ t
      omega
    · exact less1_le t xs (fun z hz => h z (List.mem_cons_of_mem _ hz)) x hx
theorem cost_less : ∀ xs, costL xs = tot (some1 xs) + costL (less1 xs)
  | [] => rfl
  | (c, 0) :: xs => by
    have ih := cost_less xs
    simp only [costL, some1, less1, if_pos]
    simp only [Nat.zero_sub]
    omega
  | (c, l + 1) :: xs => by
    have ih := cost_less xs
    simp only [costL, some1, less1, Nat.succ_ne_zero, if_neg, not_false_eq_true, tot, Nat.add_sub_cancel]
    rw [Nat.mul_succ]
    omega
theorem wide_less (t : Nat) : ∀ xs : List (Nat × Nat), (∀ x ∈ xs, x.2 ≤ t + 1) → wideL (t + 1) xs = (some1 xs).length * 2 ^ t + wideL t (less1 xs)
  | [], _ => by simp [wideL, some1, less1]
  | (c, 0) :: xs, h => by
    have ih := wide_less t xs (fun x hx => h x (List.mem_cons_of_mem _ hx))
    simp only [wideL, some1, less1, if_pos]
    rw [ih]
    simp only [Nat.zero_sub, Nat.sub_zero, Nat.sub_self]
    omega
  | (c, l + 1) :: xs, h => by
    have ih := wide_less t xs (fun x hx => h x (List.mem_cons_of_mem _ hx))
    have hl : l + 1 ≤ t + 1 := h (c, l + 1) (List.mem_cons_self ..)
    have hp : (2 : Nat) ^ (t - l) ≤ 2 ^ t := Nat.pow_le_pow_right (by decide) (by omega)
    have e : (2 : Nat) ^ (t + 1) = 2 ^ t + 2 ^ t := by rw [Nat.pow_succ]; omega
    simp only [wideL, some1, less1, Nat.succ_ne_zero, if_neg, not_false_eq_true, Nat.add_sub_cancel, List.length_cons]
    rw [ih, show t + 1 - (l + 1) = t - l by omega, e, Nat.add_mul, Nat.one_mul]
    clear ih e
    generalize (2 : Nat) ^ (t - l) = u at *
    generalize (2 : Nat) ^ t = v at *
    generalize (some1 xs).length * v = z
    omega

/-- NO LENGTHS COST LESS: of lengths of at most t whose width reaches m items of row t. -/
theorem cost_low (cs : List Nat) (rows : Nat → List Nat) (h0 : rows 0 = []) (hs : ∀ t, (rows (t + 1)).Pairwise (· ≤ ·)) (hp : ∀ t, (cs ++ pairUp (rows t)).Perm (rows (t + 1))) :
    ∀ t m (xs : List (Nat × Nat)), (xs.map (·.1)).Sublist cs → (∀ x ∈ xs, x.2 ≤ t) → m * 2 ^ t ≤ 2 * wideL t xs → m ≤ (rows t).length ∧ tot ((rows t).take m) ≤ costL xs
  | 0, m, xs, _, hl, hm => by
    have hz : ∀ ys : List (Nat × Nat), (∀ x ∈ ys, x.2 ≤ 0) → wideL 0 ys = 0 := fun ys => by
      induction ys with
      | nil => intro _; rfl
      | cons y ys ih =>
        intro h
        have h1 := h y (List.mem_cons_self ..)
        have h2 := ih (fun x hx => h x (List.mem_cons_of_mem _ hx))
        simp only [wideL]
        rw [h2]
        simp
    rw [hz xs hl] at hm
    have : m = 0 := by simpa using hm
    subst this
    exact ⟨Nat.zero_le _, by simp [tot]⟩
  | t + 1, m, xs, hx, hl, hm => by
    have hsub : (some1 xs).Sublist cs := (some1_sub xs).trans hx
    rw [wide_less t xs hl] at hm
    rw [cost_less xs]
    by_cases hma : m ≤ (some1 xs).length
    · have := min_take (S := (some1 xs).take m) (m := m) (hs t) (hp t) (((List.take_sublist _ _).trans hsub).trans (List.sublist_append_left ..)) (by rw [List.length_take]; omega)
      have h2 : tot ((some1 xs).take m) ≤ tot (some1 xs) := tot_sub (List.take_sublist _ _)
      exact ⟨this.1, by omega⟩
    · obtain ⟨p, rfl⟩ : ∃ p, m = (some1 xs).length + p := ⟨m - (some1 xs).length, by omega⟩
      have hxs : ((less1 xs).map (·.1)).Sublist cs := by rw [less1_fst]; exact hx
      have hll := less1_le t xs hl
      have e : (2 : Nat) ^ (t + 1) = 2 ^ t + 2 ^ t := by rw [Nat.pow_succ]; omega
      have hV : 2 * p * 2 ^ t ≤ 2 * wideL t (less1 xs) := by
        rw [e, Nat.add_mul, Nat.mul_add, Nat.mul_add] at hm
        rw [Nat.mul_assoc]
        omega
      obtain ⟨i1, i2⟩ := cost_low cs rows h0 hs hp t (2 * p) (less1 xs) hxs hll hV
      obtain ⟨p1, p2⟩ := pairUp_take p (rows t) i1
      have := min_take (S := some1 xs ++ (pairUp (rows t)).take p) (m := (some1 xs).length + p) (hs t) (hp t) (hsub.append (List.take_sublist _ _)) (by rw [List.length_append, p1])
      refine ⟨this.1, Nat.le_trans this.2 ?_⟩
      rw [tot_append, p2]
      omega

end Go.Proofs.Ytenkbmkecgnfmaa.Huf
