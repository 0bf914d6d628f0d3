/- A text as pieces, in numbers: what is alike, where the same three bytes stand, candidates, the greatest; no program. Package lz: common: how many bytes at two beginnings are the same. The library's contracts that this seat uses, at this translation's numbers. -/
import Derived.Test.YthmbbpfgbpacnaaGreatDoorPmMem
import Derived.Test.YthmbbpfgbpacnaaGreatDoorPmMemG
import Derived.ProofKit
import Derived.Deep.LoopGhost
import Derived.Deep.Cut
import Derived.Deep.CutRange
import Derived.BigQuiet
import Derived.Deep.QuietTactic
import Derived.RegionTactic
import Derived.Deep.RegionHeld3
import Derived.Deep.RegionWith
import Derived.StillTailTactics
import Derived.Shelf.Small.Bits
import Derived.Ground.NamesProg
import Derived.Test.YthmbbpfgbpacnaaGreatDoorProg
namespace Go.Proofs.YthmbbpfgbpacnaaGreatDoor.Lz
def comm : List UInt8 -> List UInt8 -> Nat
 | x :: xs, y :: ys => if x = y then comm xs ys + 1 else 0
 | _, _ => 0
theorem comm_eq (n : Nat) : ∀ (xs ys : List UInt8), n <= xs.length -> n <= ys.length -> (∀ k, k < n -> xs[k]? = ys[k]?) -> (n = ys.length \/ n = xs.length \/ xs[n]? ≠ ys[n]?) -> comm xs ys = n := by
 induction n with
 | zero =>
  intro xs ys _ _ _ h
  cases xs with
  | nil => simp [comm]
  | cons x xs =>
   cases ys with
   | nil => simp [comm]
   | cons y ys =>
    simp at h
    simp [comm, h]
 | succ n ih =>
  intro xs ys h1 h2 h3 h4
  cases xs with
  | nil => simp at h1
  | cons x xs =>
   cases ys with
   | nil => simp at h2
   | cons y ys =>
    have e := h3 0 (by omega)
    simp at e
    unfold comm
    rw [if_pos e]
    congr 1
    refine ih xs ys (by simpa using h1) (by simpa using h2) (fun k hk => by simpa using h3 (k + 1) (by omega)) ?_
    rcases h4 with h | h | h
    ·exact .inl (by simpa using h)
    ·exact .inr (.inl (by simpa using h))
    ·exact .inr (.inr (by simpa using h))
theorem comm_le (xs ys : List UInt8) : comm xs ys <= xs.length /\ comm xs ys <= ys.length := by
 induction xs generalizing ys with
 | nil => simp [comm]
 | cons x xs ih =>
  cases ys with
  | nil => simp [comm]
  | cons y ys =>
   unfold comm
   have := ih ys
   split
   ·simp; omega
   ·simp
theorem comm_same (xs ys : List UInt8) (k : Nat) (h : k < comm xs ys) : xs[k]? = ys[k]? := by
 induction xs generalizing ys k with
 | nil => simp [comm] at h
 | cons x xs ih =>
  cases ys with
  | nil => simp [comm] at h
  | cons y ys =>
   unfold comm at h
   split at h
   ·cases k with
    | zero => simpa using ‹x = y›
    | succ k => simpa using ih ys k (by omega)
   ·omega
theorem comm_ge (xs ys : List UInt8) (n : Nat) (h1 : n <= xs.length) (h2 : n <= ys.length) (h : ∀ k, k < n -> xs[k]? = ys[k]?) : n <= comm xs ys := by
 induction n generalizing xs ys with
 | zero => omega
 | succ n ih =>
  cases xs with
  | nil => simp at h1
  | cons x xs =>
   cases ys with
   | nil => simp at h2
   | cons y ys =>
    have e := h 0 (by omega)
    simp at e
    unfold comm
    rw [if_pos e]
    have := ih xs ys (by simpa using h1) (by simpa using h2) (fun k hk => by simpa using h (k + 1) (by omega))
    omega
def alikeN (b : List UInt8) (i j : Nat) : Nat := comm (b.drop i) ((b.drop j).take 258)
def same3 (b : List UInt8) (i j : Nat) : Prop := j + 2 < b.length /\ b[i]? = b[j]? /\ b[i + 1]? = b[j + 1]? /\ b[i + 2]? = b[j + 2]?
instance (b : List UInt8) (i j : Nat) : Decidable (same3 b i j) := by unfold same3; infer_instance
theorem alikeN_le (b : List UInt8) (i j : Nat) : alikeN b i j <= 258 /\ alikeN b i j <= b.length - j := by
 have := (comm_le (b.drop i) ((b.drop j).take 258)).2
 rw [List.length_take, List.length_drop] at this
 exact ⟨by unfold alikeN; omega, by unfold alikeN; omega⟩
theorem alikeN_three (b : List UInt8) (i j : Nat) (hij : i < j) : 3 <= alikeN b i j ↔ same3 b i j := by
 constructor
 ·intro h
  have hl := alikeN_le b i j
  refine ⟨by omega, ?_, ?_, ?_⟩
  ·have := comm_same (b.drop i) ((b.drop j).take 258) 0 (by unfold alikeN at h; omega)
   simpa [List.getElem?_take, List.getElem?_drop] using this
  ·have := comm_same (b.drop i) ((b.drop j).take 258) 1 (by unfold alikeN at h; omega)
   simpa [List.getElem?_take, List.getElem?_drop] using this
  ·have := comm_same (b.drop i) ((b.drop j).take 258) 2 (by unfold alikeN at h; omega)
   simpa [List.getElem?_take, List.getElem?_drop] using this
 ·rintro ⟨h1, h2, h3, h4⟩
  refine comm_ge _ _ 3 (by rw [List.length_drop]; omega) (by rw [List.length_take, List.length_drop]; omega) ?_
  intro k hk
  have : k = 0 \/ k = 1 \/ k = 2 := by omega
  rcases this with rfl | rfl | rfl <;> simpa [List.getElem?_take, List.getElem?_drop]
def lastAt (b : List UInt8) (x y z : UInt8) : Nat -> Option Nat
 | 0 => none
 | i + 1 => if b[i]? = some x /\ b[i + 1]? = some y /\ b[i + 2]? = some z then some i else lastAt b x y z i
theorem lastAt_some {b : List UInt8} {x y z : UInt8} {i q : Nat} (h : lastAt b x y z i = some q) : q < i /\ (b[q]? = some x /\ b[q + 1]? = some y /\ b[q + 2]? = some z) /\ ∀ p, q < p -> p < i -> ¬ (b[p]? = some x /\ b[p + 1]? = some y /\ b[p + 2]? = some z) := by
 induction i with
 | zero => cases h
 | succ i ih =>
  unfold lastAt at h
  split at h
  ·rename_i hc
   cases h
   exact ⟨by omega, hc, fun p h1 h2 => by omega⟩
  ·rename_i hc
   obtain ⟨h1, h2, h3⟩ := ih h
   refine ⟨by omega, h2, fun p q1 q2 => ?_⟩
   rcases Nat.lt_or_ge p i with r | r
   ·exact h3 p q1 r
   ·obtain rfl : p = i := by omega
    exact hc
theorem lastAt_none {b : List UInt8} {x y z : UInt8} {i : Nat} (h : lastAt b x y z i = none) : ∀ p, p < i -> ¬ (b[p]? = some x /\ b[p + 1]? = some y /\ b[p + 2]? = some z) := by
 induction i with
 | zero => intro p hp; omega
 | succ i ih =>
  unfold lastAt at h
  split at h
  ·cases h
  ·rename_i hc
   intro p hp
   rcases Nat.lt_or_ge p i with r | r
   ·exact ih h p r
   ·obtain rfl : p = i := by omega
    exact hc
def bkN (b : List UInt8) (p : Nat) : Nat := if h : p + 2 < b.length then (match lastAt b b[p] b[p + 1] b[p + 2] p with | some q => p - q | none => 0) else 0
theorem bkN_far {b : List UInt8} {p : Nat} (h : b.length <= p + 2) : bkN b p = 0 := by unfold bkN; rw [dif_neg (by omega)]
theorem three_iff {b : List UInt8} {p q : Nat} (h : p + 2 < b.length) : (b[q]? = some b[p] /\ b[q + 1]? = some b[p + 1] /\ b[q + 2]? = some b[p + 2]) ↔ same3 b q p := by
 unfold same3
 rw [List.getElem?_eq_getElem (show p < b.length by omega), List.getElem?_eq_getElem (show p + 1 < b.length by omega), List.getElem?_eq_getElem h]
 exact ⟨fun ⟨h1, h2, h3⟩ => ⟨h, h1, h2, h3⟩, fun ⟨_, h1, h2, h3⟩ => ⟨h1, h2, h3⟩⟩
theorem bkN_le (b : List UInt8) (p : Nat) : bkN b p <= p := by
 unfold bkN
 split
 ·split
  ·omega
  ·omega
 ·omega
theorem bkN_zero {b : List UInt8} {p : Nat} (h : bkN b p = 0) : ∀ q, q < p -> ¬ same3 b q p := by
 intro q hq hs
 have hl := hs.1
 unfold bkN at h
 rw [dif_pos hl] at h
 split at h
 ·rename_i r hr
  have := (lastAt_some hr).1
  omega
 ·rename_i hr
  exact lastAt_none hr q hq ((three_iff hl).2 hs)
theorem bkN_some {b : List UInt8} {p : Nat} (h : bkN b p ≠ 0) : same3 b (p - bkN b p) p /\ ∀ q, p - bkN b p < q -> q < p -> ¬ same3 b q p := by
 have hl : p + 2 < b.length := by
  rcases Nat.lt_or_ge (p + 2) b.length with q | q
  ·exact q
  ·exact absurd (bkN_far q) h
 unfold bkN at h ⊢
 rw [dif_pos hl] at h ⊢
 split at h
 ·rename_i r hr
  obtain ⟨h1, h2, h3⟩ := lastAt_some hr
  rw [show p - (p - r) = r by omega]
  exact ⟨(three_iff hl).1 h2, fun q q1 q2 hs => h3 q q1 q2 ((three_iff hl).2 hs)⟩
 ·exact absurd rfl h
theorem same3_chain {b : List UInt8} {q p j : Nat} (h : same3 b p j) (_ : q < p) (hp : p < j) : same3 b q j ↔ same3 b q p := by
 unfold same3 at *
 obtain ⟨h0, h1, h2, h3⟩ := h
 rw [h1, h2, h3]
 exact ⟨fun ⟨_, a⟩ => ⟨by omega, a⟩, fun ⟨_, a⟩ => ⟨by omega, a⟩⟩
def bestOf (b : List UInt8) (j : Nat) (s : Nat × Nat) (d : Nat) : Nat × Nat := if alikeN b (j - d) j > s.1 then (alikeN b (j - d) j, d) else s
def chain (b : List UInt8) (j W : Nat) : Nat -> Nat -> List Nat
 | 0, _ => []
 | k + 1, d => if bkN b (j - d) = 0 \/ d + bkN b (j - d) > W then [] else (d + bkN b (j - d)) :: chain b j W k (d + bkN b (j - d))
def scan (b : List UInt8) (j W : Nat) : Nat -> Nat -> Nat × Nat -> Nat × Nat
 | 0, _, s => s
 | i + 1, k, s => if j - i <= W /\ 0 < k then (if alikeN b i j < 3 then scan b j W i k s else scan b j W i (k - 1) (if alikeN b i j > s.1 then (alikeN b i j, j - i) else s)) else s
theorem scan_succ (b : List UInt8) (j W i k : Nat) (s : Nat × Nat) : scan b j W (i + 1) k s = if j - i <= W /\ 0 < k then (if alikeN b i j < 3 then scan b j W i k s else scan b j W i (k - 1) (if alikeN b i j > s.1 then (alikeN b i j, j - i) else s)) else s := rfl
theorem scan_zero (b : List UInt8) (j W i : Nat) (s : Nat × Nat) : scan b j W i 0 s = s := by
 cases i with
 | zero => rfl
 | succ i => simp [scan]
theorem scan_far (b : List UInt8) (j W i k : Nat) (s : Nat × Nat) (hi : i <= j) (h : W < j - i + 1) : scan b j W i k s = s := by
 cases i with
 | zero => rfl
 | succ i => rw [scan_succ, if_neg (by omega)]
theorem scan_skip (b : List UInt8) (j W q k : Nat) (s : Nat × Nat) (n : Nat) (hj : q + n <= j) (h : ∀ p, q <= p -> p < q + n -> ¬ same3 b p j) : scan b j W (q + n) k s = scan b j W q k s := by
 induction n with
 | zero => rfl
 | succ n ih =>
  have h1 := ih (by omega) (fun p p1 _ => h p p1 (by omega))
  rw [Nat.add_succ, scan_succ]
  have hn := h (q + n) (by omega) (by omega)
  have h3 : alikeN b (q + n) j < 3 := by
   have := (alikeN_three b (q + n) j (by omega))
   rcases Nat.lt_or_ge (alikeN b (q + n) j) 3 with r | r
   ·exact r
   ·exact absurd (this.1 r) hn
  split
  ·exact h1
  ·rename_i hc
   rcases Nat.lt_or_ge 0 k with r | r
   ·have hw : W < j - (q + n) := by omega
    rw [scan_far b j W q k s (by omega) (by omega)]
   ·obtain rfl : k = 0 := by omega
    rw [scan_zero]
theorem scan_chain (b : List UInt8) (j W : Nat) (k : Nat) : ∀ (d : Nat) (s : Nat × Nat), d <= j -> (d = 0 \/ same3 b (j - d) j) -> scan b j W (j - d) k s = (chain b j W k d).foldl (bestOf b j) s := by
 induction k with
 | zero => intro d s _ _; rw [scan_zero]; rfl
 | succ k ih =>
  intro d s hd hs
  obtain ⟨t, ht⟩ : ∃ t, t = bkN b (j - d) := ⟨_, rfl⟩
  unfold chain
  rw [<- ht]
  have hle := bkN_le b (j - d)
  rw [<- ht] at hle
  have hiff : ∀ q, q < j - d -> (same3 b q j ↔ same3 b q (j - d)) := fun q hq => by
   rcases hs with rfl | hs
   ·rw [Nat.sub_zero]
   ·rcases Nat.eq_zero_or_pos d with rfl | hp
    ·rw [Nat.sub_zero]
    ·exact same3_chain hs hq (by omega)
  by_cases h0 : t = 0
  ·rw [if_pos (.inl h0)]
   have hz := bkN_zero (ht ▸ h0 : bkN b (j - d) = 0)
   have := scan_skip b j W 0 (k + 1) s (j - d) (by omega) (fun p _ h2 hc => hz p (by omega) ((hiff p (by omega)).1 hc))
   rw [Nat.zero_add] at this
   rw [this]
   rfl
  ·have hne : bkN b (j - d) ≠ 0 := ht ▸ h0
   obtain ⟨c1, c2⟩ := bkN_some hne
   rw [<- ht] at c1 c2
   have hskip := scan_skip b j W (j - d - t + 1) (k + 1) s (t - 1) (by omega) (fun p h1 h2 hq => c2 p (by omega) (by omega) ((hiff p (by omega)).1 hq))
   rw [show j - d - t + 1 + (t - 1) = j - d by omega] at hskip
   rw [hskip]
   by_cases hw : d + t > W
   ·rw [if_pos (.inr hw)]
    rw [scan_far b j W _ _ s (by omega) (by omega)]
    rfl
   ·rw [if_neg (by omega)]
    have hc : same3 b (j - d - t) j := (hiff _ (by omega)).2 c1
    have h3 := (alikeN_three b (j - d - t) j (by omega)).2 hc
    rw [scan_succ, if_pos (by omega), if_neg (by omega)]
    have := ih (d + t) (bestOf b j s (d + t)) (by omega) (.inr (by rw [show j - (d + t) = j - d - t by omega]; exact hc))
    rw [show j - (d + t) = j - d - t by omega] at this
    rw [List.foldl_cons, <- this]
    show scan b j W (j - d - t) (k + 1 - 1) _ = _
    rw [show k + 1 - 1 = k by omega]
    congr 1
    unfold bestOf
    rw [show j - (d + t) = j - d - t by omega, show j - (j - d - t) = d + t by omega]
def greatN (b : List UInt8) (W k j : Nat) : Nat × Nat := scan b j W j k (0, 0)
theorem greatN_chain (b : List UInt8) (W k j : Nat) : greatN b W k j = (chain b j W k 0).foldl (bestOf b j) (0, 0) := by
 have := scan_chain b j W k 0 (0, 0) (by omega) (.inl rfl)
 rwa [Nat.sub_zero] at this
theorem chain_mem (b : List UInt8) (j W k : Nat) : ∀ d, d <= j -> (d = 0 \/ same3 b (j - d) j) -> ∀ e ∈ chain b j W k d, d < e /\ e <= j /\ e <= W /\ same3 b (j - e) j := by
 induction k with
 | zero => intro d _ _ e he; cases he
 | succ k ih =>
  intro d hd hs e he
  unfold chain at he
  split at he
  ·cases he
  ·rename_i hc
   have hle := bkN_le b (j - d)
   have hne : bkN b (j - d) ≠ 0 := fun q => hc (.inl q)
   obtain ⟨c1, c2⟩ := bkN_some hne
   have hc3 : same3 b (j - (d + bkN b (j - d))) j := by
    rcases hs with rfl | hs
    ·simp only [Nat.sub_zero, Nat.zero_add] at c1 ⊢
     exact c1
    ·rcases Nat.eq_zero_or_pos d with rfl | hp
     ·simp only [Nat.sub_zero, Nat.zero_add] at c1 ⊢
      exact c1
     ·rw [show j - (d + bkN b (j - d)) = j - d - bkN b (j - d) by omega]
      exact (same3_chain hs (by omega) (by omega)).2 c1
   rcases List.mem_cons.1 he with rfl | he
   ·exact ⟨by omega, by omega, by omega, hc3⟩
   ·obtain ⟨e1, e2⟩ := ih _ (by omega) (.inr hc3) e he
    exact ⟨by omega, e2⟩
def Good (b : List UInt8) (j W : Nat) (s : Nat × Nat) : Prop := s = (0, 0) \/ (3 <= s.1 /\ 0 < s.2 /\ s.2 <= j /\ s.2 <= W /\ s.1 = alikeN b (j - s.2) j)
theorem best_good (b : List UInt8) (j W : Nat) : ∀ (l : List Nat) (s : Nat × Nat), (∀ e ∈ l, 0 < e /\ e <= j /\ e <= W /\ same3 b (j - e) j) -> Good b j W s -> Good b j W (l.foldl (bestOf b j) s) := by
 intro l
 induction l with
 | nil => intro s _ h; exact h
 | cons e l ih =>
  intro s h hs
  rw [List.foldl_cons]
  obtain ⟨e1, e2, e3, e4⟩ := h e (by simp)
  have h3 := (alikeN_three b (j - e) j (by omega)).2 e4
  refine ih _ (fun x hx => h x (by simp [hx])) ?_
  unfold bestOf
  split
  ·exact .inr ⟨h3, e1, e2, e3, rfl⟩
  ·exact hs
theorem great_good (b : List UInt8) (W k j : Nat) : Good b j W (greatN b W k j) := by
 rw [greatN_chain]
 exact best_good b j W _ _ (fun e he => by obtain ⟨h1, h2⟩ := chain_mem b j W k 0 (by omega) (.inl rfl) e he; exact ⟨by omega, h2⟩) (.inl rfl)
structure Pc where
 len : Int
 dist : Int
 byte : UInt8
instance : DecidableEq Pc := fun a b => decidable_of_iff (a.len = b.len /\ a.dist = b.dist /\ a.byte = b.byte) (by cases a; cases b; simp)
def pcAt (b : List UInt8) (W k j : Nat) : Pc := if (greatN b W k j).1 = 0 then ⟨0, 0, b.getD j 0⟩ else ⟨(greatN b W k j).1, (greatN b W k j).2, 0⟩
def stepN (b : List UInt8) (W k j : Nat) : Nat := max 1 (greatN b W k j).1
def pcsF (b : List UInt8) (W k : Nat) : Nat -> Nat -> List Pc
 | 0, _ => []
 | f + 1, j => if j < b.length then pcAt b W k j :: pcsF b W k f (j + stepN b W k j) else []
theorem pcsF_succ (b : List UInt8) (W k f j : Nat) : pcsF b W k (f + 1) j = if j < b.length then pcAt b W k j :: pcsF b W k f (j + stepN b W k j) else [] := rfl
theorem pcsF_done (b : List UInt8) (W k f j : Nat) (h : b.length <= j) : pcsF b W k f j = [] := by
 cases f with
 | zero => rfl
 | succ f => rw [pcsF_succ, if_neg (by omega)]
theorem pcsF_more (b : List UInt8) (W k : Nat) : ∀ f g j, b.length <= j + f -> b.length <= j + g -> pcsF b W k f j = pcsF b W k g j := by
 intro f
 induction f with
 | zero => intro g j h _; rw [pcsF_done b W k 0 j (by omega), pcsF_done b W k g j (by omega)]
 | succ f ih =>
  intro g j h1 h2
  cases g with
  | zero => rw [pcsF_done b W k _ j (by omega), pcsF_done b W k 0 j (by omega)]
  | succ g =>
   rw [pcsF_succ, pcsF_succ]
   split
   ·have h1' : 1 <= stepN b W k j := by unfold stepN; omega
    rw [ih g _ (by omega) (by omega)]
   ·rfl
def pcs (b : List UInt8) (W k j : Nat) : List Pc := pcsF b W k (b.length - j) j
theorem pcs_step (b : List UInt8) (W k j : Nat) (h : j < b.length) : pcs b W k j = pcAt b W k j :: pcs b W k (j + stepN b W k j) := by
 unfold pcs
 obtain ⟨f, hf⟩ : ∃ f, b.length - j = f + 1 := ⟨b.length - j - 1, by omega⟩
 have h1' : 1 <= stepN b W k j := by unfold stepN; omega
 rw [hf, pcsF_succ, if_pos h, pcsF_more b W k f (b.length - (j + stepN b W k j)) _ (by omega) (by omega)]
theorem pcs_done (b : List UInt8) (W k j : Nat) (h : b.length <= j) : pcs b W k j = [] := pcsF_done b W k _ j h
theorem stepN_pos (b : List UInt8) (W k j : Nat) : 1 <= stepN b W k j := by unfold stepN; omega
theorem stepN_le (b : List UInt8) (W k j : Nat) (h : j < b.length) : j + stepN b W k j <= b.length /\ stepN b W k j <= 258 := by
 have hg := great_good b W k j
 have := alikeN_le b (j - (greatN b W k j).2) j
 unfold stepN
 rcases hg with h1 | ⟨h1, h2, h3, h4, h5⟩
 ·rw [h1]; simp; omega
 ·omega
theorem pcs_len (b : List UInt8) (W k : Nat) : ∀ n j, b.length <= j + n -> (pcs b W k j).length <= b.length - j := by
 intro n
 induction n with
 | zero => intro j h; rw [pcs_done b W k j (by omega)]; simp
 | succ n ih =>
  intro j h
  by_cases hj : j < b.length
  ·rw [pcs_step b W k j hj]
   have h1 := stepN_pos b W k j
   have := ih (j + stepN b W k j) (by omega)
   have := stepN_le b W k j hj
   simp only [List.length_cons]
   omega
  ·rw [pcs_done b W k j (by omega)]; simp
end Go.Proofs.YthmbbpfgbpacnaaGreatDoor.Lz
namespace Go.Proofs.YthmbbpfgbpacnaaGreatDoor.Lz
open Go.RowKit Go.Shelf Go.Lib Mem Huf
theorem src_shape {W : World} {x : Value} {l : List UInt8} (h : Src W x l) : ∃ ao c, x = .slice ao l.length c /\ (0 < l.length -> ∃ a, ao = some a) := by
 rcases h with ⟨rfl, rfl⟩ | ⟨a, c, rfl, _⟩
 ·exact ⟨none, 0, rfl, fun h => by cases h⟩
 ·exact ⟨some a, c, rfl, fun _ => ⟨a, rfl⟩⟩
theorem u8_ne {a b : UInt8} (h : a ≠ b) : ((a.toNat : Nat) : Int) ≠ (b.toNat : Int) := fun e => h (u8_inj e)
set_option maxHeartbeats 4000000 in
set_option maxRecDepth 100000 in
theorem common_any (W : World) (x y : Value) (l m : List UInt8) (hx : Src W x l) (hy : Src W y m) (hle : m.length <= l.length) (hb : m.length <= 258) :
  Calls Tryz.prog 131 #[x, y] W fun e w' => e = .returned (.int .i64 (comm l m : Nat)) /\ W = w' := by
 obtain ⟨ao, c, rfl, hao⟩ := src_shape hx
 obtain ⟨bo, d, rfl, hbo⟩ := src_shape hy
 have HX : Aside (Src W (.slice ao l.length c) l) := hx
 have HY : Aside (Src W (.slice bo m.length d) m) := hy
 have HA : Aside (0 < l.length -> ∃ a, ao = some a) := hao
 have HB : Aside (0 < m.length -> ∃ a, bo = some a) := hbo
 clear hx hy hao hbo
 go_enter Tryz.func131, Tryz.ntmps131
 go_upto_region 2 with fail
 go_loopg [9] m.length (fun kx s9 wr => ∃ (i : Nat), s9 = .int .i64 i /\ i <= m.length /\ m.length - i <= kx /\ Aside (∀ k, k < i -> l[k]? = m[k]?) /\ W = wr)
 case atStart => exact ⟨0, rfl, Nat.zero_le _, Nat.le_refl _, fun k hk => by omega, rfl⟩
 case round =>
  obtain ⟨i, rfl, hi, hkx, HI, rfl⟩ := hrel
  by_cases hlt : i < m.length
  ·have hltz : (i : Int) < (m.length : Int) := by omega
   obtain ⟨p, rfl⟩ := HA.out (by omega)
   obtain ⟨q, rfl⟩ := HB.out (by omega)
   have i0 : (0 : Int) <= (i : Int) := by omega
   have hll : (i : Int) < (l.length : Int) := by omega
   have hlN : i < l.length := by omega
   have wi : IntKind.i64.wrap ((i : Int) + 1) = (i : Int) + 1 := by rw [IntKind.wrap_i64]; omega
   have c1 : W.cell? (p.add i) = some (.int .i64 0) \/ True := .inr trivial
   have c2 : W.cell? (p.add i) = some (.int .u8 ((l[i]).toNat : Int)) := src_cell HX.out i hlN
   have c3 : W.cell? (q.add i) = some (.int .u8 ((m[i]).toNat : Int)) := src_cell HY.out i hlt
   have HN : Aside (l[i] = m[i] -> ∀ k, k < i + 1 -> l[k]? = m[k]?) := fun h k hk => by
    rcases Nat.lt_or_ge k i with r | r
    ·exact HI.out k r
    ·obtain rfl : k = i := by omega
     rw [List.getElem?_eq_getElem hlt, List.getElem?_eq_getElem hlN, h]
   have HE : Aside (l[i] ≠ m[i] -> comm l m = i) := fun h => comm_eq i l m (by omega) (by omega) HI.out (.inr (.inr (by rw [List.getElem?_eq_getElem hlt, List.getElem?_eq_getElem hlN]; simpa using h)))
   clear c1 HI
   generalize l[i] = u at *
   generalize m[i] = v at *
   by_cases huv : u = v
   ·subst huv
    have hB : (((u.toNat : Nat) : Int) != (u.toNat : Int)) = false := by simp
    have HN2 : Aside _ := HN.out rfl
    clear HN HE
    go_wp2_with fail
    go_roundg (m.length - (i + 1))
    case measure => omega
    case rel => exact ⟨i + 1, by go_num, by omega, Nat.le_refl _, HN2.out, rfl⟩
   ·have hz := u8_ne huv
    have hB : (((u.toNat : Nat) : Int) != (v.toNat : Int)) = true := by rw [bne_iff_ne]; exact hz
    have HE2 : Aside _ := HE.out huv
    clear HN HE
    go_wp2_with fail
    go_ret
    refine ⟨?_, rfl⟩
    rw [HE2.out]
    rfl
  ·obtain rfl : i = m.length := by omega
   have hltz : ¬ (m.length : Int) < (m.length : Int) := by omega
   have HE2 : Aside (comm l m = m.length) := comm_eq m.length l m hle (Nat.le_refl _) HI.out (.inl rfl)
   clear HI
   go_wp2_with fail
   go_ret
   refine ⟨?_, rfl⟩
   rw [HE2.out]
   rfl
end Go.Proofs.YthmbbpfgbpacnaaGreatDoor.Lz
namespace Go.Proofs
open Go.Shelf
def Tryz.laysLen_ren : Go.Shelf.Ren := ⟨fun | 125 => 159 | 128 => 165 | 129 => 166 | n => n, fun | 46 => 100 | 3 => 3 | 51 => 205 | 53 => 208 | 4 => 4 | 5 => 5 | 9 => 9 | n => n, fun | n => n⟩
theorem Tryz.laysLen : Go.Proofs.Lays.n125 Tryz.prog Tryz.laysLen_ren := {
 mixed := by kernel_rfl
 f125 := Tryz.func159.trans (congrArg some (by kernel_rfl))
 f128 := Tryz.func165.trans (congrArg some (by kernel_rfl))
 f129 := Tryz.func166.trans (congrArg some (by kernel_rfl))
 t3 := Tryz.underlying3
 a3 := Tryz.isAgg3
 z3 := Tryz.sizeOf3
 v3 := Tryz.zeroValue3
 t4 := Tryz.underlying4
 a4 := Tryz.isAgg4
 z4 := Tryz.sizeOf4
 v4 := Tryz.zeroValue4
 t5 := Tryz.underlying5
 a5 := Tryz.isAgg5
 z5 := Tryz.sizeOf5
 v5 := Tryz.zeroValue5
 t9 := Tryz.underlying9
 a9 := Tryz.isAgg9
 z9 := Tryz.sizeOf9
 v9 := Tryz.zeroValue9
 t46 := Tryz.underlying100
 a46 := Tryz.isAgg100
 z46 := Tryz.sizeOf100
 v46 := Tryz.zeroValue100
 t51 := Tryz.underlying205
 a51 := Tryz.isAgg205
 z51 := Tryz.sizeOf205
 v51 := Tryz.zeroValue205
 t53 := Tryz.underlying208
 a53 := Tryz.isAgg208
 z53 := Tryz.sizeOf208
 v53 := Tryz.zeroValue208 }
end Go.Proofs
