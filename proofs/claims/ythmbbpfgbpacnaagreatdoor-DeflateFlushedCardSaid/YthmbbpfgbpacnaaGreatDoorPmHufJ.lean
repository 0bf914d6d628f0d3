/- The library's Concat of two lists of symbols. Packages: no lengths of at most t cost less than the first items of row t. No program is spoken of here. Packages: what the first items of a row make: lengths of just that width, of just that cost. No program is spoken of here. Lengths by packages: they may be, they leave nothing over, and none cost less. No program is spoken of here. -/
import Derived.Test.YthmbbpfgbpacnaaGreatDoorPmInfA
import Derived.Test.YthmbbpfgbpacnaaGreatDoorChecked
import Derived.Deep.LoopGhost
import Derived.BigQuiet
import Derived.ProofKit
namespace Go.Proofs.YthmbbpfgbpacnaaGreatDoor.Huf
open Go.RowKit Go.Shelf Go.Lib Mem
set_option maxHeartbeats 4000000 in
set_option maxRecDepth 100000 in
theorem grow_any (n : Nat) (w : World) (hn : 1 <= n) (hlim : n * 8 <= 140737488355328) :
  Calls Tryz.prog 139 #[.slice none 0 0, .int .i64 n] w fun e w' => ∃ cap2, e = .returned (.slice (some ⟨w.heap.size, 0, none⟩) 0 cap2) /\ w'.ownsRow w.heap.size 3 1 (.slice (some ⟨w.heap.size, 0, none⟩) 0 cap2) 0 (iVs []) /\ Below w.heap.size w w' := by
 obtain ⟨i0, hi, hz0, hz1, hz2⟩ := info_parts info3
 have happ := Lib.run_append_nil_zeros (P := Tryz.prog) w 111 3 111 3 i0 (.int .i64 0) .i64 .i64 Tryz.underlying111 Tryz.underlying3 hi hz0 n (by omega) (by omega) (by omega) (by rw [hz2]; omega)
 generalize hcap : grownCap w n 0 3 = cap2 at happ
 have hcapge : n <= cap2 := by rw [<- hcap]; exact grownCap_ge w _ 0 3
 have hcaple : cap2 <= maxLen := by rw [<- hcap]; exact grownCap_le_maxLen w _ 0 3 (by unfold maxLen; omega)
 generalize hZ : (Builtin.zeroCells (Value.int .i64 0).cells n ++ Builtin.zeroCells (Value.int .i64 0).cells (cap2 - n)) = Z at happ
 have hZs : Z.size = cap2 := by rw [<- hZ]; simp [size_zeroCells, Value.cells]; omega
 have HZ := Lib.hid hZs
 have HC := Lib.hid hcaple
 have hnz : ¬ (n : Int) < 0 := by omega
 have hnp : (n : Int) > 0 := by omega
 have hnp2 : (0 : Int) < (n : Int) := by omega
 have wn : IntKind.i64.wrap (n : Int) = (n : Int) := by rw [IntKind.wrap_i64]; omega
 clear hcap hZ hZs hcaple hcapge hi hz0 hz1 hz2
 go_enter Tryz.func139, Tryz.ntmps139
 go_wp2_with (at_builtin; refine Lib.wpList_append_run _ rfl _ _ _ _ rfl _ _ rfl rfl _ _ happ ?_)
 go_ret
 refine ⟨cap2, rfl, ⟨rfl, .inr ⟨w.heap.size, cap2, Z, rfl, Nat.le_refl _, ?_, Nat.zero_le _, HC.out, by rw [HZ.out, Nat.mul_one], by simp [iVs]⟩⟩, ?_⟩
 ·exact heap_alloc_new w.drew _
 ·exact ⟨rfl, rfl, rfl, by simp, fun k hk => Below.heap_alloc w.drew _ k hk⟩
set_option maxHeartbeats 4000000 in
set_option maxRecDepth 100000 in
theorem concat_any (w : World) (b2 : Nat) (v1 v2 : Value) (l1 l2 : List Int) (c0 : w.cell? ⟨b2, 0, none⟩ = some v1) (c1 : w.cell? ⟨b2, 1, none⟩ = some v2) (h1 : SrcI w v1 l1) (h2 : SrcI w v2 l2) (hpos : 0 < l1.length) (hlim : l1.length + l2.length <= 1048576) :
  Calls Tryz.prog 115 #[.slice (some ⟨b2, 0, none⟩) 2 2] w fun e w' => ∃ u, e = .returned u /\ w'.ownsRow w.heap.size 3 1 u (l1 ++ l2).length (iVs (l1 ++ l2)) /\ Below w.heap.size w w' := by
 have HG := Lib.hid (grow_any (l1.length + l2.length) w (by omega) (by omega))
 have H1 : Aside (SrcI w v1 l1) := h1
 have H2 : Aside (SrcI w v2 l2) := h2
 obtain ⟨a1, p1, rfl, -⟩ := h1.shape
 obtain ⟨a2, p2, rfl, -⟩ := h2.shape
 have C0 : Aside (w.cell? ⟨b2, 0, none⟩ = some (.slice a1 l1.length p1)) := c0
 have C1 : Aside (w.cell? ⟨b2, 1, none⟩ = some (.slice a2 l2.length p2)) := c1
 have wl1 : IntKind.i64.wrap (l1.length : Int) = (l1.length : Int) := by rw [IntKind.wrap_i64]; omega
 have wl2 : IntKind.i64.wrap ((l1.length : Int) + (l2.length : Int)) = (l1.length : Int) + (l2.length : Int) := by rw [IntKind.wrap_i64]; omega
 have n1 : ¬ (l1.length : Int) < 0 := by omega
 have n2 : ¬ (l1.length : Int) + (l2.length : Int) < 0 := by omega
 have ecast : (((l1.length + l2.length : Nat)) : Int) = (l1.length : Int) + (l2.length : Int) := by omega
 rw [ecast] at HG
 clear ecast h1 h2
 go_enter Tryz.func115, Tryz.ntmps115
 go_wp2_with fail
 go_loopg [3, 11] 2 (fun kx s3 s11 wr => ∃ (i : Nat) (z : Int), s11 = .int .i64 i /\ s3 = .int .i64 z /\ i <= 2 /\ 2 - i <= kx /\ w = wr /\ Aside (z = if i = 0 then 0 else if i = 1 then (l1.length : Int) else (l1.length : Int) + (l2.length : Int)))
 case atStart => exact ⟨0, 0, rfl, rfl, by omega, Nat.le_refl _, rfl, rfl⟩
 case round =>
  obtain ⟨i, z, rfl, rfl, hi, hkx, rfl, HZ⟩ := hrel
  have hc : i = 0 \/ i = 1 \/ i = 2 := by omega
  rcases hc with rfl | rfl | rfl
  ·have hz : z = 0 := HZ.out
   subst hz
   clear HZ
   go_wp2_with fail
   go_roundg 1
   case measure => omega
   case rel => exact ⟨1, _, rfl, rfl, by omega, by omega, rfl, by simp [Aside]⟩
  ·have hz : z = (l1.length : Int) := HZ.out
   subst hz
   clear HZ
   go_wp2_with fail
   go_roundg 0
   case measure => omega
   case rel => exact ⟨2, _, rfl, rfl, by omega, by omega, rfl, by simp [Aside]⟩
  ·have hz : z = (l1.length : Int) + (l2.length : Int) := HZ.out
   subst hz
   clear HZ c0 c1
   go_wp2_with (first | (go_at_call 139; refine HG.out.mono ?_; rintro e w1 ⟨cap2, rfl, hg1, hg2⟩))
   have h0 : Aside (w1.ownsRow w.heap.size 3 1 (.slice (some ⟨w.heap.size, 0, none⟩) 0 cap2) 0 (iVs []) /\ Below w.heap.size w w1) := ⟨hg1, hg2⟩
   clear hg1 hg2 HG
   go_loopg [6, 27] 2 (fun kx s6 s27 wr => ∃ (i : Nat) (u : Value), s27 = .int .i64 i /\ u = s6 /\ i <= 2 /\ 2 - i <= kx /\ Aside (wr.ownsRow w.heap.size 3 1 u (if i = 0 then [] else if i = 1 then l1 else l1 ++ l2).length (iVs (if i = 0 then [] else if i = 1 then l1 else l1 ++ l2)) /\ Below w.heap.size w wr))
   case atStart => exact ⟨0, _, rfl, rfl, by omega, Nat.le_refl _, h0⟩
   case round =>
    clear h0
    obtain ⟨i, u, rfl, rfl, hi, hkx2, HR⟩ := hrel
    have hc : i = 0 \/ i = 1 \/ i = 2 := by omega
    rcases hc with rfl | rfl | rfl
    ·obtain ⟨r1, r2⟩ := HR.out
     obtain ⟨u2, W2, q1, q2, q3, q4⟩ := appI_any wr w.heap.size u (.slice a1 l1.length p1) 111 [] l1 r1 r2.size (H1.out.below r2) (by simp; omega)
     have hbw := bel_grown r1 q3 r2.size (Nat.le_refl _)
     have HQ : Aside (W2.ownsRow w.heap.size 3 1 u2 l1.length (iVs l1) /\ Below w.heap.size w W2) := ⟨q2, r2.trans hbw⟩
     have d0 : wr.cell? ⟨b2, 0, none⟩ = some (.slice a1 l1.length p1) := (r2.cell (block_lt_of_cell C0.out)).trans C0.out
     clear r1 r2 q2 q3 q4 hbw HR
     go_wp2_with (at_builtin; refine Lib.wpList_append_run _ rfl _ _ _ _ rfl _ _ rfl rfl _ _ q1 ?_)
     go_roundg 1
     case measure => omega
     case rel => exact ⟨1, _, rfl, rfl, by omega, by omega, HQ⟩
    ·obtain ⟨r1, r2⟩ := HR.out
     obtain ⟨u2, W2, q1, q2, q3, q4⟩ := appI_any wr w.heap.size u (.slice a2 l2.length p2) 111 l1 l2 r1 r2.size (H2.out.below r2) (by omega)
     have hbw := bel_grown r1 q3 r2.size (Nat.le_refl _)
     have HQ : Aside (W2.ownsRow w.heap.size 3 1 u2 (l1 ++ l2).length (iVs (l1 ++ l2)) /\ Below w.heap.size w W2) := ⟨q2, r2.trans hbw⟩
     have d1 : wr.cell? ⟨b2, 1, none⟩ = some (.slice a2 l2.length p2) := (r2.cell (block_lt_of_cell C1.out)).trans C1.out
     clear r1 r2 q2 q3 q4 hbw HR
     go_wp2_with (at_builtin; refine Lib.wpList_append_run _ rfl _ _ _ _ rfl _ _ rfl rfl _ _ q1 ?_)
     go_roundg 0
     case measure => omega
     case rel => exact ⟨2, _, rfl, rfl, by omega, by omega, HQ⟩
    ·go_wp2_with fail
     go_ret
     exact ⟨_, rfl, HR.out.1, HR.out.2⟩
end Go.Proofs.YthmbbpfgbpacnaaGreatDoor.Huf
namespace Go.Proofs.YthmbbpfgbpacnaaGreatDoor.Huf
def tot : List Nat -> Nat
 | [] => 0
 | x :: l => x + tot l
theorem tot_append : ∀ a b, tot (a ++ b) = tot a + tot b
 | [], b => by simp [tot]
 | x :: a, b => by
  have := tot_append a b
  simp only [List.cons_append, tot]
  omega
theorem tot_perm {a b : List Nat} (h : a.Perm b) : tot a = tot b := by
 induction h with
 | nil => rfl
 | cons x _ ih => simp only [tot, ih]
 | swap x y l => simp only [tot]; omega
 | trans _ _ h1 h2 => exact h1.trans h2
theorem tot_sub {a b : List Nat} (h : a.Sublist b) : tot a <= tot b := by
 induction h with
 | slnil => exact Nat.le_refl _
 | cons x _ ih => simp only [tot]; omega
 | cons_cons x _ ih => simp only [tot]; omega
def gap (x : Nat) (l : List Nat) : Nat := tot (l.map (x - ·))
theorem gap_ge (x : Nat) : ∀ l : List Nat, l.length * x <= tot l + gap x l
 | [] => by simp [tot]
 | y :: l => by
  have := gap_ge x l
  unfold gap at *
  simp only [List.map_cons, tot, List.length_cons, Nat.add_mul]
  omega
theorem gap_eq (x : Nat) : ∀ l : List Nat, (∀ y ∈ l, y <= x) -> l.length * x = tot l + gap x l
 | [], _ => by simp [tot, gap]
 | y :: l, h => by
  have := gap_eq x l (fun z hz => h z (List.mem_cons_of_mem _ hz))
  have := h y (List.mem_cons_self ..)
  unfold gap at *
  simp only [List.map_cons, tot, List.length_cons, Nat.add_mul]
  omega
theorem gap_zero (x : Nat) : ∀ l : List Nat, (∀ y ∈ l, x <= y) -> gap x l = 0
 | [], _ => rfl
 | y :: l, h => by
  have := gap_zero x l (fun z hz => h z (List.mem_cons_of_mem _ hz))
  have := h y (List.mem_cons_self ..)
  unfold gap at *
  simp only [List.map_cons, tot]
  omega
theorem min_take {row T S : List Nat} {m : Nat} (hs : row.Pairwise (· <= ·)) (hp : T.Perm row) (hS : S.Sublist T) (hl : S.length = m) : m <= row.length /\ tot (row.take m) <= tot S := by
 have hlen : m <= row.length := by rw [<- hl, <- hp.length_eq]; exact hS.length_le
 refine ⟨hlen, ?_⟩
 cases m with
 | zero => simp [tot]
 | succ m =>
  have hm : m < row.length := hlen
  have hsplit : row = row.take (m + 1) ++ row.drop (m + 1) := (List.take_append_drop _ _).symm
  have hle : ∀ y ∈ row.take (m + 1), y <= row[m] := fun y hy => by
   obtain ⟨i, hi, rfl⟩ := List.getElem_of_mem hy
   rw [List.length_take] at hi
   rw [List.getElem_take]
   by_cases e : i = m
   ·subst e; exact Nat.le_refl _
   ·exact List.pairwise_iff_getElem.1 hs i m (by omega) hm (by omega)
  have hge : ∀ y ∈ row.drop (m + 1), row[m] <= y := fun y hy => by
   obtain ⟨i, hi, rfl⟩ := List.getElem_of_mem hy
   rw [List.length_drop] at hi
   rw [List.getElem_drop]
   exact List.pairwise_iff_getElem.1 hs m _ hm (by omega) (by omega)
  have g1 := gap_eq row[m] _ hle
  have g2 := gap_zero row[m] _ hge
  have g3 := gap_ge row[m] S
  have g4 : gap row[m] S <= gap row[m] T := tot_sub (hS.map _)
  have g5 : gap row[m] T = gap row[m] row := tot_perm (hp.map _)
  have g6 : gap row[m] row = gap row[m] (row.take (m + 1)) + gap row[m] (row.drop (m + 1)) := by
   unfold gap
   rw [<- tot_append, <- List.map_append, List.take_append_drop]
  rw [List.length_take, Nat.min_eq_left hlen] at g1
  rw [hl] at g3
  omega
def pairUp : List Nat -> List Nat
 | x :: y :: l => (x + y) :: pairUp l
 | _ => []
theorem pairUp_take : ∀ (p : Nat) (l : List Nat), 2 * p <= l.length -> ((pairUp l).take p).length = p /\ tot ((pairUp l).take p) = tot (l.take (2 * p))
 | 0, l, _ => by simp [tot]
 | p + 1, [], h => by simp at h
 | p + 1, [x], h => by simp at h; omega
 | p + 1, x :: y :: l, h => by
  have := pairUp_take p l (by simp at h; omega)
  rw [show 2 * (p + 1) = 2 * p + 1 + 1 by omega]
  simp only [pairUp, List.take_succ_cons, tot, List.length_cons]
  omega
def costL : List (Nat × Nat) -> Nat
 | [] => 0
 | x :: l => x.1 * x.2 + costL l
def wideL (t : Nat) : List (Nat × Nat) -> Nat
 | [] => 0
 | x :: l => (2 ^ t - 2 ^ (t - x.2)) + wideL t l
def some1 : List (Nat × Nat) -> List Nat
 | [] => []
 | x :: xs => if x.2 = 0 then some1 xs else x.1 :: some1 xs
def less1 : List (Nat × Nat) -> List (Nat × Nat)
 | [] => []
 | x :: xs => (x.1, x.2 - 1) :: less1 xs
theorem some1_sub : ∀ xs, (some1 xs).Sublist (xs.map (·.1))
 | [] => List.Sublist.slnil
 | x :: xs => by
  unfold some1
  split
  ·exact (some1_sub xs).cons _
  ·exact (some1_sub xs).cons_cons _
theorem less1_fst : ∀ xs, (less1 xs).map (·.1) = xs.map (·.1)
 | [] => rfl
 | x :: xs => by simp only [less1, List.map_cons, less1_fst xs]
theorem less1_le (t : Nat) : ∀ xs : List (Nat × Nat), (∀ x ∈ xs, x.2 <= t + 1) -> ∀ x ∈ less1 xs, x.2 <= t
 | [], _, x, hx => by cases hx
 | y :: xs, h, x, hx => by
  rcases List.mem_cons.1 hx with rfl | hx
  ·have := h y (List.mem_cons_self ..)
   show y.2 - 1 <= t
   omega
  ·exact less1_le t xs (fun z hz => h z (List.mem_cons_of_mem _ hz)) x hx
theorem cost_less : ∀ xs, costL xs = tot (some1 xs) + costL (less1 xs)
 | [] => rfl
 | (c, 0) :: xs => by
  have ih := cost_less xs
  simp only [costL, some1, less1, if_pos]
  simp only [Nat.zero_sub]
  omega
 | (c, l + 1) :: xs => by
  have ih := cost_less xs
  simp only [costL, some1, less1, Nat.succ_ne_zero, if_neg, not_false_eq_true, tot, Nat.add_sub_cancel]
  rw [Nat.mul_succ]
  omega
theorem wide_less (t : Nat) : ∀ xs : List (Nat × Nat), (∀ x ∈ xs, x.2 <= t + 1) -> wideL (t + 1) xs = (some1 xs).length * 2 ^ t + wideL t (less1 xs)
 | [], _ => by simp [wideL, some1, less1]
 | (c, 0) :: xs, h => by
  have ih := wide_less t xs (fun x hx => h x (List.mem_cons_of_mem _ hx))
  simp only [wideL, some1, less1, if_pos]
  rw [ih]
  simp only [Nat.zero_sub, Nat.sub_zero, Nat.sub_self]
  omega
 | (c, l + 1) :: xs, h => by
  have ih := wide_less t xs (fun x hx => h x (List.mem_cons_of_mem _ hx))
  have hl : l + 1 <= t + 1 := h (c, l + 1) (List.mem_cons_self ..)
  have hp : (2 : Nat) ^ (t - l) <= 2 ^ t := Nat.pow_le_pow_right (by decide) (by omega)
  have e : (2 : Nat) ^ (t + 1) = 2 ^ t + 2 ^ t := by rw [Nat.pow_succ]; omega
  simp only [wideL, some1, less1, Nat.succ_ne_zero, if_neg, not_false_eq_true, Nat.add_sub_cancel, List.length_cons]
  rw [ih, show t + 1 - (l + 1) = t - l by omega, e, Nat.add_mul, Nat.one_mul]
  clear ih e
  generalize (2 : Nat) ^ (t - l) = u at *
  generalize (2 : Nat) ^ t = v at *
  generalize (some1 xs).length * v = z
  omega
theorem cost_low (cs : List Nat) (rows : Nat -> List Nat) (h0 : rows 0 = []) (hs : ∀ t, (rows (t + 1)).Pairwise (· <= ·)) (hp : ∀ t, (cs ++ pairUp (rows t)).Perm (rows (t + 1))) :
  ∀ t m (xs : List (Nat × Nat)), (xs.map (·.1)).Sublist cs -> (∀ x ∈ xs, x.2 <= t) -> m * 2 ^ t <= 2 * wideL t xs -> m <= (rows t).length /\ tot ((rows t).take m) <= costL xs
 | 0, m, xs, _, hl, hm => by
  have hz : ∀ ys : List (Nat × Nat), (∀ x ∈ ys, x.2 <= 0) -> wideL 0 ys = 0 := fun ys => by
   induction ys with
   | nil => intro _; rfl
   | cons y ys ih =>
    intro h
    have h1 := h y (List.mem_cons_self ..)
    have h2 := ih (fun x hx => h x (List.mem_cons_of_mem _ hx))
    simp only [wideL]
    rw [h2]
    simp
  rw [hz xs hl] at hm
  have : m = 0 := by simpa using hm
  subst this
  exact ⟨Nat.zero_le _, by simp [tot]⟩
 | t + 1, m, xs, hx, hl, hm => by
  have hsub : (some1 xs).Sublist cs := (some1_sub xs).trans hx
  rw [wide_less t xs hl] at hm
  rw [cost_less xs]
  by_cases hma : m <= (some1 xs).length
  ·have := min_take (S := (some1 xs).take m) (m := m) (hs t) (hp t) (((List.take_sublist _ _).trans hsub).trans (List.sublist_append_left ..)) (by rw [List.length_take]; omega)
   have h2 : tot ((some1 xs).take m) <= tot (some1 xs) := tot_sub (List.take_sublist _ _)
   exact ⟨this.1, by omega⟩
  ·obtain ⟨p, rfl⟩ : ∃ p, m = (some1 xs).length + p := ⟨m - (some1 xs).length, by omega⟩
   have hxs : ((less1 xs).map (·.1)).Sublist cs := by rw [less1_fst]; exact hx
   have hll := less1_le t xs hl
   have e : (2 : Nat) ^ (t + 1) = 2 ^ t + 2 ^ t := by rw [Nat.pow_succ]; omega
   have hV : 2 * p * 2 ^ t <= 2 * wideL t (less1 xs) := by
    rw [e, Nat.add_mul, Nat.mul_add, Nat.mul_add] at hm
    rw [Nat.mul_assoc]
    omega
   obtain ⟨i1, i2⟩ := cost_low cs rows h0 hs hp t (2 * p) (less1 xs) hxs hll hV
   obtain ⟨p1, p2⟩ := pairUp_take p (rows t) i1
   have := min_take (S := some1 xs ++ (pairUp (rows t)).take p) (m := (some1 xs).length + p) (hs t) (hp t) (hsub.append (List.take_sublist _ _)) (by rw [List.length_append, p1])
   refine ⟨this.1, Nat.le_trans this.2 ?_⟩
   rw [tot_append, p2]
   omega
end Go.Proofs.YthmbbpfgbpacnaaGreatDoor.Huf
namespace Go.Proofs.YthmbbpfgbpacnaaGreatDoor.Huf
abbrev Item := Nat × List Nat
def mergeS : List Item -> List Item -> List Item
 | [], b => b
 | a :: az, [] => a :: az
 | a :: az, b :: bs => if b.1 < a.1 then b :: mergeS (a :: az) bs else a :: mergeS az (b :: bs)
termination_by a b => a.length + b.length
def pairS : List Item -> List Item
 | x :: y :: l => (x.1 + y.1, x.2 ++ y.2) :: pairS l
 | _ => []
theorem pairS_fst : ∀ l, (pairS l).map (·.1) = pairUp (l.map (·.1))
 | [] => rfl
 | [_] => rfl
 | x :: y :: l => by simp only [pairS, List.map_cons, pairUp, pairS_fst l]
theorem pairS_len : ∀ l : List Item, (pairS l).length = l.length / 2
 | [] => rfl
 | [_] => by simp [pairS]
 | x :: y :: l => by simp only [pairS, List.length_cons, pairS_len l]; omega
theorem mergeS_perm : ∀ a b : List Item, (a ++ b).Perm (mergeS a b)
 | [], b => by unfold mergeS; exact List.Perm.refl _
 | a :: az, [] => by unfold mergeS; rw [List.append_nil]
 | a :: az, b :: bs => by
  unfold mergeS
  split
  ·exact (List.perm_middle (a := b) (l₁ := a :: az) (l₂ := bs)).trans ((mergeS_perm (a :: az) bs).cons b)
  ·exact (mergeS_perm az (b :: bs)).cons a
termination_by a b => a.length + b.length
def Rising (l : List Item) : Prop := l.Pairwise (fun x y => x.1 <= y.1)
theorem mergeS_rising : ∀ a b, Rising a -> Rising b -> Rising (mergeS a b)
 | [], b, _, hb => by unfold mergeS; exact hb
 | a :: az, [], ha, _ => by unfold mergeS; exact ha
 | a :: az, b :: bs, ha, hb => by
  unfold mergeS
  have ha' := List.pairwise_cons.1 ha
  have hb' := List.pairwise_cons.1 hb
  split
  ·rename_i h
   refine List.pairwise_cons.2 ⟨fun y hy => ?_, mergeS_rising (a :: az) bs ha hb'.2⟩
   rcases List.mem_append.1 ((mergeS_perm (a :: az) bs).mem_iff.2 hy) with h1 | h1
   ·rcases List.mem_cons.1 h1 with rfl | h1
    ·omega
    ·have := ha'.1 y h1; omega
   ·exact hb'.1 y h1
  ·rename_i h
   refine List.pairwise_cons.2 ⟨fun y hy => ?_, mergeS_rising az (b :: bs) ha'.2 hb⟩
   rcases List.mem_append.1 ((mergeS_perm az (b :: bs)).mem_iff.2 hy) with h1 | h1
   ·exact ha'.1 y h1
   ·rcases List.mem_cons.1 h1 with rfl | h1
    ·omega
    ·have := hb'.1 y h1; omega
termination_by a b => a.length + b.length
theorem pairS_mem : ∀ l x, Rising l -> (∀ z ∈ l, x <= z.1) -> ∀ y ∈ pairS l, x + x <= y.1
 | [], _, _, _, y, hy => by cases hy
 | [_], _, _, _, y, hy => by cases hy
 | a :: b :: l, x, hr, h, y, hy => by
  have h1 := h a (List.mem_cons_self ..)
  have h2 := h b (List.mem_cons_of_mem _ (List.mem_cons_self ..))
  rcases List.mem_cons.1 hy with rfl | hy
  ·show x + x <= a.1 + b.1
   omega
  ·exact pairS_mem l x ((List.pairwise_cons.1 (List.pairwise_cons.1 hr).2).2) (fun z hz => h z (List.mem_cons_of_mem _ (List.mem_cons_of_mem _ hz))) y hy
theorem pairS_rising : ∀ l, Rising l -> Rising (pairS l)
 | [], _ => List.Pairwise.nil
 | [_], _ => List.Pairwise.nil
 | a :: b :: l, h => by
  have h1 := List.pairwise_cons.1 h
  have h2 := List.pairwise_cons.1 h1.2
  refine List.pairwise_cons.2 ⟨fun y hy => ?_, pairS_rising l h2.2⟩
  have := pairS_mem l b.1 h2.2 (fun z hz => h2.1 z hz) y hy
  have := h1.1 b (List.mem_cons_self ..)
  show a.1 + b.1 <= y.1
  omega
theorem mergeS_take : ∀ (a b : List Item) (m : Nat), Rising a -> m <= a.length + b.length -> ∃ n p, n + p = m /\ n <= a.length /\ p <= b.length /\ (a.take n ++ b.take p).Perm ((mergeS a b).take m) /\ ∀ x ∈ b.take p, ∀ y ∈ a, y.1 <= x.1 -> y ∈ a.take n
 | a, b, 0, _, _ => ⟨0, 0, rfl, Nat.zero_le _, Nat.zero_le _, by simp, fun x hx => by simp at hx⟩
 | [], b, m + 1, _, h => ⟨0, m + 1, by omega, Nat.zero_le _, by simpa using h, by unfold mergeS; simp, fun x _ y hy => by cases hy⟩
 | a :: az, [], m + 1, _, h => ⟨m + 1, 0, rfl, by simpa using h, Nat.zero_le _, by unfold mergeS; simp, fun x hx => by simp at hx⟩
 | a :: az, b :: bs, m + 1, hr, h => by
  unfold mergeS
  have hr' := List.pairwise_cons.1 hr
  split
  ·rename_i hlt
   obtain ⟨n, p, q1, q2, q3, q4, q5⟩ := mergeS_take (a :: az) bs m hr (by simp at h ⊢; omega)
   refine ⟨n, p + 1, by omega, q2, by simpa using q3, ?_, ?_⟩
   ·rw [List.take_succ_cons, List.take_succ_cons]
    exact List.perm_middle.trans (q4.cons b)
   ·intro x hx y hy hle
    rw [List.take_succ_cons] at hx
    rcases List.mem_cons.1 hx with rfl | hx
    ·rcases List.mem_cons.1 hy with rfl | hy
     ·omega
     ·have := hr'.1 y hy; omega
    ·exact q5 x hx y hy hle
  ·obtain ⟨n, p, q1, q2, q3, q4, q5⟩ := mergeS_take az (b :: bs) m hr'.2 (by simp at h ⊢; omega)
   refine ⟨n + 1, p, by omega, by simpa using q2, q3, ?_, ?_⟩
   ·rw [List.take_succ_cons, List.take_succ_cons]
    exact q4.cons a
   ·intro x hx y hy hle
    rw [List.take_succ_cons]
    rcases List.mem_cons.1 hy with rfl | hy
    ·exact List.mem_cons_self ..
    ·exact List.mem_cons_of_mem _ (q5 x hx y hy hle)
termination_by a b => a.length + b.length
def occ (i : Nat) : List Item -> Nat
 | [] => 0
 | x :: l => x.2.count i + occ i l
theorem occ_append (i : Nat) : ∀ a b, occ i (a ++ b) = occ i a + occ i b
 | [], b => by simp [occ]
 | x :: a, b => by
  have := occ_append i a b
  simp only [List.cons_append, occ]
  omega
theorem occ_perm (i : Nat) {a b : List Item} (h : a.Perm b) : occ i a = occ i b := by
 induction h with
 | nil => rfl
 | cons x _ ih => simp only [occ, ih]
 | swap x y l => simp only [occ]; omega
 | trans _ _ h1 h2 => exact h1.trans h2
theorem occ_pairs (i : Nat) : ∀ (p : Nat) (l : List Item), 2 * p <= l.length -> occ i ((pairS l).take p) = occ i (l.take (2 * p))
 | 0, l, _ => by simp [occ]
 | p + 1, [], h => by simp at h
 | p + 1, [x], h => by simp at h; omega
 | p + 1, x :: y :: l, h => by
  have := occ_pairs i p l (by simp at h; omega)
  rw [show 2 * (p + 1) = 2 * p + 1 + 1 by omega]
  simp only [pairS, List.take_succ_cons, occ, List.count_append]
  omega
theorem occ_pos (i : Nat) : ∀ l : List Item, 0 < occ i l -> ∃ x ∈ l, i ∈ x.2
 | [], h => by simp [occ] at h
 | x :: l, h => by
  simp only [occ] at h
  by_cases h1 : 0 < x.2.count i
  ·exact ⟨x, List.mem_cons_self .., List.count_pos_iff.1 h1⟩
  ·obtain ⟨y, hy, hi⟩ := occ_pos i l (by omega)
   exact ⟨y, List.mem_cons_of_mem _ hy, hi⟩
end Go.Proofs.YthmbbpfgbpacnaaGreatDoor.Huf
namespace Go.Proofs.YthmbbpfgbpacnaaGreatDoor.Huf
def rowS (C : List Item) : Nat -> List Item
 | 0 => []
 | t + 1 => mergeS C (pairS (rowS C t))
theorem rowS_rising {C : List Item} (h : Rising C) : ∀ t, Rising (rowS C t)
 | 0 => List.Pairwise.nil
 | t + 1 => mergeS_rising _ _ h (pairS_rising _ (rowS_rising h t))
def coin (val : Nat -> Nat) (i : Nat) : Item := (val i, [i])
theorem pairS_worth (P : Nat -> Nat -> Prop) (hm : ∀ i c d, P i c -> c <= d -> P i d) : ∀ l : List Item, (∀ x ∈ l, ∀ i ∈ x.2, P i x.1) -> ∀ x ∈ pairS l, ∀ i ∈ x.2, P i x.1
 | [], _, x, hx => by cases hx
 | [_], _, x, hx => by cases hx
 | a :: b :: l, h, x, hx => by
  rcases List.mem_cons.1 hx with rfl | hx
  ·intro i hi
   rcases List.mem_append.1 hi with hi | hi
   ·exact hm i _ _ (h a (List.mem_cons_self ..) i hi) (Nat.le_add_right _ _)
   ·exact hm i _ _ (h b (List.mem_cons_of_mem _ (List.mem_cons_self ..)) i hi) (Nat.le_add_left _ _)
  ·exact pairS_worth P hm l (fun z hz => h z (List.mem_cons_of_mem _ (List.mem_cons_of_mem _ hz))) x hx
theorem row_worth (val : Nat -> Nat) (sy : List Nat) : ∀ t, ∀ x ∈ rowS (sy.map (coin val)) t, ∀ i ∈ x.2, i ∈ sy /\ val i <= x.1
 | 0, x, hx => by cases hx
 | t + 1, x, hx => by
  rcases List.mem_append.1 ((mergeS_perm _ _).mem_iff.2 hx) with h | h
  ·obtain ⟨k, hk, rfl⟩ := List.mem_map.1 h
   intro i hi
   obtain rfl : i = k := by simpa [coin] using hi
   exact ⟨hk, Nat.le_refl _⟩
  ·exact pairS_worth (fun i c => i ∈ sy /\ val i <= c) (fun i c d h1 h2 => ⟨h1.1, Nat.le_trans h1.2 h2⟩) _ (row_worth val sy t) x h
theorem costL_append : ∀ a b, costL (a ++ b) = costL a + costL b
 | [], b => by simp [costL]
 | x :: a, b => by have := costL_append a b; simp only [List.cons_append, costL]; omega
theorem wideL_append (t : Nat) : ∀ a b, wideL t (a ++ b) = wideL t a + wideL t b
 | [], b => by simp [wideL]
 | x :: a, b => by have := wideL_append t a b; simp only [List.cons_append, wideL]; omega
section
variable (val l l' : Nat -> Nat)
theorem cost_one : ∀ A : List Nat, (∀ i ∈ A, l i = 1 + l' i) -> costL (A.map fun i => (val i, l i)) = tot (A.map val) + costL (A.map fun i => (val i, l' i))
 | [], _ => rfl
 | x :: A, h => by
  have ih := cost_one A (fun i hi => h i (List.mem_cons_of_mem _ hi))
  simp only [List.map_cons, costL, tot]
  rw [ih, h x (List.mem_cons_self ..), Nat.mul_add, Nat.mul_one]
  omega
theorem cost_none : ∀ A : List Nat, (∀ i ∈ A, l i = 0) -> costL (A.map fun i => (val i, l i)) = 0
 | [], _ => rfl
 | x :: A, h => by
  have ih := cost_none A (fun i hi => h i (List.mem_cons_of_mem _ hi))
  simp only [List.map_cons, costL]
  rw [ih, h x (List.mem_cons_self ..), Nat.mul_zero]
theorem wide_none (t : Nat) : ∀ A : List Nat, (∀ i ∈ A, l i = 0) -> wideL t (A.map fun i => (val i, l i)) = 0
 | [], _ => rfl
 | x :: A, h => by
  have ih := wide_none t A (fun i hi => h i (List.mem_cons_of_mem _ hi))
  simp only [List.map_cons, wideL]
  rw [ih, h x (List.mem_cons_self ..), Nat.sub_zero, Nat.sub_self]
theorem wide_one (t : Nat) : ∀ A : List Nat, (∀ i ∈ A, l i = 1 + l' i /\ l' i <= t) -> wideL (t + 1) (A.map fun i => (val i, l i)) = A.length * 2 ^ t + wideL t (A.map fun i => (val i, l' i))
 | [], _ => by simp [wideL]
 | x :: A, h => by
  have ih := wide_one t A (fun i hi => h i (List.mem_cons_of_mem _ hi))
  obtain ⟨h1, h2⟩ := h x (List.mem_cons_self ..)
  have hp : (2 : Nat) ^ (t - l' x) <= 2 ^ t := Nat.pow_le_pow_right (by decide) (by omega)
  have e : (2 : Nat) ^ (t + 1) = 2 ^ t + 2 ^ t := by rw [Nat.pow_succ]; omega
  simp only [List.map_cons, wideL, List.length_cons]
  rw [ih, h1, show t + 1 - (1 + l' x) = t - l' x by omega, e, Nat.add_mul, Nat.one_mul]
  clear ih e
  generalize (2 : Nat) ^ (t - l' x) = u at *
  generalize (2 : Nat) ^ t = v at *
  generalize A.length * v = z
  omega
end
theorem occ_coins (val : Nat -> Nat) (i : Nat) : ∀ A : List Nat, occ i (A.map (coin val)) = A.count i
 | [] => rfl
 | x :: A => by
  simp only [List.map_cons, occ, coin, occ_coins val i A, List.count_cons, List.count_nil]
  omega
theorem count_nodup (i : Nat) : ∀ A : List Nat, A.Nodup -> i ∈ A -> A.count i = 1
 | [], _, h => by cases h
 | x :: A, hn, h => by
  have hn' := List.nodup_cons.1 hn
  rcases List.mem_cons.1 h with rfl | h
  ·rw [List.count_cons_self, List.count_eq_zero_of_not_mem hn'.1]
  ·have hne : x ≠ i := fun e => hn'.1 (e ▸ h)
   rw [List.count_cons_of_ne hne, count_nodup i A hn'.2 h]
theorem row_main (val : Nat -> Nat) (sy : List Nat) (hn : sy.Nodup) (hr : Rising (sy.map (coin val))) : ∀ t m, m <= (rowS (sy.map (coin val)) t).length ->
  (∀ i, occ i ((rowS (sy.map (coin val)) t).take m) <= t) /\ 2 * wideL t (sy.map fun i => (val i, occ i ((rowS (sy.map (coin val)) t).take m))) = m * 2 ^ t /\
  costL (sy.map fun i => (val i, occ i ((rowS (sy.map (coin val)) t).take m))) = tot (((rowS (sy.map (coin val)) t).take m).map (·.1))
 | 0, m, h => by
  have hm : m = 0 := by simpa [rowS] using h
  subst hm
  have hz : ∀ i ∈ sy, occ i ((rowS (sy.map (coin val)) 0).take 0) = 0 := fun i _ => by simp [occ]
  rw [wide_none val _ 0 sy hz, cost_none val _ sy hz]
  exact ⟨fun i => by simp [occ], by simp, by simp [tot]⟩
 | t + 1, m, h => by
  have hlen := (mergeS_perm (sy.map (coin val)) (pairS (rowS (sy.map (coin val)) t))).length_eq
  rw [List.length_append] at hlen
  have hw := row_worth val sy t
  obtain ⟨n, p, rfl, q2, q3, q4, q5⟩ := mergeS_take (sy.map (coin val)) (pairS (rowS (sy.map (coin val)) t)) m hr (by rw [hlen]; exact h)
  have hpl := pairS_len (rowS (sy.map (coin val)) t)
  obtain ⟨i1, i2, i3⟩ := row_main val sy hn hr t (2 * p) (by omega)
  have hpw := pairS_worth (fun i c => i ∈ sy /\ val i <= c) (fun i c d h1 h2 => ⟨h1.1, Nat.le_trans h1.2 h2⟩) _ hw
  have ho : ∀ i, occ i ((rowS (sy.map (coin val)) (t + 1)).take (n + p)) = (sy.take n).count i + occ i ((rowS (sy.map (coin val)) t).take (2 * p)) := fun i => by
   show occ i ((mergeS _ _).take (n + p)) = _
   rw [<- occ_perm i q4, occ_append, <- List.map_take, occ_coins, occ_pairs i p _ (by omega)]
  have hv : tot (((rowS (sy.map (coin val)) (t + 1)).take (n + p)).map (·.1)) = tot ((sy.take n).map val) + tot (((rowS (sy.map (coin val)) t).take (2 * p)).map (·.1)) := by
   show tot (((mergeS _ _).take (n + p)).map (·.1)) = _
   rw [<- tot_perm (q4.map (·.1)), List.map_append, tot_append, List.map_take, List.map_map, List.map_take, pairS_fst, (pairUp_take p _ (by rw [List.length_map]; omega)).2, <- List.map_take, <- List.map_take]
   rfl
  have hsplit : sy = sy.take n ++ sy.drop n := (List.take_append_drop _ _).symm
  have hnd := hn
  rw [hsplit] at hnd
  have hdis := (List.nodup_append.1 hnd)
  have hcA : ∀ i ∈ sy.take n, (sy.take n).count i = 1 := fun i hi => count_nodup i _ hdis.1 hi
  have hin : ∀ i, 0 < occ i ((rowS (sy.map (coin val)) t).take (2 * p)) -> i ∈ sy.take n := fun i hi => by
   rw [<- occ_pairs i p _ (by omega)] at hi
   obtain ⟨x, hx, hix⟩ := occ_pos i _ hi
   obtain ⟨hs, hle⟩ := hpw x (List.mem_of_mem_take hx) i hix
   have := q5 x hx (coin val i) (List.mem_map.2 ⟨i, hs, rfl⟩) hle
   rw [<- List.map_take] at this
   obtain ⟨k, hk, e⟩ := List.mem_map.1 this
   have : k = i := by simpa [coin] using congrArg Prod.snd e
   exact this ▸ hk
  have hD : ∀ i ∈ sy.drop n, occ i ((rowS (sy.map (coin val)) t).take (2 * p)) = 0 := fun i hi => by
   rcases Nat.eq_zero_or_pos (occ i ((rowS (sy.map (coin val)) t).take (2 * p))) with h0 | h0
   ·exact h0
   ·exact absurd rfl (hdis.2.2 i (hin i h0) i hi)
  have hD2 : ∀ i ∈ sy.drop n, occ i ((rowS (sy.map (coin val)) (t + 1)).take (n + p)) = 0 := fun i hi => by
   rw [ho, hD i hi, List.count_eq_zero_of_not_mem (fun hA => absurd rfl (hdis.2.2 i hA i hi))]
  have hA2 : ∀ i ∈ sy.take n, occ i ((rowS (sy.map (coin val)) (t + 1)).take (n + p)) = 1 + occ i ((rowS (sy.map (coin val)) t).take (2 * p)) := fun i hi => by rw [ho, hcA i hi]
  have hnl : (sy.take n).length = n := by rw [List.length_take]; rw [List.length_map] at q2; omega
  refine ⟨fun i => ?_, ?_, ?_⟩
  ·rw [ho]
   by_cases hi : i ∈ sy.take n
   ·rw [hcA i hi]; have := i1 i; omega
   ·rw [List.count_eq_zero_of_not_mem hi]; have := i1 i; omega
  ·have e1 := wide_one val _ _ t (sy.take n) (fun i hi => ⟨hA2 i hi, i1 i⟩)
   have e2 := wide_none val _ (t + 1) (sy.drop n) hD2
   have e3 := wide_none val _ t (sy.drop n) hD
   have s1 : wideL (t + 1) (sy.map fun i => (val i, occ i ((rowS (sy.map (coin val)) (t + 1)).take (n + p)))) = n * 2 ^ t + wideL t (sy.map fun i => (val i, occ i ((rowS (sy.map (coin val)) t).take (2 * p)))) := by
    generalize (fun i => (val i, occ i ((rowS (sy.map (coin val)) (t + 1)).take (n + p)))) = f1 at *
    generalize (fun i => (val i, occ i ((rowS (sy.map (coin val)) t).take (2 * p)))) = f2 at *
    have g1 : wideL (t + 1) (sy.map f1) = wideL (t + 1) ((sy.take n).map f1) + wideL (t + 1) ((sy.drop n).map f1) := by rw [<- wideL_append, <- List.map_append, List.take_append_drop]
    have g2 : wideL t (sy.map f2) = wideL t ((sy.take n).map f2) + wideL t ((sy.drop n).map f2) := by rw [<- wideL_append, <- List.map_append, List.take_append_drop]
    rw [g1, g2, e1, e2, e3, hnl]
    rfl
   rw [s1, Nat.mul_add, i2, Nat.pow_succ, Nat.add_mul]
   generalize (2 : Nat) ^ t = v
   rw [Nat.mul_assoc 2 p v, <- Nat.mul_assoc n v 2, <- Nat.mul_assoc p v 2]
   generalize n * v = a
   generalize p * v = b
   omega
  ·have e1 := cost_one val _ _ (sy.take n) hA2
   have e2 := cost_none val _ (sy.drop n) hD2
   have e3 := cost_none val _ (sy.drop n) hD
   rw [hv, <- i3]
   generalize (fun i => (val i, occ i ((rowS (sy.map (coin val)) (t + 1)).take (n + p)))) = f1 at *
   generalize (fun i => (val i, occ i ((rowS (sy.map (coin val)) t).take (2 * p)))) = f2 at *
   have g1 : costL (sy.map f1) = costL ((sy.take n).map f1) + costL ((sy.drop n).map f1) := by rw [<- costL_append, <- List.map_append, List.take_append_drop]
   have g2 : costL (sy.map f2) = costL ((sy.take n).map f2) + costL ((sy.drop n).map f2) := by rw [<- costL_append, <- List.map_append, List.take_append_drop]
   rw [g1, g2, e1, e2, e3]
   omega
end Go.Proofs.YthmbbpfgbpacnaaGreatDoor.Huf
