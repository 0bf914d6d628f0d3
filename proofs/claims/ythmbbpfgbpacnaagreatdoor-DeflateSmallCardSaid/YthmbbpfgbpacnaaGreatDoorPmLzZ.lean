/- A region that draws its order and only reads, inside a round of a range over a function. Package lz: greatest walked. same of the statements on lz: two lists of the same pieces. -/
import Derived.Test.YthmbbpfgbpacnaaGreatDoorPmRangeOff
import Derived.Sort.QuietIn
import Derived.Test.YthmbbpfgbpacnaaGreatDoorPmLzQ
namespace Go.Proofs.YthmbbpfgbpacnaaGreatDoor.Rng
open Go.RowKit Go.Shelf
variable {F : Fence} {n : Nat} {P : Program}
theorem uponIn_round {l : Nat} {o : Oper} {a : Act} {N1 N2 : Act -> World -> Prop} {Q : Exit -> Act -> World -> Prop} (h12 : ∀ a w, N1 a w -> N2 a w) {r : Result Next} (h : o.uponIn F n P a N1 Q r) : o.uponIn (F.inRound l) n P a N2 Q r := by
 cases r with
 | ok x w' =>
  cases x with
  | value u => exact h12 _ _ h
  | skip => exact h12 _ _ h
  | defer d => exact h12 _ _ h
  | enter f args =>
   refine ⟨h.1, CallsIn.inRound l (CallsIn.mono h.2 fun e w'' he => ?_)⟩
   cases e with
   | returned u => exact h12 _ _ he
   | panicked c => exact he
   | outgrown => exact he
  | row row args => exact ⟨h.1, RowsIn.mono (F := F) h.2 fun u w'' he => h12 _ _ he⟩
  | round l' f tmps assign body =>
   refine ⟨h.1, RoundIn.mono (F := F) h.2 fun e w'' he => ?_⟩
   cases e with
   | returned u => exact h12 _ _ he
   | panicked c => exact he
   | outgrown => exact he
  | _ => exact h.elim
 | halt x w' =>
  cases x with
  | panic u => exact h
  | _ => exact h.elim
theorem opsIn_round {l : Nat} {ops : Array Oper} {Q : Exit -> Act -> World -> Prop} (hnd : ∀ (i : Nat) (o : Oper), ops[i]? = some o -> ∀ c, o.op ≠ .defer c) (L : List Nat) :
  ∀ (a : Act) (w : World), wpOpsIn F n P ops Q L a w -> wpOpsIn (F.inRound l) n P ops Q L a w := by
 induction L with
 | nil => exact fun a w h => h
 | cons i rest ih =>
  intro a w h
  simp only [wpOpsIn] at h ⊢
  cases ho : ops[i]? with
  | none => simp only [ho] at h ⊢; exact ih a w h
  | some o =>
   simp only [ho] at h ⊢
   split
   ·rename_i hw
    simp only [hw, if_true] at h
    refine ⟨h.1, ?_⟩
    have h2 := h.2
    rw [Oper.semAt_eq _ _ _ (hnd i o ho)] at h2 ⊢
    exact uponIn_round ih h2
   ·rename_i hw
    simp only [hw] at h
    exact ⟨h.1, ih _ _ h.2⟩
def noDefer (l : List Oper) : Bool := l.all fun o => match o.op with | .defer _ => false | _ => true
theorem wpIn_quiet_round {lp : Nat} {id : Nat} {Q : Exit -> Act -> World -> Prop} {a : Act} {w : World} {l : List Oper} (hro : F.round = none) (hm : P.follows .mixedOrders = true) (hB : Region.lexB .any l.toArray = true) (hnd : noDefer l = true)
  (h : wpQuietIn F n P l.toArray (fun w' => ∃ n, w' = w.drewN n) (fun a' => ∀ w', (∃ n, w' = w.drewN n) -> Q .normal a' w') l a) : (Code.region id l.toArray true).wpIn (F.inRound lp) n P Q a w := by
 have hnd2 : ∀ (i : Nat) (o : Oper), l.toArray[i]? = some o -> ∀ c, o.op ≠ .defer c := fun i o ho c hc => by
  have hm : o ∈ l := by
   have := List.mem_of_getElem? (l := l) (i := i) (by simpa using ho)
   exact this
  have := List.all_eq_true.1 hnd o hm
  simp [hc] at this
 refine wpIn_region_draw fun t => opsIn_round hnd2 _ _ _ ?_
 simp only [Region.schedule, hm, Bool.true_or, if_true]
 refine wpAnyIn_sound l.toArray.size t _ a _ ?_
 simp only [Region.lexB, Bool.and_eq_true] at hB
 refine wpAnyIn_of_quiet (Q := fun a' => ∀ w', (∃ n, w' = w.drewN n) -> Q .normal a' w') (C := fun w' => ∃ n, w' = w.drewN n) hro (fun _ w' hw' h => h w' hw') _ _ _ _ ⟨1, rfl⟩ ?_
 have := wpAnyQIn_lex (F := F) (n := n) (C := fun w' => ∃ n, w' = w.drewN n) (md := .any) hB.1 l.toArray.toList 0 (Array.replicate l.toArray.size false) a (by simp) (by simpa using hB.2) (by simpa using h)
 simpa using this
end Go.Proofs.YthmbbpfgbpacnaaGreatDoor.Rng
namespace Go.Proofs.YthmbbpfgbpacnaaGreatDoor.Lz
open Go.RowKit Go.Shelf Go.Lib Mem Huf
attribute [local go_sem] Oper.semAt_some
theorem alloc5 (W : World) (o0 o1 o2 o3 o4 : Obj) : Below W.heap.size W (((((W.alloc o0).alloc o1).alloc o2).alloc o3).alloc o4) /\ (((((W.alloc o0).alloc o1).alloc o2).alloc o3).alloc o4).heap.size = W.heap.size + 5 /\
  (((((W.alloc o0).alloc o1).alloc o2).alloc o3).alloc o4).heap[W.heap.size]? = some o0 /\ (((((W.alloc o0).alloc o1).alloc o2).alloc o3).alloc o4).heap[W.heap.size + 1]? = some o1 /\ (((((W.alloc o0).alloc o1).alloc o2).alloc o3).alloc o4).heap[W.heap.size + 2]? = some o2 /\
  (((((W.alloc o0).alloc o1).alloc o2).alloc o3).alloc o4).heap[W.heap.size + 3]? = some o3 /\ (((((W.alloc o0).alloc o1).alloc o2).alloc o3).alloc o4).heap[W.heap.size + 4]? = some o4 := by
 refine ⟨((((((Below.refl _ W).alloc (Nat.le_refl _) _).alloc (by simp) _).alloc (by simp; omega) _).alloc (by simp; omega) _).alloc (by simp; omega) _), by simp, ?_, ?_, ?_, ?_, ?_⟩
 ·exact (Below.heap_alloc _ _ _ (by simp only [World.size_alloc]; omega)).trans ((Below.heap_alloc _ _ _ (by simp only [World.size_alloc]; omega)).trans ((Below.heap_alloc _ _ _ (by simp only [World.size_alloc]; omega)).trans ((Below.heap_alloc _ _ _ (by simp only [World.size_alloc]; omega)).trans (heap_alloc_new _ _))))
 ·exact (Below.heap_alloc _ _ _ (by simp only [World.size_alloc]; omega)).trans ((Below.heap_alloc _ _ _ (by simp only [World.size_alloc]; omega)).trans ((Below.heap_alloc _ _ _ (by simp only [World.size_alloc]; omega)).trans (heap_alloc2_new _ _ _)))
 ·exact (Below.heap_alloc _ _ _ (by simp only [World.size_alloc]; omega)).trans ((Below.heap_alloc _ _ _ (by simp only [World.size_alloc]; omega)).trans (by have := heap_alloc2_new (W.alloc o0) o1 o2; rwa [World.size_alloc] at this))
 ·exact (Below.heap_alloc _ _ _ (by simp only [World.size_alloc]; omega)).trans (by have := heap_alloc2_new ((W.alloc o0).alloc o1) o2 o3; rwa [World.size_alloc, World.size_alloc] at this)
 ·have := heap_alloc2_new (((W.alloc o0).alloc o1).alloc o2) o3 o4
  rwa [World.size_alloc, World.size_alloc, World.size_alloc] at this
theorem add_add (a : Addr) (l j : Nat) : (a.add l).add j = a.add (l + j) := by
 unfold Addr.add
 by_cases hl : l = 0
 ·subst hl; simp
 ·by_cases hj : j = 0
  ·subst hj; simp [hl]
  ·simp [hl, hj]; omega
theorem src_from {W : World} {a : Addr} {c1 : Nat} {b : List UInt8} (h : Src W (.slice (some a) b.length c1) b) (q : Nat) (hq : q <= b.length) (c2 : Nat) : Src W (.slice (some (a.add q)) (b.length - q) c2) (b.drop q) := by
 refine .inr ⟨a.add q, c2, by rw [List.length_drop], fun i v hi => ?_⟩
 have hil : i < b.length - q := by
  have := (List.getElem?_eq_some_iff.1 hi).1
  rwa [bVs_len, List.length_drop] at this
 rw [add_add]
 rw [bVs, List.getElem?_map, List.getElem?_drop] at hi
 rw [List.getElem?_eq_getElem (show q + i < b.length by omega)] at hi
 rw [src_cell h (q + i) (by omega)]
 exact hi
theorem src_rest {W : World} {a : Addr} {c1 : Nat} {b : List UInt8} (h : Src W (.slice (some a) b.length c1) b) (j : Nat) (hj : j <= b.length) (m : Nat) (hm : m = min (b.length - j) 258) (c2 : Nat) : Src W (.slice (some (a.add j)) m c2) (restN b j) := by
 have h1 := src_from h j hj c2
 have := src_take h1 (m := m) (by rw [List.length_drop]; omega)
 unfold restN
 have e : (b.drop j).take 258 = (b.drop j).take m := by
  rw [hm, <- List.length_drop]
  by_cases hc : 258 <= (b.drop j).length
  ·rw [Nat.min_eq_right hc]
  ·rw [Nat.min_eq_left (by omega), List.take_length, List.take_of_length_le (by omega)]
 rw [e]
 exact this
theorem great_leave (W W' : World) (B2 B3 D : Nat) (x y : Int) (tm : Array Value) (h2 : W'.heap[B2]? = some (.cells #[.int .i64 x] 3 (0, 0))) (h3 : W'.heap[B3]? = some (.cells #[.int .i64 y] 3 (0, 0))) (hD : W'.heap[D]? = some (.deferred (some []))) (hb : Below W.heap.size W W')
  (hq : W.heap.size <= B2 /\ W.heap.size <= B3 /\ W.heap.size <= D /\ B2 ≠ B3 /\ B2 ≠ D /\ B3 ≠ D) (t4 : tm.getD 4 undef = .pointer (some ⟨B2, 0, none⟩)) (t5 : tm.getD 5 undef = .pointer (some ⟨B3, 0, none⟩)) :
  bodyPostM Fence.wide 9 Tryz.prog Tryz.f100 (fun e w' => e = .returned (.tuple #[.int .i64 x, .int .i64 y]) /\ Below W.heap.size W w') .ret { tmps := tm, defers := [{ target := .collected D, args := #[] }] } ((W'.setCell ⟨B2, 0, none⟩ (.int .i64 x)).setCell ⟨B3, 0, none⟩ (.int .i64 y)).drew := by
 obtain ⟨V, hV⟩ : ∃ V, V = ((W'.setCell ⟨B2, 0, none⟩ (.int .i64 x)).setCell ⟨B3, 0, none⟩ (.int .i64 y)).drew := ⟨_, rfl⟩
 rw [<- hV]
 obtain ⟨q1, q2, q3, q4, q5, q6⟩ := hq
 have ho : Only (fun k => k = B2 \/ k = B3) W' V := by
  rw [hV]
  exact ((Only.setCell (S := fun k => k = B2 \/ k = B3) (.inl rfl) _ _).trans (Only.setCell (S := fun k => k = B2 \/ k = B3) (.inr rfl) _ _) (fun i q => .inl q)).trans (Drew.drewN _ 1).only (fun i q => .inl q)
 have k2 : V.cell? ⟨B2, 0, none⟩ = some (.int .i64 x) := by
  rw [hV]
  show ((W'.setCell ⟨B2, 0, none⟩ (.int .i64 x)).setCell ⟨B3, 0, none⟩ (.int .i64 y)).cell? ⟨B2, 0, none⟩ = _
  rw [cell_same (p := ⟨B2, 0, none⟩) (w := W'.setCell ⟨B2, 0, none⟩ (.int .i64 x)) (Below.heap_setCell _ _ _ _ q4), Lib.cell_of_heap (Lib.heap_setCell_same (i := 0) h2 _)]
  rfl
 have k3 : V.cell? ⟨B3, 0, none⟩ = some (.int .i64 y) := by
  rw [hV]
  have h3' : (W'.setCell ⟨B2, 0, none⟩ (.int .i64 x)).heap[B3]? = some (.cells #[.int .i64 y] 3 (0, 0)) := (Below.heap_setCell _ _ _ _ (fun e => q4 e.symm)).trans h3
  show ((W'.setCell ⟨B2, 0, none⟩ (.int .i64 x)).setCell ⟨B3, 0, none⟩ (.int .i64 y)).cell? ⟨B3, 0, none⟩ = _
  rw [Lib.cell_of_heap (Lib.heap_setCell_same (i := 0) h3' _)]
  rfl
 have kD : V.heap[D]? = some (.deferred (some [])) := (ho.block D (Array.getElem?_eq_some_iff.1 hD).1 (by rintro (h | h) <;> omega)).trans hD
 have hbV : Below W.heap.size W V := hb.trans (ho.below hb.size (by rintro k (h | h) <;> omega))
 refine ⟨by simp, .inl ⟨_, _, rfl, run_takeDeferred kD, ?_⟩⟩
 refine ⟨_, results_cells2 rfl _ _ ⟨B2, 0, none⟩ ⟨B3, 0, none⟩ x y t4 t5 ((cell_same (World.putObj_heap_other q5)).trans k2) ((cell_same (World.putObj_heap_other q6)).trans k3), rfl, hbV.trans ⟨rfl, rfl, rfl, by simp [World.putObj], fun k hk => World.putObj_heap_other (by omega)⟩⟩
set_option maxRecDepth 100000 in
set_option maxHeartbeats 4000000 in
theorem greatest_any (W : World) (a p : Addr) (c1 c : Nat) (b : List UInt8) (wd dp j : Nat) (hx : Src W (.slice (some a) b.length c1) b) (hc1 : b.length <= c1) (hs : ∀ i v, (iVs (stepsL b))[i]? = some v -> W.cell? (p.add i) = some v)
  (hb : b.length <= 1048576) (hj : j < b.length) (hw : wd <= 32768) (hd : dp <= 4096) :
  Calls Tryz.prog 100 #[.agg #[.slice (some a) b.length c1, .slice (some p) b.length c, .int .i64 (wd : Int), .int .i64 (dp : Int)], .int .i64 (j : Int)] W fun e w' =>
   e = .returned (.tuple #[.int .i64 ((greatN b wd dp j).1 : Nat), .int .i64 ((greatN b wd dp j).2 : Nat)]) /\ Below W.heap.size W w' := by
 have HC := fun w (h : Below W.heap.size W w) => Lib.hid (cands_any w (.slice (some a) b.length c1) p c b wd dp j (fun i v hi => (h.cell (block_lt_of_cell (hs i v hi))).trans (hs i v hi)))
 have HX : Aside (Src W (.slice (some a) b.length c1) b) := hx
 have HS := Lib.hid hs
 have hpb : p.block < W.heap.size := by
  have := block_lt_of_cell (hs 0 _ (iVs_at (stepsL b) 0 (by rw [stepsL_len]; omega)))
  rwa [Lib.block_add] at this
 obtain ⟨r, hr⟩ : ∃ r, r = b.length - j := ⟨_, rfl⟩
 have z1 : (b.length : Int) - (j : Int) = (r : Int) := by omega
 obtain ⟨m, hm⟩ : ∃ m, m = min r 258 := ⟨_, rfl⟩
 have z2 : min (r : Int) 258 = (m : Int) := by omega
 have j0 : (0 : Int) <= (j : Int) := by omega
 have jl : (j : Int) <= (b.length : Int) := by omega
 clear hx hs
 refine (callsIn_wide (n := 9)).1 ?_
 refine callsIn_of_wp_marks Tryz.func100 rfl trivial ?_ rfl
 simp only [Tryz.ntmps100, List.size_toArray, List.length_cons, List.length_nil, Nat.reduceAdd, Nat.reduceSub, Array.replicate_succ, Array.replicate_zero, List.push_toArray, List.append_toArray, List.nil_append, List.cons_append]
 obtain ⟨N, hN⟩ : ∃ N, N = W.heap.size := ⟨_, rfl⟩
 obtain ⟨U, hU⟩ : ∃ U, U = (((((W.alloc (Obj.cells #[Value.slice (some a) b.length c1, Value.slice (some p) b.length c, Value.int IntKind.i64 (wd : Int), Value.int IntKind.i64 (dp : Int)] 132)).alloc (Obj.cells #[Value.int IntKind.i64 (j : Int)] 3)).alloc (Obj.cells #[Value.int IntKind.i64 0] 3)).alloc (Obj.cells #[Value.int IntKind.i64 0] 3)).alloc (Obj.cells #[Value.slice (some (a.add j)) (min (((b.length - j : Nat)) : Int) 258).toNat (c1 - j)] 22)) := ⟨_, rfl⟩
 have hmm : (min (((b.length - j : Nat)) : Int) 258).toNat = m := by omega
 have hU0 : Below W.heap.size W U /\ U.heap.size = N + 5 /\ U.heap[N]? = some (Obj.cells #[Value.slice (some a) b.length c1, Value.slice (some p) b.length c, Value.int IntKind.i64 (wd : Int), Value.int IntKind.i64 (dp : Int)] 132 (0, 0)) /\ U.heap[N + 1]? = some (Obj.cells #[Value.int IntKind.i64 (j : Int)] 3 (0, 0)) /\ U.heap[N + 2]? = some (Obj.cells #[Value.int IntKind.i64 0] 3 (0, 0)) /\ U.heap[N + 3]? = some (Obj.cells #[Value.int IntKind.i64 0] 3 (0, 0)) /\ U.heap[N + 4]? = some (Obj.cells #[Value.slice (some (a.add j)) m (c1 - j)] 22 (0, 0)) := by
  rw [hU, hN, <- hmm]
  exact alloc5 W _ _ _ _ _
 have HMM : Aside ((min (((b.length - j : Nat)) : Int) 258).toNat = m) := hmm
 clear hmm
 gi_wp2_with (fail)
 rw [<- hU]
 clear hU
 refine ⟨trivial, (callsIn_wide.2 (HC U hU0.1).out).mono ?_⟩
 rintro e w1 ⟨rfl, hB, hb1, hsz⟩
 gi_wp2_with (fail)
 obtain ⟨B6, hB6⟩ : ∃ B, B = W.heap.size + 5 + 1 := ⟨_, rfl⟩
 obtain ⟨B5, hB5⟩ : ∃ B, B = W.heap.size + 5 := ⟨_, rfl⟩
 obtain ⟨B4, hB4⟩ : ∃ B, B = W.heap.size + 1 + 1 + 1 + 1 := ⟨_, rfl⟩
 obtain ⟨B3, hB3⟩ : ∃ B, B = W.heap.size + 1 + 1 + 1 := ⟨_, rfl⟩
 obtain ⟨B2, hB2⟩ : ∃ B, B = W.heap.size + 1 + 1 := ⟨_, rfl⟩
 obtain ⟨B1, hB1⟩ : ∃ B, B = W.heap.size + 1 := ⟨_, rfl⟩
 rw [<- hB6, <- hB5, <- hB4, <- hB3, <- hB2, <- hB1, <- hN]
 rw [HMM.out]
 have hsz1 : w1.heap.size = N + 7 := by rw [hsz, hU0.2.1]
 have e5 : U.heap.size = B5 := by rw [hU0.2.1, hB5, hN]
 have e6 : U.heap.size + 1 = B6 := by rw [hU0.2.1, hB6, hN]
 rw [e6, e5] at hB
 have hbW : Below W.heap.size W w1 := hU0.1.trans (hb1.mono hU0.1.size)
 have hcells : w1.heap[N]? = some (Obj.cells #[Value.slice (some a) b.length c1, Value.slice (some p) b.length c, Value.int IntKind.i64 (wd : Int), Value.int IntKind.i64 (dp : Int)] 132 (0, 0)) /\ w1.heap[B1]? = some (Obj.cells #[Value.int IntKind.i64 (j : Int)] 3 (0, 0)) /\ w1.heap[B2]? = some (Obj.cells #[Value.int IntKind.i64 0] 3 (0, 0)) /\ w1.heap[B3]? = some (Obj.cells #[Value.int IntKind.i64 0] 3 (0, 0)) /\ w1.heap[B4]? = some (Obj.cells #[Value.slice (some (a.add j)) m (c1 - j)] 22 (0, 0)) := by
  obtain ⟨q0, q1, q2, q3, q4, q5, q6⟩ := hU0
  rw [hB1, hB2, hB3, hB4, <- hN]
  exact ⟨(hb1.block _ (by omega)).trans q2, (hb1.block _ (by omega)).trans q3, (hb1.block _ (by omega)).trans q4, (hb1.block _ (by omega)).trans q5, (hb1.block _ (by omega)).trans q6⟩
 have hBs : B1 = N + 1 /\ B2 = N + 2 /\ B3 = N + 3 /\ B4 = N + 4 /\ B5 = N + 5 /\ B6 = N + 6 := ⟨by omega, by omega, by omega, by omega, by omega, by omega⟩
 clear hB1 hB2 hB3 hB4 hB5 hB6 hU0 hb1 hsz e5 e6 HC HMM
 have hmle : ∀ d, alikeN b (j - d) j <= m := fun d => by
  have := alikeN_le b (j - d) j
  omega
 have hkeep : ∀ r, (r = B5 \/ r = B6 \/ r = p.block) -> r < w1.heap.size := by rintro r (rfl | rfl | rfl) <;> omega
 have h00 : (bestTo b wd dp j 0).1 < m := by rw [bestTo_zero]; show 0 < m; omega
 have HB : Aside (B1 = N + 1 /\ B2 = N + 2 /\ B3 = N + 3 /\ B4 = N + 4 /\ B5 = N + 5 /\ B6 = N + 6 /\ N = W.heap.size /\ w1.heap.size = N + 7) := ⟨hBs.1, hBs.2.1, hBs.2.2.1, hBs.2.2.2.1, hBs.2.2.2.2.1, hBs.2.2.2.2.2, hN, hsz1⟩
 have HM : Aside (m = min r 258 /\ r = b.length - j) := ⟨hm, hr⟩
 clear hBs hN hsz1 hm hr
 refine Rng.wpIn_rangeOff rfl (by omega) (gf := 148) (lb := #[.pointer (some ⟨B5, 0, none⟩), .pointer (some ⟨B6, 0, none⟩)]) rfl trivial
  (enters_of Tryz.func148 (by kernel_rfl) rfl)
  (cand_iter b wd dp j hb hj hd _ B5 B6 _ p c w1 hB)
  hkeep (fun _ => rfl)
  (fun k W' => (bestTo b wd dp j k).1 < m /\ (W'.heap[N]? = some (Obj.cells #[Value.slice (some a) b.length c1, Value.slice (some p) b.length c, Value.int IntKind.i64 (wd : Int), Value.int IntKind.i64 (dp : Int)] 132 (0, 0)) /\ W'.heap[B1]? = some (Obj.cells #[Value.int IntKind.i64 (j : Int)] 3 (0, 0)) /\ W'.heap[B2]? = some (Obj.cells #[Value.int IntKind.i64 ((bestTo b wd dp j k).1 : Nat)] 3 (0, 0)) /\ W'.heap[B3]? = some (Obj.cells #[Value.int IntKind.i64 ((bestTo b wd dp j k).2 : Nat)] 3 (0, 0)) /\ W'.heap[B4]? = some (Obj.cells #[Value.slice (some (a.add j)) m (c1 - j)] 22 (0, 0))) /\ Below W.heap.size W W')
  (fun cd k W' => cd = .exit 0 /\ (bestTo b wd dp j k).1 = m /\ (W'.heap[B2]? = some (Obj.cells #[Value.int IntKind.i64 ((bestTo b wd dp j k).1 : Nat)] 3 (0, 0)) /\ W'.heap[B3]? = some (Obj.cells #[Value.int IntKind.i64 ((bestTo b wd dp j k).2 : Nat)] 3 (0, 0))) /\ Below W.heap.size W W')
  ?hI ?hIx ⟨h00, by rw [bestTo_zero]; exact hcells, hbW⟩
  (fun x => { tmps := #[Value.agg #[Value.slice (some a) b.length c1, Value.slice (some p) b.length c, Value.int IntKind.i64 (wd : Int), Value.int IntKind.i64 (dp : Int)],
     Value.int IntKind.i64 (j : Int), Value.pointer (some ⟨N, 0, none⟩), Value.pointer (some ⟨B1, 0, none⟩), Value.pointer (some ⟨B2, 0, none⟩), Value.pointer (some ⟨B3, 0, none⟩), Value.pointer (some ⟨B4, 0, none⟩), Value.int IntKind.i64 (x : Int), undef,
     undef, Value.pointer (some ⟨N, 0, none⟩), Value.slice (some a) b.length c1,
     Value.int IntKind.i64 (j : Int), Value.slice (some (a.add j)) (b.length - j) (c1 - j), Value.slice (some (a.add j)) (b.length - j) (c1 - j), Value.slice (some (a.add j)) (b.length - j) (c1 - j),
     Value.int IntKind.i64 ((b.length - j : Nat) : Int), Value.int IntKind.i64 (min ((b.length - j : Nat) : Int) 258), Value.slice (some (a.add j)) m (c1 - j),
     Value.agg #[Value.slice (some a) b.length c1, Value.slice (some p) b.length c, Value.int IntKind.i64 (wd : Int), Value.int IntKind.i64 (dp : Int)],
     Value.int IntKind.i64 (j : Int), Value.func (Fn.func 148) #[] #[Value.pointer (some ⟨B5, 0, none⟩), Value.pointer (some ⟨B6, 0, none⟩)],
     Value.int IntKind.i64 (x : Int), undef, undef, undef, undef, undef, undef, undef, undef, undef, undef, undef, undef, undef, undef, undef, undef, undef, undef, undef, undef, undef, undef, undef, undef, undef, undef, undef, undef, undef], defers := [] }) ?assign ?body ?done ?stop
 case hI =>
  rintro k A B ⟨h0, ⟨h1, h2, h3, h4, h5⟩, h6⟩ hbut
  have hBB := HB.out
  have hk : ∀ r o, r < N + 7 -> A.heap[r]? = some o -> B.heap[r]? = some o := fun r o hr ho => (hbut.block r (Array.getElem?_eq_some_iff.1 ho).1 (by rintro (h | h) <;> omega)).trans ho
  exact ⟨h0, ⟨hk _ _ (by omega) h1, hk _ _ (by omega) h2, hk _ _ (by omega) h3, hk _ _ (by omega) h4, hk _ _ (by omega) h5⟩, h6.trans ⟨hbut.os, hbut.tape, hbut.output, hbut.size, fun i hi => hbut.block i (Nat.lt_of_lt_of_le hi h6.size) (by rintro (h | h) <;> omega)⟩⟩
 case hIx =>
  rintro cd k A B ⟨h, h0, ⟨h1, h2⟩, h6⟩ hbut
  have hBB := HB.out
  have hk : ∀ r o, r < N + 7 -> A.heap[r]? = some o -> B.heap[r]? = some o := fun r o hr ho => (hbut.block r (Array.getElem?_eq_some_iff.1 ho).1 (by rintro (h | h) <;> omega)).trans ho
  exact ⟨h, h0, ⟨hk _ _ (by omega) h1, hk _ _ (by omega) h2⟩, h6.trans ⟨hbut.os, hbut.tape, hbut.output, hbut.size, fun i hi => hbut.block i (Nat.lt_of_lt_of_le hi h6.size) (by rintro (h | h) <;> omega)⟩⟩
 case assign =>
  intro l x W K hK
  dsimp only [distEnc]
  gi_wp2
  exact hK
 case body =>
  rintro l k x W' hxk ⟨h0, ⟨h1, h2, h3, h4, h5⟩, h6⟩ hlt
  obtain ⟨hx0, hxj, hxw, hx3⟩ := chain_mem b j wd dp 0 (by omega) (.inl rfl) x (List.mem_of_getElem? hxk)
  obtain ⟨q, hq⟩ : ∃ q, q = j - x := ⟨_, rfl⟩
  have wq : IntKind.i64.wrap ((j : Int) - (x : Int)) = (q : Int) := by rw [IntKind.wrap_i64]; omega
  have q0 : (0 : Int) <= (q : Int) := by omega
  have ql : (q : Int) <= (b.length : Int) := by omega
  have hmr := HM.out
  have hsucc := bestTo_succ b wd dp j k x hxk
  have hle1 := hmle x
  rw [<- hq] at hle1
  unfold bestOf at hsucc
  rw [<- hq] at hsucc
  obtain ⟨t, ht⟩ : ∃ t, t = alikeN b q j := ⟨_, rfl⟩
  obtain ⟨u, hu⟩ : ∃ u, u = (bestTo b wd dp j k).1 := ⟨_, rfl⟩
  obtain ⟨d0, hd0⟩ : ∃ d0, d0 = (bestTo b wd dp j k).2 := ⟨_, rfl⟩
  rw [<- ht] at hle1 hsucc
  rw [<- hu] at h0 h3 hsucc
  rw [<- hd0] at h4
  have hbk : bestTo b wd dp j k = (u, d0) := by rw [hu, hd0]
  rw [hbk] at hsucc
  have hS := HX.out.below h6
  have hul : u < b.length - q := by omega
  have hul2 : j + u < b.length := by omega
  have cb1 : W'.cell? ((a.add q).add u) = some (.int .u8 ((b[q + u]'(by omega)).toNat : Int)) := by
   rw [show (a.add q).add u = a.add (q + u) from add_add a _ _]
   exact src_cell hS (q + u) (by omega)
  have cb2 : W'.cell? ((a.add j).add u) = some (.int .u8 ((b[j + u]'hul2).toNat : Int)) := by
   rw [show (a.add j).add u = a.add (j + u) from add_add a _ _]
   exact src_cell hS (j + u) hul2
  have HK : Aside ((W'.heap[N]? = some (Obj.cells #[Value.slice (some a) b.length c1, Value.slice (some p) b.length c, Value.int IntKind.i64 (wd : Int), Value.int IntKind.i64 (dp : Int)] 132 (0, 0)) /\ W'.heap[B1]? = some (Obj.cells #[Value.int IntKind.i64 (j : Int)] 3 (0, 0)) /\ W'.heap[B2]? = some (Obj.cells #[Value.int IntKind.i64 (u : Int)] 3 (0, 0)) /\ W'.heap[B3]? = some (Obj.cells #[Value.int IntKind.i64 (d0 : Int)] 3 (0, 0)) /\ W'.heap[B4]? = some (Obj.cells #[Value.slice (some (a.add j)) m (c1 - j)] 22 (0, 0))) /\ Below W.heap.size W W') := ⟨⟨h1, h2, h3, h4, h5⟩, h6⟩
  have k0 : W'.cell? ⟨N, 0, none⟩ = some (.slice (some a) b.length c1) := by rw [Lib.cell_of_heap h1]; rfl
  have k1 : W'.cell? ⟨B1, 0, none⟩ = some (.int .i64 (j : Int)) := by rw [Lib.cell_of_heap h2]; rfl
  have k2 : W'.cell? ⟨B2, 0, none⟩ = some (.int .i64 (u : Int)) := by rw [Lib.cell_of_heap h3]; rfl
  have k3 : W'.cell? ⟨B3, 0, none⟩ = some (.int .i64 (d0 : Int)) := by rw [Lib.cell_of_heap h4]; rfl
  have k4 : W'.cell? ⟨B4, 0, none⟩ = some (.slice (some (a.add j)) m (c1 - j)) := by rw [Lib.cell_of_heap h5]; rfl
  have HT : Aside (t = alikeN b q j /\ q = j - x) := ⟨ht, hq⟩
  have HSU : Aside (bestTo b wd dp j (k + 1) = if t > u then (t, x) else (u, d0)) := hsucc
  have u0 : (0 : Int) <= (u : Int) := by omega
  have u1 : (u : Int) < ((b.length - q : Nat) : Int) := by omega
  have u2 : (u : Int) < (m : Int) := by omega
  have HNE : Aside ((b[q + u]'(by omega)) ≠ b[j + u]'hul2 -> t <= u) := fun hne => by
   rw [ht]
   rcases Nat.lt_or_ge u (alikeN b q j) with hlt2 | hge
   ·have := comm_same _ _ u hlt2
    rw [List.getElem?_drop, List.getElem?_take, if_pos (by omega), List.getElem?_drop, List.getElem?_eq_getElem (by omega), List.getElem?_eq_getElem hul2] at this
    exact absurd (by simpa using this) hne
   ·exact hge
  generalize (b[q + u]'(by omega)) = y1 at *
  generalize (b[j + u]'hul2) = y2 at *
  clear hsucc ht hq hu hd0 hbk h1 h2 h3 h4 h5 h6 hS hmr hx3 hul hul2 hxk hle1
  have HF1 : Aside (∀ w, Drew W' w -> W'.heap.size <= w.heap.size /\ (∀ r, ((r = B5 \/ r = B6 \/ r = p.block) \/ r = w1.heap.size \/ r = w1.heap.size + 1) -> w.heap[r]? = W'.heap[r]?) /\ (w.heap[N]? = some (Obj.cells #[Value.slice (some a) b.length c1, Value.slice (some p) b.length c, Value.int IntKind.i64 (wd : Int), Value.int IntKind.i64 (dp : Int)] 132 (0, 0)) /\ w.heap[B1]? = some (Obj.cells #[Value.int IntKind.i64 (j : Int)] 3 (0, 0)) /\ w.heap[B2]? = some (Obj.cells #[Value.int IntKind.i64 (u : Int)] 3 (0, 0)) /\ w.heap[B3]? = some (Obj.cells #[Value.int IntKind.i64 (d0 : Int)] 3 (0, 0)) /\ w.heap[B4]? = some (Obj.cells #[Value.slice (some (a.add j)) m (c1 - j)] 22 (0, 0))) /\ Below W.heap.size W w) := fun w hd => by
   refine ⟨by rw [hd.heap]; exact Nat.le_refl _, fun r _ => by rw [hd.heap], ?_, HK.out.2.trans (hd.below _)⟩
   rw [hd.heap]
   exact HK.out.1
  have HF2 : Aside (∀ w0 w, Drew W' w0 -> w = (w0.setCell ⟨B2, 0, none⟩ (.int .i64 (t : Int))).setCell ⟨B3, 0, none⟩ (.int .i64 (x : Int)) -> W'.heap.size <= w.heap.size /\ (∀ r, ((r = B5 \/ r = B6 \/ r = p.block) \/ r = w1.heap.size \/ r = w1.heap.size + 1) -> w.heap[r]? = W'.heap[r]?) /\ (w.heap[N]? = some (Obj.cells #[Value.slice (some a) b.length c1, Value.slice (some p) b.length c, Value.int IntKind.i64 (wd : Int), Value.int IntKind.i64 (dp : Int)] 132 (0, 0)) /\ w.heap[B1]? = some (Obj.cells #[Value.int IntKind.i64 (j : Int)] 3 (0, 0)) /\ w.heap[B2]? = some (Obj.cells #[Value.int IntKind.i64 (t : Int)] 3 (0, 0)) /\ w.heap[B3]? = some (Obj.cells #[Value.int IntKind.i64 (x : Int)] 3 (0, 0)) /\ w.heap[B4]? = some (Obj.cells #[Value.slice (some (a.add j)) m (c1 - j)] 22 (0, 0))) /\ Below W.heap.size W w) := fun w0 w hd hw => by
   have hBB := HB.out
   obtain ⟨s0, -, ⟨g0, g1, g2, g3, g4⟩, s3⟩ := HF1.out w0 hd
   have ho : Only (fun k => k = B2 \/ k = B3) w0 w := by
    rw [hw]
    exact (Only.setCell (S := fun k => k = B2 \/ k = B3) (.inl rfl) _ _).trans (Only.setCell (S := fun k => k = B2 \/ k = B3) (.inr rfl) _ _) (fun i q => .inl q)
   have hk : ∀ r o, r ≠ B2 -> r ≠ B3 -> w0.heap[r]? = some o -> w.heap[r]? = some o := fun r o h1 h2 h3 => (ho.block r (Array.getElem?_eq_some_iff.1 h3).1 (by rintro (h | h) <;> omega)).trans h3
   refine ⟨Nat.le_trans s0 ho.size, fun r hr => ?_, ⟨hk _ _ (by omega) (by omega) g0, hk _ _ (by omega) (by omega) g1, ?_, ?_, hk _ _ (by omega) (by omega) g4⟩, s3.trans (ho.below s3.size (by rintro k (h | h) <;> omega))⟩
   ·rw [<- hd.heap]
    exact ho.block r (by have := hd.heap ▸ hlt; rcases hr with (h | h | h) | h | h <;> omega) (by rintro (h | h) <;> (have := hpb; rcases hr with (h' | h' | h') | h' | h' <;> omega))
   ·rw [hw]
    exact (Below.heap_setCell _ _ _ _ (by show B2 ≠ B3; omega)).trans ((Lib.heap_setCell_same (i := 0) g2 _).trans rfl)
   ·rw [hw]
    exact (Lib.heap_setCell_same (i := 0) ((Below.heap_setCell _ _ _ _ (by show B3 ≠ B2; omega)).trans g3) _).trans rfl
  have HCM : Aside (∀ w, Drew W' w -> Calls Tryz.prog 131 #[.slice (some (a.add q)) (b.length - q) (c1 - q), .slice (some (a.add j)) m (c1 - j)] w fun e w' => e = .returned (.int .i64 (t : Int)) /\ w = w') := fun w hd => by
   have hS := HX.out.below (HK.out.2.trans (hd.below _))
   have hM := HM.out
   have hT := HT.out.2
   have s1 : Src w (.slice (some (a.add q)) (b.length - q) (c1 - q)) (b.drop q) := src_from hS q (by omega) _
   have s2 : Src w (.slice (some (a.add j)) m (c1 - j)) (restN b j) := src_rest hS j (by omega) m (by omega) _
   have := common_any w _ _ _ _ s1 s2 (by rw [restN_len, List.length_drop]; omega) (by rw [restN_len]; omega)
   rw [show comm (b.drop q) (restN b j) = t from HT.out.1.symm] at this
   exact this
  have HLE : Aside (t <= m) := by
   show t <= m
   rw [HT.out.1, HT.out.2]
   exact hmle x
  by_cases hyy : y1 = y2
  ·subst hyy
   have hbb : (((y1.toNat : Nat) : Int) != (y1.toNat : Int)) = false := by simp
   gi_wp2_with (fail)
   refine Rng.wpIn_quiet_round (F := Fence.wide) rfl (by kernel_rfl) (by kernel_rfl) (by kernel_rfl) ?_
   repeat (gi_big_quiet_step (fail))
   refine wpQuietIn_nil ?_
   rintro _ ⟨nq, rfl⟩
   gi_wp2_with (fail)
   refine ⟨trivial, (CallsIn.inRound l (callsIn_wide.2 (HCM.out _ (Drew.drewN W' nq)))).mono ?_⟩
   rintro e w3 ⟨rfl, hw3⟩
   have hd3 : Drew W' w3 := hw3 ▸ Drew.drewN W' nq
   have HD3 : Aside (Drew W' w3) := hd3
   obtain ⟨-, -, ⟨-, -, g2, g3, -⟩, -⟩ := HF1.out w3 hd3
   have f2 := Lib.frozen_of_heap g2 0
   have f3 := Lib.frozen_of_heap g3 0
   have k2' := (hd3.cell).trans k2
   have k3' := (hd3.cell).trans k3
   have k4' := (hd3.cell).trans k4
   have hne : B3 ≠ B2 := by have := HB.out; omega
   have hne' : B2 ≠ B3 := fun h => hne h.symm
   have hne4 : B4 ≠ B2 := by have := HB.out; omega
   have hne5 : B4 ≠ B3 := by have := HB.out; omega
   clear hw3 hd3 k0 k1 k2 k3 k4 cb1 cb2 hbb g2 g3 HCM HNE
   by_cases htu : t > u
   ·have htz : (t : Int) > (u : Int) := by omega
    have HS2 : Aside (bestTo b wd dp j (k + 1) = (t, x)) := by
     show bestTo b wd dp j (k + 1) = (t, x)
     rw [HSU.out, if_pos htu]
    by_cases htm : t = m
    ·have hmb : ((m : Int) == (m : Int)) = true := by simp
     subst htm
     clear HSU
     gi_wp2_with (fail)
     obtain ⟨z1, z2, z3, z4⟩ := HF2.out w3 _ HD3.out rfl
     exact ⟨z1, z2, rfl, by rw [HS2.out], by rw [HS2.out]; exact ⟨z3.2.2.1, z3.2.2.2.1⟩, z4⟩
    ·have hmz : ¬ (t : Int) = (m : Int) := by omega
     have hmb : ((t : Int) == (m : Int)) = false := by rw [beq_eq_false_iff_ne]; exact hmz
     clear HSU
     gi_wp2_with (fail)
     obtain ⟨z1, z2, z3, z4⟩ := HF2.out w3 _ HD3.out rfl
     exact ⟨z1, z2, by rw [HS2.out]; show t < m; (have := HLE.out; omega), by rw [HS2.out]; exact z3, z4⟩
   ·have htz : ¬ (t : Int) > (u : Int) := by omega
    have HS2 : Aside (bestTo b wd dp j (k + 1) = (u, d0)) := by
     show bestTo b wd dp j (k + 1) = (u, d0)
     rw [HSU.out, if_neg htu]
    have hmz : ¬ (u : Int) = (m : Int) := by omega
    have hmb : ((u : Int) == (m : Int)) = false := by rw [beq_eq_false_iff_ne]; exact hmz
    clear HSU
    gi_wp2_with (fail)
    obtain ⟨z1, z2, z3, z4⟩ := HF1.out w3 HD3.out
    exact ⟨z1, z2, by rw [HS2.out]; exact h0, by rw [HS2.out]; exact z3, z4⟩
  ·have hbb : (((y1.toNat : Nat) : Int) != (y2.toNat : Int)) = true := by rw [bne_iff_ne]; exact u8_ne hyy
   have hyz := u8_ne hyy
   have HS2 : Aside (bestTo b wd dp j (k + 1) = (u, d0)) := by
    show bestTo b wd dp j (k + 1) = (u, d0)
    rw [HSU.out, if_neg (by have := HNE.out hyy; omega)]
   clear HSU HNE HCM
   gi_wp2_with (fail)
   refine Rng.wpIn_quiet_round (F := Fence.wide) rfl (by kernel_rfl) (by kernel_rfl) (by kernel_rfl) ?_
   repeat (gi_big_quiet_step (fail))
   refine wpQuietIn_nil ?_
   rintro _ ⟨nq, rfl⟩
   gi_wp2_with (fail)
   obtain ⟨z1, z2, z3, z4⟩ := HF1.out _ (Drew.drewN W' nq)
   exact ⟨z1, z2, by rw [HS2.out]; exact h0, by rw [HS2.out]; exact z3, z4⟩
 case done =>
  rintro W' ⟨h0, ⟨h1, h2, h3, h4, h5⟩, h6⟩ hK
  rw [bestTo_all] at h3 h4
  have c2 : W'.cell? ⟨B2, 0, none⟩ = some (.int .i64 ((greatN b wd dp j).1 : Nat)) := by rw [Lib.cell_of_heap h3]; rfl
  have c3 : W'.cell? ⟨B3, 0, none⟩ = some (.int .i64 ((greatN b wd dp j).2 : Nat)) := by rw [Lib.cell_of_heap h4]; rfl
  have f2 := Lib.frozen_of_heap h3 0
  have f3 := Lib.frozen_of_heap h4 0
  have hne : B3 ≠ B2 := by have := HB.out; omega
  have hne' : B2 ≠ B3 := fun h => hne h.symm
  gi_wp2_with (fail)
  gi_region
  gi_wp2_with (fail)
  have hBB := HB.out
  exact great_leave W W' B2 B3 w1.heap.size _ _ _ h3 h4 hK h6 (by omega) rfl rfl
 case stop =>
  rintro cd k W' hkl ⟨rfl, h0, ⟨h3, h4⟩, h6⟩ hK
  rw [<- bestTo_full b wd dp j k m hmle h0] at h3 h4
  have c2 : W'.cell? ⟨B2, 0, none⟩ = some (.int .i64 ((greatN b wd dp j).1 : Nat)) := by rw [Lib.cell_of_heap h3]; rfl
  have c3 : W'.cell? ⟨B3, 0, none⟩ = some (.int .i64 ((greatN b wd dp j).2 : Nat)) := by rw [Lib.cell_of_heap h4]; rfl
  have f2 := Lib.frozen_of_heap h3 0
  have f3 := Lib.frozen_of_heap h4 0
  have hne : B3 ≠ B2 := by have := HB.out; omega
  have hne' : B2 ≠ B3 := fun h => hne h.symm
  gi_wp2_with (fail)
  gi_region
  gi_wp2_with (fail)
  have hBB := HB.out
  exact great_leave W W' B2 B3 w1.heap.size _ _ _ h3 h4 hK h6 (by omega) rfl rfl
end Go.Proofs.YthmbbpfgbpacnaaGreatDoor.Lz
namespace Go.Proofs.YthmbbpfgbpacnaaGreatDoor.Lz
open Go.RowKit Go.Shelf Go.Lib Mem Huf
theorem add_pos (p : Addr) (k : Nat) (hk : k ≠ 0) : p.add k = ⟨p.block, p.off + k, none⟩ := by unfold Addr.add; rw [if_neg hk]
theorem srcp_cells {W : World} {n c : Nat} {a : Addr} {xs : List Pc} (h : SrcP W (.slice (some a) n c) xs) (j : Nat) (hj : j < xs.length) :
  W.cell? (a.add (j * 3)) = some (.int .i64 (xs[j]).len) /\ W.cell? ⟨(a.add (j * 3)).block, (a.add (j * 3)).off + 1, none⟩ = some (.int .i64 (xs[j]).dist) /\ W.cell? ⟨(a.add (j * 3)).block, (a.add (j * 3)).off + 2, none⟩ = some (.int .u8 ((xs[j]).byte.toNat : Int)) := by
 obtain ⟨h1, h2, h3⟩ := srcp_at h j hj
 refine ⟨h1, ?_, ?_⟩
 ·rw [<- add_pos (a.add (j * 3)) 1 (by decide), add_add]; exact h2
 ·rw [<- add_pos (a.add (j * 3)) 2 (by decide), add_add]; exact h3
end Go.Proofs.YthmbbpfgbpacnaaGreatDoor.Lz
