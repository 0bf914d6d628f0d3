/- A law for a range over a function whose iterator writes nothing, and whose loop may be left early: the elements come in their order. Package lz: the candidates that are ranged over. Package lz: greatest: the greatest length at a place, and how far back. -/
import Derived.Test.YthmbbpfgbpacnaaGreatDoorChecked
import Derived.RangeFuncNested
import Derived.RangeFuncBound
import Derived.RangeFuncCalls
import Derived.RangeFuncLeaves
import Derived.Shelf.Abstract
import Derived.Shelf.RegionOpen
import Derived.WalkKit
import Derived.OwnWalkIn
import Derived.TacticsInMore
import Derived.LoopNIn
import Derived.LoopIn
import Derived.Test.YthmbbpfgbpacnaaGreatDoorPmLzC
import Derived.BigRegionIn
namespace Go.Proofs.YthmbbpfgbpacnaaGreatDoor.Rng
open Go.RowKit Go.Shelf
structure But (rows : Nat -> Prop) (a b : World) : Prop where
 os : b.os = a.os
 tape : b.tape = a.tape
 output : b.output = a.output
 size : a.heap.size <= b.heap.size
 block : ∀ k, k < a.heap.size -> ¬ rows k -> b.heap[k]? = a.heap[k]?
theorem But.refl (rows : Nat -> Prop) (a : World) : But rows a a := ⟨rfl, rfl, rfl, Nat.le_refl _, fun _ _ _ => rfl⟩
theorem But.trans {rows : Nat -> Prop} {a b c : World} (h : But rows a b) (k : But rows b c) : But rows a c :=
 ⟨k.os.trans h.os, k.tape.trans h.tape, k.output.trans h.output, Nat.le_trans h.size k.size, fun i hi hr => (k.block i (Nat.lt_of_lt_of_le hi h.size) hr).trans (h.block i hi hr)⟩
theorem But.drew {rows : Nat -> Prop} {a b : World} (h : But rows a b) : But rows a b.drew := ⟨h.os, h.tape, h.output, h.size, h.block⟩
theorem But.drewN {rows : Nat -> Prop} {a b : World} (h : But rows a b) (n : Nat) : But rows a (b.drewN n) := ⟨h.os, h.tape, h.output, h.size, h.block⟩
theorem But.of_below {rows : Nat -> Prop} {a b : World} (h : Below a.heap.size a b) : But rows a b := ⟨h.os, h.tape, h.output, h.size, fun k hk _ => h.block k hk⟩
theorem But.alloc {rows : Nat -> Prop} {a b : World} (h : But rows a b) (o : Obj) : But rows a (b.alloc o) := h.trans (But.of_below ((Below.refl _ _).alloc (Nat.le_refl _) _))
theorem But.setCell {rows : Nat -> Prop} {a b : World} (h : But rows a b) {p : Addr} (hp : rows p.block) (u : Value) : But rows a (b.setCell p u) :=
 h.trans ⟨rfl, rfl, rfl, by simp [World.setCell], fun k _ hr => Below.heap_setCell _ _ _ _ (fun e => hr (e ▸ hp))⟩
theorem But.mono {rows rows' : Nat -> Prop} {a b : World} (h : But rows a b) (hr : ∀ r, rows r -> rows' r) : But rows' a b := ⟨h.os, h.tape, h.output, h.size, fun k hk hn => h.block k hk (fun x => hn (hr k x))⟩
theorem But.putObj (a : World) (l : Nat) (o : Obj) : But (· = l) a (a.putObj l o) :=
 ⟨rfl, rfl, rfl, by simp [World.putObj], fun k _ hr => World.putObj_heap_other (fun e => hr e)⟩
def SeqOff {α : Type} (F : Fence) (m : Nat) (P : Program) (g : Nat) (lb : Array Value) (encs : α -> Array Value) (keep : Nat -> Prop) (xs : List α) (w0 : World) : Prop :=
 ∀ (l : Nat) (J Jx : Nat -> World -> Prop) (W : World), But (fun _ => False) w0 W ->
  (∀ k A B, J k A -> But (fun _ => False) A B -> J k B) -> (∀ k A B, Jx k A -> But (fun _ => False) A B -> Jx k B) ->
  (∀ k x W1, xs[k]? = some x -> J k W1 -> YieldAt F (m - 1) P l (encs x) W1 fun e W' =>
   ((e = .returned (.bool true) /\ J (k + 1) W') \/ (e = .returned (.bool false) /\ Jx (k + 1) W')) /\ W1.heap.size <= W'.heap.size /\ (∀ r, keep r -> W'.heap[r]? = W1.heap[r]?)) ->
  J 0 W ->
  CallsIn F m P g (#[.func (.yield l) #[] #[]] ++ lb) W fun e W' => (∃ v, e = .returned v) /\ (J xs.length W' \/ ∃ k, k <= xs.length /\ Jx k W')
def goOff (keep : Nat -> Prop) (D : Nat) (I : World -> Prop) (Ix : Code -> World -> Prop) (W : World) : Exit -> Act -> World -> Prop
 | .normal, _, W' => W.heap.size <= W'.heap.size /\ (∀ r, (keep r \/ r = D \/ r = D + 1) -> W'.heap[r]? = W.heap[r]?) /\ I W'
 | .exit id, _, W' => W.heap.size <= W'.heap.size /\ (∀ r, (keep r \/ r = D \/ r = D + 1) -> W'.heap[r]? = W.heap[r]?) /\ Ix (.exit id) W'
 | _, _, _ => False
variable {F : Fence} {n : Nat} {P : Program}
theorem wpIn_rangeOff {α : Type} {g : Operand} {ps : Array Tmp} {assign body : Code} {Q : Exit -> Act -> World -> Prop} {a : Act} {w : World}
  (hro : F.round = none) (h1 : 1 <= n) {gf : Nat} {lb : Array Value} (hg : a.eval g = .func (.func gf) #[] lb) (hFg : F.fn gf) (eg : ∀ args w, (callFunc gf args).run P w = .ok (.enter gf args) w)
  {encs : α -> Array Value} {keep : Nat -> Prop} {xs : List α} (hseq : SeqOff F (n - 1) P gf lb encs keep xs w) (hkeep : ∀ r, keep r -> r < w.heap.size) (hps : ∀ x, (encs x).size = ps.size)
  (I : Nat -> World -> Prop) (Ix : Code -> Nat -> World -> Prop)
  (hI : ∀ k A B, I k A -> But (fun r => r = w.heap.size \/ r = w.heap.size + 1) A B -> I k B) (hIx : ∀ c k A B, Ix c k A -> But (fun r => r = w.heap.size \/ r = w.heap.size + 1) A B -> Ix c k B) (h0 : I 0 w) (a₁ : α -> Act)
  (hassign : ∀ (l : Nat) (x : α) (W : World) (K : Act -> World -> Prop), K (a₁ x) W ->
   assign.wpIn (F.inRound l) (n - 1 - 1) P (Exit.then K (fun _ _ _ => False)) { tmps := (ps.zip (encs x)).foldl (fun t (p, v) => t.setIfInBounds p v) a.tmps, defers := [] } W)
  (hbody : ∀ (l k : Nat) (x : α) (W : World), xs[k]? = some x -> I k W -> w.heap.size + 1 < W.heap.size -> body.wpIn (F.inRound l) (n - 1 - 1) P (goOff keep w.heap.size (I (k + 1)) (fun c => Ix c (k + 1)) W) (a₁ x) W)
  (hdone : ∀ (W : World), I xs.length W -> W.heap[w.heap.size]? = some (.deferred (some [])) -> Q .normal { a with defers := { target := .collected w.heap.size, args := #[] } :: a.defers } W)
  (hstop : ∀ (c : Code) (k : Nat) (W : World), k <= xs.length -> Ix c k W -> W.heap[w.heap.size]? = some (.deferred (some [])) -> c.wpIn F n P Q { a with defers := { target := .collected w.heap.size, args := #[] } :: a.defers } W) :
  (Code.rangeFunc g ps assign body).wpIn F n P Q a w := by
 refine wpIn_rangeFunc ?_
 intro fn hfn
 rw [hro]
 obtain ⟨rec, hrec⟩ : ∃ rec : LoopState -> Option Code -> Loop, rec = fun st pe => { state := st, pending := pe, fn, tmps := a.tmps, params := ps, assign, body, defers := w.heap.size } := ⟨_, rfl⟩
 obtain ⟨W1, hW1⟩ : ∃ W1, (w.alloc (.deferred (some []))).alloc (.loop (rec .ready none)) = W1 := ⟨_, rfl⟩
 have hL1 : W1.heap[w.heap.size + 1]? = some (.loop (rec .ready none)) := by
  rw [<- hW1]; have := World.alloc_heap_new (w.alloc (.deferred (some []))) (.loop (rec .ready none)); rwa [World.size_alloc] at this
 have hK1 : W1.heap[w.heap.size]? = some (.deferred (some [])) := by
  rw [<- hW1]; exact (Below.heap_alloc _ _ _ (by simp)).trans (World.alloc_heap_new w _)
 have hb1 : But (fun _ => False) w W1 := by
  rw [<- hW1]; exact ((But.refl _ w).alloc _).alloc _
 have hI1 : I 0 W1 := hI _ _ _ h0 (hb1.mono (fun _ h => h.elim))
 refine ⟨w.heap.size + 1, [{ target := .collected w.heap.size, args := #[] }], W1, { target := .fn (.func gf) lb, args := #[.func (.yield (w.heap.size + 1)) #[] #[]] }, W1, gf,
  #[.func (.yield (w.heap.size + 1)) #[] #[]] ++ lb, W1, ?_, ?_, ?_, ?_, fun _ => h1, ?_⟩
 ·rw [<- hW1, hrec]; exact run_enterLoop_outer _ _ _ _ _
 ·simp only [resolve, hg]
  simp [go_sem]
 ·intro f' hf'; simp [Target.leads] at hf'; subst hf'; exact hFg
 ·simp [invoke, go_sem, eg]
 ·have other : ∀ {A B : World} {k : Nat} {o : Obj}, A.heap[k]? = some o -> But (fun _ => False) A B -> B.heap[k]? = some o := fun ho hb =>
   (hb.block _ (Array.getElem?_eq_some_iff.1 ho).1 (fun hr => hr)).trans ho
  refine (hseq (w.heap.size + 1)
   (fun k W => I k W /\ W.heap[w.heap.size + 1]? = some (.loop (rec .ready none)) /\ W.heap[w.heap.size]? = some (.deferred (some [])))
   (fun k W => ∃ c, Ix c k W /\ W.heap[w.heap.size + 1]? = some (.loop (rec .done (some c))) /\ W.heap[w.heap.size]? = some (.deferred (some [])))
   W1 hb1
   (fun k A B hs hb => ⟨hI k A B hs.1 (hb.mono (fun _ h => h.elim)), other hs.2.1 hb, other hs.2.2 hb⟩)
   (fun k A B hs hb => by
    obtain ⟨c, h1, h2, h3⟩ := hs
    exact ⟨c, hIx c k A B h1 (hb.mono (fun _ h => h.elim)), other h2 hb, other h3 hb⟩)
   ?_ ⟨hI1, hL1, hK1⟩).mono ?_
  ·rintro k x W hx ⟨hi, hl, hk⟩
   have hlt : w.heap.size + 1 < W.heap.size := (Array.getElem?_eq_some_iff.1 hl).1
   have hy := run_yield (P := P) (args := encs x) hl (by rw [hrec]; exact hps x)
   rw [hrec] at hy
   refine ⟨fn, _, assign, body, hy, roundIn_of_wpIn hfn (hassign _ x W _ ⟨_, run_beginRound hl (by rw [hrec]), ?_⟩)⟩
   have hp2 := But.putObj W (w.heap.size + 1) (.loop { rec .ready none with state := .busy })
   have hl2 : (W.putObj (w.heap.size + 1) (.loop { rec .ready none with state := .busy })).heap[w.heap.size + 1]? = some (.loop { rec .ready none with state := .busy }) := World.putObj_heap_same hlt
   have hk2 : (W.putObj (w.heap.size + 1) (.loop { rec .ready none with state := .busy })).heap[w.heap.size]? = some (.deferred (some [])) := (World.putObj_heap_other (by omega)).trans hk
   refine wpIn_mono (hbody _ k x _ hx (hI _ _ _ hi (hp2.mono (fun r h => .inr h))) (Nat.lt_of_lt_of_le hlt hp2.size)) ?_
   have fin : ∀ (jump : Option Code) (W3 : World), (W.putObj (w.heap.size + 1) (.loop { rec .ready none with state := .busy })).heap.size <= W3.heap.size -> (∀ r, (keep r \/ r = w.heap.size \/ r = w.heap.size + 1) -> W3.heap[r]? = (W.putObj (w.heap.size + 1) (.loop { rec .ready none with state := .busy })).heap[r]?) ->
     (Instr.endRound (w.heap.size + 1) jump).run P W3 = .ok (.bool jump.isNone) (W3.putObj (w.heap.size + 1) (.loop (rec (if jump.isNone then .ready else .done) jump))) /\
     (W3.putObj (w.heap.size + 1) (.loop (rec (if jump.isNone then .ready else .done) jump))).heap[w.heap.size + 1]? = some (.loop (rec (if jump.isNone then .ready else .done) jump)) /\
     (W3.putObj (w.heap.size + 1) (.loop (rec (if jump.isNone then .ready else .done) jump))).heap[w.heap.size]? = some (.deferred (some [])) /\
     W.heap.size <= (W3.putObj (w.heap.size + 1) (.loop (rec (if jump.isNone then .ready else .done) jump))).heap.size /\
     (∀ r, keep r -> (W3.putObj (w.heap.size + 1) (.loop (rec (if jump.isNone then .ready else .done) jump))).heap[r]? = W.heap[r]?) := fun jump W3 hs3 hk3 => by
    have hl3 := (hk3 (w.heap.size + 1) (.inr (.inr rfl))).trans hl2
    have hr := run_endRound (P := P) jump hl3
    have hp4 := But.putObj W3 (w.heap.size + 1) (.loop (rec (if jump.isNone then .ready else .done) jump))
    refine ⟨?_, World.putObj_heap_same (Array.getElem?_eq_some_iff.1 hl3).1, (World.putObj_heap_other (by omega)).trans ((hk3 w.heap.size (.inr (.inl rfl))).trans hk2), Nat.le_trans hp2.size (Nat.le_trans hs3 hp4.size), fun r hr' => ?_⟩
    ·rw [hr, hrec]
    ·have hne : r ≠ w.heap.size + 1 := by have := hkeep r hr'; omega
     exact (World.putObj_heap_other hne).trans ((hk3 r (.inl hr')).trans (World.putObj_heap_other hne))
   rintro e a3 W3 hp
   cases e with
   | normal =>
    obtain ⟨hs3, hk3, hi3⟩ := hp
    obtain ⟨hr, hl4, hk4, hs4, hkk⟩ := fin none W3 hs3 hk3
    have hp4 := But.putObj W3 (w.heap.size + 1) (.loop (rec .ready none))
    exact ⟨_, _, hr, .inl ⟨rfl, hI _ _ _ hi3 (hp4.mono (fun r h => .inr h)), hl4, hk4⟩, hs4, hkk⟩
   | exit id =>
    obtain ⟨hs3, hk3, hi3⟩ := hp
    obtain ⟨hr, hl4, hk4, hs4, hkk⟩ := fin (some (.exit id)) W3 hs3 hk3
    have hp4 := But.putObj W3 (w.heap.size + 1) (.loop (rec .done (some (.exit id))))
    exact ⟨_, _, hr, .inr ⟨rfl, .exit id, hIx _ _ _ _ hi3 (hp4.mono (fun r h => .inr h)), hl4, hk4⟩, hs4, hkk⟩
   | ret => exact hp.elim
   | goto t => exact hp.elim
   | panic ch => exact hp.elim
   | outgrown => exact hp.elim
  ·rintro e W2 ⟨⟨v, rfl⟩, (⟨hi, hl, hk⟩ | ⟨k, hk0, c, hi, hl, hk⟩)⟩
   ·have hp := But.putObj W2 (w.heap.size + 1) (.loop { rec .ready none with state := .exhausted })
    have he := run_endLoop (P := P) hl (by rw [hrec]; simp)
    refine ⟨none, _, by rw [he, hrec], hdone _ (hI _ _ _ hi (hp.mono (fun r h => .inr h))) ?_⟩
    exact (World.putObj_heap_other (by omega)).trans hk
   ·have hp := But.putObj W2 (w.heap.size + 1) (.loop { rec .done (some c) with state := .exhausted, pending := none })
    have he := run_endLoop (P := P) hl (by rw [hrec]; simp)
    refine ⟨some c, _, by rw [he, hrec], hstop c k _ hk0 (hIx _ _ _ _ hi (But.mono (But.putObj W2 (w.heap.size + 1) _) (fun r h => .inr h))) ?_⟩
    exact (World.putObj_heap_other (by omega)).trans hk
end Go.Proofs.YthmbbpfgbpacnaaGreatDoor.Rng
namespace Go.Proofs.YthmbbpfgbpacnaaGreatDoor.Lz
open Go.RowKit Go.Shelf Go.Lib Mem Huf
attribute [local go_sem] Oper.semAt_some
def natV (v : Value) : Nat := match v with | .int _ z => z.toNat | _ => 0
def distEnc (x : Nat) : Array Value := #[.int .i64 (x : Int)]
theorem chain_succ (b : List UInt8) (j W k d : Nat) : chain b j W (k + 1) d = if bkN b (j - d) = 0 \/ d + bkN b (j - d) > W then [] else (d + bkN b (j - d)) :: chain b j W k (d + bkN b (j - d)) := rfl
theorem stepsL_len (b : List UInt8) : (stepsL b).length = b.length := by simp [stepsL]
theorem stepsL_at (b : List UInt8) (i : Nat) (h : i < (stepsL b).length) : (stepsL b)[i] = (bkN b i : Int) := by simp [stepsL]
structure Boxes (W : World) (bt bp : Nat) (v1 : Value) (p : Addr) (n c : Nat) (b : List UInt8) (wd dp j : Nat) : Prop where
 ht : W.heap[bt]? = some (.cells #[v1, .slice (some p) n c, .int .i64 (wd : Int), .int .i64 (dp : Int)] 132 (0, 0))
 hp : W.heap[bp]? = some (.cells #[.int .i64 (j : Int)] 3 (0, 0))
 hs : ∀ i v, (iVs (stepsL b))[i]? = some v -> W.cell? (p.add i) = some v
theorem Boxes.same {W W' : World} {bt bp : Nat} {v1 : Value} {p : Addr} {n c : Nat} {b : List UInt8} {wd dp j : Nat} (h : Boxes W bt bp v1 p n c b wd dp j) (hk : ∀ r, (r = bt \/ r = bp \/ r = p.block) -> W'.heap[r]? = W.heap[r]?) : Boxes W' bt bp v1 p n c b wd dp j :=
 ⟨(hk bt (.inl rfl)).trans h.ht, (hk bp (.inr (.inl rfl))).trans h.hp, fun i v hi => (cell_same (by rw [Lib.block_add]; exact hk _ (.inr (.inr rfl)))).trans (h.hs i v hi)⟩
set_option maxRecDepth 100000 in
set_option maxHeartbeats 4000000 in
theorem cand_iter (b : List UInt8) (wd dp j : Nat) (hb : b.length <= 1048576) (hj : j < b.length) (hd : dp <= 4096) (m bt bp : Nat) (v1 : Value) (p : Addr) (c : Nat) (w0 : World) (h0 : Boxes w0 bt bp v1 p b.length c b wd dp j) :
  Rng.SeqOff Fence.wide m Tryz.prog 148 #[.pointer (some ⟨bt, 0, none⟩), .pointer (some ⟨bp, 0, none⟩)] distEnc (fun r => r = bt \/ r = bp \/ r = p.block) (chain b j wd dp 0) w0 := by
 intro l J Jx W hbut hJ hJx hY hJ0
 have hbt : bt < w0.heap.size := (Array.getElem?_eq_some_iff.1 h0.ht).1
 have hbp : bp < w0.heap.size := (Array.getElem?_eq_some_iff.1 h0.hp).1
 have hpb : p.block < w0.heap.size := by
  have := block_lt_of_cell (h0.hs 0 _ (iVs_at (stepsL b) 0 (by rw [stepsL_len]; omega)))
  rwa [Lib.block_add] at this
 have H0 : Aside (Boxes W bt bp v1 p b.length c b wd dp j) := h0.same (fun r hr => hbut.block r (by rcases hr with rfl | rfl | rfl <;> assumption) (fun h => h))
 have HY := Lib.hid hY
 have HJ0 := Lib.hid hJ0
 clear hY hJ hJx h0 hbut hbt hbp hpb hJ0
 have cd : W.cell? ⟨bt, 3, none⟩ = some (.int .i64 (dp : Int)) := by rw [Lib.cell_of_heap H0.out.ht]; rfl
 refine callsIn_of_wp Tryz.func148 rfl trivial ?_ rfl
 simp only [Tryz.ntmps148, List.size_toArray, List.length_cons, List.length_nil, Nat.reduceAdd, Nat.reduceSub, Array.replicate_succ, Array.replicate_zero, List.push_toArray, List.append_toArray, List.nil_append, List.cons_append]
 gi_wp2
 clear cd
 generalize hxs : chain b j wd dp 0 = xs at HY ⊢
 have HX := Lib.hid hxs
 clear hxs
 gi_loopw [4, 8] (fun s4 s8 wr => ∃ (i d : Nat), s4 = .int .i64 (d : Int) /\ s8 = .int .i64 (i : Int) /\ i <= dp /\ d <= j /\ i <= xs.length /\ xs.drop i = chain b j wd (dp - i) d /\ J i wr /\ Boxes wr bt bp v1 p b.length c b wd dp j)
  (fun _ s8 _ => dp - natV s8)
 case atStart => exact ⟨0, 0, rfl, rfl, by omega, by omega, by omega, HX.out.symm, HJ0.out, H0.out⟩
 case round =>
  obtain ⟨i, d, rfl, rfl, hi, hdj, hil, hdrop, hJi, hB⟩ := hrel
  have cd : wr.cell? ⟨bt, 3, none⟩ = some (.int .i64 (dp : Int)) := by rw [Lib.cell_of_heap hB.ht]; rfl
  have cw : wr.cell? ⟨bt, 2, none⟩ = some (.int .i64 (wd : Int)) := by rw [Lib.cell_of_heap hB.ht]; rfl
  have cs : wr.cell? ⟨bt, 1, none⟩ = some (.slice (some p) b.length c) := by rw [Lib.cell_of_heap hB.ht]; rfl
  have cj : wr.cell? ⟨bp, 0, none⟩ = some (.int .i64 (j : Int)) := by rw [Lib.cell_of_heap hB.hp]; rfl
  have HB : Aside (Boxes wr bt bp v1 p b.length c b wd dp j) := hB
  have HJI : Aside (J i wr) := hJi
  by_cases hlt : i < dp
  ·have hltz : (i : Int) < (dp : Int) := by omega
   obtain ⟨f, hf⟩ : ∃ f, dp - i = f + 1 := ⟨dp - i - 1, by omega⟩
   rw [hf, chain_succ] at hdrop
   obtain ⟨q, hq⟩ : ∃ q, q = j - d := ⟨_, rfl⟩
   have wq : IntKind.i64.wrap ((j : Int) - (d : Int)) = (q : Int) := by rw [IntKind.wrap_i64]; omega
   have q0 : (0 : Int) <= (q : Int) := by omega
   have q1 : (q : Int) < (b.length : Int) := by omega
   have cq : wr.cell? (p.add q) = some (.int .i64 (bkN b q : Int)) := by
    have := hB.hs q _ (iVs_at (stepsL b) q (by rw [stepsL_len]; omega))
    rwa [stepsL_at] at this
   have hle := bkN_le b q
   rw [<- hq] at hdrop
   obtain ⟨s, hs⟩ : ∃ s, s = bkN b q := ⟨_, rfl⟩
   rw [<- hs] at hdrop cq hle
   have wi : IntKind.i64.wrap ((i : Int) + 1) = (i : Int) + 1 := by rw [IntKind.wrap_i64]; omega
   obtain ⟨d', hd'⟩ : ∃ d', d' = d + s := ⟨_, rfl⟩
   have wd' : IntKind.i64.wrap ((d : Int) + (s : Int)) = (d' : Int) := by rw [IntKind.wrap_i64]; omega
   rw [<- hd'] at hdrop
   have HE : Aside (xs.drop i = [] -> J xs.length wr) := fun h => by
    have : xs.length = i := by have := congrArg List.length h; simp at this; omega
    rw [this]; exact hJi
   have hdj' : d' <= j := by omega
   have hFF : Aside (f = dp - (i + 1)) := by show f = dp - (i + 1); omega
   clear hB hJi hs hq hd' hf hle
   by_cases hs0 : s = 0
   ·subst hs0
    rw [if_pos (.inl rfl)] at hdrop
    have HE2 : Aside _ := HE.out hdrop
    clear hdrop HE HB HJI
    gi_wp2
    refine ⟨fun f hf => (nomatch hf), ?_⟩
    gi_wp2
    (try simp only [Exit.inBlock, Exit.then]); refine bodyPost_ret (results_none rfl _ _ _) rfl ?_
    exact ⟨⟨_, rfl⟩, .inl (by rw [HX.out]; exact HE2.out)⟩
   ·have hsz : ¬ (s : Int) = 0 := by omega
    have hsb : ((s : Int) == 0) = false := by rw [beq_eq_false_iff_ne]; exact hsz
    by_cases hwd : d' > wd
    ·have hwz : (d' : Int) > (wd : Int) := by omega
     rw [if_pos (.inr hwd)] at hdrop
     have HE2 : Aside _ := HE.out hdrop
     clear hdrop HE HB HJI
     gi_wp2
     refine ⟨fun f hf => (nomatch hf), ?_⟩
     gi_wp2
     (try simp only [Exit.inBlock, Exit.then]); refine bodyPost_ret (results_none rfl _ _ _) rfl ?_
     exact ⟨⟨_, rfl⟩, .inl (by rw [HX.out]; exact HE2.out)⟩
    ·have hwz : ¬ (d' : Int) > (wd : Int) := by omega
     rw [if_neg (by omega)] at hdrop
     have hxk : xs[i]? = some d' := by
      have h := congrArg (·[0]?) hdrop
      simp only [List.getElem?_drop] at h
      simpa using h
     have hx' : xs.drop (i + 1) = chain b j wd f d' := by
      rw [<- List.tail_drop, hdrop, List.tail_cons]
     obtain ⟨fn, tmps, assign, body, hy, hR⟩ := HY.out i d' wr hxk HJI.out
     have HX' := Lib.hid hx'
     have hil' : i + 1 <= xs.length := (List.getElem?_eq_some_iff.1 hxk).1
     clear hdrop HE hxk hx' HJI
     dsimp only [distEnc] at hy
     gi_wp2
     refine ⟨fun h => (nomatch h), hR.mono ?_⟩
     rintro e W' ⟨hcase, hs', hk'⟩
     have HB' : Aside (Boxes W' bt bp v1 p b.length c b wd dp j) := HB.out.same hk'
     clear hk' hR hy hs' cd cw cs cj cq HB
     rcases hcase with ⟨rfl, hJ'⟩ | ⟨rfl, hx'⟩
     ·have HJ' : Aside (J (i + 1) W') := hJ'
      clear hJ'
      gi_wp2
      go_roundw
      case rel => exact ⟨i + 1, d', rfl, by go_num, by omega, hdj', hil', by rw [<- hFF]; exact HX'.out, HJ'.out, HB'.out⟩
      case measure =>
       show dp - (((i : Int) + 1)).toNat < dp - ((i : Int)).toNat
       omega
     ·have HJ' : Aside (∃ k, k <= xs.length /\ Jx k W') := ⟨_, hil', hx'⟩
      clear hx'
      gi_wp2
      (try simp only [Exit.inBlock, Exit.then]); refine bodyPost_ret (results_none rfl _ _ _) rfl ?_
      exact ⟨⟨_, rfl⟩, .inr (by rw [HX.out]; exact HJ'.out)⟩
  ·have hltz : ¬ (i : Int) < (dp : Int) := by omega
   have HE2 : Aside (J xs.length wr) := by
    have e : dp - i = 0 := by omega
    rw [e] at hdrop
    have : xs.length = i := by have := congrArg List.length hdrop; simp [chain] at this; omega
    show J xs.length wr
    rw [this]; exact HJI.out
   clear hdrop HB HJI hB hJi
   gi_wp2
   go_end0
   exact ⟨⟨_, rfl⟩, .inl (by rw [HX.out]; exact HE2.out)⟩
theorem cands_any (W : World) (v1 : Value) (p : Addr) (c : Nat) (b : List UInt8) (wd dp j : Nat) (hs : ∀ i v, (iVs (stepsL b))[i]? = some v -> W.cell? (p.add i) = some v) :
  Calls Tryz.prog 130 #[.agg #[v1, .slice (some p) b.length c, .int .i64 (wd : Int), .int .i64 (dp : Int)], .int .i64 (j : Int)] W fun e w' =>
   e = .returned (.func (.func 148) #[] #[.pointer (some ⟨W.heap.size, 0, none⟩), .pointer (some ⟨W.heap.size + 1, 0, none⟩)]) /\
   Boxes w' W.heap.size (W.heap.size + 1) v1 p b.length c b wd dp j /\ Below W.heap.size W w' /\ w'.heap.size = W.heap.size + 2 := by
 have HS := Lib.hid hs
 clear hs
 go_enter Tryz.func130, Tryz.ntmps130
 go_wp2
 go_ret
 have hA := (Below.refl W.heap.size W).alloc (Nat.le_refl _) (Obj.cells #[v1, Value.slice (some p) b.length c, Value.int IntKind.i64 (wd : Int), Value.int IntKind.i64 (dp : Int)] 132)
 have hB := hA.alloc (by simp) (Obj.cells #[Value.int IntKind.i64 (j : Int)] 3)
 refine ⟨rfl, ⟨(Below.heap_alloc _ _ _ (by simp)).trans (heap_alloc_new _ _), ?_, fun i v hi => (hB.cell (block_lt_of_cell (HS.out i v hi))).trans (HS.out i v hi)⟩, hB, by simp⟩
 have := heap_alloc_new (W.alloc (Obj.cells #[v1, Value.slice (some p) b.length c, Value.int IntKind.i64 (wd : Int), Value.int IntKind.i64 (dp : Int)] 132)) (Obj.cells #[Value.int IntKind.i64 (j : Int)] 3)
 rwa [World.size_alloc] at this
end Go.Proofs.YthmbbpfgbpacnaaGreatDoor.Lz
namespace Go.Proofs.YthmbbpfgbpacnaaGreatDoor.Lz
open Go.RowKit Go.Shelf Go.Lib Mem Huf
attribute [local go_sem] Oper.semAt_some
theorem results_cells2 {fn : Func} {p q : Tmp} (h : fn.results = #[.cell p 3, .cell q 3]) (tmps : Array Value) (w : World) (a b : Addr) (x y : Int)
  (hp : tmps.getD p undef = .pointer (some a)) (hq : tmps.getD q undef = .pointer (some b)) (ha : w.cell? a = some (.int .i64 x)) (hb : w.cell? b = some (.int .i64 y)) :
  (results fn tmps).run Tryz.prog w = .ok (.tuple #[.int .i64 x, .int .i64 y]) w := by
 have hp' : tmps[p]?.getD undef = .pointer (some a) := by simpa using hp
 have hq' : tmps[q]?.getD undef = .pointer (some b) := by simpa using hq
 simp [results, h, hp', hq', asAddr, Sem.run_bind, Result.andThen, loadVar, isAgg, ha, hb, go_sem]
def bestTo (b : List UInt8) (W k j i : Nat) : Nat × Nat := ((chain b j W k 0).take i).foldl (bestOf b j) (0, 0)
theorem bestTo_zero (b : List UInt8) (W k j : Nat) : bestTo b W k j 0 = (0, 0) := by simp [bestTo]
theorem bestTo_all (b : List UInt8) (W k j : Nat) : bestTo b W k j (chain b j W k 0).length = greatN b W k j := by
 rw [greatN_chain]; unfold bestTo; rw [List.take_length]
theorem bestTo_succ (b : List UInt8) (W k j i d : Nat) (h : (chain b j W k 0)[i]? = some d) : bestTo b W k j (i + 1) = bestOf b j (bestTo b W k j i) d := by
 obtain ⟨hi, he⟩ := List.getElem?_eq_some_iff.1 h
 unfold bestTo
 rw [List.take_succ_eq_append_getElem hi, he, List.foldl_append]
 rfl
theorem best_full (b : List UInt8) (j n : Nat) (hn : ∀ d, alikeN b (j - d) j <= n) (l : List Nat) (s : Nat × Nat) (hs : s.1 = n) : l.foldl (bestOf b j) s = s := by
 induction l with
 | nil => rfl
 | cons d l ih =>
  rw [List.foldl_cons]
  have : bestOf b j s d = s := by
   unfold bestOf
   rw [if_neg]
   have := hn d
   omega
  rw [this]; exact ih
theorem bestTo_full (b : List UInt8) (W k j i : Nat) (n : Nat) (hn : ∀ d, alikeN b (j - d) j <= n) (hs : (bestTo b W k j i).1 = n) : greatN b W k j = bestTo b W k j i := by
 rw [greatN_chain]
 have h : (chain b j W k 0) = (chain b j W k 0).take i ++ (chain b j W k 0).drop i := (List.take_append_drop _ _).symm
 rw [h, List.foldl_append]
 exact best_full b j n hn _ _ hs
theorem best_le (b : List UInt8) (j n : Nat) (hn : ∀ d, alikeN b (j - d) j <= n) (s : Nat × Nat) (d : Nat) (hs : s.1 <= n) : (bestOf b j s d).1 <= n := by
 unfold bestOf
 split
 ·exact hn d
 ·exact hs
def restN (b : List UInt8) (j : Nat) : List UInt8 := (b.drop j).take 258
theorem restN_len (b : List UInt8) (j : Nat) : (restN b j).length = min 258 (b.length - j) := by simp [restN]
end Go.Proofs.YthmbbpfgbpacnaaGreatDoor.Lz
