/- Package deflate: the runs that are ranged over. The law of XRangeOff, where a round begins with a variable of its own that is made. Package deflate: lengths of the runs' symbols. Package deflate: what a block needs to be told of its own lengths. -/
import Derived.Test.YthmbbpfgbpacnaaGreatDoorPmDefA
import Derived.Test.YthmbbpfgbpacnaaGreatDoorPmRangeOff
import Derived.Shelf.Abstract
import Derived.RangeFuncNested
import Derived.RangeFuncCalls
import Derived.RangeFuncLeaves
import Derived.OwnWalkIn
import Derived.TacticsInMore
import Derived.LoopNIn
import Derived.LoopIn
import Derived.Test.YthmbbpfgbpacnaaGreatDoorPmDefK
import Derived.Test.YthmbbpfgbpacnaaGreatDoorPmLzZ
import Derived.Test.YthmbbpfgbpacnaaGreatDoorPmDefI
import Derived.Test.YthmbbpfgbpacnaaGreatDoorPmHufJ
namespace Go.Proofs.YthmbbpfgbpacnaaGreatDoor.Def
open Go.RowKit Go.Shelf Go.Lib Mem Bit Huf Lz Inf
attribute [local go_sem] Oper.semAt_some
def runsF (row : List Int) : Nat -> Nat -> List (Int × Nat × Nat)
 | 0, _ => []
 | f + 1, k => if k < row.length then (runAtN row k).1 :: runsF row f (k + (runAtN row k).2) else []
def runsN (row : List Int) : List (Int × Nat × Nat) := runsF row row.length 0
theorem runsF_more (row : List Int) : ∀ f g k, row.length - k <= f -> row.length - k <= g -> runsF row f k = runsF row g k
 | 0, 0, _, _, _ => rfl
 | 0, g + 1, k, h, _ => by unfold runsF; rw [if_neg (by omega)]
 | f + 1, 0, k, _, h => by unfold runsF; rw [if_neg (by omega)]
 | f + 1, g + 1, k, h1, h2 => by
  unfold runsF
  by_cases hk : k < row.length
  ·have := runAtN_bd row k hk
   rw [if_pos hk, if_pos hk, runsF_more row f g _ (by omega) (by omega)]
  ·rw [if_neg hk, if_neg hk]
def runEnc (r : Int × Nat × Nat) : Array Value := #[runV r]
def natW (v : Value) : Nat := match v with | .int _ z => z.toNat | _ => 0
structure RBox (W : World) (bt : Nat) (a : Addr) (cap : Nat) (row : List Int) : Prop where
 ht : W.heap[bt]? = some (.cells #[.slice (some a) row.length cap] 111 (0, 0))
 hs : SrcI W (.slice (some a) row.length cap) row
theorem RBox.same {W W' : World} {bt : Nat} {a : Addr} {cap : Nat} {row : List Int} (h : RBox W bt a cap row) (hk : ∀ r, (r = bt \/ r = a.block) -> W'.heap[r]? = W.heap[r]?) : RBox W' bt a cap row := by
 refine ⟨(hk bt (.inl rfl)).trans h.ht, ?_⟩
 rcases h.hs with ⟨hv, _⟩ | ⟨a', c', hv, hc⟩
 ·cases hv
 ·cases hv
  exact .inr ⟨a, cap, rfl, fun j v hj => (cell_same (by rw [Lib.block_add]; exact hk _ (.inr rfl))).trans (hc j v hj)⟩
set_option maxRecDepth 100000 in
set_option maxHeartbeats 4000000 in
theorem runs_iter (row : List Int) (hrow : row.length <= 1048576) (h1 : 0 < row.length) (m bt : Nat) (a : Addr) (cap : Nat) (hcap : row.length <= cap) (w0 : World) (h0 : RBox w0 bt a cap row) :
  Rng.SeqOff Fence.wide m Tryz.prog 141 #[.pointer (some ⟨bt, 0, none⟩)] runEnc (fun r => r = bt \/ r = a.block) (runsN row) w0 := by
 intro l J Jx W hbut hJ hJx hY hJ0
 have hbt : bt < w0.heap.size := (Array.getElem?_eq_some_iff.1 h0.ht).1
 have hab : a.block < w0.heap.size := SrcI.lt h0.hs h1
 have H0 : Aside (RBox W bt a cap row) := h0.same (fun r hr => hbut.block r (by rcases hr with rfl | rfl <;> assumption) (fun h => h))
 have HY := Lib.hid hY
 have HJ0 := Lib.hid hJ0
 have HJM : Aside (∀ k A B, J k A -> Below A.heap.size A B -> J k B) := fun k A B h hb => hJ k A B h (Rng.But.of_below hb)
 have HRA : Aside (∀ w k, RBox w bt a cap row -> k < row.length -> Calls Tryz.prog 142 #[.slice (some a) row.length cap, .int .i64 (k : Int)] w fun e w' => e = .returned (.tuple #[runV (runAtN row k).1, .int .i64 ((runAtN row k).2 : Int)]) /\ Below w.heap.size w w') := fun w k hb hk => runAt_any w a cap row k hb.hs hk hrow hcap
 clear hY hJ hJx h0 hbut hbt hab hJ0
 refine callsIn_of_wp Tryz.func141 rfl trivial ?_ rfl
 simp only [Tryz.ntmps141, List.size_toArray, List.length_cons, List.length_nil, Nat.reduceAdd, Nat.reduceSub, Array.replicate_succ, Array.replicate_zero, List.push_toArray, List.append_toArray, List.nil_append, List.cons_append]
 gi_wp2
 generalize hxs : runsN row = xs at HY ⊢
 have HX := Lib.hid hxs
 clear hxs
 gi_loopw [3] (fun s3 wr => ∃ (i k : Nat), s3 = .int .i64 (k : Int) /\ k <= row.length /\ i <= xs.length /\ xs.drop i = runsF row (row.length - k) k /\ J i wr /\ RBox wr bt a cap row)
  (fun s3 _ => row.length - natW s3)
 case atStart => exact ⟨0, 0, rfl, by omega, by omega, HX.out.symm, HJ0.out, H0.out⟩
 case round =>
  obtain ⟨i, k, rfl, hk, hil, hdrop, hJi, hB⟩ := hrel
  have cb : wr.cell? ⟨bt, 0, none⟩ = some (.slice (some a) row.length cap) := by rw [Lib.cell_of_heap hB.ht]; rfl
  by_cases hlt : k < row.length
  ·have hltz : (k : Int) < (row.length : Int) := by omega
   have hbd := runAtN_bd row k hlt
   have RA := HRA.out wr k hB hlt
   obtain ⟨f, hf⟩ : ∃ f, row.length - k = f + 1 := ⟨row.length - k - 1, by omega⟩
   rw [hf] at hdrop
   unfold runsF at hdrop
   rw [if_pos hlt] at hdrop
   have hxk : xs[i]? = some (runAtN row k).1 := by
    have h := congrArg (·[0]?) hdrop
    simp only [List.getElem?_drop] at h
    simpa using h
   have hx' : xs.drop (i + 1) = runsF row (row.length - (k + (runAtN row k).2)) (k + (runAtN row k).2) := by
    rw [<- List.tail_drop, hdrop, List.tail_cons]
    exact runsF_more row _ _ _ (by omega) (Nat.le_refl _)
   have hil' : i + 1 <= xs.length := (List.getElem?_eq_some_iff.1 hxk).1
   have HX' : Aside (xs.drop (i + 1) = runsF row (row.length - (k + (runAtN row k).2)) (k + (runAtN row k).2)) := hx'
   have HB : Aside (RBox wr bt a cap row /\ bt < wr.heap.size /\ a.block < wr.heap.size) := ⟨hB, (Array.getElem?_eq_some_iff.1 hB.ht).1, SrcI.lt hB.hs h1⟩
   have HJI : Aside (J i wr) := hJi
   have HXK : Aside (xs[i]? = some (runAtN row k).1) := hxk
   clear hdrop hx' hB hJi hxk hf
   generalize runAtN row k = rr at *
   obtain ⟨⟨z, n1, n2⟩, sz⟩ := rr
   simp only at RA HX' HXK hbd
   have ws : IntKind.i64.wrap ((k : Int) + (sz : Int)) = ((k + sz : Nat) : Int) := by rw [IntKind.wrap_i64]; omega
   gi_wp2
   refine ⟨trivial, fun h => (nomatch h), (callsIn_wide.2 RA).mono ?_⟩
   rintro e w1 ⟨rfl, b1⟩
   have b3 : Below wr.heap.size wr (w1.alloc (.cells #[.int .i64 z, .int .i64 (n1 : Int), .int .i64 (n2 : Int)] 178)) := b1.alloc b1.size _
   have HB3 : Aside (RBox (w1.alloc (.cells #[.int .i64 z, .int .i64 (n1 : Int), .int .i64 (n2 : Int)] 178)) bt a cap row) := HB.out.1.same (fun r hr => b3.block r (by have := HB.out.2; rcases hr with rfl | rfl; exact this.1; exact this.2))
   obtain ⟨fn, tmps, assign, body, hy, hR⟩ := HY.out i (z, n1, n2) (w1.alloc (.cells #[.int .i64 z, .int .i64 (n1 : Int), .int .i64 (n2 : Int)] 178)) HXK.out (HJM.out _ _ _ HJI.out b3)
   clear b1 b3 HB HJI HXK RA cb
   dsimp only [runEnc, runV] at hy
   unfold runV
   gi_wp2
   refine ⟨fun h => (nomatch h), hR.mono ?_⟩
   rintro e W' ⟨hcase, hs', hk'⟩
   have HB' : Aside (RBox W' bt a cap row) := HB3.out.same hk'
   clear hk' hR hy hs' HB3
   rcases hcase with ⟨rfl, hJ'⟩ | ⟨rfl, hx'⟩
   ·have HJ' : Aside (J (i + 1) W') := hJ'
    clear hJ'
    gi_wp2
    go_roundw
    case rel => exact ⟨i + 1, k + sz, rfl, hbd.2, hil', HX'.out, HJ'.out, HB'.out⟩
    case measure =>
     show row.length - (((k + sz : Nat) : Int)).toNat < row.length - ((k : Int)).toNat
     omega
   ·have HJ' : Aside (∃ k, k <= xs.length /\ Jx k W') := ⟨_, hil', hx'⟩
    clear hx'
    gi_wp2
    (try simp only [Exit.inBlock, Exit.then]); refine bodyPost_ret (results_none rfl _ _ _) rfl ?_
    exact ⟨⟨_, rfl⟩, .inr (by rw [HX.out]; exact HJ'.out)⟩
  ·obtain rfl : k = row.length := by omega
   have hltz : ¬ (row.length : Int) < (row.length : Int) := by omega
   have HE2 : Aside (J xs.length wr) := by
    rw [Nat.sub_self] at hdrop
    have : xs.length = i := by have := congrArg List.length hdrop; simp [runsF] at this; omega
    show J xs.length wr
    rw [this]; exact hJi
   clear hdrop hB hJi
   gi_wp2
   go_end0
   exact ⟨⟨_, rfl⟩, .inl (by rw [HX.out]; exact HE2.out)⟩
end Go.Proofs.YthmbbpfgbpacnaaGreatDoor.Def
namespace Go.Proofs.YthmbbpfgbpacnaaGreatDoor.Rng
open Go.RowKit Go.Shelf
variable {F : Fence} {n : Nat} {P : Program}
theorem wpIn_rangeAsg {α : Type} {g : Operand} {ps : Array Tmp} {assign body : Code} {Q : Exit -> Act -> World -> Prop} {a : Act} {w : World}
  (hro : F.round = none) (h1 : 1 <= n) {gf : Nat} {lb : Array Value} (hg : a.eval g = .func (.func gf) #[] lb) (hFg : F.fn gf) (eg : ∀ args w, (callFunc gf args).run P w = .ok (.enter gf args) w)
  {encs : α -> Array Value} {keep : Nat -> Prop} {xs : List α} (hseq : SeqOff F (n - 1) P gf lb encs keep xs w) (hkeep : ∀ r, keep r -> r < w.heap.size) (hps : ∀ x, (encs x).size = ps.size)
  (I : Nat -> World -> Prop) (Ix : Code -> Nat -> World -> Prop)
  (hI : ∀ k A B, I k A -> But (fun r => r = w.heap.size \/ r = w.heap.size + 1) A B -> I k B) (hIx : ∀ c k A B, Ix c k A -> But (fun r => r = w.heap.size \/ r = w.heap.size + 1) A B -> Ix c k B) (h0 : I 0 w) (A : Nat -> α -> World -> Act -> World -> Prop) (hA : ∀ k x W a' W1, A k x W a' W1 -> But (fun _ => False) W W1)
  (hassign : ∀ (l k : Nat) (x : α) (W : World) (K : Act -> World -> Prop), xs[k]? = some x -> (∀ a' W1, A k x W a' W1 -> K a' W1) ->
   assign.wpIn (F.inRound l) (n - 1 - 1) P (Exit.then K (fun _ _ _ => False)) { tmps := (ps.zip (encs x)).foldl (fun t (p, v) => t.setIfInBounds p v) a.tmps, defers := [] } W)
  (hbody : ∀ (l k : Nat) (x : α) (W : World) (a' : Act) (W1 W2 : World), xs[k]? = some x -> A k x W a' W1 -> But (fun r => r = w.heap.size + 1) W1 W2 -> I k W2 -> w.heap.size + 1 < W.heap.size -> body.wpIn (F.inRound l) (n - 1 - 1) P (goOff keep w.heap.size (I (k + 1)) (fun c => Ix c (k + 1)) W2) a' W2)
  (hdone : ∀ (W : World), I xs.length W -> W.heap[w.heap.size]? = some (.deferred (some [])) -> Q .normal { a with defers := { target := .collected w.heap.size, args := #[] } :: a.defers } W)
  (hstop : ∀ (c : Code) (k : Nat) (W : World), k <= xs.length -> Ix c k W -> W.heap[w.heap.size]? = some (.deferred (some [])) -> c.wpIn F n P Q { a with defers := { target := .collected w.heap.size, args := #[] } :: a.defers } W) :
  (Code.rangeFunc g ps assign body).wpIn F n P Q a w := by
 refine wpIn_rangeFunc ?_
 intro fn hfn
 rw [hro]
 obtain ⟨rec, hrec⟩ : ∃ rec : LoopState -> Option Code -> Loop, rec = fun st pe => { state := st, pending := pe, fn, tmps := a.tmps, params := ps, assign, body, defers := w.heap.size } := ⟨_, rfl⟩
 obtain ⟨W1, hW1⟩ : ∃ W1, (w.alloc (.deferred (some []))).alloc (.loop (rec .ready none)) = W1 := ⟨_, rfl⟩
 have hL1 : W1.heap[w.heap.size + 1]? = some (.loop (rec .ready none)) := by
  rw [<- hW1]; have := World.alloc_heap_new (w.alloc (.deferred (some []))) (.loop (rec .ready none)); rwa [World.size_alloc] at this
 have hK1 : W1.heap[w.heap.size]? = some (.deferred (some [])) := by
  rw [<- hW1]; exact (Below.heap_alloc _ _ _ (by simp)).trans (World.alloc_heap_new w _)
 have hb1 : But (fun _ => False) w W1 := by
  rw [<- hW1]; exact ((But.refl _ w).alloc _).alloc _
 have hI1 : I 0 W1 := hI _ _ _ h0 (hb1.mono (fun _ h => h.elim))
 refine ⟨w.heap.size + 1, [{ target := .collected w.heap.size, args := #[] }], W1, { target := .fn (.func gf) lb, args := #[.func (.yield (w.heap.size + 1)) #[] #[]] }, W1, gf,
  #[.func (.yield (w.heap.size + 1)) #[] #[]] ++ lb, W1, ?_, ?_, ?_, ?_, fun _ => h1, ?_⟩
 ·rw [<- hW1, hrec]; exact run_enterLoop_outer _ _ _ _ _
 ·simp only [resolve, hg]
  simp [go_sem]
 ·intro f' hf'; simp [Target.leads] at hf'; subst hf'; exact hFg
 ·simp [invoke, go_sem, eg]
 ·have other : ∀ {A B : World} {k : Nat} {o : Obj}, A.heap[k]? = some o -> But (fun _ => False) A B -> B.heap[k]? = some o := fun ho hb =>
   (hb.block _ (Array.getElem?_eq_some_iff.1 ho).1 (fun hr => hr)).trans ho
  refine (hseq (w.heap.size + 1)
   (fun k W => I k W /\ W.heap[w.heap.size + 1]? = some (.loop (rec .ready none)) /\ W.heap[w.heap.size]? = some (.deferred (some [])))
   (fun k W => ∃ c, Ix c k W /\ W.heap[w.heap.size + 1]? = some (.loop (rec .done (some c))) /\ W.heap[w.heap.size]? = some (.deferred (some [])))
   W1 hb1
   (fun k A B hs hb => ⟨hI k A B hs.1 (hb.mono (fun _ h => h.elim)), other hs.2.1 hb, other hs.2.2 hb⟩)
   (fun k A B hs hb => by
    obtain ⟨c, h1, h2, h3⟩ := hs
    exact ⟨c, hIx c k A B h1 (hb.mono (fun _ h => h.elim)), other h2 hb, other h3 hb⟩)
   ?_ ⟨hI1, hL1, hK1⟩).mono ?_
  ·rintro k x W hx ⟨hi, hl, hk⟩
   have hlt : w.heap.size + 1 < W.heap.size := (Array.getElem?_eq_some_iff.1 hl).1
   have hy := run_yield (P := P) (args := encs x) hl (by rw [hrec]; exact hps x)
   rw [hrec] at hy
   refine ⟨fn, _, assign, body, hy, roundIn_of_wpIn hfn (hassign _ k x W _ hx (fun a' W1' hA1 => ?_))⟩
   have hbA := hA k x W a' W1' hA1
   have hlA := other hl hbA
   have hkA := other hk hbA
   have hiA := hI _ _ _ hi (hbA.mono (fun r h => h.elim))
   have hkeepA : ∀ r, keep r -> W1'.heap[r]? = W.heap[r]? := fun r hr => hbA.block r (by have := hkeep r hr; omega) (fun h => h)
   have hszA := hbA.size
   have hltA : w.heap.size + 1 < W1'.heap.size := by omega
   refine ⟨_, run_beginRound hlA (by rw [hrec]), ?_⟩
   have hp2 := But.putObj W1' (w.heap.size + 1) (.loop { rec .ready none with state := .busy })
   have hl2 : (W1'.putObj (w.heap.size + 1) (.loop { rec .ready none with state := .busy })).heap[w.heap.size + 1]? = some (.loop { rec .ready none with state := .busy }) := World.putObj_heap_same hltA
   have hk2 : (W1'.putObj (w.heap.size + 1) (.loop { rec .ready none with state := .busy })).heap[w.heap.size]? = some (.deferred (some [])) := (World.putObj_heap_other (by omega)).trans hkA
   refine wpIn_mono (hbody _ k x W a' W1' _ hx hA1 hp2 (hI _ _ _ hiA (hp2.mono (fun r h => .inr h))) hlt) ?_
   have fin : ∀ (jump : Option Code) (W3 : World), (W1'.putObj (w.heap.size + 1) (.loop { rec .ready none with state := .busy })).heap.size <= W3.heap.size -> (∀ r, (keep r \/ r = w.heap.size \/ r = w.heap.size + 1) -> W3.heap[r]? = (W1'.putObj (w.heap.size + 1) (.loop { rec .ready none with state := .busy })).heap[r]?) ->
     (Instr.endRound (w.heap.size + 1) jump).run P W3 = .ok (.bool jump.isNone) (W3.putObj (w.heap.size + 1) (.loop (rec (if jump.isNone then .ready else .done) jump))) /\
     (W3.putObj (w.heap.size + 1) (.loop (rec (if jump.isNone then .ready else .done) jump))).heap[w.heap.size + 1]? = some (.loop (rec (if jump.isNone then .ready else .done) jump)) /\
     (W3.putObj (w.heap.size + 1) (.loop (rec (if jump.isNone then .ready else .done) jump))).heap[w.heap.size]? = some (.deferred (some [])) /\
     W.heap.size <= (W3.putObj (w.heap.size + 1) (.loop (rec (if jump.isNone then .ready else .done) jump))).heap.size /\
     (∀ r, keep r -> (W3.putObj (w.heap.size + 1) (.loop (rec (if jump.isNone then .ready else .done) jump))).heap[r]? = W.heap[r]?) := fun jump W3 hs3 hk3 => by
    have hl3 := (hk3 (w.heap.size + 1) (.inr (.inr rfl))).trans hl2
    have hr := run_endRound (P := P) jump hl3
    have hp4 := But.putObj W3 (w.heap.size + 1) (.loop (rec (if jump.isNone then .ready else .done) jump))
    refine ⟨?_, World.putObj_heap_same (Array.getElem?_eq_some_iff.1 hl3).1, (World.putObj_heap_other (by omega)).trans ((hk3 w.heap.size (.inr (.inl rfl))).trans hk2), Nat.le_trans hszA (Nat.le_trans hp2.size (Nat.le_trans hs3 hp4.size)), fun r hr' => ?_⟩
    ·rw [hr, hrec]
    ·have hne : r ≠ w.heap.size + 1 := by have := hkeep r hr'; omega
     exact (World.putObj_heap_other hne).trans ((hk3 r (.inl hr')).trans ((World.putObj_heap_other hne).trans (hkeepA r hr')))
   rintro e a3 W3 hp
   cases e with
   | normal =>
    obtain ⟨hs3, hk3, hi3⟩ := hp
    obtain ⟨hr, hl4, hk4, hs4, hkk⟩ := fin none W3 hs3 hk3
    have hp4 := But.putObj W3 (w.heap.size + 1) (.loop (rec .ready none))
    exact ⟨_, _, hr, .inl ⟨rfl, hI _ _ _ hi3 (hp4.mono (fun r h => .inr h)), hl4, hk4⟩, hs4, hkk⟩
   | exit id =>
    obtain ⟨hs3, hk3, hi3⟩ := hp
    obtain ⟨hr, hl4, hk4, hs4, hkk⟩ := fin (some (.exit id)) W3 hs3 hk3
    have hp4 := But.putObj W3 (w.heap.size + 1) (.loop (rec .done (some (.exit id))))
    exact ⟨_, _, hr, .inr ⟨rfl, .exit id, hIx _ _ _ _ hi3 (hp4.mono (fun r h => .inr h)), hl4, hk4⟩, hs4, hkk⟩
   | ret => exact hp.elim
   | goto t => exact hp.elim
   | panic ch => exact hp.elim
   | outgrown => exact hp.elim
  ·rintro e W2 ⟨⟨v, rfl⟩, (⟨hi, hl, hk⟩ | ⟨k, hk0, c, hi, hl, hk⟩)⟩
   ·have hp := But.putObj W2 (w.heap.size + 1) (.loop { rec .ready none with state := .exhausted })
    have he := run_endLoop (P := P) hl (by rw [hrec]; simp)
    refine ⟨none, _, by rw [he, hrec], hdone _ (hI _ _ _ hi (hp.mono (fun r h => .inr h))) ?_⟩
    exact (World.putObj_heap_other (by omega)).trans hk
   ·have hp := But.putObj W2 (w.heap.size + 1) (.loop { rec .done (some c) with state := .exhausted, pending := none })
    have he := run_endLoop (P := P) hl (by rw [hrec]; simp)
    refine ⟨some c, _, by rw [he, hrec], hstop c k _ hk0 (hIx _ _ _ _ hi (But.mono (But.putObj W2 (w.heap.size + 1) _) (fun r h => .inr h))) ?_⟩
    exact (World.putObj_heap_other (by omega)).trans hk
end Go.Proofs.YthmbbpfgbpacnaaGreatDoor.Rng
namespace Go.Proofs.YthmbbpfgbpacnaaGreatDoor.Def
open Go.RowKit Go.Shelf Go.Lib Mem Bit Huf Lz Inf
attribute [local go_sem] Oper.semAt_some
set_option maxHeartbeats 1000000 in
theorem runs_any (W : World) (a : Addr) (cap : Nat) (row : List Int) (hs : SrcI W (.slice (some a) row.length cap) row) :
  Calls Tryz.prog 117 #[.slice (some a) row.length cap] W fun e w' => e = .returned (.func (.func 141) #[] #[.pointer (some ⟨W.heap.size, 0, none⟩)]) /\ RBox w' W.heap.size a cap row /\ Below W.heap.size W w' /\ w'.heap.size = W.heap.size + 1 := by
 have hb : Below W.heap.size W (W.alloc (.cells #[.slice (some a) row.length cap] 111)) := (Below.refl _ W).alloc (Nat.le_refl _) _
 have HE : Aside (RBox (W.alloc (.cells #[.slice (some a) row.length cap] 111)) W.heap.size a cap row /\ Below W.heap.size W (W.alloc (.cells #[.slice (some a) row.length cap] 111)) /\ (W.alloc (.cells #[.slice (some a) row.length cap] 111)).heap.size = W.heap.size + 1) := ⟨⟨heap_alloc_new _ _, hs.below hb⟩, hb, by simp⟩
 clear hs hb
 go_enter Tryz.func117, Tryz.ntmps117
 go_wp2
 go_ret
 exact ⟨rfl, HE.out⟩
def cntR (xs : List (Int × Nat × Nat)) (k : Nat) : List Int := (xs.take k).foldl (fun c r => bump c r.1.toNat) (List.replicate 19 0)
theorem cntR_succ (xs : List (Int × Nat × Nat)) (k : Nat) (x : Int × Nat × Nat) (h : xs[k]? = some x) : cntR xs (k + 1) = bump (cntR xs k) x.1.toNat := by
 unfold cntR
 rw [List.take_add_one, h, List.foldl_append]
 rfl
theorem cntR_inv (xs : List (Int × Nat × Nat)) (hs : ∀ r ∈ xs, 0 <= r.1 /\ r.1 < 19) : ∀ k, k <= xs.length -> (cntR xs k).length = 19 /\ ∀ j, 0 <= numAt (cntR xs k) j /\ numAt (cntR xs k) j <= (k : Int)
 | 0, _ => ⟨List.length_replicate, zero_bd _⟩
 | k + 1, h => by
  have ih := cntR_inv xs hs k (by omega)
  have hx := List.getElem?_eq_getElem (show k < xs.length by omega)
  have hm := hs _ (List.getElem_mem (show k < xs.length by omega))
  rw [cntR_succ xs k _ hx]
  exact ⟨by rw [bump_len]; exact ih.1, bump_bd ih.2 _ (by rw [ih.1]; omega)⟩
def lorR (row : List Int) : List Int := (lengthsR (twoR (cntR (runsN row) (runsN row).length)) 7).1
theorem runsF_len (row : List Int) : ∀ f k, (runsF row f k).length <= f
 | 0, _ => Nat.le_refl _
 | f + 1, k => by
  unfold runsF
  split
  ·rw [List.length_cons]; have := runsF_len row f (k + (runAtN row k).2); omega
  ·exact Nat.zero_le _
set_option maxRecDepth 100000 in
set_option maxHeartbeats 4000000 in
theorem lor_any (W : World) (a : Addr) (cap : Nat) (row : List Int) (hs : SrcI W (.slice (some a) row.length cap) row) (h1 : 0 < row.length) (hrow : row.length <= 1048576) (hcap : row.length <= cap) (hsy : ∀ r ∈ runsN row, 0 <= r.1 /\ r.1 < 19) :
  Calls Tryz.prog 116 #[.slice (some a) row.length cap] W fun e w' => ∃ u, e = .returned u /\ w'.ownsRow W.heap.size 3 1 u (lorR row).length (iVs (lorR row)) /\ Below W.heap.size W w' := by
 obtain ⟨M1, mk1, own1⟩ := mkI 19 (by decide)
 have mk1 : ∀ w : World, (Instr.makeSlice 111 (.int .i64 19) (.int .i64 19)).run Tryz.prog w = .ok (.slice (some ⟨w.heap.size, 0, none⟩) 19 19) (w.alloc (.cells M1 3)) := mk1
 obtain ⟨N, hN⟩ : ∃ N, N = W.heap.size := ⟨_, rfl⟩
 obtain ⟨W2, hW2⟩ : ∃ W2, W2 = (W.alloc (.cells M1 3)).alloc (.cells #[.slice (some ⟨N, 0, none⟩) 19 19] 111) := ⟨_, rfl⟩
 have hba : Below W.heap.size W (W.alloc (.cells M1 3)) := (Below.refl _ W).alloc (Nat.le_refl _) _
 have hbb : Below (W.alloc (.cells M1 3)).heap.size (W.alloc (.cells M1 3)) W2 := by rw [hW2]; exact (Below.refl _ _).alloc (Nat.le_refl _) _
 have hb2 : Below W.heap.size W W2 := hba.trans (hbb.mono hba.size)
 have hz2 : W2.heap.size = N + 2 := by rw [hW2, hN]; simp
 have ho2 : W2.ownsRow N 3 1 (.slice (some ⟨N, 0, none⟩) 19 19) 19 (iVs (List.replicate 19 0)) := by rw [hN]; exact own_below (own1 W) hbb
 have g2 : W2.heap[N + 1]? = some (.cells #[.slice (some ⟨N, 0, none⟩) 19 19] 111 (0, 0)) := by
  have := heap_alloc_new (W.alloc (.cells M1 3)) (.cells #[.slice (some ⟨N, 0, none⟩) 19 19] 111)
  rw [World.size_alloc, <- hN] at this
  rw [hW2]; exact this
 have HR := Lib.hid (runs_any W2 a cap row (hs.below hb2))
 have HN : Aside (N = W.heap.size /\ W2.heap.size = N + 2 /\ Below W.heap.size W W2 /\ W2.ownsRow N 3 1 (.slice (some ⟨N, 0, none⟩) 19 19) 19 (iVs (List.replicate 19 0)) /\ W2.heap[N + 1]? = some (.cells #[.slice (some ⟨N, 0, none⟩) 19 19] 111 (0, 0)) /\ a.block < N) := ⟨hN, hz2, hb2, ho2, g2, by rw [hN]; exact SrcI.lt hs h1⟩
 clear hs own1 hba hbb hb2 hz2 ho2 g2
 refine (callsIn_wide (n := 9)).1 ?_
 refine callsIn_of_wp_marks Tryz.func116 rfl trivial ?_ rfl
 simp only [Tryz.ntmps116, List.size_toArray, List.length_cons, List.length_nil, Nat.reduceAdd, Nat.reduceSub, Array.replicate_succ, Array.replicate_zero, List.push_toArray, List.append_toArray, List.nil_append, List.cons_append]
 obtain ⟨bt, hbt⟩ : ∃ bt, bt = W2.heap.size := ⟨_, rfl⟩
 rw [<- hbt] at HR
 gi_wp2_with (fail)
 rw [<- hN, <- hW2]
 refine ⟨trivial, (callsIn_wide.2 HR.out).mono ?_⟩
 rintro e w1 ⟨rfl, hB, hb1, hsz⟩
 have HS : Aside (Below W2.heap.size W2 w1 /\ w1.heap.size = bt + 1 /\ bt = N + 2) := ⟨by rw [<- hbt]; exact hb1, hsz, by rw [hbt]; exact HN.out.2.1⟩
 have HRB : Aside (RBox w1 bt a cap row) := hB
 clear hW2 hN mk1 hbt hb1 hsz HR hB
 gi_wp2_with (fail)
 have hkeep : ∀ r, (r = bt \/ r = a.block) -> r < w1.heap.size := by have h1 := HS.out; have h2 := HN.out; rintro r (rfl | rfl) <;> omega
 have HI0 : w1.ownsRow N 3 1 (.slice (some ⟨N, 0, none⟩) 19 19) 19 (iVs (cntR (runsN row) 0)) /\ w1.heap[N + 1]? = some (.cells #[.slice (some ⟨N, 0, none⟩) 19 19] 111 (0, 0)) /\ Below W.heap.size W w1 := by
  obtain ⟨q1, q2, q3, q4, q5, q6⟩ := HN.out
  exact ⟨own_below q4 HS.out.1, (HS.out.1.block (N + 1) (by omega)).trans q5, q3.trans (HS.out.1.mono q3.size)⟩
 refine Rng.wpIn_rangeAsg rfl (by omega) (gf := 141) (lb := #[.pointer (some ⟨bt, 0, none⟩)]) rfl trivial
  (enters_of Tryz.func141 (by kernel_rfl) rfl)
  (runs_iter row hrow h1 _ bt a cap hcap w1 HRB.out)
  hkeep (fun _ => rfl)
  (fun k W' => W'.ownsRow N 3 1 (.slice (some ⟨N, 0, none⟩) 19 19) 19 (iVs (cntR (runsN row) k)) /\ W'.heap[N + 1]? = some (.cells #[.slice (some ⟨N, 0, none⟩) 19 19] 111 (0, 0)) /\ Below W.heap.size W W')
  (fun _ _ _ => False)
  ?hI (fun _ _ _ _ h _ => h.elim) HI0
  (fun _ x V a' V1 => V1 = V.alloc (.cells #[.int .i64 x.1, .int .i64 (x.2.1 : Int), .int .i64 (x.2.2 : Int)] 178) /\ a' = { tmps := #[.slice (some a) row.length cap, undef, .slice none 0 0, .pointer (some ⟨N + 1, 0, none⟩), .pointer (some ⟨V.heap.size, 0, none⟩), .slice (some ⟨N, 0, none⟩) 19 19, .slice (some a) row.length cap, .func (.func 141) #[] #[.pointer (some ⟨bt, 0, none⟩)], runV x, undef, undef, undef, undef, undef, undef, undef, undef, undef, undef], defers := [] })
  ?hA ?assign ?body ?done ?stop
 case hI =>
  rintro k A B ⟨i1, i2, i3⟩ hbut
  have h1 := HS.out
  have h2 := HN.out
  have o : Only (fun r => r = w1.heap.size \/ r = w1.heap.size + 1) A B := ⟨hbut.os, hbut.tape, hbut.output, hbut.size, hbut.block⟩
  exact ⟨own_apart i1 o (by rintro (q | q) <;> omega), (o.block (N + 1) (Array.getElem?_eq_some_iff.1 i2).1 (by rintro (q | q) <;> omega)).trans i2, i3.trans (o.below i3.size (by rintro i (rfl | rfl) <;> omega))⟩
 case hA =>
  rintro k x V a' V1 ⟨rfl, rfl⟩
  exact (Rng.But.refl _ _).alloc _
 case assign =>
  intro l k x V K hxk hK
  have HKK := Lib.hid hK
  clear hK
  dsimp only [runEnc, runV]
  gi_wp2
  exact HKK.out _ _ ⟨rfl, rfl⟩
 case body =>
  rintro l k x V a' V1 W2' hxk ⟨rfl, rfl⟩ hbut ⟨i1, i2, i3⟩ hlt
  have hz1 := HS.out
  have hz2 := HN.out
  have hm := hsy x (List.mem_of_getElem? hxk)
  obtain ⟨s, hs⟩ : ∃ s : Nat, x.1 = (s : Int) := ⟨x.1.toNat, by omega⟩
  have hkl := (List.getElem?_eq_some_iff.1 hxk).1
  obtain ⟨v1, v2⟩ := cntR_inv (runsN row) hsy k (by omega)
  have hsu := cntR_succ (runsN row) k x hxk
  rw [hs, Int.toNat_natCast] at hsu
  have hrl := runsF_len row row.length 0
  have gx : W2'.heap[V.heap.size]? = some (.cells #[.int .i64 x.1, .int .i64 (x.2.1 : Int), .int .i64 (x.2.2 : Int)] 178 (0, 0)) := (hbut.block V.heap.size (by simp) (by show ¬ V.heap.size = w1.heap.size + 1; omega)).trans (heap_alloc_new _ _)
  have c0 : W2'.cell? ⟨V.heap.size, 0, none⟩ = some (.int .i64 (s : Int)) := by rw [Lib.cell_of_heap gx, hs]; rfl
  have c3 : W2'.cell? ⟨N + 1, 0, none⟩ = some (.slice (some ⟨N, 0, none⟩) 19 19) := by rw [Lib.cell_of_heap i2]; rfl
  obtain ⟨cr, fr⟩ := own_cellI i1 s (by omega)
  rw [<- numAt_eq _ s (by omega)] at cr
  have hv := v2 s
  have hkk : (k : Int) <= 1048576 := by have : (runsN row).length <= row.length := hrl; omega
  have HE : Aside (∀ w, w = W2'.setCell ⟨N, s, none⟩ (.int .i64 (numAt (cntR (runsN row) k) s + 1)) -> W2'.heap.size <= w.heap.size /\ (∀ r, ((r = bt \/ r = a.block) \/ r = w1.heap.size \/ r = w1.heap.size + 1) -> w.heap[r]? = W2'.heap[r]?) /\ w.ownsRow N 3 1 (.slice (some ⟨N, 0, none⟩) 19 19) 19 (iVs (cntR (runsN row) (k + 1))) /\ w.heap[N + 1]? = some (.cells #[.slice (some ⟨N, 0, none⟩) 19 19] 111 (0, 0)) /\ Below W.heap.size W w) := fun w hw => by
   have o : Only (fun j => j = N) W2' w := by rw [hw]; exact Only.setCell (S := fun j => j = N) rfl _ _
   have hlt2 : w1.heap.size + 1 < W2'.heap.size := by have := hbut.size; simp at this; omega
   refine ⟨o.size, fun r hr => o.block r (by rcases hr with (q | q) | q | q <;> omega) (by show ¬ r = N; rcases hr with (q | q) | q | q <;> omega), ?_, (o.block (N + 1) (by omega) (by show ¬ N + 1 = N; omega)).trans i2, i3.trans (o.below i3.size (by rintro i rfl; omega))⟩
   rw [hsu, hw]
   exact own_setI i1 s _
  have ws : IntKind.i64.wrap (numAt (cntR (runsN row) k) s + 1) = numAt (cntR (runsN row) k) s + 1 := by rw [IntKind.wrap_i64]; omega
  have s0 : (0 : Int) <= (s : Int) := by omega
  have s1 : (s : Int) < 19 := by omega
  clear i1 i2 i3 gx hsu v1 v2 hv hs hm hxk hbut hz1 hz2 hkeep HI0 mk1
  generalize numAt (cntR (runsN row) k) s = z at *
  generalize runV x = rx at *
  gi_wp2_with (fail)
  exact HE.out _ rfl
 case stop => exact fun _ _ _ _ h _ => h.elim
 case done =>
  rintro W' ⟨i1, i2, i3⟩ hK
  have hz1 := HS.out
  have hz2 := HN.out
  obtain ⟨v1, v2⟩ := cntR_inv (runsN row) hsy _ (Nat.le_refl _)
  have c3 : W'.cell? ⟨N + 1, 0, none⟩ = some (.slice (some ⟨N, 0, none⟩) 19 19) := by rw [Lib.cell_of_heap i2]; rfl
  have HT : Aside (Calls Tryz.prog 140 #[.slice (some ⟨N, 0, none⟩) 19 19] W' fun e w' => e = .returned (.slice (some ⟨N, 0, none⟩) 19 19) /\ SrcI w' (.slice (some ⟨N, 0, none⟩) 19 19) (twoR (cntR (runsN row) (runsN row).length)) /\ (twoR (cntR (runsN row) (runsN row).length)).length = 19 /\ Only (fun j => j = N) W' w') := by
   generalize cntR (runsN row) (runsN row).length = l at *
   obtain ⟨n, hn⟩ : ∃ n, n = l.length := ⟨_, rfl⟩
   have i1' : W'.ownsRow N 3 1 (.slice (some ⟨N, 0, none⟩) l.length 19) l.length (iVs l) := by rw [v1]; exact i1
   have := two_any W' N N 19 l i1' (by omega) (by omega)
   rw [v1] at this
   have ht : (twoR l).length = 19 := by unfold twoR; split; rw [List.length_set]; exact v1; exact v1
   exact this.mono fun e w' q => ⟨q.1, srci_own q.2.1 ht.symm, ht, q.2.2⟩
  have HBL : Aside (∀ w, SrcI w (.slice (some ⟨N, 0, none⟩) 19 19) (twoR (cntR (runsN row) (runsN row).length)) -> (twoR (cntR (runsN row) (runsN row).length)).length = 19 -> Calls Tryz.prog 113 #[.slice (some ⟨N, 0, none⟩) 19 19, .int .i64 7] w fun e w' => ∃ u, e = .returned u /\ w'.ownsRow w.heap.size 3 1 u (lorR row).length (iVs (lorR row)) /\ Below w.heap.size w w') := fun w h1 h2 => bestLengths_any w _ _ 7 h1 (by omega)
  have HI : Aside (Below W.heap.size W W' /\ W'.heap[w1.heap.size]? = some (.deferred (some [])) /\ N = W.heap.size /\ W.heap.size <= W'.heap.size) := ⟨i3, hK, hz2.1, i3.size⟩
  clear i1 i2 i3 hK v1 v2 hz1 hz2 HI0 hkeep mk1 h1 hsy HRB
  obtain ⟨lr, hlr⟩ : ∃ lr, lr = lorR row := ⟨_, rfl⟩
  rw [<- hlr] at HBL
  have HLR : Aside (lr = lorR row) := hlr
  clear hlr
  gi_wp2_with (fail)
  refine ⟨trivial, (callsIn_wide.2 HT.out).mono ?_⟩
  rintro e w4 ⟨rfl, y1, y2, y3⟩
  have HB4 := Lib.hid (HBL.out w4 y1 y2)
  have HO4 := Lib.hid y3
  clear y1 y2 y3
  gi_wp2_with (fail)
  refine ⟨trivial, (callsIn_wide.2 HB4.out).mono ?_⟩
  rintro e w5 ⟨u, rfl, y1, y2⟩
  obtain ⟨uo, uc, rfl, -⟩ := ownI_shape y1
  have HO5 := Lib.hid (And.intro y1 y2)
  clear y1 y2
  gi_wp2_with (fail)
  obtain ⟨q1, q2, q3, q4⟩ := HI.out
  have b5 := HO5.out.2
  have hlt := (Array.getElem?_eq_some_iff.1 q2).1
  have hne : ¬ w1.heap.size = N := by have := HS.out; omega
  have k4 := (HO4.out.block w1.heap.size hlt hne).trans q2
  have kD := (b5.block w1.heap.size (Array.getElem?_eq_some_iff.1 k4).1).trans k4
  refine ⟨by simp, .inl ⟨_, _, rfl, run_takeDeferred kD, ?_⟩⟩
  have hbw4 : Below W.heap.size W w4 := q1.trans (HO4.out.below q4 (by rintro i rfl; omega))
  have h4z := (Array.getElem?_eq_some_iff.1 k4).1
  refine ⟨_, results_tmp rfl _ _ _, _, rfl, ?_, ?_⟩
  ·rw [<- HLR.out]
   have hpo := Rng.But.putObj w5 w1.heap.size (.deferred none)
   exact ownsRow_mono (own_only HO5.out.1 (⟨hpo.os, hpo.tape, hpo.output, hpo.size, hpo.block⟩ : Only (fun r => r = w1.heap.size) _ _) (fun g' e => by have := HO5.out.1.lt g' e; show ¬ g' = w1.heap.size; omega)) hbw4.size
  ·have hpo := Rng.But.putObj w5 w1.heap.size (.deferred none)
   have hb5 : Below W.heap.size W w5 := hbw4.trans (b5.mono hbw4.size)
   exact hb5.trans ((⟨hpo.os, hpo.tape, hpo.output, hpo.size, hpo.block⟩ : Only (fun r => r = w1.heap.size) _ _).below hb5.size (by rintro i rfl; have := HS.out; have := HN.out; omega))
end Go.Proofs.YthmbbpfgbpacnaaGreatDoor.Def
namespace Go.Proofs.YthmbbpfgbpacnaaGreatDoor.Def
open Go.RowKit Go.Shelf Go.Lib Mem Bit Huf Lz Inf
attribute [local go_sem] Oper.semAt_some
def DOrd (W : World) (B : Nat) : Prop := 1 < B /\ ∀ i : Nat, i < 19 -> W.cell? ⟨1, i, none⟩ = some (.int .i64 ((ordL.getD i 0 : Nat) : Int))
theorem DOrd.only {S : Nat -> Prop} {W W' : World} {B : Nat} (h : DOrd W B) (o : Only S W W') (hs : ∀ k, S k -> B <= k) : DOrd W' B :=
 ⟨h.1, fun i hi => o.cell (h.2 i hi) (fun q => by have := hs _ q; have := h.1; simp only at *; omega)⟩
theorem DOrd.below {W W' : World} {B : Nat} (h : DOrd W B) (o : Below B W W') : DOrd W' B :=
 ⟨h.1, fun i hi => (cell_same (o.block _ h.1)).trans (h.2 i hi)⟩
def ordA : Array Value := (ordL.map fun n : Nat => Value.int .i64 (n : Int)).toArray
theorem load_ord (w : World) (h : ∀ i : Nat, i < 19 -> w.cell? ⟨1, i, none⟩ = some (.int .i64 ((ordL.getD i 0 : Nat) : Int))) : (loadVar 173 ⟨1, 0, none⟩).run Tryz.prog w = .ok (.agg ordA) w := by
 have hl : (loadCells ⟨1, 0, none⟩ 19).run Tryz.prog w = .ok ordA w := run_loadCells_list (P := Tryz.prog) w ⟨1, 0, none⟩ (ordL.map fun n : Nat => Value.int .i64 (n : Int)) (fun j v hv => by
  have hj : j < 19 := by have := (List.getElem?_eq_some_iff.1 hv).1; simpa [ordL] using this
  have e : (⟨1, 0, none⟩ : Addr).add j = ⟨1, j, none⟩ := by unfold Addr.add; split <;> simp_all
  rw [e, h j hj]
  rw [List.getElem?_map] at hv
  rw [List.getD_eq_getElem?_getD]
  cases hq : ordL[j]? with
  | none => rw [hq] at hv; cases hv
  | some n => rw [hq] at hv; exact hv)
 have hagg : (isAgg 173).run Tryz.prog w = .ok true w := by
  unfold isAgg
  rw [Sem.run_bind, run_underlying Tryz.underlying173 w]
  simp
 have hsz : (Tryz.prog.info? 173).map (·.size) = some 19 := by kernel_rfl
 cases hq : Tryz.prog.info? 173 with
 | none => rw [hq] at hsz; cases hsz
 | some i =>
  have hs : i.size = 19 := by simpa [hq] using hsz
  simp [loadVar, Sem.run_bind, hagg, sizeOf, typeInfo, hq, hs, hl]
theorem wpList_load_ord {ops : Array Oper} {rest : List Oper} {o : Oper} {a : Act} {w : World} {Q : Exit -> Act -> World -> Prop} (hgd : o.guard = none) (x : Operand) (ho : o.op = .load 173 x) (hx : a.eval x = .pointer (some ⟨1, 0, none⟩))
  (h : ∀ i : Nat, i < 19 -> w.cell? ⟨1, i, none⟩ = some (.int .i64 ((ordL.getD i 0 : Nat) : Int))) (k : wpList Tryz.prog ops Q rest (a.put o.dst (.agg ordA)) w) : wpList Tryz.prog ops Q (o :: rest) a w := by
 refine wpList_plain hgd fun _ hK => ?_
 unfold Oper.wp execOp
 simp only [ho, hx, Instr.loadAt, Instr.sureAddr, Sem.run_bind, Sem.run_pure, Result.andThen_ok, load_ord w h]
 exact hK _ _ k
def ltR (l : List Int) : List Int := l.take (toldN l 257 l.length)
def dtR (d : List Int) : List Int := d.take (toldN d 1 d.length)
def rowR (l d : List Int) : List Int := ltR l ++ dtR d
def ordR (o : List Int) : List Int := (List.range 19).map fun i => numAt o (ordL.getD i 0)
def otR (o : List Int) : List Int := (ordR o).take (toldN (ordR o) 4 (ordR o).length)
def thrO (o : List Int) : List (Nat × Nat) := o.map fun z => (z.toNat, 3)
theorem thrO_w (o : List Int) : opsW (thrO o) = 3 * o.length := by
 induction o with
 | nil => rfl
 | cons z o ih =>
  show 3 + opsW (thrO o) = _
  rw [ih, List.length_cons]; omega
def runO (o : List Int) (r : Int × Nat × Nat) : List (Nat × Nat) := [symO o r.1.toNat, (r.2.2, r.2.1)]
def headO (l d : List Int) : List (Nat × Nat) :=
 [((ltR l).length - 257, 5), ((dtR d).length - 1, 5), ((otR (lorR (rowR l d))).length - 4, 4)] ++ thrO (otR (lorR (rowR l d))) ++ (runsN (rowR l d)).flatMap (runO (lorR (rowR l d)))
def fillO (o : List Int) (i : Nat) : List Int := (List.range 19).map fun j => if j < i then numAt o (ordL.getD j 0) else 0
theorem fillO_len (o : List Int) (i : Nat) : (fillO o i).length = 19 := by unfold fillO; rw [List.length_map, List.length_range]
theorem fillO_zero (o : List Int) : fillO o 0 = List.replicate 19 0 := by unfold fillO; rfl
theorem fillO_all (o : List Int) : fillO o 19 = ordR o := by
 unfold fillO ordR
 exact List.map_congr_left fun j hj => by rw [if_pos (List.mem_range.1 hj)]
theorem fillO_at (o : List Int) (i j : Nat) (h : j < (fillO o i).length) : (fillO o i)[j] = if j < i then numAt o (ordL.getD j 0) else 0 := by simp only [fillO, List.getElem_map, List.getElem_range]
theorem fillO_set (o : List Int) (i : Nat) : (fillO o i).set i (numAt o (ordL.getD i 0)) = fillO o (i + 1) := by
 apply List.ext_getElem
 ·rw [List.length_set, fillO_len, fillO_len]
 ·intro j h1 h2
  rw [List.getElem_set]
  split
  ·rename_i e
   subst e
   rw [fillO_at, if_pos (Nat.lt_succ_self _)]
  ·rename_i e
   rw [fillO_at, fillO_at]
   by_cases hj : j < i
   ·rw [if_pos hj, if_pos (by omega)]
   ·rw [if_neg hj, if_neg (by omega)]
theorem ordA_at (i : Nat) (h : i < 19) : ordA[i]? = some (.int .i64 ((ordL.getD i 0 : Nat) : Int)) := by
 have : ∀ k : _root_.Fin 19, ordL[k.val]? = some (ordL.getD k.val 0) := by decide
 unfold ordA
 rw [List.getElem?_toArray, List.getElem?_map, this ⟨i, h⟩]
 rfl
theorem index_ord (w : World) (i : Nat) (h : i < 19) : (Instr.index 173 (.agg ordA) (.int .i64 (i : Int))).run Tryz.prog w = .ok (.int .i64 ((ordL.getD i 0 : Nat) : Int)) w := by
 have hat := ordA_at i h
 simp [Instr.index, run_underlying Tryz.underlying173 w, hat, go_sem]
 omega
theorem store_code (ty : TypeId) (w : World) (c : Array Value) : (store ⟨w.heap.size, 0, none⟩ (.func (.func 137) #[] c)).run Tryz.prog (w.alloc (.cells #[.nilFunc] ty)) = .ok () ((w.alloc (.cells #[.nilFunc] ty)).setCell ⟨w.heap.size, 0, none⟩ (.func (.func 137) #[] c)) := by
 have hh := heap_alloc_new w (.cells #[.nilFunc] ty)
 have hc : (w.alloc (.cells #[.nilFunc] ty)).cell? ⟨w.heap.size, 0, none⟩ = some .nilFunc := by rw [Lib.cell_of_heap hh]; rfl
 have hf : (w.alloc (.cells #[.nilFunc] ty)).frozen? ⟨w.heap.size, 0, none⟩ = false := Lib.frozen_of_heap hh 0
 rw [run_store _ _ _ _ _ rfl, hc]
 simp [hf]
end Go.Proofs.YthmbbpfgbpacnaaGreatDoor.Def
