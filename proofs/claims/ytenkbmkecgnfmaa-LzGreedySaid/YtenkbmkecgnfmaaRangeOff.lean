/- A law for a range over a function whose iterator writes nothing, and whose loop may be left early: the elements come in their order. -/
import Derived.Test.YtenkbmkecgnfmaaChecked
import Derived.RangeFuncNested
import Derived.RangeFuncBound
import Derived.RangeFuncCalls
import Derived.RangeFuncLeaves
import Derived.Shelf.Abstract
import Derived.Shelf.RegionOpen
import Derived.WalkKit
import Derived.OwnWalkIn
import Derived.TacticsInMore
import Derived.LoopNIn
import Derived.LoopIn
namespace Go.Proofs.Ytenkbmkecgnfmaa.Rng
open Go.RowKit Go.Shelf

/-- Only blocks of 'rows', and new ones, have turned. -/
structure But (rows : Nat → Prop) (a b : World) : Prop where
  os : b.os = a.os
  tape : b.tape = a.tape
  output : b.output = a.output
  size : a.heap.size ≤ b.heap.size
  block : ∀ k, k < a.heap.size → ¬ rows k → b.heap[k]? = a.heap[k]?

theorem But.refl (rows : Nat → Prop) (a : World) : But rows a a := ⟨rfl, rfl, rfl, Nat.le_refl _, fun _ _ _ => rfl⟩
theorem But.trans {rows : Nat → Prop} {a b c : World} (h : But rows a b) (k : But rows b c) : But rows a c :=
  ⟨k.os.trans h.os, k.tape.trans h.tape, k.output.trans h.output, Nat.le_trans h.size k.size, fun i hi hr => (k.block i (Nat.lt_of_lt_of_le hi h.size) hr).trans (h.block i hi hr)⟩
theorem But.drew {rows : Nat → Prop} {a b : World} (h : But rows a b) : But rows a b.drew := ⟨h.os, h.tape, h.output, h.size, h.block⟩
theorem But.drewN {rows : Nat → Prop} {a b : World} (h : But rows a b) (n : Nat) : But rows a (b.drewN n) := ⟨h.os, h.tape, h.output, h.size, h.block⟩
theorem But.of_below {rows : Nat → Prop} {a b : World} (h : Below a.heap.size a b) : But rows a b := ⟨h.os, h.tape, h.output, h.size, fun k hk _ => h.block k hk⟩
theorem But.alloc {rows : Nat → Prop} {a b : World} (h : But rows a b) (o : Obj) : But rows a (b.alloc o) := h.trans (But.of_below ((Below.refl _ _).alloc (Nat.le_refl _) _))
theorem But.setCell {rows : Nat → Prop} {a b : World} (h : But rows a b) {p : Addr} (hp : rows p.block) (u : Value) : But rows a (b.setCell p u) :=
  h.trans ⟨rfl, rfl, rfl, by simp [World.setCell], fun k _ hr => Below.heap_setCell _ _ _ _ (fun e => hr (e ▸ hp))⟩
theorem But.mono {rows rows' : Nat → Prop} {a b : World} (h : But rows a b) (hr : ∀ r, rows r → rows' r) : But rows' a b := ⟨h.os, h.tape, h.output, h.size, fun k hk hn => h.block k hk (fun x => hn (hr k x))⟩
theorem But.putObj (a : World) (l : Nat) (o : Obj) : But (· = l) a (a.putObj l o) :=
  ⟨rfl, rfl, rfl, by simp [World.putObj], fun k _ hr => World.putObj_heap_other (fun e => hr e)⟩

/-- The iterator g hands out xs in its order, until it is told to stop; it needs the blocks of 'keep' as they were. -/
def SeqOff {α : Type} (F : Fence) (m : Nat) (P : Program) (g : Nat) (lb : Array Value) (encs : α → Array Value) (keep : Nat → Prop) (xs : List α) (w0 : World) : Prop :=
  ∀ (l : Nat) (J Jx : Nat → World → Prop) (W : World), But (fun _ => False) w0 W →
    (∀ k A B, J k A → But (fun _ => False) A B → J k B) → (∀ k A B, Jx k A → But (fun _ => False) A B → Jx k B) →
    (∀ k x W1, xs[k]? = some x → J k W1 → YieldAt F (m - 1) P l (encs x) W1 fun e W' =>
      ((e = .returned (.bool true) ∧ J (k + 1) W') ∨ (e = .returned (.bool false) ∧ Jx (k + 1) W')) ∧ W1.heap.size ≤ W'.heap.size ∧ (∀ r, keep r → W'.heap[r]? = W1.heap[r]?)) →
    J 0 W →
    CallsIn F m P g (#[.func (.yield l) #[] #[]] ++ lb) W fun e W' => (∃ v, e = .returned v) ∧ (J xs.length W' ∨ ∃ k, k ≤ xs.length ∧ Jx k W')

/-- How a round's body is left: it goes on, or the loop is left. -/
def goOff (keep : Nat → Prop) (D : Nat) (I : World → Prop) (Ix : Code → World → Prop) (W : World) : Exit → Act → World → Prop
  | .normal, _, W' => W.heap.size ≤ W'.heap.size ∧ (∀ r, (keep r ∨ r = D ∨ r = D + 1) → W'.heap[r]? = W.heap[r]?) ∧ I W'
  | .exit id, _, W' => W.heap.size ≤ W'.heap.size ∧ (∀ r, (keep r ∨ r = D ∨ r = D + 1) → W'.heap[r]? = W.heap[r]?) ∧ Ix (.exit id) W'
  | _, _, _ => False

variable {F : Fence} {n : Nat} {P : Program}

theorem wpIn_rangeOff {α : Type} {g : Operand} {ps : Array Tmp} {assign body : Code} {Q : Exit → Act → World → Prop} {a : Act} {w : World}
    (hro : F.round = none) (h1 : 1 ≤ n) {gf : Nat} {lb : Array Value} (hg : a.eval g = .func (.func gf) #[] lb) (hFg : F.fn gf) (eg : ∀ args w, (callFunc gf args).run P w = .ok (.enter gf args) w)
    {encs : α → Array Value} {keep : Nat → Prop} {xs : List α} (hseq : SeqOff F (n - 1) P gf lb encs keep xs w) (hkeep : ∀ r, keep r → r < w.heap.size) (hps : ∀ x, (encs x).size = ps.size)
    (I : Nat → World → Prop) (Ix : Code → Nat → World → Prop)
    (hI : ∀ k A B, I k A → But (fun r => r = w.heap.size ∨ r = w.heap.size + 1) A B → I k B) (hIx : ∀ c k A B, Ix c k A → But (fun r => r = w.heap.size ∨ r = w.heap.size + 1) A B → Ix c k B) (h0 : I 0 w) (a₁ : α → Act)
    (hassign : ∀ (l : Nat) (x : α) (W : World) (K : Act → World → Prop), K (a₁ x) W →
      assign.wpIn (F.inRound l) (n - 1 - 1) P (Exit.then K (fun _ _ _ => False)) { tmps := (ps.zip (encs x)).foldl (fun t (p, v) => t.setIfInBounds p v) a.tmps, defers := [] } W)
    (hbody : ∀ (l k : Nat) (x : α) (W : World), xs[k]? = some x → I k W → w.heap.size + 1 < W.heap.size → body.wpIn (F.inRound l) (n - 1 - 1) P (goOff keep w.heap.size (I (k + 1)) (fun c => Ix c (k + 1)) W) (a₁ x) W)
    (hdone : ∀ (W : World), I xs.length W → W.heap[w.heap.size]? = some (.deferred (some [])) → Q .normal { a with defers := { target := .collected w.heap.size, args := #[] } :: a.defers } W)
    (hstop : ∀ (c : Code) (k : Nat) (W : World), k ≤ xs.length → Ix c k W → W.heap[w.heap.size]? = some (.deferred (some [])) → c.wpIn F n P Q { a with defers := { target := .collected w.heap.size, args := #[] } :: a.defers } W) :
    (Code.rangeFunc g ps assign body).wpIn F n P Q a w := by
  refine wpIn_rangeFunc ?_
  intro fn hfn
  rw [hro]
  obtain ⟨rec, hrec⟩ : ∃ rec : LoopState → Option Code → Loop, rec = fun st pe => { state := st, pending := pe, fn, tmps := a.tmps, params := ps, assign, body, defers := w.heap.size } := ⟨_, rfl⟩
  obtain ⟨W1, hW1⟩ : ∃ W1, (w.alloc (.deferred (some []))).alloc (.loop (rec .ready none)) = W1 := ⟨_, rfl⟩
  have hL1 : W1.heap[w.heap.size + 1]? = some (.loop (rec .ready none)) := by
    rw [← hW1]; have := World.alloc_heap_new (w.alloc (.deferred (some []))) (.loop (rec .ready none)); rwa [World.size_alloc] at this
  have hK1 : W1.heap[w.heap.size]? = some (.deferred (some [])) := by
    rw [← hW1]; exact (Below.heap_alloc _ _ _ (by simp)).trans (World.alloc_heap_new w _)
  have hb1 : But (fun _ => False) w W1 := by
    rw [← hW1]; exact ((But.refl _ w).alloc _).alloc _
  have hI1 : I 0 W1 := hI _ _ _ h0 (hb1.mono (fun _ h => h.elim))
  refine ⟨w.heap.size + 1, [{ target := .collected w.heap.size, args := #[] }], W1, { target := .fn (.func gf) lb, args := #[.func (.yield (w.heap.size + 1)) #[] #[]] }, W1, gf,
    #[.func (.yield (w.heap.size + 1)) #[] #[]] ++ lb, W1, ?_, ?_, ?_, ?_, fun _ => h1, ?_⟩
  · rw [← hW1, hrec]; exact run_enterLoop_outer _ _ _ _ _
  · simp only [resolve, hg]
    simp [go_sem]
  · intro f' hf'; simp [Target.leads] at hf'; subst hf'; exact hFg
  · simp [invoke, go_sem, eg]
  · have other : ∀ {A B : World} {k : Nat} {o : Obj}, A.heap[k]? = some o → But (fun _ => False) A B → B.heap[k]? = some o := fun ho hb =>
      (hb.block _ (Array.getElem?_eq_some_iff.1 ho).1 (fun hr => hr)).trans ho
    refine (hseq (w.heap.size + 1)
      (fun k W => I k W ∧ W.heap[w.heap.size + 1]? = some (.loop (rec .ready none)) ∧ W.heap[w.heap.size]? = some (.deferred (some [])))
      (fun k W => ∃ c, Ix c k W ∧ W.heap[w.heap.size + 1]? = some (.loop (rec .done (some c))) ∧ W.heap[w.heap.size]? = some (.deferred (some [])))
      W1 hb1
      (fun k A B hs hb => ⟨hI k A B hs.1 (hb.mono (fun _ h => h.elim)), other hs.2.1 hb, other hs.2.2 hb⟩)
      (fun k A B hs hb => by
        obtain ⟨c, h1, h2, h3⟩ := hs
        exact ⟨c, hIx c k A B h1 (hb.mono (fun _ h => h.elim)), other h2 hb, other h3 hb⟩)
      ?_ ⟨hI1, hL1, hK1⟩).mono ?_
    · rintro k x W hx ⟨hi, hl, hk⟩
      have hlt : w.heap.size + 1 < W.heap.size := (Array.getElem?_eq_some_iff.1 hl).1
      have hy := run_yield (P := P) (args := encs x) hl (by rw [hrec]; exact hps x)
      rw [hrec] at hy
      refine ⟨fn, _, assign, body, hy, roundIn_of_wpIn hfn (hassign _ x W _ ⟨_, run_beginRound hl (by rw [hrec]), ?_⟩)⟩
      have hp2 := But.putObj W (w.heap.size + 1) (.loop { rec .ready none with state := .busy })
      have hl2 : (W.putObj (w.heap.size + 1) (.loop { rec .ready none with state := .busy })).heap[w.heap.size + 1]? = some (.loop { rec .ready none with state := .busy }) := World.putObj_heap_same hlt
      have hk2 : (W.putObj (w.heap.size + 1) (.loop { rec .ready none with state := .busy })).heap[w.heap.size]? = some (.deferred (some [])) := (World.putObj_heap_other (by omega)).trans hk
      refine wpIn_mono (hbody _ k x _ hx (hI _ _ _ hi (hp2.mono (fun r h => .inr h))) (Nat.lt_of_lt_of_le hlt hp2.size)) ?_
      have fin : ∀ (jump : Option Code) (W3 : World), (W.putObj (w.heap.size + 1) (.loop { rec .ready none with state := .busy })).heap.size ≤ W3.heap.size → (∀ r, (keep r ∨ r = w.heap.size ∨ r = w.heap.size + 1) → W3.heap[r]? = (W.putObj (w.heap.size + 1) (.loop { rec .ready none with state := .busy })).heap[r]?) →
          (Instr.endRound (w.heap.size + 1) jump).run P W3 = .ok (.bool jump.isNone) (W3.putObj (w.heap.size + 1) (.loop (rec (if jump.isNone then .ready else .done) jump))) ∧
          (W3.putObj (w.heap.size + 1) (.loop (rec (if jump.isNone then .ready else .done) jump))).heap[w.heap.size + 1]? = some (.loop (rec (if jump.isNone then .ready else .done) jump)) ∧
          (W3.putObj (w.heap.size + 1) (.loop (rec (if jump.isNone then .ready else .done) jump))).heap[w.heap.size]? = some (.deferred (some [])) ∧
          W.heap.size ≤ (W3.putObj (w.heap.size + 1) (.loop (rec (if jump.isNone then .ready else .done) jump))).heap.size ∧
          (∀ r, keep r → (W3.putObj (w.heap.size + 1) (.loop (rec (if jump.isNone then .ready else .done) jump))).heap[r]? = W.heap[r]?) := fun jump W3 hs3 hk3 => by
        have hl3 := (hk3 (w.heap.size + 1) (.inr (.inr rfl))).trans hl2
        have hr := run_endRound (P := P) jump hl3
        have hp4 := But.putObj W3 (w.heap.size + 1) (.loop (rec (if jump.isNone then .ready else .done) jump))
        refine ⟨?_, World.putObj_heap_same (Array.getElem?_eq_some_iff.1 hl3).1, (World.putObj_heap_other (by omega)).trans ((hk3 w.heap.size (.inr (.inl rfl))).trans hk2), Nat.le_trans hp2.size (Nat.le_trans hs3 hp4.size), fun r hr' => ?_⟩
        · rw [hr, hrec]
        · have hne : r ≠ w.heap.size + 1 := by have := hkeep r hr'; omega
          exact (World.putObj_heap_other hne).trans ((hk3 r (.inl hr')).trans (World.putObj_heap_other hne))
      rintro e a3 W3 hp
      cases e with
      | normal =>
        obtain ⟨hs3, hk3, hi3⟩ := hp
        obtain ⟨hr, hl4, hk4, hs4, hkk⟩ := fin none W3 hs3 hk3
        have hp4 := But.putObj W3 (w.heap.size + 1) (.loop (rec .ready none))
        exact ⟨_, _, hr, .inl ⟨rfl, hI _ _ _ hi3 (hp4.mono (fun r h => .inr h)), hl4, hk4⟩, hs4, hkk⟩
      | exit id =>
        obtain ⟨hs3, hk3, hi3⟩ := hp
        obtain ⟨hr, hl4, hk4, hs4, hkk⟩ := fin (some (.exit id)) W3 hs3 hk3
        have hp4 := But.putObj W3 (w.heap.size + 1) (.loop (rec .done (some (.exit id))))
        exact ⟨_, _, hr, .inr ⟨rfl, .exit id, hIx _ _ _ _ hi3 (hp4.mono (fun r h => .inr h)), hl4, hk4⟩, hs4, hkk⟩
      | ret => exact hp.elim
      | goto t => exact hp.elim
      | panic ch => exact hp.elim
      | outgrown => exact hp.elim
    · rintro e W2 ⟨⟨v, rfl⟩, (⟨hi, hl, hk⟩ | ⟨k, hk0, c, hi, hl, hk⟩)⟩
      · have hp := But.putObj W2 (w.heap.size + 1) (.loop { rec .ready none with state := .exhausted })
        have he := run_endLoop (P := P) hl (by rw [hrec]; simp)
        refine ⟨none, _, by rw [he, hrec], hdone _ (hI _ _ _ hi (hp.mono (fun r h => .inr h))) ?_⟩
        exact (World.putObj_heap_other (by omega)).trans hk
      · have hp := But.putObj W2 (w.heap.size + 1) (.loop { rec .done (some c) with state := .exhausted, pending := none })
        have he := run_endLoop (P := P) hl (by rw [hrec]; simp)
        refine ⟨some c, _, by rw [he, hrec], hstop c k _ hk0 (hIx _ _ _ _ hi (But.mono (But.putObj W2 (w.heap.size + 1) _) (fun r h => .inr h))) ?_⟩
        exact (World.putObj_heap_other (by omega)).trans hk

end Go.Proofs.Ytenkbmkecgnfmaa.Rng
