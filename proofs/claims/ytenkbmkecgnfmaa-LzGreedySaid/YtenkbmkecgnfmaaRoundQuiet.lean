/- A region that draws its order and only reads, inside a round of a range over a function. -/
import Derived.Test.YtenkbmkecgnfmaaRangeOff
import Derived.Sort.QuietIn
namespace Go.Proofs.Ytenkbmkecgnfmaa.Rng
open Go.RowKit Go.Shelf

variable {F : Fence} {n : Nat} {P : Program}

theorem uponIn_round {l : Nat} {o : Oper} {a : Act} {N1 N2 : Act → World → Prop} {Q : Exit → Act → World → Prop} (h12 : ∀ a w, N1 a w → N2 a w) {r : Result Next} (h : o.uponIn F n P a N1 Q r) : o.uponIn (F.inRound l) n P a N2 Q r := by
  cases r with
  | ok x w' =>
    cases x with
    | value u => exact h12 _ _ h
    | skip => exact h12 _ _ h
    | defer d => exact h12 _ _ h
    | enter f args =>
      refine ⟨h.1, CallsIn.inRound l (CallsIn.mono h.2 fun e w'' he => ?_)⟩
      cases e with
      | returned u => exact h12 _ _ he
      | panicked c => exact he
      | outgrown => exact he
    | row row args => exact ⟨h.1, RowsIn.mono (F := F) h.2 fun u w'' he => h12 _ _ he⟩
    | round l' f tmps assign body =>
      refine ⟨h.1, RoundIn.mono (F := F) h.2 fun e w'' he => ?_⟩
      cases e with
      | returned u => exact h12 _ _ he
      | panicked c => exact he
      | outgrown => exact he
    | _ => exact h.elim
  | halt x w' =>
    cases x with
    | panic u => exact h
    | _ => exact h.elim

theorem opsIn_round {l : Nat} {ops : Array Oper} {Q : Exit → Act → World → Prop} (hnd : ∀ (i : Nat) (o : Oper), ops[i]? = some o → ∀ c, o.op ≠ .defer c) (L : List Nat) :
    ∀ (a : Act) (w : World), wpOpsIn F n P ops Q L a w → wpOpsIn (F.inRound l) n P ops Q L a w := by
  induction L with
  | nil => exact fun a w h => h
  | cons i rest ih =>
    intro a w h
    simp only [wpOpsIn] at h ⊢
    cases ho : ops[i]? with
    | none => simp only [ho] at h ⊢; exact ih a w h
    | some o =>
      simp only [ho] at h ⊢
      split
      · rename_i hw
        simp only [hw, if_true] at h
        refine ⟨h.1, ?_⟩
        have h2 := h.2
        rw [Oper.semAt_eq _ _ _ (hnd i o ho)] at h2 ⊢
        exact uponIn_round ih h2
      · rename_i hw
        simp only [hw] at h
        exact ⟨h.1, ih _ _ h.2⟩

def noDefer (l : List Oper) : Bool := l.all fun o => match o.op with | .defer _ => false | _ => true

theorem wpIn_quiet_round {lp : Nat} {id : Nat} {Q : Exit → Act → World → Prop} {a : Act} {w : World} {l : List Oper} (hro : F.round = none) (hm : P.follows .mixedOrders = true) (hB : Region.lexB .any l.toArray = true) (hnd : noDefer l = true)
    (h : wpQuietIn F n P l.toArray (fun w' => ∃ n, w' = w.drewN n) (fun a' => ∀ w', (∃ n, w' = w.drewN n) → Q .normal a' w') l a) : (Code.region id l.toArray true).wpIn (F.inRound lp) n P Q a w := by
  have hnd2 : ∀ (i : Nat) (o : Oper), l.toArray[i]? = some o → ∀ c, o.op ≠ .defer c := fun i o ho c hc => by
    have hm : o ∈ l := by
      have := List.mem_of_getElem? (l := l) (i := i) (by simpa using ho)
      exact this
    have := List.all_eq_true.1 hnd o hm
    simp [hc] at this
  refine wpIn_region_draw fun t => opsIn_round hnd2 _ _ _ ?_
  simp only [Region.schedule, hm, Bool.true_or, if_true]
  refine wpAnyIn_sound l.toArray.size t _ a _ ?_
  simp only [Region.lexB, Bool.and_eq_true] at hB
  refine wpAnyIn_of_quiet (Q := fun a' => ∀ w', (∃ n, w' = w.drewN n) → Q .normal a' w') (C := fun w' => ∃ n, w' = w.drewN n) hro (fun _ w' hw' h => h w' hw') _ _ _ _ ⟨1, rfl⟩ ?_
  have := wpAnyQIn_lex (F := F) (n := n) (C := fun w' => ∃ n, w' = w.drewN n) (md := .any) hB.1 l.toArray.toList 0 (Array.replicate l.toArray.size false) a (by simp) (by simpa using hB.2) (by simpa using h)
  simpa using this
end Go.Proofs.Ytenkbmkecgnfmaa.Rng
