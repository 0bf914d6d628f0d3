/- Package lz: greatest: the greatest length at a place, and how far back. -/
import Derived.Test.YtenkbmkecgnfmaaLzE
import Derived.BigRegionIn
namespace Go.Proofs.Ytenkbmkecgnfmaa.Lz
open Go.RowKit Go.Shelf Go.Lib Go.Proofs.Ytenkbmkecgnfmaa.Mem Go.Proofs.Ytenkbmkecgnfmaa.Huf

attribute [local go_sem] Oper.semAt_some

theorem results_cells2 {fn : Func} {p q : Tmp} (h : fn.results = #[.cell p 3, .cell q 3]) (tmps : Array Value) (w : World) (a b : Addr) (x y : Int)
    (hp : tmps.getD p undef = .pointer (some a)) (hq : tmps.getD q undef = .pointer (some b)) (ha : w.cell? a = some (.int .i64 x)) (hb : w.cell? b = some (.int .i64 y)) :
    (results fn tmps).run Try.prog w = .ok (.tuple #[.int .i64 x, .int .i64 y]) w := by
  have hp' : tmps[p]?.getD undef = .pointer (some a) := by simpa using hp
  have hq' : tmps[q]?.getD undef = .pointer (some b) := by simpa using hq
  simp [results, h, hp', hq', asAddr, Sem.run_bind, Result.andThen, loadVar, isAgg, ha, hb, go_sem]

/-- The best of the first so many candidates. -/
def bestTo (b : List UInt8) (W k j i : Nat) : Nat × Nat := ((chain b j W k 0).take i).foldl (bestOf b j) (0, 0)
theorem bestTo_zero (b : List UInt8) (W k j : Nat) : bestTo b W k j 0 = (0, 0) := by simp [bestTo]
theorem bestTo_all (b : List UInt8) (W k j : Nat) : bestTo b W k j (chain b j W k 0).length = greatN b W k j := by
  rw [greatN_chain]; unfold bestTo; rw [List.take_length]
theorem bestTo_succ (b : List UInt8) (W k j i d : Nat) (h : (chain b j W k 0)[i]? = some d) : bestTo b W k j (i + 1) = bestOf b j (bestTo b W k j i) d := by
  obtain ⟨hi, he⟩ := List.getElem?_eq_some_iff.1 h
  unfold bestTo
  rw [List.take_succ_eq_append_getElem hi, he, List.foldl_append]
  rfl
theorem best_full (b : List UInt8) (j n : Nat) (hn : ∀ d, alikeN b (j - d) j ≤ n) (l : List Nat) (s : Nat × Nat) (hs : s.1 = n) : l.foldl (bestOf b j) s = s := by
  induction l with
  | nil => rfl
  | cons d l ih =>
    rw [List.foldl_cons]
    have : bestOf b j s d = s := by
      unfold bestOf
      rw [if_neg]
      have := hn d
      omega
    rw [this]; exact ih
theorem bestTo_full (b : List UInt8) (W k j i : Nat) (n : Nat) (hn : ∀ d, alikeN b (j - d) j ≤ n) (hs : (bestTo b W k j i).1 = n) : greatN b W k j = bestTo b W k j i := by
  rw [greatN_chain]
  have h : (chain b j W k 0) = (chain b j W k 0).take i ++ (chain b j W k 0).drop i := (List.take_append_drop _ _).symm
  rw [h, List.foldl_append]
  exact best_full b j n hn _ _ hs
theorem best_le (b : List UInt8) (j n : Nat) (hn : ∀ d, alikeN b (j - d) j ≤ n) (s : Nat × Nat) (d : Nat) (hs : s.1 ≤ n) : (bestOf b j s d).1 ≤ n := by
  unfold bestOf
  split
  · exact hn d
  · exact hs

/-- The rest of a text, as far as a copy may reach. -/
def restN (b : List UInt8) (j : Nat) : List UInt8 := (b.drop j).take 258
theorem restN_len (b : List UInt8) (j : Nat) : (restN b j).length = min 258 (b.length - j) := by simp [restN]
end Go.Proofs.Ytenkbmkecgnfmaa.Lz
