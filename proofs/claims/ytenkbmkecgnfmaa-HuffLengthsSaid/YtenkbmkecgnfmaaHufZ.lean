/- How much an argument holds. -/
import Derived.Test.YtenkbmkecgnfmaaHufY
import Derived.Test.YtenkbmkecgnfmaaClose
import Derived.ProofKit
import Derived.Lay
import Derived.LaidOnce
namespace Go.Proofs.Ytenkbmkecgnfmaa.Huf
open Go.RowKit Go.Shelf Go.Lib
open Go.ChangeShapes Go.WideShapes Go.ChangeAt

/-- All weights of an argument are within the reach. -/
theorem reach_of {H : Type} {P : Program} {ts : List TypeId} {ds : List (DataW H)} (h : (DataW.weightsEach P ts ds).all (· ≤ reachBytes) = true) {j : Nat} {t : TypeId} {d : DataW H} (ht : ts[j]? = some t) (hd : ds[j]? = some d) : ∀ n ∈ d.weights P t, n ≤ 140737488351232 := fun n hn => by
  have := List.all_eq_true.1 h _ (DataW.weights_mem_each ht hd n hn)
  have e : reachBytes = 140737488351232 := by decide
  rw [← e]
  simpa using this
end Go.Proofs.Ytenkbmkecgnfmaa.Huf
