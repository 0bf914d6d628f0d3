/- Package lz: common: how many bytes at two beginnings are the same. -/
import Derived.Test.YtkbpmnghjjpeiaaDoorPkMem
import Derived.Test.YtkbpmnghjjpeiaaDoorPkHufM
import Derived.Test.YtkbpmnghjjpeiaaDoorPkLzA
import Derived.ProofKit
import Derived.Deep.LoopGhost
import Derived.Deep.Cut
import Derived.Deep.CutRange
import Derived.BigQuiet
import Derived.Deep.QuietTactic
import Derived.RegionTactic
import Derived.Deep.RegionHeld3
import Derived.Deep.RegionWith
import Derived.StillTailTactics
namespace Go.Proofs.YtkbpmnghjjpeiaaDoor.Lz
open Go.RowKit Go.Shelf Go.Lib Go.Proofs.YtkbpmnghjjpeiaaDoor.Mem Go.Proofs.YtkbpmnghjjpeiaaDoor.Huf

theorem src_shape {W : World} {x : Value} {l : List UInt8} (h : Src W x l) : ∃ ao c, x = .slice ao l.length c ∧ (0 < l.length → ∃ a, ao = some a) := by
  rcases h with ⟨rfl, rfl⟩ | ⟨a, c, rfl, _⟩
  · exact ⟨none, 0, rfl, fun h => by cases h⟩
  · exact ⟨some a, c, rfl, fun _ => ⟨a, rfl⟩⟩
theorem u8_ne {a b : UInt8} (h : a ≠ b) : ((a.toNat : Nat) : Int) ≠ (b.toNat : Int) := fun e => h (u8_inj e)

end Go.Proofs.YtkbpmnghjjpeiaaDoor.Lz
