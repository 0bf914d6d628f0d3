/- A stream is made, read, and given up: newStream, begun, whole. What Inflate and Blocks answer. Inflate and Blocks of package inflate. What must come: two streams that are known. -/
import Derived.Test.YthmbbpfgbpacnaaDoorPkInfM
import Derived.Defers
import Derived.Recover
import Derived.Deep.QuietTactic
import Derived.Test.YthmbbpfgbpacnaaDoorPkHPutB
namespace Go.Proofs.YthmbbpfgbpacnaaDoor.Inf
open Go.RowKit Go.Shelf Go.Lib Go.Proofs.YthmbbpfgbpacnaaDoor.Mem Go.Proofs.YthmbbpfgbpacnaaDoor.Bit Go.Proofs.YthmbbpfgbpacnaaDoor.Huf Go.Proofs.YthmbbpfgbpacnaaDoor.Lz

end Go.Proofs.YthmbbpfgbpacnaaDoor.Inf
namespace Go.Proofs.YthmbbpfgbpacnaaDoor.Inf
open Go.RowKit Go.Shelf Go.Lib Go.Proofs.YthmbbpfgbpacnaaDoor.Mem Go.Proofs.YthmbbpfgbpacnaaDoor.Bit Go.Proofs.YthmbbpfgbpacnaaDoor.Huf Go.Proofs.YthmbbpfgbpacnaaDoor.Lz

end Go.Proofs.YthmbbpfgbpacnaaDoor.Inf
namespace Go.Proofs.YthmbbpfgbpacnaaDoor.Inf
open Go.RowKit Go.Shelf Go.Lib Go.Proofs.YthmbbpfgbpacnaaDoor.Mem Go.Proofs.YthmbbpfgbpacnaaDoor.Bit Go.Proofs.YthmbbpfgbpacnaaDoor.Huf Go.Proofs.YthmbbpfgbpacnaaDoor.Lz

end Go.Proofs.YthmbbpfgbpacnaaDoor.Inf
namespace Go.Proofs.YthmbbpfgbpacnaaDoor.Inf
open Go.RowKit Go.Shelf Go.Lib Go.Proofs.YthmbbpfgbpacnaaDoor.Mem Go.Proofs.YthmbbpfgbpacnaaDoor.Bit Go.Proofs.YthmbbpfgbpacnaaDoor.Huf Go.Proofs.YthmbbpfgbpacnaaDoor.Lz

theorem src_new (W : World) (l : List UInt8) : Mem.Src (W.alloc (.cells (bVs l).toArray 5)) (.slice (some ⟨W.heap.size, 0, none⟩) l.length l.length) l :=
  .inr ⟨_, l.length, rfl, fun j v hj => by
    rw [Lib.addr_add, cell_of_row _ _ _ _ _ (0, 0) (heap_alloc_new _ _), Nat.zero_add, ← Array.getElem?_toList]
    exact hj⟩
end Go.Proofs.YthmbbpfgbpacnaaDoor.Inf
