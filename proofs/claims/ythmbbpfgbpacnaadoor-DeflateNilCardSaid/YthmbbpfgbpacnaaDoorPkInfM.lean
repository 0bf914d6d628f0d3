/- Rows of blocks; what a stream has read so far. Block by block: read. -/
import Derived.Test.YthmbbpfgbpacnaaDoorPkInfK
namespace Go.Proofs.YthmbbpfgbpacnaaDoor.Inf
open Go.RowKit Go.Shelf Go.Lib Go.Proofs.YthmbbpfgbpacnaaDoor.Mem Go.Proofs.YthmbbpfgbpacnaaDoor.Bit Go.Proofs.YthmbbpfgbpacnaaDoor.Huf Go.Proofs.YthmbbpfgbpacnaaDoor.Lz

section
variable {T e : TypeId} (hU : Tryd.prog.underlying T = some (.slice e)) (hinfo : (Tryd.prog.info? e).map (fun i => (i.zero, i.size, i.bytes)) = some (some (.agg #[.int .i64 0, .int .i64 0]), 2, 16))
include hU hinfo
end

/-! What a block makes is never less than what was there, and stays within the bits. -/
end Go.Proofs.YthmbbpfgbpacnaaDoor.Inf
namespace Go.Proofs.YthmbbpfgbpacnaaDoor.Inf
open Go.RowKit Go.Shelf Go.Lib Go.Proofs.YthmbbpfgbpacnaaDoor.Mem Go.Proofs.YthmbbpfgbpacnaaDoor.Bit Go.Proofs.YthmbbpfgbpacnaaDoor.Huf Go.Proofs.YthmbbpfgbpacnaaDoor.Lz

theorem store_fn (w : World) (a : Addr) (n : FuncId) (x : Value) (hc : w.cell? a = some x) (hf : w.frozen? a = false) : (store a (.func (.func n) #[] #[])).run Tryd.prog w = .ok () (w.setCell a (.func (.func n) #[] #[])) := by
  rw [run_store _ _ _ _ _ rfl, hc]
  simp [hf]
end Go.Proofs.YthmbbpfgbpacnaaDoor.Inf
