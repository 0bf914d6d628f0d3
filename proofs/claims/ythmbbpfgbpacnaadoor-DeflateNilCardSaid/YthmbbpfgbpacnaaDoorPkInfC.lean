/- What a stream holds, and bytes more for it: the copy, byte by byte. A copy: again. -/
import Derived.Test.YthmbbpfgbpacnaaDoorPkInfA
import Derived.Deep.RegionLaw
import Derived.BigRegion
namespace Go.Proofs.YthmbbpfgbpacnaaDoor.Inf
open Go.RowKit Go.Shelf Go.Lib Go.Proofs.YthmbbpfgbpacnaaDoor.Mem Go.Proofs.YthmbbpfgbpacnaaDoor.Bit Go.Proofs.YthmbbpfgbpacnaaDoor.Huf Go.Proofs.YthmbbpfgbpacnaaDoor.Lz

section
variable {W W' : World} {B s r g : Nat} {v vb kn : Value} {bs out : List UInt8} {t m : Nat}
end

end Go.Proofs.YthmbbpfgbpacnaaDoor.Inf
namespace Go.Proofs.YthmbbpfgbpacnaaDoor.Inf
open Go.RowKit Go.Shelf Go.Lib Go.Proofs.YthmbbpfgbpacnaaDoor.Mem Go.Proofs.YthmbbpfgbpacnaaDoor.Bit Go.Proofs.YthmbbpfgbpacnaaDoor.Huf Go.Proofs.YthmbbpfgbpacnaaDoor.Lz

end Go.Proofs.YthmbbpfgbpacnaaDoor.Inf
