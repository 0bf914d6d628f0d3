/- The lengths of blocks: enough, Fixed; their decoders: newDecoder, newCodes. The lengths of a dynamic block: lengths. -/
import Derived.Test.YthmbbpfgbpacnaaDoorPkInfF
namespace Go.Proofs.YthmbbpfgbpacnaaDoor.Inf
open Go.RowKit Go.Shelf Go.Lib Go.Proofs.YthmbbpfgbpacnaaDoor.Mem Go.Proofs.YthmbbpfgbpacnaaDoor.Bit Go.Proofs.YthmbbpfgbpacnaaDoor.Huf Go.Proofs.YthmbbpfgbpacnaaDoor.Lz

theorem take_snocI (l : List Int) (i : Nat) (h : i < l.length) : l.take (i + 1) = l.take i ++ [numAt l i] := by
  rw [List.take_succ_eq_append_getElem h, numAt_eq l i h]
end Go.Proofs.YthmbbpfgbpacnaaDoor.Inf
namespace Go.Proofs.YthmbbpfgbpacnaaDoor.Inf
open Go.RowKit Go.Shelf Go.Lib Go.Proofs.YthmbbpfgbpacnaaDoor.Mem Go.Proofs.YthmbbpfgbpacnaaDoor.Bit Go.Proofs.YthmbbpfgbpacnaaDoor.Huf Go.Proofs.YthmbbpfgbpacnaaDoor.Lz

theorem srci_take {W : World} {m c : Nat} {a : Addr} {l : List Int} (h : SrcI W (.slice (some a) l.length c) l) (hm : m ≤ l.length) (c2 : Nat) : SrcI W (.slice (some a) m c2) (l.take m) := by
  rcases h with ⟨hv, _⟩ | ⟨a', c', hv, hc⟩
  · cases hv
  · cases hv
    refine .inr ⟨a, c2, by rw [List.length_take, Nat.min_eq_left hm], fun j v hj => hc j v ?_⟩
    rw [iVs, List.getElem?_map] at hj ⊢
    rw [List.getElem?_take] at hj
    split at hj
    · exact hj
    · cases hj
end Go.Proofs.YthmbbpfgbpacnaaDoor.Inf
