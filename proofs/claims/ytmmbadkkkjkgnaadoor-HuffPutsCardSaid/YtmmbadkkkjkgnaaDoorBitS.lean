/- The document's writer of bits: Align, whole bytes, what is there. -/
import Derived.Test.YtmmbadkkkjkgnaaDoorBitR
import Derived.Deep.LoopGhost
namespace Go.Proofs.YtmmbadkkkjkgnaaDoor.Bit
open Go.RowKit Go.Shelf Go.Proofs.YtmmbadkkkjkgnaaDoor.Mem

theorem byte_put (W : World) (B c k : Nat) (x : UInt8) (l : List Bool) (h : RW W B c k l) (hs : l.length + 8 ≤ 8388608) :
    Calls Tryd.prog 35 #[.pointer (some ⟨c, 0, none⟩), .int .i64 (x.toNat : Int), .int .i64 8] W fun e w' => e = .returned (.int .i64 0) ∧ RStep W w' B c k (l ++ bitsOf (x.toNat : Int) 8) :=
  refPut_ok W B c k 8 (x.toNat : Int) l h (by decide) (by omega) (by have := UInt8.toNat_lt x; have e : (2 : Int) ^ 8 = 256 := by decide
                                                                     rw [e]; omega) hs

end Go.Proofs.YtmmbadkkkjkgnaaDoor.Bit
