/-
  NARROWER THAN 'FOR EVERY INPUT', by the rows' own cells (each row's printed sentence says how): BitsWrites: laid · BitsReads: laid · BitsReverse: laid · BitsNil: laid · BitsBack: laid.
  DERIVED. THE GIVEN ROWS OF THIS SEAT. 5 by the template 'for every input the law returns true; each argument reads behind the call as it read before'; 0 by the template 'total and deterministic' (their statements: YtaibehfpbcgijabDoorTotals.lean).
  GIVEN WITH THE SEED: the statements are not yours to turn. If you find one false, say at which input.
  Laid BY PROGRAM, IN A SANDBOX (cutbox-rows.mjs): the forced cells as the released guide's own fill.sh prints them over the translation d45ed216544befaa… (all of the seat's roots in one cut). By AI agents, Wed Nov 11 2026. No macro, syntax, notation, axiom, sorry.
-/
import Derived.Test.YtaibehfpbcgijabDoorChecked
import GoSem.Claim
import GoSem.ClaimJoined
import GoSem.ClaimMapViews
import Derived.JoinedTies
import Derived.KernelRfl
namespace Go.Proofs.YtaibehfpbcgijabDoor
/- THE CELL 'sum', in the pinned program and in every row, IS THE sha256 OF THE DUMP (.gsa) THAT YtaibehfpbcgijabDoorProg.lean LOADS. Nothing in Lean hashes anything: it is a label: what it is worth is what the hold of that sum in a sandbox is worth. -/
noncomputable def Tryd.pinned : Pinned := { name := "ytaibehfpbcgijabdoor", sum := "d45ed216544befaa2342545e88ad7dac588b7dc15361b91eabbb72f60cf8d146", checked := Tryd.checked }
namespace Rows
def none {H : Type} : Left H := { results := [], args := [] }

/- WHAT THE LISTED PACKAGE-LEVEL VARIABLES READ AS WHEN THE CALL BEGINS. Each datum BY PROGRAM (the guide's laid-datum.mjs) off the statement by which the dump's own 'gosem.cut.vars' lays the variable. In a bare row this is a premise. The card (YtaibehfpbcgijabDoorCards.lean) ties it to the program's text. -/
def laid_gatehouse_bits_masks {H : Type} : DataW H := .agg [.lit (.int .u8 1), .lit (.int .u8 2), .lit (.int .u8 4), .lit (.int .u8 8), .lit (.int .u8 16), .lit (.int .u8 32), .lit (.int .u8 64), .lit (.int .u8 128)]

/-- 'gatehouselaw02.BitsWrites': WHATEVER THE INPUT: true; the input reads as it did. -/
def bitsWritesSpec : ChangeSpec := { name := "bitsWrites", fn := fun _ => fun
  | [d1, d2] => { results := [.lit (.bool true)], args := [d1, d2] }
  | _ => none }
def bitsWritesRow : OpenClaim := { program := "ytaibehfpbcgijabdoor", sum := "d45ed216544befaa2342545e88ad7dac588b7dc15361b91eabbb72f60cf8d146", func := "gatehouse/gatehouselaw02.BitsWrites", spec := "bitsWrites", named := ["gatehouse/bits.masks"], apart := false, laid := [("gatehouse/bits.masks", laid_gatehouse_bits_masks)] }
def BitsWritesSaid : Prop := bitsWritesRow.holds Tryd.pinned (OpenSpec.ofChange bitsWritesSpec)

/-- ITS FALSE NEIGHBOUR: 'it returns false'. Refute it at one input. -/
def bitsWritesWrong : ChangeSpec := { name := "bitsWrites", fn := fun _ => fun
  | [d1, d2] => { results := [.lit (.bool false)], args := [d1, d2] }
  | _ => none }
def BitsWritesWrongFalsely : Prop := bitsWritesRow.holds Tryd.pinned (OpenSpec.ofChange bitsWritesWrong)

/-- 'gatehouselaw02.BitsReads': WHATEVER THE INPUT: true; the input reads as it did. -/
def bitsReadsSpec : ChangeSpec := { name := "bitsReads", fn := fun _ => fun
  | [d1, d2] => { results := [.lit (.bool true)], args := [d1, d2] }
  | _ => none }
def bitsReadsRow : OpenClaim := { program := "ytaibehfpbcgijabdoor", sum := "d45ed216544befaa2342545e88ad7dac588b7dc15361b91eabbb72f60cf8d146", func := "gatehouse/gatehouselaw02.BitsReads", spec := "bitsReads", named := ["gatehouse/bits.masks"], apart := false, laid := [("gatehouse/bits.masks", laid_gatehouse_bits_masks)] }
def BitsReadsSaid : Prop := bitsReadsRow.holds Tryd.pinned (OpenSpec.ofChange bitsReadsSpec)

/-- ITS FALSE NEIGHBOUR: 'it returns false'. Refute it at one input. -/
def bitsReadsWrong : ChangeSpec := { name := "bitsReads", fn := fun _ => fun
  | [d1, d2] => { results := [.lit (.bool false)], args := [d1, d2] }
  | _ => none }
def BitsReadsWrongFalsely : Prop := bitsReadsRow.holds Tryd.pinned (OpenSpec.ofChange bitsReadsWrong)

/-- 'gatehouselaw02.BitsReverse': WHATEVER THE INPUT: true; the input reads as it did. -/
def bitsReverseSpec : ChangeSpec := { name := "bitsReverse", fn := fun _ => fun
  | [d1, d2] => { results := [.lit (.bool true)], args := [d1, d2] }
  | _ => none }
def bitsReverseRow : OpenClaim := { program := "ytaibehfpbcgijabdoor", sum := "d45ed216544befaa2342545e88ad7dac588b7dc15361b91eabbb72f60cf8d146", func := "gatehouse/gatehouselaw02.BitsReverse", spec := "bitsReverse", named := ["gatehouse/bits.masks"], apart := false, laid := [("gatehouse/bits.masks", laid_gatehouse_bits_masks)] }
def BitsReverseSaid : Prop := bitsReverseRow.holds Tryd.pinned (OpenSpec.ofChange bitsReverseSpec)

/-- ITS FALSE NEIGHBOUR: 'it returns false'. Refute it at one input. -/
def bitsReverseWrong : ChangeSpec := { name := "bitsReverse", fn := fun _ => fun
  | [d1, d2] => { results := [.lit (.bool false)], args := [d1, d2] }
  | _ => none }
def BitsReverseWrongFalsely : Prop := bitsReverseRow.holds Tryd.pinned (OpenSpec.ofChange bitsReverseWrong)

/-- 'gatehouselaw02.BitsNil': WHATEVER THE INPUT: true; the input reads as it did. -/
def bitsNilSpec : ChangeSpec := { name := "bitsNil", fn := fun _ => fun
  | [d1, d2, d3] => { results := [.lit (.bool true)], args := [d1, d2, d3] }
  | _ => none }
def bitsNilRow : OpenClaim := { program := "ytaibehfpbcgijabdoor", sum := "d45ed216544befaa2342545e88ad7dac588b7dc15361b91eabbb72f60cf8d146", func := "gatehouse/gatehouselaw02.BitsNil", spec := "bitsNil", named := ["gatehouse/bits.masks"], apart := false, laid := [("gatehouse/bits.masks", laid_gatehouse_bits_masks)] }
def BitsNilSaid : Prop := bitsNilRow.holds Tryd.pinned (OpenSpec.ofChange bitsNilSpec)

/-- ITS FALSE NEIGHBOUR: 'it returns false'. Refute it at one input. -/
def bitsNilWrong : ChangeSpec := { name := "bitsNil", fn := fun _ => fun
  | [d1, d2, d3] => { results := [.lit (.bool false)], args := [d1, d2, d3] }
  | _ => none }
def BitsNilWrongFalsely : Prop := bitsNilRow.holds Tryd.pinned (OpenSpec.ofChange bitsNilWrong)

/-- 'gatehouselaw02.BitsBack': WHATEVER THE INPUT: true; the input reads as it did. -/
def bitsBackSpec : ChangeSpec := { name := "bitsBack", fn := fun _ => fun
  | [d] => { results := [.lit (.bool true)], args := [d] }
  | _ => none }
def bitsBackRow : OpenClaim := { program := "ytaibehfpbcgijabdoor", sum := "d45ed216544befaa2342545e88ad7dac588b7dc15361b91eabbb72f60cf8d146", func := "gatehouse/gatehouselaw02.BitsBack", spec := "bitsBack", named := ["gatehouse/bits.masks"], apart := false, laid := [("gatehouse/bits.masks", laid_gatehouse_bits_masks)] }
def BitsBackSaid : Prop := bitsBackRow.holds Tryd.pinned (OpenSpec.ofChange bitsBackSpec)

/-- ITS FALSE NEIGHBOUR: 'it returns false'. Refute it at one input. -/
def bitsBackWrong : ChangeSpec := { name := "bitsBack", fn := fun _ => fun
  | [d] => { results := [.lit (.bool false)], args := [d] }
  | _ => none }
def BitsBackWrongFalsely : Prop := bitsBackRow.holds Tryd.pinned (OpenSpec.ofChange bitsBackWrong)

/- THE SECOND FORM. 'bulk': how many values and letters a reading holds, each counted each time it is reached (what is shared counts as often as it is met; a slice's spare places count too). A statement '..UptoSaid' is the law's where the arguments, and the package variables that the reading takes, are together of bulk at most 1048576: NARROWER than '..Said'. Prove '..Said' where nothing that the law and all that it calls make is longer than what came in: it says more and counts as full. Else prove '..UptoSaid'. A law counts once. -/
mutual
def uptoBulk {H : Type} : DataW H → Nat
  | .lit (.string bytes) => bytes.length + 1
  | .lit _ => 1
  | .nil => 1
  | .ptr d => uptoBulk d + 1
  | .slice elems spare => uptoBulkAll elems + uptoBulkAll spare + 1
  | .agg parts => uptoBulkAll parts + 1
  | .iface _ d => uptoBulk d + 1
  | .map entries => uptoBulkEntries entries + 1
  | .held _ => 1
def uptoBulkAll {H : Type} : List (DataW H) → Nat
  | [] => 0
  | d :: r => uptoBulk d + uptoBulkAll r
def uptoBulkEntries {H : Type} : List (Lit × DataW H) → Nat
  | [] => 0
  | x :: r => uptoBulkEntry x + uptoBulkEntries r
def uptoBulkEntry {H : Type} : Lit × DataW H → Nat
  | (.string bytes, d) => bytes.length + uptoBulk d + 1
  | (_, d) => uptoBulk d + 1
 end
def uptoSmall : (H : Type) → List (DataW H) → Bool := fun _ ds => decide (uptoBulkAll ds ≤ 1048576)
def OpenSpec.upto (s : _root_.Go.ChangeSpec) : _root_.Go.OpenSpec := { _root_.Go.OpenSpec.ofChange s with cond := some uptoSmall }

/-- 'gatehouselaw02.BitsWrites', WHERE WHAT IT READS IS OF BULK AT MOST 1048576: true; the input reads as it did. -/
def bitsWritesUptoRow : OpenClaim := { program := "ytaibehfpbcgijabdoor", sum := "d45ed216544befaa2342545e88ad7dac588b7dc15361b91eabbb72f60cf8d146", func := "gatehouse/gatehouselaw02.BitsWrites", spec := "bitsWrites", named := ["gatehouse/bits.masks"], apart := false, laid := [("gatehouse/bits.masks", laid_gatehouse_bits_masks)], narrowed := true }
def BitsWritesUptoSaid : Prop := bitsWritesUptoRow.holds Tryd.pinned (OpenSpec.upto bitsWritesSpec)

/-- 'gatehouselaw02.BitsReads', WHERE WHAT IT READS IS OF BULK AT MOST 1048576: true; the input reads as it did. -/
def bitsReadsUptoRow : OpenClaim := { program := "ytaibehfpbcgijabdoor", sum := "d45ed216544befaa2342545e88ad7dac588b7dc15361b91eabbb72f60cf8d146", func := "gatehouse/gatehouselaw02.BitsReads", spec := "bitsReads", named := ["gatehouse/bits.masks"], apart := false, laid := [("gatehouse/bits.masks", laid_gatehouse_bits_masks)], narrowed := true }
def BitsReadsUptoSaid : Prop := bitsReadsUptoRow.holds Tryd.pinned (OpenSpec.upto bitsReadsSpec)

/-- 'gatehouselaw02.BitsReverse', WHERE WHAT IT READS IS OF BULK AT MOST 1048576: true; the input reads as it did. -/
def bitsReverseUptoRow : OpenClaim := { program := "ytaibehfpbcgijabdoor", sum := "d45ed216544befaa2342545e88ad7dac588b7dc15361b91eabbb72f60cf8d146", func := "gatehouse/gatehouselaw02.BitsReverse", spec := "bitsReverse", named := ["gatehouse/bits.masks"], apart := false, laid := [("gatehouse/bits.masks", laid_gatehouse_bits_masks)], narrowed := true }
def BitsReverseUptoSaid : Prop := bitsReverseUptoRow.holds Tryd.pinned (OpenSpec.upto bitsReverseSpec)

/-- 'gatehouselaw02.BitsNil', WHERE WHAT IT READS IS OF BULK AT MOST 1048576: true; the input reads as it did. -/
def bitsNilUptoRow : OpenClaim := { program := "ytaibehfpbcgijabdoor", sum := "d45ed216544befaa2342545e88ad7dac588b7dc15361b91eabbb72f60cf8d146", func := "gatehouse/gatehouselaw02.BitsNil", spec := "bitsNil", named := ["gatehouse/bits.masks"], apart := false, laid := [("gatehouse/bits.masks", laid_gatehouse_bits_masks)], narrowed := true }
def BitsNilUptoSaid : Prop := bitsNilUptoRow.holds Tryd.pinned (OpenSpec.upto bitsNilSpec)

/-- 'gatehouselaw02.BitsBack', WHERE WHAT IT READS IS OF BULK AT MOST 1048576: true; the input reads as it did. -/
def bitsBackUptoRow : OpenClaim := { program := "ytaibehfpbcgijabdoor", sum := "d45ed216544befaa2342545e88ad7dac588b7dc15361b91eabbb72f60cf8d146", func := "gatehouse/gatehouselaw02.BitsBack", spec := "bitsBack", named := ["gatehouse/bits.masks"], apart := false, laid := [("gatehouse/bits.masks", laid_gatehouse_bits_masks)], narrowed := true }
def BitsBackUptoSaid : Prop := bitsBackUptoRow.holds Tryd.pinned (OpenSpec.upto bitsBackSpec)

end Rows
end Go.Proofs.YtaibehfpbcgijabDoor
