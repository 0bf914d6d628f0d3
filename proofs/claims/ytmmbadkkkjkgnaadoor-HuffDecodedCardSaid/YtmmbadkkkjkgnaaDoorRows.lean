/-
  NARROWER THAN 'FOR EVERY INPUT', by the rows' own cells (each row's printed sentence says how): HuffReads: laid · HuffPuts: laid · HuffNil: laid · HuffDecoded: laid.
  DERIVED. THE GIVEN ROWS OF THIS SEAT. 4 by the template 'for every input the law returns true; each argument reads behind the call as it read before'; 0 by the template 'total and deterministic' (their statements: YtmmbadkkkjkgnaaDoorTotals.lean).
  GIVEN WITH THE SEED: the statements are not yours to turn. If you find one false, say at which input.
  Laid BY PROGRAM, IN A SANDBOX (cutbox-rows.mjs): the forced cells as the released guide's own fill.sh prints them over the translation fbc4a58db7f43f09… (all of the seat's roots in one cut). By AI agents, Wed Nov 11 2026. No macro, syntax, notation, axiom, sorry.
-/
import Derived.Test.YtmmbadkkkjkgnaaDoorChecked
import GoSem.Claim
import GoSem.ClaimJoined
import GoSem.ClaimMapViews
import Derived.JoinedTies
import Derived.KernelRfl
namespace Go.Proofs.YtmmbadkkkjkgnaaDoor
/- THE CELL 'sum', in the pinned program and in every row, IS THE sha256 OF THE DUMP (.gsa) THAT YtmmbadkkkjkgnaaDoorProg.lean LOADS. Nothing in Lean hashes anything: it is a label: what it is worth is what the hold of that sum in a sandbox is worth. -/
noncomputable def Tryd.pinned : Pinned := { name := "ytmmbadkkkjkgnaadoor", sum := "fbc4a58db7f43f099642ed6f5f915b99de0469a8135a35ec232d313a29224a54", checked := Tryd.checked }
namespace Rows
def none {H : Type} : Left H := { results := [], args := [] }

/- WHAT THE LISTED PACKAGE-LEVEL VARIABLES READ AS WHEN THE CALL BEGINS. Each datum BY PROGRAM (the guide's laid-datum.mjs) off the statement by which the dump's own 'gosem.cut.vars' lays the variable. In a bare row this is a premise. The card (YtmmbadkkkjkgnaaDoorCards.lean) ties it to the program's text. -/
def laid_gatehouse_bits_masks {H : Type} : DataW H := .agg [.lit (.int .u8 1), .lit (.int .u8 2), .lit (.int .u8 4), .lit (.int .u8 8), .lit (.int .u8 16), .lit (.int .u8 32), .lit (.int .u8 64), .lit (.int .u8 128)]

/-- 'gatehouselaw03.HuffReads': WHATEVER THE INPUT: true; the input reads as it did. -/
def huffReadsSpec : ChangeSpec := { name := "huffReads", fn := fun _ => fun
  | [d1, d2, d3] => { results := [.lit (.bool true)], args := [d1, d2, d3] }
  | _ => none }
def huffReadsRow : OpenClaim := { program := "ytmmbadkkkjkgnaadoor", sum := "fbc4a58db7f43f099642ed6f5f915b99de0469a8135a35ec232d313a29224a54", func := "gatehouse/gatehouselaw03.HuffReads", spec := "huffReads", unfollowed := true, recurses := true, named := ["gatehouse/bits.masks"], plainKeys := false, apart := false, laid := [("gatehouse/bits.masks", laid_gatehouse_bits_masks)] }
def HuffReadsSaid : Prop := huffReadsRow.holds Tryd.pinned (OpenSpec.ofChange huffReadsSpec)

/-- ITS FALSE NEIGHBOUR: 'it returns false'. Refute it at one input. -/
def huffReadsWrong : ChangeSpec := { name := "huffReads", fn := fun _ => fun
  | [d1, d2, d3] => { results := [.lit (.bool false)], args := [d1, d2, d3] }
  | _ => none }
def HuffReadsWrongFalsely : Prop := huffReadsRow.holds Tryd.pinned (OpenSpec.ofChange huffReadsWrong)

/-- 'gatehouselaw03.HuffPuts': WHATEVER THE INPUT: true; the input reads as it did. -/
def huffPutsSpec : ChangeSpec := { name := "huffPuts", fn := fun _ => fun
  | [d1, d2, d3] => { results := [.lit (.bool true)], args := [d1, d2, d3] }
  | _ => none }
def huffPutsRow : OpenClaim := { program := "ytmmbadkkkjkgnaadoor", sum := "fbc4a58db7f43f099642ed6f5f915b99de0469a8135a35ec232d313a29224a54", func := "gatehouse/gatehouselaw03.HuffPuts", spec := "huffPuts", unfollowed := true, recurses := true, named := ["gatehouse/bits.masks"], plainKeys := false, apart := false, laid := [("gatehouse/bits.masks", laid_gatehouse_bits_masks)] }
def HuffPutsSaid : Prop := huffPutsRow.holds Tryd.pinned (OpenSpec.ofChange huffPutsSpec)

/-- ITS FALSE NEIGHBOUR: 'it returns false'. Refute it at one input. -/
def huffPutsWrong : ChangeSpec := { name := "huffPuts", fn := fun _ => fun
  | [d1, d2, d3] => { results := [.lit (.bool false)], args := [d1, d2, d3] }
  | _ => none }
def HuffPutsWrongFalsely : Prop := huffPutsRow.holds Tryd.pinned (OpenSpec.ofChange huffPutsWrong)

/-- 'gatehouselaw03.HuffNil': WHATEVER THE INPUT: true; the input reads as it did. -/
def huffNilSpec : ChangeSpec := { name := "huffNil", fn := fun _ => fun
  | [d1, d2] => { results := [.lit (.bool true)], args := [d1, d2] }
  | _ => none }
def huffNilRow : OpenClaim := { program := "ytmmbadkkkjkgnaadoor", sum := "fbc4a58db7f43f099642ed6f5f915b99de0469a8135a35ec232d313a29224a54", func := "gatehouse/gatehouselaw03.HuffNil", spec := "huffNil", unfollowed := true, recurses := true, named := ["gatehouse/bits.masks"], plainKeys := false, apart := false, laid := [("gatehouse/bits.masks", laid_gatehouse_bits_masks)] }
def HuffNilSaid : Prop := huffNilRow.holds Tryd.pinned (OpenSpec.ofChange huffNilSpec)

/-- ITS FALSE NEIGHBOUR: 'it returns false'. Refute it at one input. -/
def huffNilWrong : ChangeSpec := { name := "huffNil", fn := fun _ => fun
  | [d1, d2] => { results := [.lit (.bool false)], args := [d1, d2] }
  | _ => none }
def HuffNilWrongFalsely : Prop := huffNilRow.holds Tryd.pinned (OpenSpec.ofChange huffNilWrong)

/-- 'gatehouselaw03.HuffDecoded': WHATEVER THE INPUT: true; the input reads as it did. -/
def huffDecodedSpec : ChangeSpec := { name := "huffDecoded", fn := fun _ => fun
  | [d1, d2] => { results := [.lit (.bool true)], args := [d1, d2] }
  | _ => none }
def huffDecodedRow : OpenClaim := { program := "ytmmbadkkkjkgnaadoor", sum := "fbc4a58db7f43f099642ed6f5f915b99de0469a8135a35ec232d313a29224a54", func := "gatehouse/gatehouselaw03.HuffDecoded", spec := "huffDecoded", unfollowed := true, recurses := true, named := ["gatehouse/bits.masks"], plainKeys := false, apart := false, laid := [("gatehouse/bits.masks", laid_gatehouse_bits_masks)] }
def HuffDecodedSaid : Prop := huffDecodedRow.holds Tryd.pinned (OpenSpec.ofChange huffDecodedSpec)

/-- ITS FALSE NEIGHBOUR: 'it returns false'. Refute it at one input. -/
def huffDecodedWrong : ChangeSpec := { name := "huffDecoded", fn := fun _ => fun
  | [d1, d2] => { results := [.lit (.bool false)], args := [d1, d2] }
  | _ => none }
def HuffDecodedWrongFalsely : Prop := huffDecodedRow.holds Tryd.pinned (OpenSpec.ofChange huffDecodedWrong)

/- THE SECOND FORM. 'bulk': how many values and letters a reading holds, each counted each time it is reached (what is shared counts as often as it is met; a slice's spare places count too). A statement '..UptoSaid' is the law's where the arguments, and the package variables that the reading takes, are together of bulk at most 1048576: NARROWER than '..Said'. Prove '..Said' where nothing that the law and all that it calls make is longer than what came in: it says more and counts as full. Else prove '..UptoSaid'. A law counts once. -/
mutual
def uptoBulk {H : Type} : DataW H → Nat
  | .lit (.string bytes) => bytes.length + 1
  | .lit _ => 1
  | .nil => 1
  | .ptr d => uptoBulk d + 1
  | .slice elems spare => uptoBulkAll elems + uptoBulkAll spare + 1
  | .agg parts => uptoBulkAll parts + 1
  | .iface _ d => uptoBulk d + 1
  | .map entries => uptoBulkEntries entries + 1
  | .held _ => 1
def uptoBulkAll {H : Type} : List (DataW H) → Nat
  | [] => 0
  | d :: r => uptoBulk d + uptoBulkAll r
def uptoBulkEntries {H : Type} : List (Lit × DataW H) → Nat
  | [] => 0
  | x :: r => uptoBulkEntry x + uptoBulkEntries r
def uptoBulkEntry {H : Type} : Lit × DataW H → Nat
  | (.string bytes, d) => bytes.length + uptoBulk d + 1
  | (_, d) => uptoBulk d + 1
 end
def uptoSmall : (H : Type) → List (DataW H) → Bool := fun _ ds => decide (uptoBulkAll ds ≤ 1048576)
def OpenSpec.upto (s : _root_.Go.ChangeSpec) : _root_.Go.OpenSpec := { _root_.Go.OpenSpec.ofChange s with cond := some uptoSmall }

/-- 'gatehouselaw03.HuffReads', WHERE WHAT IT READS IS OF BULK AT MOST 1048576: true; the input reads as it did. -/
def huffReadsUptoRow : OpenClaim := { program := "ytmmbadkkkjkgnaadoor", sum := "fbc4a58db7f43f099642ed6f5f915b99de0469a8135a35ec232d313a29224a54", func := "gatehouse/gatehouselaw03.HuffReads", spec := "huffReads", unfollowed := true, recurses := true, named := ["gatehouse/bits.masks"], plainKeys := false, apart := false, laid := [("gatehouse/bits.masks", laid_gatehouse_bits_masks)], narrowed := true }
def HuffReadsUptoSaid : Prop := huffReadsUptoRow.holds Tryd.pinned (OpenSpec.upto huffReadsSpec)

/-- 'gatehouselaw03.HuffPuts', WHERE WHAT IT READS IS OF BULK AT MOST 1048576: true; the input reads as it did. -/
def huffPutsUptoRow : OpenClaim := { program := "ytmmbadkkkjkgnaadoor", sum := "fbc4a58db7f43f099642ed6f5f915b99de0469a8135a35ec232d313a29224a54", func := "gatehouse/gatehouselaw03.HuffPuts", spec := "huffPuts", unfollowed := true, recurses := true, named := ["gatehouse/bits.masks"], plainKeys := false, apart := false, laid := [("gatehouse/bits.masks", laid_gatehouse_bits_masks)], narrowed := true }
def HuffPutsUptoSaid : Prop := huffPutsUptoRow.holds Tryd.pinned (OpenSpec.upto huffPutsSpec)

/-- 'gatehouselaw03.HuffNil', WHERE WHAT IT READS IS OF BULK AT MOST 1048576: true; the input reads as it did. -/
def huffNilUptoRow : OpenClaim := { program := "ytmmbadkkkjkgnaadoor", sum := "fbc4a58db7f43f099642ed6f5f915b99de0469a8135a35ec232d313a29224a54", func := "gatehouse/gatehouselaw03.HuffNil", spec := "huffNil", unfollowed := true, recurses := true, named := ["gatehouse/bits.masks"], plainKeys := false, apart := false, laid := [("gatehouse/bits.masks", laid_gatehouse_bits_masks)], narrowed := true }
def HuffNilUptoSaid : Prop := huffNilUptoRow.holds Tryd.pinned (OpenSpec.upto huffNilSpec)

/-- 'gatehouselaw03.HuffDecoded', WHERE WHAT IT READS IS OF BULK AT MOST 1048576: true; the input reads as it did. -/
def huffDecodedUptoRow : OpenClaim := { program := "ytmmbadkkkjkgnaadoor", sum := "fbc4a58db7f43f099642ed6f5f915b99de0469a8135a35ec232d313a29224a54", func := "gatehouse/gatehouselaw03.HuffDecoded", spec := "huffDecoded", unfollowed := true, recurses := true, named := ["gatehouse/bits.masks"], plainKeys := false, apart := false, laid := [("gatehouse/bits.masks", laid_gatehouse_bits_masks)], narrowed := true }
def HuffDecodedUptoSaid : Prop := huffDecodedUptoRow.holds Tryd.pinned (OpenSpec.upto huffDecodedSpec)

end Rows
end Go.Proofs.YtmmbadkkkjkgnaaDoor
