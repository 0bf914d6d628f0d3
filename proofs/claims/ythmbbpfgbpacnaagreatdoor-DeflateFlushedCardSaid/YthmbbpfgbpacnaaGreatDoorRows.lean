/-
  NARROWER THAN 'FOR EVERY INPUT', by the rows' own cells (each row's printed sentence says how): DeflateWrites: laid · DeflateStreams: laid · DeflateBack: laid · DeflateFlushed: laid · DeflateSmall: laid.
  DERIVED. THE GIVEN ROWS OF THIS SEAT. 5 by the template 'for every input the law returns true; each argument reads behind the call as it read before'; 0 by the template 'total and deterministic' (their statements: YthmbbpfgbpacnaaGreatDoorTotals.lean).
  GIVEN WITH THE SEED: the statements are not yours to turn. If you find one false, say at which input.
  Laid BY PROGRAM, IN A SANDBOX (cutbox-rows.mjs): the forced cells as the released guide's own fill.sh prints them over the translation 737b1990fc48bcf7… (all of the seat's roots in one cut). By AI agents, Wed Nov 11 2026. No macro, syntax, notation, axiom, sorry.
-/
import Derived.Test.YthmbbpfgbpacnaaGreatDoorChecked
import GoSem.Claim
import GoSem.ClaimJoined
import GoSem.ClaimMapViews
import Derived.JoinedTies
import Derived.KernelRfl
namespace Go.Proofs.YthmbbpfgbpacnaaGreatDoor
/- THE CELL 'sum', in the pinned program and in every row, IS THE sha256 OF THE DUMP (.gsa) THAT YthmbbpfgbpacnaaGreatDoorProg.lean LOADS. Nothing in Lean hashes anything: it is a label: what it is worth is what the hold of that sum in a sandbox is worth. -/
noncomputable def Tryz.pinned : Pinned := { name := "ythmbbpfgbpacnaagreatdoor", sum := "737b1990fc48bcf737cdb0f8ed52cf20859489323815da29539be3b243943f3b", checked := Tryz.checked }
namespace Rows
def none {H : Type} : Left H := { results := [], args := [] }

/- WHAT THE LISTED PACKAGE-LEVEL VARIABLES READ AS WHEN THE CALL BEGINS. Each datum BY PROGRAM (the guide's laid-datum.mjs) off the statement by which the dump's own 'gosem.cut.vars' lays the variable. In a bare row this is a premise. The card (YthmbbpfgbpacnaaGreatDoorCards.lean) ties it to the program's text. -/
def laid_gatehouse_bits_masks {H : Type} : DataW H := .agg [.lit (.int .u8 1), .lit (.int .u8 2), .lit (.int .u8 4), .lit (.int .u8 8), .lit (.int .u8 16), .lit (.int .u8 32), .lit (.int .u8 64), .lit (.int .u8 128)]
def laid_gatehouse_deflate_order {H : Type} : DataW H := .agg [.lit (.int .i64 16), .lit (.int .i64 17), .lit (.int .i64 18), .lit (.int .i64 0), .lit (.int .i64 8), .lit (.int .i64 7), .lit (.int .i64 9), .lit (.int .i64 6), .lit (.int .i64 10), .lit (.int .i64 5), .lit (.int .i64 11), .lit (.int .i64 4), .lit (.int .i64 12), .lit (.int .i64 3), .lit (.int .i64 13), .lit (.int .i64 2), .lit (.int .i64 14), .lit (.int .i64 1), .lit (.int .i64 15)]
def laid_gatehouse_inflate_order {H : Type} : DataW H := .agg [.lit (.int .i64 16), .lit (.int .i64 17), .lit (.int .i64 18), .lit (.int .i64 0), .lit (.int .i64 8), .lit (.int .i64 7), .lit (.int .i64 9), .lit (.int .i64 6), .lit (.int .i64 10), .lit (.int .i64 5), .lit (.int .i64 11), .lit (.int .i64 4), .lit (.int .i64 12), .lit (.int .i64 3), .lit (.int .i64 13), .lit (.int .i64 2), .lit (.int .i64 14), .lit (.int .i64 1), .lit (.int .i64 15)]

/-- 'gatehouselaw06.DeflateWrites': WHATEVER THE INPUT: true; the input reads as it did. -/
def deflateWritesSpec : ChangeSpec := { name := "deflateWrites", fn := fun _ => fun
  | [d1, d2] => { results := [.lit (.bool true)], args := [d1, d2] }
  | _ => none }
def deflateWritesRow : OpenClaim := { program := "ythmbbpfgbpacnaagreatdoor", sum := "737b1990fc48bcf737cdb0f8ed52cf20859489323815da29539be3b243943f3b", func := "gatehouse/gatehouselaw06.DeflateWrites", spec := "deflateWrites", unfollowed := true, recurses := true, named := ["gatehouse/deflate.order", "gatehouse/bits.masks"], plainKeys := false, apart := false, laid := [("gatehouse/bits.masks", laid_gatehouse_bits_masks), ("gatehouse/deflate.order", laid_gatehouse_deflate_order)] }
def DeflateWritesSaid : Prop := deflateWritesRow.holds Tryz.pinned (OpenSpec.ofChange deflateWritesSpec)

/-- ITS FALSE NEIGHBOUR: 'it returns false'. Refute it at one input. -/
def deflateWritesWrong : ChangeSpec := { name := "deflateWrites", fn := fun _ => fun
  | [d1, d2] => { results := [.lit (.bool false)], args := [d1, d2] }
  | _ => none }
def DeflateWritesWrongFalsely : Prop := deflateWritesRow.holds Tryz.pinned (OpenSpec.ofChange deflateWritesWrong)

/-- 'gatehouselaw06.DeflateStreams': WHATEVER THE INPUT: true; the input reads as it did. -/
def deflateStreamsSpec : ChangeSpec := { name := "deflateStreams", fn := fun _ => fun
  | [d1, d2] => { results := [.lit (.bool true)], args := [d1, d2] }
  | _ => none }
def deflateStreamsRow : OpenClaim := { program := "ythmbbpfgbpacnaagreatdoor", sum := "737b1990fc48bcf737cdb0f8ed52cf20859489323815da29539be3b243943f3b", func := "gatehouse/gatehouselaw06.DeflateStreams", spec := "deflateStreams", unfollowed := true, recurses := true, named := ["gatehouse/deflate.order", "gatehouse/bits.masks"], plainKeys := false, apart := false, laid := [("gatehouse/bits.masks", laid_gatehouse_bits_masks), ("gatehouse/deflate.order", laid_gatehouse_deflate_order)] }
def DeflateStreamsSaid : Prop := deflateStreamsRow.holds Tryz.pinned (OpenSpec.ofChange deflateStreamsSpec)

/-- ITS FALSE NEIGHBOUR: 'it returns false'. Refute it at one input. -/
def deflateStreamsWrong : ChangeSpec := { name := "deflateStreams", fn := fun _ => fun
  | [d1, d2] => { results := [.lit (.bool false)], args := [d1, d2] }
  | _ => none }
def DeflateStreamsWrongFalsely : Prop := deflateStreamsRow.holds Tryz.pinned (OpenSpec.ofChange deflateStreamsWrong)

/-- 'gatehouselaw06.DeflateBack': WHATEVER THE INPUT: true; the input reads as it did. -/
def deflateBackSpec : ChangeSpec := { name := "deflateBack", fn := fun _ => fun
  | [d1, d2] => { results := [.lit (.bool true)], args := [d1, d2] }
  | _ => none }
def deflateBackRow : OpenClaim := { program := "ythmbbpfgbpacnaagreatdoor", sum := "737b1990fc48bcf737cdb0f8ed52cf20859489323815da29539be3b243943f3b", func := "gatehouse/gatehouselaw06.DeflateBack", spec := "deflateBack", unfollowed := true, recurses := true, named := ["gatehouse/deflate.order", "gatehouse/bits.masks", "gatehouse/inflate.order"], plainKeys := false, apart := false, laid := [("gatehouse/bits.masks", laid_gatehouse_bits_masks), ("gatehouse/inflate.order", laid_gatehouse_inflate_order), ("gatehouse/deflate.order", laid_gatehouse_deflate_order)] }
def DeflateBackSaid : Prop := deflateBackRow.holds Tryz.pinned (OpenSpec.ofChange deflateBackSpec)

/-- ITS FALSE NEIGHBOUR: 'it returns false'. Refute it at one input. -/
def deflateBackWrong : ChangeSpec := { name := "deflateBack", fn := fun _ => fun
  | [d1, d2] => { results := [.lit (.bool false)], args := [d1, d2] }
  | _ => none }
def DeflateBackWrongFalsely : Prop := deflateBackRow.holds Tryz.pinned (OpenSpec.ofChange deflateBackWrong)

/-- 'gatehouselaw06.DeflateFlushed': WHATEVER THE INPUT: true; the input reads as it did. -/
def deflateFlushedSpec : ChangeSpec := { name := "deflateFlushed", fn := fun _ => fun
  | [d1, d2] => { results := [.lit (.bool true)], args := [d1, d2] }
  | _ => none }
def deflateFlushedRow : OpenClaim := { program := "ythmbbpfgbpacnaagreatdoor", sum := "737b1990fc48bcf737cdb0f8ed52cf20859489323815da29539be3b243943f3b", func := "gatehouse/gatehouselaw06.DeflateFlushed", spec := "deflateFlushed", unfollowed := true, recurses := true, named := ["gatehouse/deflate.order", "gatehouse/bits.masks", "gatehouse/inflate.order"], plainKeys := false, apart := false, laid := [("gatehouse/bits.masks", laid_gatehouse_bits_masks), ("gatehouse/inflate.order", laid_gatehouse_inflate_order), ("gatehouse/deflate.order", laid_gatehouse_deflate_order)] }
def DeflateFlushedSaid : Prop := deflateFlushedRow.holds Tryz.pinned (OpenSpec.ofChange deflateFlushedSpec)

/-- ITS FALSE NEIGHBOUR: 'it returns false'. Refute it at one input. -/
def deflateFlushedWrong : ChangeSpec := { name := "deflateFlushed", fn := fun _ => fun
  | [d1, d2] => { results := [.lit (.bool false)], args := [d1, d2] }
  | _ => none }
def DeflateFlushedWrongFalsely : Prop := deflateFlushedRow.holds Tryz.pinned (OpenSpec.ofChange deflateFlushedWrong)

/-- 'gatehouselaw06.DeflateSmall': WHATEVER THE INPUT: true; the input reads as it did. -/
def deflateSmallSpec : ChangeSpec := { name := "deflateSmall", fn := fun _ => fun
  | [d1, d2] => { results := [.lit (.bool true)], args := [d1, d2] }
  | _ => none }
def deflateSmallRow : OpenClaim := { program := "ythmbbpfgbpacnaagreatdoor", sum := "737b1990fc48bcf737cdb0f8ed52cf20859489323815da29539be3b243943f3b", func := "gatehouse/gatehouselaw06.DeflateSmall", spec := "deflateSmall", unfollowed := true, recurses := true, named := ["gatehouse/deflate.order", "gatehouse/bits.masks", "gatehouse/inflate.order"], plainKeys := false, apart := false, laid := [("gatehouse/bits.masks", laid_gatehouse_bits_masks), ("gatehouse/inflate.order", laid_gatehouse_inflate_order), ("gatehouse/deflate.order", laid_gatehouse_deflate_order)] }
def DeflateSmallSaid : Prop := deflateSmallRow.holds Tryz.pinned (OpenSpec.ofChange deflateSmallSpec)

/-- ITS FALSE NEIGHBOUR: 'it returns false'. Refute it at one input. -/
def deflateSmallWrong : ChangeSpec := { name := "deflateSmall", fn := fun _ => fun
  | [d1, d2] => { results := [.lit (.bool false)], args := [d1, d2] }
  | _ => none }
def DeflateSmallWrongFalsely : Prop := deflateSmallRow.holds Tryz.pinned (OpenSpec.ofChange deflateSmallWrong)

/- THE SECOND FORM. 'bulk': how many values and letters a reading holds, each counted each time it is reached (what is shared counts as often as it is met; a slice's spare places count too). A statement '..UptoSaid' is the law's where the arguments, and the package variables that the reading takes, are together of bulk at most 1048576: NARROWER than '..Said'. Prove '..Said' where nothing that the law and all that it calls make is longer than what came in: it says more and counts as full. Else prove '..UptoSaid'. A law counts once. -/
mutual
def uptoBulk {H : Type} : DataW H → Nat
  | .lit (.string bytes) => bytes.length + 1
  | .lit _ => 1
  | .nil => 1
  | .ptr d => uptoBulk d + 1
  | .slice elems spare => uptoBulkAll elems + uptoBulkAll spare + 1
  | .agg parts => uptoBulkAll parts + 1
  | .iface _ d => uptoBulk d + 1
  | .map entries => uptoBulkEntries entries + 1
  | .held _ => 1
def uptoBulkAll {H : Type} : List (DataW H) → Nat
  | [] => 0
  | d :: r => uptoBulk d + uptoBulkAll r
def uptoBulkEntries {H : Type} : List (Lit × DataW H) → Nat
  | [] => 0
  | x :: r => uptoBulkEntry x + uptoBulkEntries r
def uptoBulkEntry {H : Type} : Lit × DataW H → Nat
  | (.string bytes, d) => bytes.length + uptoBulk d + 1
  | (_, d) => uptoBulk d + 1
 end
def uptoSmall : (H : Type) → List (DataW H) → Bool := fun _ ds => decide (uptoBulkAll ds ≤ 1048576)
def OpenSpec.upto (s : _root_.Go.ChangeSpec) : _root_.Go.OpenSpec := { _root_.Go.OpenSpec.ofChange s with cond := some uptoSmall }

/-- 'gatehouselaw06.DeflateWrites', WHERE WHAT IT READS IS OF BULK AT MOST 1048576: true; the input reads as it did. -/
def deflateWritesUptoRow : OpenClaim := { program := "ythmbbpfgbpacnaagreatdoor", sum := "737b1990fc48bcf737cdb0f8ed52cf20859489323815da29539be3b243943f3b", func := "gatehouse/gatehouselaw06.DeflateWrites", spec := "deflateWrites", unfollowed := true, recurses := true, named := ["gatehouse/deflate.order", "gatehouse/bits.masks"], plainKeys := false, apart := false, laid := [("gatehouse/bits.masks", laid_gatehouse_bits_masks), ("gatehouse/deflate.order", laid_gatehouse_deflate_order)], narrowed := true }
def DeflateWritesUptoSaid : Prop := deflateWritesUptoRow.holds Tryz.pinned (OpenSpec.upto deflateWritesSpec)

/-- 'gatehouselaw06.DeflateStreams', WHERE WHAT IT READS IS OF BULK AT MOST 1048576: true; the input reads as it did. -/
def deflateStreamsUptoRow : OpenClaim := { program := "ythmbbpfgbpacnaagreatdoor", sum := "737b1990fc48bcf737cdb0f8ed52cf20859489323815da29539be3b243943f3b", func := "gatehouse/gatehouselaw06.DeflateStreams", spec := "deflateStreams", unfollowed := true, recurses := true, named := ["gatehouse/deflate.order", "gatehouse/bits.masks"], plainKeys := false, apart := false, laid := [("gatehouse/bits.masks", laid_gatehouse_bits_masks), ("gatehouse/deflate.order", laid_gatehouse_deflate_order)], narrowed := true }
def DeflateStreamsUptoSaid : Prop := deflateStreamsUptoRow.holds Tryz.pinned (OpenSpec.upto deflateStreamsSpec)

/-- 'gatehouselaw06.DeflateBack', WHERE WHAT IT READS IS OF BULK AT MOST 1048576: true; the input reads as it did. -/
def deflateBackUptoRow : OpenClaim := { program := "ythmbbpfgbpacnaagreatdoor", sum := "737b1990fc48bcf737cdb0f8ed52cf20859489323815da29539be3b243943f3b", func := "gatehouse/gatehouselaw06.DeflateBack", spec := "deflateBack", unfollowed := true, recurses := true, named := ["gatehouse/deflate.order", "gatehouse/bits.masks", "gatehouse/inflate.order"], plainKeys := false, apart := false, laid := [("gatehouse/bits.masks", laid_gatehouse_bits_masks), ("gatehouse/inflate.order", laid_gatehouse_inflate_order), ("gatehouse/deflate.order", laid_gatehouse_deflate_order)], narrowed := true }
def DeflateBackUptoSaid : Prop := deflateBackUptoRow.holds Tryz.pinned (OpenSpec.upto deflateBackSpec)

/-- 'gatehouselaw06.DeflateFlushed', WHERE WHAT IT READS IS OF BULK AT MOST 1048576: true; the input reads as it did. -/
def deflateFlushedUptoRow : OpenClaim := { program := "ythmbbpfgbpacnaagreatdoor", sum := "737b1990fc48bcf737cdb0f8ed52cf20859489323815da29539be3b243943f3b", func := "gatehouse/gatehouselaw06.DeflateFlushed", spec := "deflateFlushed", unfollowed := true, recurses := true, named := ["gatehouse/deflate.order", "gatehouse/bits.masks", "gatehouse/inflate.order"], plainKeys := false, apart := false, laid := [("gatehouse/bits.masks", laid_gatehouse_bits_masks), ("gatehouse/inflate.order", laid_gatehouse_inflate_order), ("gatehouse/deflate.order", laid_gatehouse_deflate_order)], narrowed := true }
def DeflateFlushedUptoSaid : Prop := deflateFlushedUptoRow.holds Tryz.pinned (OpenSpec.upto deflateFlushedSpec)

/-- 'gatehouselaw06.DeflateSmall', WHERE WHAT IT READS IS OF BULK AT MOST 1048576: true; the input reads as it did. -/
def deflateSmallUptoRow : OpenClaim := { program := "ythmbbpfgbpacnaagreatdoor", sum := "737b1990fc48bcf737cdb0f8ed52cf20859489323815da29539be3b243943f3b", func := "gatehouse/gatehouselaw06.DeflateSmall", spec := "deflateSmall", unfollowed := true, recurses := true, named := ["gatehouse/deflate.order", "gatehouse/bits.masks", "gatehouse/inflate.order"], plainKeys := false, apart := false, laid := [("gatehouse/bits.masks", laid_gatehouse_bits_masks), ("gatehouse/inflate.order", laid_gatehouse_inflate_order), ("gatehouse/deflate.order", laid_gatehouse_deflate_order)], narrowed := true }
def DeflateSmallUptoSaid : Prop := deflateSmallUptoRow.holds Tryz.pinned (OpenSpec.upto deflateSmallSpec)

end Rows
end Go.Proofs.YthmbbpfgbpacnaaGreatDoor
