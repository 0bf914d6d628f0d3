/-
  NARROWER THAN 'FOR EVERY INPUT', by the rows' own cells (each row's printed sentence says how): DeflateNil: laid.
  DERIVED. THE GIVEN ROWS OF THIS SEAT. 1 by the template 'for every input the law returns true; each argument reads behind the call as it read before'; 0 by the template 'total and deterministic' (their statements: YthmbbpfgbpacnaaDoorTotals.lean).
  GIVEN WITH THE SEED: the statements are not yours to turn. If you find one false, say at which input.
  Laid BY PROGRAM, IN A SANDBOX (cutbox-rows.mjs): the forced cells as the released guide's own fill.sh prints them over the translation 7d04c9ff6a20623d… (all of the seat's roots in one cut). By AI agents, Wed Nov 11 2026. No macro, syntax, notation, axiom, sorry.
-/
import Derived.Test.YthmbbpfgbpacnaaDoorChecked
import GoSem.Claim
import GoSem.ClaimJoined
import GoSem.ClaimMapViews
import Derived.JoinedTies
import Derived.KernelRfl
namespace Go.Proofs.YthmbbpfgbpacnaaDoor
/- THE CELL 'sum', in the pinned program and in every row, IS THE sha256 OF THE DUMP (.gsa) THAT YthmbbpfgbpacnaaDoorProg.lean LOADS. Nothing in Lean hashes anything: it is a label: what it is worth is what the hold of that sum in a sandbox is worth. -/
noncomputable def Tryd.pinned : Pinned := { name := "ythmbbpfgbpacnaadoor", sum := "7d04c9ff6a20623d4603839730f5f0fe56bda2c85c11c4feac40891c4e7685e0", checked := Tryd.checked }
namespace Rows
def none {H : Type} : Left H := { results := [], args := [] }

/- WHAT THE LISTED PACKAGE-LEVEL VARIABLES READ AS WHEN THE CALL BEGINS. Each datum BY PROGRAM (the guide's laid-datum.mjs) off the statement by which the dump's own 'gosem.cut.vars' lays the variable. In a bare row this is a premise. The card (YthmbbpfgbpacnaaDoorCards.lean) ties it to the program's text. -/
def laid_gatehouse_bits_masks {H : Type} : DataW H := .agg [.lit (.int .u8 1), .lit (.int .u8 2), .lit (.int .u8 4), .lit (.int .u8 8), .lit (.int .u8 16), .lit (.int .u8 32), .lit (.int .u8 64), .lit (.int .u8 128)]
def laid_gatehouse_deflate_order {H : Type} : DataW H := .agg [.lit (.int .i64 16), .lit (.int .i64 17), .lit (.int .i64 18), .lit (.int .i64 0), .lit (.int .i64 8), .lit (.int .i64 7), .lit (.int .i64 9), .lit (.int .i64 6), .lit (.int .i64 10), .lit (.int .i64 5), .lit (.int .i64 11), .lit (.int .i64 4), .lit (.int .i64 12), .lit (.int .i64 3), .lit (.int .i64 13), .lit (.int .i64 2), .lit (.int .i64 14), .lit (.int .i64 1), .lit (.int .i64 15)]

/-- 'gatehouselaw06.DeflateNil': WHATEVER THE INPUT: true; the input reads as it did. -/
def deflateNilSpec : ChangeSpec := { name := "deflateNil", fn := fun _ => fun
  | [d] => { results := [.lit (.bool true)], args := [d] }
  | _ => none }
def deflateNilRow : OpenClaim := { program := "ythmbbpfgbpacnaadoor", sum := "7d04c9ff6a20623d4603839730f5f0fe56bda2c85c11c4feac40891c4e7685e0", func := "gatehouse/gatehouselaw06.DeflateNil", spec := "deflateNil", unfollowed := true, recurses := true, named := ["gatehouse/deflate.order", "gatehouse/bits.masks"], plainKeys := false, apart := false, laid := [("gatehouse/bits.masks", laid_gatehouse_bits_masks), ("gatehouse/deflate.order", laid_gatehouse_deflate_order)] }
def DeflateNilSaid : Prop := deflateNilRow.holds Tryd.pinned (OpenSpec.ofChange deflateNilSpec)

/-- ITS FALSE NEIGHBOUR: 'it returns false'. Refute it at one input. -/
def deflateNilWrong : ChangeSpec := { name := "deflateNil", fn := fun _ => fun
  | [d] => { results := [.lit (.bool false)], args := [d] }
  | _ => none }
def DeflateNilWrongFalsely : Prop := deflateNilRow.holds Tryd.pinned (OpenSpec.ofChange deflateNilWrong)

/- THE SECOND FORM. 'bulk': how many values and letters a reading holds, each counted each time it is reached (what is shared counts as often as it is met; a slice's spare places count too). A statement '..UptoSaid' is the law's where the arguments, and the package variables that the reading takes, are together of bulk at most 1048576: NARROWER than '..Said'. Prove '..Said' where nothing that the law and all that it calls make is longer than what came in: it says more and counts as full. Else prove '..UptoSaid'. A law counts once. -/
mutual
def uptoBulk {H : Type} : DataW H → Nat
  | .lit (.string bytes) => bytes.length + 1
  | .lit _ => 1
  | .nil => 1
  | .ptr d => uptoBulk d + 1
  | .slice elems spare => uptoBulkAll elems + uptoBulkAll spare + 1
  | .agg parts => uptoBulkAll parts + 1
  | .iface _ d => uptoBulk d + 1
  | .map entries => uptoBulkEntries entries + 1
  | .held _ => 1
def uptoBulkAll {H : Type} : List (DataW H) → Nat
  | [] => 0
  | d :: r => uptoBulk d + uptoBulkAll r
def uptoBulkEntries {H : Type} : List (Lit × DataW H) → Nat
  | [] => 0
  | x :: r => uptoBulkEntry x + uptoBulkEntries r
def uptoBulkEntry {H : Type} : Lit × DataW H → Nat
  | (.string bytes, d) => bytes.length + uptoBulk d + 1
  | (_, d) => uptoBulk d + 1
 end
def uptoSmall : (H : Type) → List (DataW H) → Bool := fun _ ds => decide (uptoBulkAll ds ≤ 1048576)
def OpenSpec.upto (s : _root_.Go.ChangeSpec) : _root_.Go.OpenSpec := { _root_.Go.OpenSpec.ofChange s with cond := some uptoSmall }

/-- 'gatehouselaw06.DeflateNil', WHERE WHAT IT READS IS OF BULK AT MOST 1048576: true; the input reads as it did. -/
def deflateNilUptoRow : OpenClaim := { program := "ythmbbpfgbpacnaadoor", sum := "7d04c9ff6a20623d4603839730f5f0fe56bda2c85c11c4feac40891c4e7685e0", func := "gatehouse/gatehouselaw06.DeflateNil", spec := "deflateNil", unfollowed := true, recurses := true, named := ["gatehouse/deflate.order", "gatehouse/bits.masks"], plainKeys := false, apart := false, laid := [("gatehouse/bits.masks", laid_gatehouse_bits_masks), ("gatehouse/deflate.order", laid_gatehouse_deflate_order)], narrowed := true }
def DeflateNilUptoSaid : Prop := deflateNilUptoRow.holds Tryd.pinned (OpenSpec.upto deflateNilSpec)

end Rows
end Go.Proofs.YthmbbpfgbpacnaaDoor
