/-
  DERIVED. GIVEN WITH THE SEED: THE CARDS: each row of YthmbbpfgbpacnaaGreatDoorRows.lean that lists a variable, with what it lists TIED to the program's text (the seventh form; the later family's looks); each row that meets fmt, with fmt's text TOLD by the authors' own Lean function (tested against real Go, not proved from fmt's source: count such statements apart). THE CARD IS WHAT COUNTS. Prove the row's statement (the work); the ties are given (YthmbbpfgbpacnaaGreatDoorTie.lean); close each card by the builder's one call (the guide's Derived/Test/ToyasCard.lean, 'card_holds'). Laid BY PROGRAM, IN A SANDBOX (cutbox-door.mjs). By AI agents, Wed Nov 11 2026. No macro, syntax, notation, axiom, sorry.
-/
import Derived.Test.YthmbbpfgbpacnaaGreatDoorRows
import GoSem.ClaimSeven
namespace Go.Proofs.YthmbbpfgbpacnaaGreatDoor
namespace Rows

/-- THE TIED CARD OF 'gatehouselaw06.DeflateWrites'. -/
def deflateWritesCard : Claim7 := { stood := { row := deflateWritesRow, standIns := [], harness := (true, "2531dbc4b747ad260f9c24c947911f7c10cbd7ea2fe4922d2c6075cb7c1a9a44"), looks := true }, kinds := [], alts := [], laidByText := true, laidKinds := [.data, .data], laidTests := true, laidLooks := .later }
def DeflateWritesCardSaid : Prop := Claim7.holds Tryz.pinned (.plain (OpenSpec.ofChange deflateWritesSpec)) deflateWritesCard

/-- THE TIED CARD OF 'gatehouselaw06.DeflateStreams'. -/
def deflateStreamsCard : Claim7 := { stood := { row := deflateStreamsRow, standIns := [], harness := (true, "2531dbc4b747ad260f9c24c947911f7c10cbd7ea2fe4922d2c6075cb7c1a9a44"), looks := true }, kinds := [], alts := [], laidByText := true, laidKinds := [.data, .data], laidTests := true, laidLooks := .later }
def DeflateStreamsCardSaid : Prop := Claim7.holds Tryz.pinned (.plain (OpenSpec.ofChange deflateStreamsSpec)) deflateStreamsCard

/-- THE TIED CARD OF 'gatehouselaw06.DeflateBack'. -/
def deflateBackCard : Claim7 := { stood := { row := deflateBackRow, standIns := [], harness := (true, "2531dbc4b747ad260f9c24c947911f7c10cbd7ea2fe4922d2c6075cb7c1a9a44"), looks := true }, kinds := [], alts := [], laidByText := true, laidKinds := [.data, .data, .data], laidTests := true, laidLooks := .later }
def DeflateBackCardSaid : Prop := Claim7.holds Tryz.pinned (.plain (OpenSpec.ofChange deflateBackSpec)) deflateBackCard

/-- THE TIED CARD OF 'gatehouselaw06.DeflateFlushed'. -/
def deflateFlushedCard : Claim7 := { stood := { row := deflateFlushedRow, standIns := [], harness := (true, "2531dbc4b747ad260f9c24c947911f7c10cbd7ea2fe4922d2c6075cb7c1a9a44"), looks := true }, kinds := [], alts := [], laidByText := true, laidKinds := [.data, .data, .data], laidTests := true, laidLooks := .later }
def DeflateFlushedCardSaid : Prop := Claim7.holds Tryz.pinned (.plain (OpenSpec.ofChange deflateFlushedSpec)) deflateFlushedCard

/-- THE TIED CARD OF 'gatehouselaw06.DeflateSmall'. -/
def deflateSmallCard : Claim7 := { stood := { row := deflateSmallRow, standIns := [], harness := (true, "2531dbc4b747ad260f9c24c947911f7c10cbd7ea2fe4922d2c6075cb7c1a9a44"), looks := true }, kinds := [], alts := [], laidByText := true, laidKinds := [.data, .data, .data], laidTests := true, laidLooks := .later }
def DeflateSmallCardSaid : Prop := Claim7.holds Tryz.pinned (.plain (OpenSpec.ofChange deflateSmallSpec)) deflateSmallCard

/-- THE SECOND FORM's CARD OF 'gatehouselaw06.DeflateWrites'. -/
def deflateWritesUptoCard : Claim7 := { stood := { row := deflateWritesUptoRow, standIns := [], harness := (true, "2531dbc4b747ad260f9c24c947911f7c10cbd7ea2fe4922d2c6075cb7c1a9a44"), looks := true }, kinds := [], alts := [], laidByText := true, laidKinds := [.data, .data], laidTests := true, laidLooks := .later }
def DeflateWritesUptoCardSaid : Prop := Claim7.holds Tryz.pinned (.plain (OpenSpec.upto deflateWritesSpec)) deflateWritesUptoCard

/-- THE SECOND FORM's CARD OF 'gatehouselaw06.DeflateStreams'. -/
def deflateStreamsUptoCard : Claim7 := { stood := { row := deflateStreamsUptoRow, standIns := [], harness := (true, "2531dbc4b747ad260f9c24c947911f7c10cbd7ea2fe4922d2c6075cb7c1a9a44"), looks := true }, kinds := [], alts := [], laidByText := true, laidKinds := [.data, .data], laidTests := true, laidLooks := .later }
def DeflateStreamsUptoCardSaid : Prop := Claim7.holds Tryz.pinned (.plain (OpenSpec.upto deflateStreamsSpec)) deflateStreamsUptoCard

/-- THE SECOND FORM's CARD OF 'gatehouselaw06.DeflateBack'. -/
def deflateBackUptoCard : Claim7 := { stood := { row := deflateBackUptoRow, standIns := [], harness := (true, "2531dbc4b747ad260f9c24c947911f7c10cbd7ea2fe4922d2c6075cb7c1a9a44"), looks := true }, kinds := [], alts := [], laidByText := true, laidKinds := [.data, .data, .data], laidTests := true, laidLooks := .later }
def DeflateBackUptoCardSaid : Prop := Claim7.holds Tryz.pinned (.plain (OpenSpec.upto deflateBackSpec)) deflateBackUptoCard

/-- THE SECOND FORM's CARD OF 'gatehouselaw06.DeflateFlushed'. -/
def deflateFlushedUptoCard : Claim7 := { stood := { row := deflateFlushedUptoRow, standIns := [], harness := (true, "2531dbc4b747ad260f9c24c947911f7c10cbd7ea2fe4922d2c6075cb7c1a9a44"), looks := true }, kinds := [], alts := [], laidByText := true, laidKinds := [.data, .data, .data], laidTests := true, laidLooks := .later }
def DeflateFlushedUptoCardSaid : Prop := Claim7.holds Tryz.pinned (.plain (OpenSpec.upto deflateFlushedSpec)) deflateFlushedUptoCard

/-- THE SECOND FORM's CARD OF 'gatehouselaw06.DeflateSmall'. -/
def deflateSmallUptoCard : Claim7 := { stood := { row := deflateSmallUptoRow, standIns := [], harness := (true, "2531dbc4b747ad260f9c24c947911f7c10cbd7ea2fe4922d2c6075cb7c1a9a44"), looks := true }, kinds := [], alts := [], laidByText := true, laidKinds := [.data, .data, .data], laidTests := true, laidLooks := .later }
def DeflateSmallUptoCardSaid : Prop := Claim7.holds Tryz.pinned (.plain (OpenSpec.upto deflateSmallSpec)) deflateSmallUptoCard
end Rows
end Go.Proofs.YthmbbpfgbpacnaaGreatDoor
