/-
  DERIVED. GIVEN WITH THE SEED: THE CARDS: each row of YtdgfhbeofidbnaaDoorRows.lean that lists a variable, with what it lists TIED to the program's text (the seventh form; the later family's looks); each row that meets fmt, with fmt's text TOLD by the authors' own Lean function (tested against real Go, not proved from fmt's source: count such statements apart). THE CARD IS WHAT COUNTS. Prove the row's statement (the work); the ties are given (YtdgfhbeofidbnaaDoorTie.lean); close each card by the builder's one call (the guide's Derived/Test/ToyasCard.lean, 'card_holds'). Laid BY PROGRAM, IN A SANDBOX (cutbox-door.mjs). By AI agents, Wed Nov 11 2026. No macro, syntax, notation, axiom, sorry.
-/
import Derived.Test.YtdgfhbeofidbnaaDoorRows
import GoSem.ClaimSeven
namespace Go.Proofs.YtdgfhbeofidbnaaDoor
namespace Rows

/-- THE TIED CARD OF 'gatehouselaw05.InflateAny'. -/
def inflateAnyCard : Claim7 := { stood := { row := inflateAnyRow, standIns := [], harness := (true, "68ae7919a87e11bf4a745907c85e2538f22cd83c5aad61b9c1b4da4052b60110"), looks := true }, kinds := [], alts := [], laidByText := true, laidKinds := [.data, .data], laidTests := true, laidLooks := .later }
def InflateAnyCardSaid : Prop := Claim7.holds Tryd.pinned (.plain (OpenSpec.ofChange inflateAnySpec)) inflateAnyCard

/-- THE TIED CARD OF 'gatehouselaw05.InflateBlocks'. -/
def inflateBlocksCard : Claim7 := { stood := { row := inflateBlocksRow, standIns := [], harness := (true, "68ae7919a87e11bf4a745907c85e2538f22cd83c5aad61b9c1b4da4052b60110"), looks := true }, kinds := [], alts := [], laidByText := true, laidKinds := [.data, .data], laidTests := true, laidLooks := .later }
def InflateBlocksCardSaid : Prop := Claim7.holds Tryd.pinned (.plain (OpenSpec.ofChange inflateBlocksSpec)) inflateBlocksCard

/-- THE TIED CARD OF 'gatehouselaw05.InflateFixed'. -/
def inflateFixedCard : Claim7 := { stood := { row := inflateFixedRow, standIns := [], harness := (true, "68ae7919a87e11bf4a745907c85e2538f22cd83c5aad61b9c1b4da4052b60110"), looks := true }, kinds := [], alts := [], laidByText := true, laidKinds := [.data, .data], laidTests := true, laidLooks := .later }
def InflateFixedCardSaid : Prop := Claim7.holds Tryd.pinned (.plain (OpenSpec.ofChange inflateFixedSpec)) inflateFixedCard

/-- THE TIED CARD OF 'gatehouselaw06.DeflateNil'. -/
def deflateNilCard : Claim7 := { stood := { row := deflateNilRow, standIns := [], harness := (true, "68ae7919a87e11bf4a745907c85e2538f22cd83c5aad61b9c1b4da4052b60110"), looks := true }, kinds := [], alts := [], laidByText := true, laidKinds := [.data, .data], laidTests := true, laidLooks := .later }
def DeflateNilCardSaid : Prop := Claim7.holds Tryd.pinned (.plain (OpenSpec.ofChange deflateNilSpec)) deflateNilCard

/-- THE SECOND FORM's CARD OF 'gatehouselaw05.InflateAny'. -/
def inflateAnyUptoCard : Claim7 := { stood := { row := inflateAnyUptoRow, standIns := [], harness := (true, "68ae7919a87e11bf4a745907c85e2538f22cd83c5aad61b9c1b4da4052b60110"), looks := true }, kinds := [], alts := [], laidByText := true, laidKinds := [.data, .data], laidTests := true, laidLooks := .later }
def InflateAnyUptoCardSaid : Prop := Claim7.holds Tryd.pinned (.plain (OpenSpec.upto inflateAnySpec)) inflateAnyUptoCard

/-- THE SECOND FORM's CARD OF 'gatehouselaw05.InflateBlocks'. -/
def inflateBlocksUptoCard : Claim7 := { stood := { row := inflateBlocksUptoRow, standIns := [], harness := (true, "68ae7919a87e11bf4a745907c85e2538f22cd83c5aad61b9c1b4da4052b60110"), looks := true }, kinds := [], alts := [], laidByText := true, laidKinds := [.data, .data], laidTests := true, laidLooks := .later }
def InflateBlocksUptoCardSaid : Prop := Claim7.holds Tryd.pinned (.plain (OpenSpec.upto inflateBlocksSpec)) inflateBlocksUptoCard

/-- THE SECOND FORM's CARD OF 'gatehouselaw05.InflateFixed'. -/
def inflateFixedUptoCard : Claim7 := { stood := { row := inflateFixedUptoRow, standIns := [], harness := (true, "68ae7919a87e11bf4a745907c85e2538f22cd83c5aad61b9c1b4da4052b60110"), looks := true }, kinds := [], alts := [], laidByText := true, laidKinds := [.data, .data], laidTests := true, laidLooks := .later }
def InflateFixedUptoCardSaid : Prop := Claim7.holds Tryd.pinned (.plain (OpenSpec.upto inflateFixedSpec)) inflateFixedUptoCard

/-- THE SECOND FORM's CARD OF 'gatehouselaw06.DeflateNil'. -/
def deflateNilUptoCard : Claim7 := { stood := { row := deflateNilUptoRow, standIns := [], harness := (true, "68ae7919a87e11bf4a745907c85e2538f22cd83c5aad61b9c1b4da4052b60110"), looks := true }, kinds := [], alts := [], laidByText := true, laidKinds := [.data, .data], laidTests := true, laidLooks := .later }
def DeflateNilUptoCardSaid : Prop := Claim7.holds Tryd.pinned (.plain (OpenSpec.upto deflateNilSpec)) deflateNilUptoCard
end Rows
end Go.Proofs.YtdgfhbeofidbnaaDoor
