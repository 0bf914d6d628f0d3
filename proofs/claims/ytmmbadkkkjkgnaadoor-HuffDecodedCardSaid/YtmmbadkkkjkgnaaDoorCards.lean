/-
  DERIVED. GIVEN WITH THE SEED: THE CARDS: each row of YtmmbadkkkjkgnaaDoorRows.lean that lists a variable, with what it lists TIED to the program's text (the seventh form; the later family's looks); each row that meets fmt, with fmt's text TOLD by the authors' own Lean function (tested against real Go, not proved from fmt's source: count such statements apart). THE CARD IS WHAT COUNTS. Prove the row's statement (the work); the ties are given (YtmmbadkkkjkgnaaDoorTie.lean); close each card by the builder's one call (the guide's Derived/Test/ToyasCard.lean, 'card_holds'). Laid BY PROGRAM, IN A SANDBOX (cutbox-door.mjs). By AI agents, Wed Nov 11 2026. No macro, syntax, notation, axiom, sorry.
-/
import Derived.Test.YtmmbadkkkjkgnaaDoorRows
import GoSem.ClaimSeven
namespace Go.Proofs.YtmmbadkkkjkgnaaDoor
namespace Rows

/-- THE TIED CARD OF 'gatehouselaw03.HuffReads'. -/
def huffReadsCard : Claim7 := { stood := { row := huffReadsRow, standIns := [], harness := (true, "5f822b0dc1aace68ef213cec064bd4101a4ddcb638f62613d4584f80e15ac5f5"), looks := false }, kinds := [], alts := [], laidByText := true, laidKinds := [.data], laidTests := true, laidLooks := .later }
def HuffReadsCardSaid : Prop := Claim7.holds Tryd.pinned (.plain (OpenSpec.ofChange huffReadsSpec)) huffReadsCard

/-- THE TIED CARD OF 'gatehouselaw03.HuffPuts'. -/
def huffPutsCard : Claim7 := { stood := { row := huffPutsRow, standIns := [], harness := (true, "5f822b0dc1aace68ef213cec064bd4101a4ddcb638f62613d4584f80e15ac5f5"), looks := false }, kinds := [], alts := [], laidByText := true, laidKinds := [.data], laidTests := true, laidLooks := .later }
def HuffPutsCardSaid : Prop := Claim7.holds Tryd.pinned (.plain (OpenSpec.ofChange huffPutsSpec)) huffPutsCard

/-- THE TIED CARD OF 'gatehouselaw03.HuffNil'. -/
def huffNilCard : Claim7 := { stood := { row := huffNilRow, standIns := [], harness := (true, "5f822b0dc1aace68ef213cec064bd4101a4ddcb638f62613d4584f80e15ac5f5"), looks := false }, kinds := [], alts := [], laidByText := true, laidKinds := [.data], laidTests := true, laidLooks := .later }
def HuffNilCardSaid : Prop := Claim7.holds Tryd.pinned (.plain (OpenSpec.ofChange huffNilSpec)) huffNilCard

/-- THE TIED CARD OF 'gatehouselaw03.HuffDecoded'. -/
def huffDecodedCard : Claim7 := { stood := { row := huffDecodedRow, standIns := [], harness := (true, "5f822b0dc1aace68ef213cec064bd4101a4ddcb638f62613d4584f80e15ac5f5"), looks := false }, kinds := [], alts := [], laidByText := true, laidKinds := [.data], laidTests := true, laidLooks := .later }
def HuffDecodedCardSaid : Prop := Claim7.holds Tryd.pinned (.plain (OpenSpec.ofChange huffDecodedSpec)) huffDecodedCard

/-- THE SECOND FORM's CARD OF 'gatehouselaw03.HuffReads'. -/
def huffReadsUptoCard : Claim7 := { stood := { row := huffReadsUptoRow, standIns := [], harness := (true, "5f822b0dc1aace68ef213cec064bd4101a4ddcb638f62613d4584f80e15ac5f5"), looks := false }, kinds := [], alts := [], laidByText := true, laidKinds := [.data], laidTests := true, laidLooks := .later }
def HuffReadsUptoCardSaid : Prop := Claim7.holds Tryd.pinned (.plain (OpenSpec.upto huffReadsSpec)) huffReadsUptoCard

/-- THE SECOND FORM's CARD OF 'gatehouselaw03.HuffPuts'. -/
def huffPutsUptoCard : Claim7 := { stood := { row := huffPutsUptoRow, standIns := [], harness := (true, "5f822b0dc1aace68ef213cec064bd4101a4ddcb638f62613d4584f80e15ac5f5"), looks := false }, kinds := [], alts := [], laidByText := true, laidKinds := [.data], laidTests := true, laidLooks := .later }
def HuffPutsUptoCardSaid : Prop := Claim7.holds Tryd.pinned (.plain (OpenSpec.upto huffPutsSpec)) huffPutsUptoCard

/-- THE SECOND FORM's CARD OF 'gatehouselaw03.HuffNil'. -/
def huffNilUptoCard : Claim7 := { stood := { row := huffNilUptoRow, standIns := [], harness := (true, "5f822b0dc1aace68ef213cec064bd4101a4ddcb638f62613d4584f80e15ac5f5"), looks := false }, kinds := [], alts := [], laidByText := true, laidKinds := [.data], laidTests := true, laidLooks := .later }
def HuffNilUptoCardSaid : Prop := Claim7.holds Tryd.pinned (.plain (OpenSpec.upto huffNilSpec)) huffNilUptoCard

/-- THE SECOND FORM's CARD OF 'gatehouselaw03.HuffDecoded'. -/
def huffDecodedUptoCard : Claim7 := { stood := { row := huffDecodedUptoRow, standIns := [], harness := (true, "5f822b0dc1aace68ef213cec064bd4101a4ddcb638f62613d4584f80e15ac5f5"), looks := false }, kinds := [], alts := [], laidByText := true, laidKinds := [.data], laidTests := true, laidLooks := .later }
def HuffDecodedUptoCardSaid : Prop := Claim7.holds Tryd.pinned (.plain (OpenSpec.upto huffDecodedSpec)) huffDecodedUptoCard
end Rows
end Go.Proofs.YtmmbadkkkjkgnaaDoor
