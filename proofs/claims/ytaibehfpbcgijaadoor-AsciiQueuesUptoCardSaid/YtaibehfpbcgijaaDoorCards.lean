/-
  DERIVED. GIVEN WITH THE SEED: THE CARDS: each row of YtaibehfpbcgijaaDoorRows.lean that lists a variable, with what it lists TIED to the program's text (the seventh form; the later family's looks); each row that meets fmt, with fmt's text TOLD by the authors' own Lean function (tested against real Go, not proved from fmt's source: count such statements apart). THE CARD IS WHAT COUNTS. Prove the row's statement (the work); the ties are given (YtaibehfpbcgijaaDoorTie.lean); close each card by the builder's one call (the guide's Derived/Test/ToyasCard.lean, 'card_holds'). Laid BY PROGRAM, IN A SANDBOX (cutbox-door.mjs). By AI agents, Wed Nov 11 2026. No macro, syntax, notation, axiom, sorry.
-/
import Derived.Test.YtaibehfpbcgijaaDoorRows
import GoSem.ClaimSeven
namespace Go.Proofs.YtaibehfpbcgijaaDoor
namespace Rows

/-- THE TIED CARD OF 'gatehouselaw01.AsciiClasses'. -/
def asciiClassesCard : Claim7 := { stood := { row := asciiClassesRow, standIns := [], harness := (true, "2c3b0fb32f5b52d3e514fc39c176f07e729ee955a26a53da1573c179956ef204"), looks := false }, kinds := [], alts := [], laidByText := true, laidKinds := [.data, .pinned], laidTests := true, laidLooks := .later }
def AsciiClassesCardSaid : Prop := Claim7.holds Tryd.pinned (.plain (OpenSpec.ofChange asciiClassesSpec)) asciiClassesCard

/-- THE TIED CARD OF 'gatehouselaw01.AsciiLetters'. -/
def asciiLettersCard : Claim7 := { stood := { row := asciiLettersRow, standIns := [], harness := (true, "2c3b0fb32f5b52d3e514fc39c176f07e729ee955a26a53da1573c179956ef204"), looks := false }, kinds := [], alts := [], laidByText := true, laidKinds := [.data, .pinned], laidTests := true, laidLooks := .later }
def AsciiLettersCardSaid : Prop := Claim7.holds Tryd.pinned (.plain (OpenSpec.ofChange asciiLettersSpec)) asciiLettersCard

/-- THE TIED CARD OF 'gatehouselaw01.AsciiNumbers'. -/
def asciiNumbersCard : Claim7 := { stood := { row := asciiNumbersRow, standIns := [], harness := (true, "2c3b0fb32f5b52d3e514fc39c176f07e729ee955a26a53da1573c179956ef204"), looks := false }, kinds := [], alts := [], laidByText := true, laidKinds := [.data, .data, .data, .data, .pinned], laidTests := true, laidLooks := .later }
def AsciiNumbersCardSaid : Prop := Claim7.holds Tryd.pinned (.plain (OpenSpec.ofChange asciiNumbersSpec)) asciiNumbersCard

/-- THE TIED CARD OF 'gatehouselaw01.AsciiQueues'. -/
def asciiQueuesCard : Claim7 := { stood := { row := asciiQueuesRow, standIns := [], harness := (true, "2c3b0fb32f5b52d3e514fc39c176f07e729ee955a26a53da1573c179956ef204"), looks := false }, kinds := [], alts := [], laidByText := true, laidKinds := [.data, .sentinel, .pinned], laidTests := true, laidLooks := .later }
def AsciiQueuesCardSaid : Prop := Claim7.holds Tryd.pinned (.plain (OpenSpec.ofChange asciiQueuesSpec)) asciiQueuesCard

/-- THE TIED CARD OF 'gatehouselaw01.AsciiNil'. -/
def asciiNilCard : Claim7 := { stood := { row := asciiNilRow, standIns := [], harness := (true, "2c3b0fb32f5b52d3e514fc39c176f07e729ee955a26a53da1573c179956ef204"), looks := false }, kinds := [], alts := [], laidByText := true, laidKinds := [.data, .sentinel, .pinned], laidTests := true, laidLooks := .later }
def AsciiNilCardSaid : Prop := Claim7.holds Tryd.pinned (.plain (OpenSpec.ofChange asciiNilSpec)) asciiNilCard

/-- THE TIED CARD OF 'gatehouselaw01.AsciiOrder'. -/
def asciiOrderCard : Claim7 := { stood := { row := asciiOrderRow, standIns := [], harness := (true, "2c3b0fb32f5b52d3e514fc39c176f07e729ee955a26a53da1573c179956ef204"), looks := false }, kinds := [], alts := [], laidByText := true, laidKinds := [.data, .sentinel, .pinned], laidTests := true, laidLooks := .later }
def AsciiOrderCardSaid : Prop := Claim7.holds Tryd.pinned (.plain (OpenSpec.ofChange asciiOrderSpec)) asciiOrderCard

/-- THE TIED CARD OF 'gatehouselaw01.AsciiBack'. -/
def asciiBackCard : Claim7 := { stood := { row := asciiBackRow, standIns := [], harness := (true, "2c3b0fb32f5b52d3e514fc39c176f07e729ee955a26a53da1573c179956ef204"), looks := false }, kinds := [], alts := [], laidByText := true, laidKinds := [.data, .data, .data, .data, .pinned], laidTests := true, laidLooks := .later }
def AsciiBackCardSaid : Prop := Claim7.holds Tryd.pinned (.plain (OpenSpec.ofChange asciiBackSpec)) asciiBackCard

/-- THE SECOND FORM's CARD OF 'gatehouselaw01.AsciiClasses'. -/
def asciiClassesUptoCard : Claim7 := { stood := { row := asciiClassesUptoRow, standIns := [], harness := (true, "2c3b0fb32f5b52d3e514fc39c176f07e729ee955a26a53da1573c179956ef204"), looks := false }, kinds := [], alts := [], laidByText := true, laidKinds := [.data, .pinned], laidTests := true, laidLooks := .later }
def AsciiClassesUptoCardSaid : Prop := Claim7.holds Tryd.pinned (.plain (OpenSpec.upto asciiClassesSpec)) asciiClassesUptoCard

/-- THE SECOND FORM's CARD OF 'gatehouselaw01.AsciiLetters'. -/
def asciiLettersUptoCard : Claim7 := { stood := { row := asciiLettersUptoRow, standIns := [], harness := (true, "2c3b0fb32f5b52d3e514fc39c176f07e729ee955a26a53da1573c179956ef204"), looks := false }, kinds := [], alts := [], laidByText := true, laidKinds := [.data, .pinned], laidTests := true, laidLooks := .later }
def AsciiLettersUptoCardSaid : Prop := Claim7.holds Tryd.pinned (.plain (OpenSpec.upto asciiLettersSpec)) asciiLettersUptoCard

/-- THE SECOND FORM's CARD OF 'gatehouselaw01.AsciiNumbers'. -/
def asciiNumbersUptoCard : Claim7 := { stood := { row := asciiNumbersUptoRow, standIns := [], harness := (true, "2c3b0fb32f5b52d3e514fc39c176f07e729ee955a26a53da1573c179956ef204"), looks := false }, kinds := [], alts := [], laidByText := true, laidKinds := [.data, .data, .data, .data, .pinned], laidTests := true, laidLooks := .later }
def AsciiNumbersUptoCardSaid : Prop := Claim7.holds Tryd.pinned (.plain (OpenSpec.upto asciiNumbersSpec)) asciiNumbersUptoCard

/-- THE SECOND FORM's CARD OF 'gatehouselaw01.AsciiQueues'. -/
def asciiQueuesUptoCard : Claim7 := { stood := { row := asciiQueuesUptoRow, standIns := [], harness := (true, "2c3b0fb32f5b52d3e514fc39c176f07e729ee955a26a53da1573c179956ef204"), looks := false }, kinds := [], alts := [], laidByText := true, laidKinds := [.data, .sentinel, .pinned], laidTests := true, laidLooks := .later }
def AsciiQueuesUptoCardSaid : Prop := Claim7.holds Tryd.pinned (.plain (OpenSpec.upto asciiQueuesSpec)) asciiQueuesUptoCard

/-- THE SECOND FORM's CARD OF 'gatehouselaw01.AsciiNil'. -/
def asciiNilUptoCard : Claim7 := { stood := { row := asciiNilUptoRow, standIns := [], harness := (true, "2c3b0fb32f5b52d3e514fc39c176f07e729ee955a26a53da1573c179956ef204"), looks := false }, kinds := [], alts := [], laidByText := true, laidKinds := [.data, .sentinel, .pinned], laidTests := true, laidLooks := .later }
def AsciiNilUptoCardSaid : Prop := Claim7.holds Tryd.pinned (.plain (OpenSpec.upto asciiNilSpec)) asciiNilUptoCard

/-- THE SECOND FORM's CARD OF 'gatehouselaw01.AsciiOrder'. -/
def asciiOrderUptoCard : Claim7 := { stood := { row := asciiOrderUptoRow, standIns := [], harness := (true, "2c3b0fb32f5b52d3e514fc39c176f07e729ee955a26a53da1573c179956ef204"), looks := false }, kinds := [], alts := [], laidByText := true, laidKinds := [.data, .sentinel, .pinned], laidTests := true, laidLooks := .later }
def AsciiOrderUptoCardSaid : Prop := Claim7.holds Tryd.pinned (.plain (OpenSpec.upto asciiOrderSpec)) asciiOrderUptoCard

/-- THE SECOND FORM's CARD OF 'gatehouselaw01.AsciiBack'. -/
def asciiBackUptoCard : Claim7 := { stood := { row := asciiBackUptoRow, standIns := [], harness := (true, "2c3b0fb32f5b52d3e514fc39c176f07e729ee955a26a53da1573c179956ef204"), looks := false }, kinds := [], alts := [], laidByText := true, laidKinds := [.data, .data, .data, .data, .pinned], laidTests := true, laidLooks := .later }
def AsciiBackUptoCardSaid : Prop := Claim7.holds Tryd.pinned (.plain (OpenSpec.upto asciiBackSpec)) asciiBackUptoCard
end Rows
end Go.Proofs.YtaibehfpbcgijaaDoor
