/-
  DERIVED. GIVEN WITH THE SEED: THE CARDS: each row of YthmbbpfgbpacnaaDoorRows.lean that lists a variable, with what it lists TIED to the program's text (the seventh form; the later family's looks); each row that meets fmt, with fmt's text TOLD by the authors' own Lean function (tested against real Go, not proved from fmt's source: count such statements apart). THE CARD IS WHAT COUNTS. Prove the row's statement (the work); the ties are given (YthmbbpfgbpacnaaDoorTie.lean); close each card by the builder's one call (the guide's Derived/Test/ToyasCard.lean, 'card_holds'). Laid BY PROGRAM, IN A SANDBOX (cutbox-door.mjs). By AI agents, Wed Nov 11 2026. No macro, syntax, notation, axiom, sorry.
-/
import Derived.Test.YthmbbpfgbpacnaaDoorRows
import GoSem.ClaimSeven
namespace Go.Proofs.YthmbbpfgbpacnaaDoor
namespace Rows

/-- THE TIED CARD OF 'gatehouselaw06.DeflateNil'. -/
def deflateNilCard : Claim7 := { stood := { row := deflateNilRow, standIns := [], harness := (true, "e7acffa5062d14d6482b3572fa8ec25ba8b02da90db7a525aad0bef74a5053d2"), looks := false }, kinds := [], alts := [], laidByText := true, laidKinds := [.data, .data], laidTests := true, laidLooks := .later }
def DeflateNilCardSaid : Prop := Claim7.holds Tryd.pinned (.plain (OpenSpec.ofChange deflateNilSpec)) deflateNilCard

/-- THE SECOND FORM's CARD OF 'gatehouselaw06.DeflateNil'. -/
def deflateNilUptoCard : Claim7 := { stood := { row := deflateNilUptoRow, standIns := [], harness := (true, "e7acffa5062d14d6482b3572fa8ec25ba8b02da90db7a525aad0bef74a5053d2"), looks := false }, kinds := [], alts := [], laidByText := true, laidKinds := [.data, .data], laidTests := true, laidLooks := .later }
def DeflateNilUptoCardSaid : Prop := Claim7.holds Tryd.pinned (.plain (OpenSpec.upto deflateNilSpec)) deflateNilUptoCard
end Rows
end Go.Proofs.YthmbbpfgbpacnaaDoor
