/-
  DERIVED. GIVEN WITH THE SEED: THE CARDS: each row of YtfchbncknedeiaaDoorRows.lean that lists a variable, with what it lists TIED to the program's text (the seventh form; the later family's looks); each row that meets fmt, with fmt's text TOLD by the authors' own Lean function (tested against real Go, not proved from fmt's source: count such statements apart). THE CARD IS WHAT COUNTS. Prove the row's statement (the work); the ties are given (YtfchbncknedeiaaDoorTie.lean); close each card by the builder's one call (the guide's Derived/Test/ToyasCard.lean, 'card_holds'). Laid BY PROGRAM, IN A SANDBOX (cutbox-door.mjs). By AI agents, Wed Nov 11 2026. No macro, syntax, notation, axiom, sorry.
-/
import Derived.Test.YtfchbncknedeiaaDoorRows
import GoSem.ClaimSeven
namespace Go.Proofs.YtfchbncknedeiaaDoor
namespace Rows

/-- THE TIED CARD OF 'laws.FnExactWorstRing'. -/
def fnExactWorstRingCard : Claim7 := { stood := { row := fnExactWorstRingRow, standIns := [], harness := (true, "880477d47e0b98e928c6da1ed8977e52b19be56a6e9b495f5c146127aaec021c"), looks := false }, kinds := [], alts := [], laidByText := true, laidKinds := [.data, .pinned], laidTests := true, laidLooks := .later }
def FnExactWorstRingCardSaid : Prop := Claim7.holds Tryd.pinned (.plain (OpenSpec.ofChange fnExactWorstRingSpec)) fnExactWorstRingCard

/-- THE SECOND FORM's CARD OF 'laws.FnExactWorstRing'. -/
def fnExactWorstRingUptoCard : Claim7 := { stood := { row := fnExactWorstRingUptoRow, standIns := [], harness := (true, "880477d47e0b98e928c6da1ed8977e52b19be56a6e9b495f5c146127aaec021c"), looks := false }, kinds := [], alts := [], laidByText := true, laidKinds := [.data, .pinned], laidTests := true, laidLooks := .later }
def FnExactWorstRingUptoCardSaid : Prop := Claim7.holds Tryd.pinned (.plain (OpenSpec.upto fnExactWorstRingSpec)) fnExactWorstRingUptoCard
end Rows
end Go.Proofs.YtfchbncknedeiaaDoor
