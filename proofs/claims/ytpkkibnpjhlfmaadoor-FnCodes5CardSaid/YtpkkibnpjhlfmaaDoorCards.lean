/-
  DERIVED. GIVEN WITH THE SEED: THE CARDS: each row of YtpkkibnpjhlfmaaDoorRows.lean that lists a variable, with what it lists TIED to the program's text (the seventh form; the later family's looks); each row that meets fmt, with fmt's text TOLD by the authors' own Lean function (tested against real Go, not proved from fmt's source: count such statements apart). THE CARD IS WHAT COUNTS. Prove the row's statement (the work); the ties are given (YtpkkibnpjhlfmaaDoorTie.lean); close each card by the builder's one call (the guide's Derived/Test/ToyasCard.lean, 'card_holds'). Laid BY PROGRAM, IN A SANDBOX (cutbox-door.mjs). By AI agents, Wed Nov 11 2026. No macro, syntax, notation, axiom, sorry.
-/
import Derived.Test.YtpkkibnpjhlfmaaDoorRows
import GoSem.ClaimSeven
namespace Go.Proofs.YtpkkibnpjhlfmaaDoor
namespace Rows

/-- THE TIED CARD OF 'laws.FnNearest'. -/
def fnNearestCard : Claim7 := { stood := { row := fnNearestRow, standIns := [], harness := (true, "873888778c04eec8fbd48896ec1a63cd943039f75172963cd8920e93133a9f82"), looks := false }, kinds := [], alts := [], laidByText := true, laidKinds := [.data, .data, .pinned], laidTests := true, laidLooks := .later }
def FnNearestCardSaid : Prop := Claim7.holds Tryd.pinned (.plain (OpenSpec.ofChange fnNearestSpec)) fnNearestCard

/-- THE TIED CARD OF 'laws.FnCodes5'. -/
def fnCodes5Card : Claim7 := { stood := { row := fnCodes5Row, standIns := [], harness := (true, "873888778c04eec8fbd48896ec1a63cd943039f75172963cd8920e93133a9f82"), looks := false }, kinds := [], alts := [], laidByText := true, laidKinds := [.data, .data, .pinned], laidTests := true, laidLooks := .later }
def FnCodes5CardSaid : Prop := Claim7.holds Tryd.pinned (.plain (OpenSpec.ofChange fnCodes5Spec)) fnCodes5Card

/-- THE TIED CARD OF 'laws.FnExactMostAddresses'. -/
def fnExactMostAddressesCard : Claim7 := { stood := { row := fnExactMostAddressesRow, standIns := [], harness := (true, "873888778c04eec8fbd48896ec1a63cd943039f75172963cd8920e93133a9f82"), looks := false }, kinds := [], alts := [], laidByText := true, laidKinds := [.data], laidTests := true, laidLooks := .later }
def FnExactMostAddressesCardSaid : Prop := Claim7.holds Tryd.pinned (.plain (OpenSpec.ofChange fnExactMostAddressesSpec)) fnExactMostAddressesCard

/-- THE SECOND FORM's CARD OF 'laws.FnNearest'. -/
def fnNearestUptoCard : Claim7 := { stood := { row := fnNearestUptoRow, standIns := [], harness := (true, "873888778c04eec8fbd48896ec1a63cd943039f75172963cd8920e93133a9f82"), looks := false }, kinds := [], alts := [], laidByText := true, laidKinds := [.data, .data, .pinned], laidTests := true, laidLooks := .later }
def FnNearestUptoCardSaid : Prop := Claim7.holds Tryd.pinned (.plain (OpenSpec.upto fnNearestSpec)) fnNearestUptoCard

/-- THE SECOND FORM's CARD OF 'laws.FnCodes5'. -/
def fnCodes5UptoCard : Claim7 := { stood := { row := fnCodes5UptoRow, standIns := [], harness := (true, "873888778c04eec8fbd48896ec1a63cd943039f75172963cd8920e93133a9f82"), looks := false }, kinds := [], alts := [], laidByText := true, laidKinds := [.data, .data, .pinned], laidTests := true, laidLooks := .later }
def FnCodes5UptoCardSaid : Prop := Claim7.holds Tryd.pinned (.plain (OpenSpec.upto fnCodes5Spec)) fnCodes5UptoCard

/-- THE SECOND FORM's CARD OF 'laws.FnExactMostAddresses'. -/
def fnExactMostAddressesUptoCard : Claim7 := { stood := { row := fnExactMostAddressesUptoRow, standIns := [], harness := (true, "873888778c04eec8fbd48896ec1a63cd943039f75172963cd8920e93133a9f82"), looks := false }, kinds := [], alts := [], laidByText := true, laidKinds := [.data], laidTests := true, laidLooks := .later }
def FnExactMostAddressesUptoCardSaid : Prop := Claim7.holds Tryd.pinned (.plain (OpenSpec.upto fnExactMostAddressesSpec)) fnExactMostAddressesUptoCard
end Rows
end Go.Proofs.YtpkkibnpjhlfmaaDoor
