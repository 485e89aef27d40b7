/-
  DERIVED. GIVEN WITH THE SEED: THE CARDS: each row of YtcehkkamepdkoaaDoorRows.lean that lists a variable, with what it lists TIED to the program's text (the seventh form; the later family's looks); each row that meets fmt, with fmt's text TOLD by the authors' own Lean function (tested against real Go, not proved from fmt's source: count such statements apart). THE CARD IS WHAT COUNTS. Prove the row's statement (the work); the ties are given (YtcehkkamepdkoaaDoorTie.lean); close each card by the builder's one call (the guide's Derived/Test/ToyasCard.lean, 'card_holds'). Laid BY PROGRAM, IN A SANDBOX (cutbox-door.mjs). By AI agents, Wed Nov 11 2026. No macro, syntax, notation, axiom, sorry.
-/
import Derived.Test.YtcehkkamepdkoaaDoorRows
import GoSem.ClaimSeven
namespace Go.Proofs.YtcehkkamepdkoaaDoor
namespace Rows

/-- THE TIED CARD OF 'laws.FnExactRideText'. -/
def fnExactRideTextCard : Claim7 := { stood := { row := fnExactRideTextRow, standIns := [], harness := (true, "1a13f32db62f21c1158d484618f7e4c73b61bc32ed2df5a835105897c0cb33dd"), looks := true }, kinds := [], alts := [], laidByText := true, laidKinds := [.data, .data, .data], laidTests := true, laidLooks := .later }
def FnExactRideTextCardSaid : Prop := Claim7.holds Tryd.pinned (.plain (OpenSpec.ofChange fnExactRideTextSpec)) fnExactRideTextCard

/-- THE TIED CARD OF 'laws.FnExactReadRide'. -/
def fnExactReadRideCard : Claim7 := { stood := { row := fnExactReadRideRow, standIns := [], harness := (true, "1a13f32db62f21c1158d484618f7e4c73b61bc32ed2df5a835105897c0cb33dd"), looks := true }, kinds := [], alts := [], laidByText := true, laidKinds := [.data, .data, .data, .data, .sentinel, .sentinel, .pinned], laidTests := true, laidLooks := .later }
def FnExactReadRideCardSaid : Prop := Claim7.holds Tryd.pinned (.plain (OpenSpec.ofChange fnExactReadRideSpec)) fnExactReadRideCard

/-- THE SECOND FORM's CARD OF 'laws.FnExactRideText'. -/
def fnExactRideTextUptoCard : Claim7 := { stood := { row := fnExactRideTextUptoRow, standIns := [], harness := (true, "1a13f32db62f21c1158d484618f7e4c73b61bc32ed2df5a835105897c0cb33dd"), looks := true }, kinds := [], alts := [], laidByText := true, laidKinds := [.data, .data, .data], laidTests := true, laidLooks := .later }
def FnExactRideTextUptoCardSaid : Prop := Claim7.holds Tryd.pinned (.plain (OpenSpec.upto fnExactRideTextSpec)) fnExactRideTextUptoCard

/-- THE SECOND FORM's CARD OF 'laws.FnExactReadRide'. -/
def fnExactReadRideUptoCard : Claim7 := { stood := { row := fnExactReadRideUptoRow, standIns := [], harness := (true, "1a13f32db62f21c1158d484618f7e4c73b61bc32ed2df5a835105897c0cb33dd"), looks := true }, kinds := [], alts := [], laidByText := true, laidKinds := [.data, .data, .data, .data, .sentinel, .sentinel, .pinned], laidTests := true, laidLooks := .later }
def FnExactReadRideUptoCardSaid : Prop := Claim7.holds Tryd.pinned (.plain (OpenSpec.upto fnExactReadRideSpec)) fnExactReadRideUptoCard
end Rows
end Go.Proofs.YtcehkkamepdkoaaDoor
