/-
  DERIVED. GIVEN WITH THE SEED: THE CARDS: each row of YtgldohafckanfaaDoorRows.lean that lists a variable, with what it lists TIED to the program's text (the seventh form; the later family's looks); each row that meets fmt, with fmt's text TOLD by the authors' own Lean function (tested against real Go, not proved from fmt's source: count such statements apart). THE CARD IS WHAT COUNTS. Prove the row's statement (the work); the ties are given (YtgldohafckanfaaDoorTie.lean); close each card by the builder's one call (the guide's Derived/Test/ToyasCard.lean, 'card_holds'). Laid BY PROGRAM, IN A SANDBOX (cutbox-door.mjs). By AI agents, Wed Nov 11 2026. No macro, syntax, notation, axiom, sorry.
-/
import Derived.Test.YtgldohafckanfaaDoorRows
import GoSem.ClaimSeven
namespace Go.Proofs.YtgldohafckanfaaDoor
namespace Rows

/-- THE TIED CARD OF 'laws.FnNearest'. -/
def fnNearestCard : Claim7 := { stood := { row := fnNearestRow, standIns := [], harness := (true, "8e7104ee5a7d614f9a8328eb14b6de2f42c2b4034b16a6a82d24b8b4aec9190d"), looks := false }, kinds := [], alts := [], laidByText := true, laidKinds := [.data, .data, .pinned], laidTests := true, laidLooks := .later }
def FnNearestCardSaid : Prop := Claim7.holds Tryd.pinned (.plain (OpenSpec.ofChange fnNearestSpec)) fnNearestCard

/-- THE TIED CARD OF 'laws.FnCodes5'. -/
def fnCodes5Card : Claim7 := { stood := { row := fnCodes5Row, standIns := [], harness := (true, "8e7104ee5a7d614f9a8328eb14b6de2f42c2b4034b16a6a82d24b8b4aec9190d"), looks := false }, kinds := [], alts := [], laidByText := true, laidKinds := [.data, .data, .pinned], laidTests := true, laidLooks := .later }
def FnCodes5CardSaid : Prop := Claim7.holds Tryd.pinned (.plain (OpenSpec.ofChange fnCodes5Spec)) fnCodes5Card

/-- THE TIED CARD OF 'laws.FnExactValidAddresses'. -/
def fnExactValidAddressesCard : Claim7 := { stood := { row := fnExactValidAddressesRow, standIns := [], harness := (true, "8e7104ee5a7d614f9a8328eb14b6de2f42c2b4034b16a6a82d24b8b4aec9190d"), looks := false }, kinds := [], alts := [], laidByText := true, laidKinds := [.data, .pinned], laidTests := true, laidLooks := .later }
def FnExactValidAddressesCardSaid : Prop := Claim7.holds Tryd.pinned (.plain (OpenSpec.ofChange fnExactValidAddressesSpec)) fnExactValidAddressesCard

/-- THE TIED CARD OF 'laws.FnExactDistanceOf'. -/
def fnExactDistanceOfCard : Claim7 := { stood := { row := fnExactDistanceOfRow, standIns := [], harness := (true, "8e7104ee5a7d614f9a8328eb14b6de2f42c2b4034b16a6a82d24b8b4aec9190d"), looks := false }, kinds := [], alts := [], laidByText := true, laidKinds := [.data, .pinned], laidTests := true, laidLooks := .later }
def FnExactDistanceOfCardSaid : Prop := Claim7.holds Tryd.pinned (.plain (OpenSpec.ofChange fnExactDistanceOfSpec)) fnExactDistanceOfCard

/-- THE TIED CARD OF 'laws.FnExactLeastDistance'. -/
def fnExactLeastDistanceCard : Claim7 := { stood := { row := fnExactLeastDistanceRow, standIns := [], harness := (true, "8e7104ee5a7d614f9a8328eb14b6de2f42c2b4034b16a6a82d24b8b4aec9190d"), looks := false }, kinds := [], alts := [], laidByText := true, laidKinds := [.data, .pinned], laidTests := true, laidLooks := .later }
def FnExactLeastDistanceCardSaid : Prop := Claim7.holds Tryd.pinned (.plain (OpenSpec.ofChange fnExactLeastDistanceSpec)) fnExactLeastDistanceCard

/-- THE TIED CARD OF 'laws.FnExactNearestAddress'. -/
def fnExactNearestAddressCard : Claim7 := { stood := { row := fnExactNearestAddressRow, standIns := [], harness := (true, "8e7104ee5a7d614f9a8328eb14b6de2f42c2b4034b16a6a82d24b8b4aec9190d"), looks := false }, kinds := [], alts := [], laidByText := true, laidKinds := [.data, .data, .pinned], laidTests := true, laidLooks := .later }
def FnExactNearestAddressCardSaid : Prop := Claim7.holds Tryd.pinned (.plain (OpenSpec.ofChange fnExactNearestAddressSpec)) fnExactNearestAddressCard

/-- THE TIED CARD OF 'laws.FnExactCorrectsAll'. -/
def fnExactCorrectsAllCard : Claim7 := { stood := { row := fnExactCorrectsAllRow, standIns := [], harness := (true, "8e7104ee5a7d614f9a8328eb14b6de2f42c2b4034b16a6a82d24b8b4aec9190d"), looks := false }, kinds := [], alts := [], laidByText := true, laidKinds := [.data, .pinned], laidTests := true, laidLooks := .later }
def FnExactCorrectsAllCardSaid : Prop := Claim7.holds Tryd.pinned (.plain (OpenSpec.ofChange fnExactCorrectsAllSpec)) fnExactCorrectsAllCard

/-- THE TIED CARD OF 'laws.FnExactMostAddresses'. -/
def fnExactMostAddressesCard : Claim7 := { stood := { row := fnExactMostAddressesRow, standIns := [], harness := (true, "8e7104ee5a7d614f9a8328eb14b6de2f42c2b4034b16a6a82d24b8b4aec9190d"), looks := false }, kinds := [], alts := [], laidByText := true, laidKinds := [.data], laidTests := true, laidLooks := .later }
def FnExactMostAddressesCardSaid : Prop := Claim7.holds Tryd.pinned (.plain (OpenSpec.ofChange fnExactMostAddressesSpec)) fnExactMostAddressesCard

/-- THE TIED CARD OF 'laws.FnExactMisreadAs'. -/
def fnExactMisreadAsCard : Claim7 := { stood := { row := fnExactMisreadAsRow, standIns := [], harness := (true, "8e7104ee5a7d614f9a8328eb14b6de2f42c2b4034b16a6a82d24b8b4aec9190d"), looks := false }, kinds := [], alts := [], laidByText := true, laidKinds := [.data, .data, .pinned], laidTests := true, laidLooks := .later }
def FnExactMisreadAsCardSaid : Prop := Claim7.holds Tryd.pinned (.plain (OpenSpec.ofChange fnExactMisreadAsSpec)) fnExactMisreadAsCard

/-- THE TIED CARD OF 'laws.FnExactAddAddress'. -/
def fnExactAddAddressCard : Claim7 := { stood := { row := fnExactAddAddressRow, standIns := [], harness := (true, "8e7104ee5a7d614f9a8328eb14b6de2f42c2b4034b16a6a82d24b8b4aec9190d"), looks := false }, kinds := [], alts := [], laidByText := true, laidKinds := [.data, .pinned], laidTests := true, laidLooks := .later }
def FnExactAddAddressCardSaid : Prop := Claim7.holds Tryd.pinned (.plain (OpenSpec.ofChange fnExactAddAddressSpec)) fnExactAddAddressCard

/-- THE TIED CARD OF 'laws.FnExactWorstRing'. -/
def fnExactWorstRingCard : Claim7 := { stood := { row := fnExactWorstRingRow, standIns := [], harness := (true, "8e7104ee5a7d614f9a8328eb14b6de2f42c2b4034b16a6a82d24b8b4aec9190d"), looks := false }, kinds := [], alts := [], laidByText := true, laidKinds := [.data, .pinned], laidTests := true, laidLooks := .later }
def FnExactWorstRingCardSaid : Prop := Claim7.holds Tryd.pinned (.plain (OpenSpec.ofChange fnExactWorstRingSpec)) fnExactWorstRingCard

/-- THE SECOND FORM's CARD OF 'laws.FnNearest'. -/
def fnNearestUptoCard : Claim7 := { stood := { row := fnNearestUptoRow, standIns := [], harness := (true, "8e7104ee5a7d614f9a8328eb14b6de2f42c2b4034b16a6a82d24b8b4aec9190d"), looks := false }, kinds := [], alts := [], laidByText := true, laidKinds := [.data, .data, .pinned], laidTests := true, laidLooks := .later }
def FnNearestUptoCardSaid : Prop := Claim7.holds Tryd.pinned (.plain (OpenSpec.upto fnNearestSpec)) fnNearestUptoCard

/-- THE SECOND FORM's CARD OF 'laws.FnCodes5'. -/
def fnCodes5UptoCard : Claim7 := { stood := { row := fnCodes5UptoRow, standIns := [], harness := (true, "8e7104ee5a7d614f9a8328eb14b6de2f42c2b4034b16a6a82d24b8b4aec9190d"), looks := false }, kinds := [], alts := [], laidByText := true, laidKinds := [.data, .data, .pinned], laidTests := true, laidLooks := .later }
def FnCodes5UptoCardSaid : Prop := Claim7.holds Tryd.pinned (.plain (OpenSpec.upto fnCodes5Spec)) fnCodes5UptoCard

/-- THE SECOND FORM's CARD OF 'laws.FnExactValidAddresses'. -/
def fnExactValidAddressesUptoCard : Claim7 := { stood := { row := fnExactValidAddressesUptoRow, standIns := [], harness := (true, "8e7104ee5a7d614f9a8328eb14b6de2f42c2b4034b16a6a82d24b8b4aec9190d"), looks := false }, kinds := [], alts := [], laidByText := true, laidKinds := [.data, .pinned], laidTests := true, laidLooks := .later }
def FnExactValidAddressesUptoCardSaid : Prop := Claim7.holds Tryd.pinned (.plain (OpenSpec.upto fnExactValidAddressesSpec)) fnExactValidAddressesUptoCard

/-- THE SECOND FORM's CARD OF 'laws.FnExactDistanceOf'. -/
def fnExactDistanceOfUptoCard : Claim7 := { stood := { row := fnExactDistanceOfUptoRow, standIns := [], harness := (true, "8e7104ee5a7d614f9a8328eb14b6de2f42c2b4034b16a6a82d24b8b4aec9190d"), looks := false }, kinds := [], alts := [], laidByText := true, laidKinds := [.data, .pinned], laidTests := true, laidLooks := .later }
def FnExactDistanceOfUptoCardSaid : Prop := Claim7.holds Tryd.pinned (.plain (OpenSpec.upto fnExactDistanceOfSpec)) fnExactDistanceOfUptoCard

/-- THE SECOND FORM's CARD OF 'laws.FnExactLeastDistance'. -/
def fnExactLeastDistanceUptoCard : Claim7 := { stood := { row := fnExactLeastDistanceUptoRow, standIns := [], harness := (true, "8e7104ee5a7d614f9a8328eb14b6de2f42c2b4034b16a6a82d24b8b4aec9190d"), looks := false }, kinds := [], alts := [], laidByText := true, laidKinds := [.data, .pinned], laidTests := true, laidLooks := .later }
def FnExactLeastDistanceUptoCardSaid : Prop := Claim7.holds Tryd.pinned (.plain (OpenSpec.upto fnExactLeastDistanceSpec)) fnExactLeastDistanceUptoCard

/-- THE SECOND FORM's CARD OF 'laws.FnExactNearestAddress'. -/
def fnExactNearestAddressUptoCard : Claim7 := { stood := { row := fnExactNearestAddressUptoRow, standIns := [], harness := (true, "8e7104ee5a7d614f9a8328eb14b6de2f42c2b4034b16a6a82d24b8b4aec9190d"), looks := false }, kinds := [], alts := [], laidByText := true, laidKinds := [.data, .data, .pinned], laidTests := true, laidLooks := .later }
def FnExactNearestAddressUptoCardSaid : Prop := Claim7.holds Tryd.pinned (.plain (OpenSpec.upto fnExactNearestAddressSpec)) fnExactNearestAddressUptoCard

/-- THE SECOND FORM's CARD OF 'laws.FnExactCorrectsAll'. -/
def fnExactCorrectsAllUptoCard : Claim7 := { stood := { row := fnExactCorrectsAllUptoRow, standIns := [], harness := (true, "8e7104ee5a7d614f9a8328eb14b6de2f42c2b4034b16a6a82d24b8b4aec9190d"), looks := false }, kinds := [], alts := [], laidByText := true, laidKinds := [.data, .pinned], laidTests := true, laidLooks := .later }
def FnExactCorrectsAllUptoCardSaid : Prop := Claim7.holds Tryd.pinned (.plain (OpenSpec.upto fnExactCorrectsAllSpec)) fnExactCorrectsAllUptoCard

/-- THE SECOND FORM's CARD OF 'laws.FnExactMostAddresses'. -/
def fnExactMostAddressesUptoCard : Claim7 := { stood := { row := fnExactMostAddressesUptoRow, standIns := [], harness := (true, "8e7104ee5a7d614f9a8328eb14b6de2f42c2b4034b16a6a82d24b8b4aec9190d"), looks := false }, kinds := [], alts := [], laidByText := true, laidKinds := [.data], laidTests := true, laidLooks := .later }
def FnExactMostAddressesUptoCardSaid : Prop := Claim7.holds Tryd.pinned (.plain (OpenSpec.upto fnExactMostAddressesSpec)) fnExactMostAddressesUptoCard

/-- THE SECOND FORM's CARD OF 'laws.FnExactMisreadAs'. -/
def fnExactMisreadAsUptoCard : Claim7 := { stood := { row := fnExactMisreadAsUptoRow, standIns := [], harness := (true, "8e7104ee5a7d614f9a8328eb14b6de2f42c2b4034b16a6a82d24b8b4aec9190d"), looks := false }, kinds := [], alts := [], laidByText := true, laidKinds := [.data, .data, .pinned], laidTests := true, laidLooks := .later }
def FnExactMisreadAsUptoCardSaid : Prop := Claim7.holds Tryd.pinned (.plain (OpenSpec.upto fnExactMisreadAsSpec)) fnExactMisreadAsUptoCard

/-- THE SECOND FORM's CARD OF 'laws.FnExactAddAddress'. -/
def fnExactAddAddressUptoCard : Claim7 := { stood := { row := fnExactAddAddressUptoRow, standIns := [], harness := (true, "8e7104ee5a7d614f9a8328eb14b6de2f42c2b4034b16a6a82d24b8b4aec9190d"), looks := false }, kinds := [], alts := [], laidByText := true, laidKinds := [.data, .pinned], laidTests := true, laidLooks := .later }
def FnExactAddAddressUptoCardSaid : Prop := Claim7.holds Tryd.pinned (.plain (OpenSpec.upto fnExactAddAddressSpec)) fnExactAddAddressUptoCard

/-- THE SECOND FORM's CARD OF 'laws.FnExactWorstRing'. -/
def fnExactWorstRingUptoCard : Claim7 := { stood := { row := fnExactWorstRingUptoRow, standIns := [], harness := (true, "8e7104ee5a7d614f9a8328eb14b6de2f42c2b4034b16a6a82d24b8b4aec9190d"), looks := false }, kinds := [], alts := [], laidByText := true, laidKinds := [.data, .pinned], laidTests := true, laidLooks := .later }
def FnExactWorstRingUptoCardSaid : Prop := Claim7.holds Tryd.pinned (.plain (OpenSpec.upto fnExactWorstRingSpec)) fnExactWorstRingUptoCard
end Rows
end Go.Proofs.YtgldohafckanfaaDoor
