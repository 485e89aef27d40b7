/-
  DERIVED. GIVEN WITH THE SEED: THE CARDS: each row of YtkfeihnapcfkgaaDoorRows.lean that lists a variable, with what it lists TIED to the program's text (the seventh form; the later family's looks); each row that meets fmt, with fmt's text TOLD by the authors' own Lean function (tested against real Go, not proved from fmt's source: count such statements apart). THE CARD IS WHAT COUNTS. Prove the row's statement (the work); the ties are given (YtkfeihnapcfkgaaDoorTie.lean); close each card by the builder's one call (the guide's Derived/Test/ToyasCard.lean, 'card_holds'). Laid BY PROGRAM, IN A SANDBOX (cutbox-door.mjs). By AI agents, Wed Nov 11 2026. No macro, syntax, notation, axiom, sorry.
-/
import Derived.Test.YtkfeihnapcfkgaaDoorRows
import GoSem.ClaimSeven
namespace Go.Proofs.YtkfeihnapcfkgaaDoor
namespace Rows

/-- THE TIED CARD OF 'laws.FnGuests'. -/
def fnGuestsCard : Claim7 := { stood := { row := fnGuestsRow, standIns := [], harness := (true, "54e97c0faba83bd37564cc87ac0dc9d982da9dd3290abaf5aa20f86c716c60e8"), looks := false }, kinds := [], alts := [], laidByText := true, laidKinds := [.data], laidTests := true, laidLooks := .later }
def FnGuestsCardSaid : Prop := Claim7.holds Tryd.pinned (.plain (OpenSpec.ofChange fnGuestsSpec)) fnGuestsCard

/-- THE TIED CARD OF 'laws.FnFewestOut'. -/
def fnFewestOutCard : Claim7 := { stood := { row := fnFewestOutRow, standIns := [], harness := (true, "54e97c0faba83bd37564cc87ac0dc9d982da9dd3290abaf5aa20f86c716c60e8"), looks := false }, kinds := [], alts := [], laidByText := true, laidKinds := [.data], laidTests := true, laidLooks := .later }
def FnFewestOutCardSaid : Prop := Claim7.holds Tryd.pinned (.plain (OpenSpec.ofChange fnFewestOutSpec)) fnFewestOutCard

/-- THE TIED CARD OF 'laws.FnExactCanGo'. -/
def fnExactCanGoCard : Claim7 := { stood := { row := fnExactCanGoRow, standIns := [], harness := (true, "54e97c0faba83bd37564cc87ac0dc9d982da9dd3290abaf5aa20f86c716c60e8"), looks := false }, kinds := [], alts := [], laidByText := true, laidKinds := [.data], laidTests := true, laidLooks := .later }
def FnExactCanGoCardSaid : Prop := Claim7.holds Tryd.pinned (.plain (OpenSpec.ofChange fnExactCanGoSpec)) fnExactCanGoCard

/-- THE TIED CARD OF 'laws.FnExactGoOne'. -/
def fnExactGoOneCard : Claim7 := { stood := { row := fnExactGoOneRow, standIns := [], harness := (true, "54e97c0faba83bd37564cc87ac0dc9d982da9dd3290abaf5aa20f86c716c60e8"), looks := false }, kinds := [], alts := [], laidByText := true, laidKinds := [.data], laidTests := true, laidLooks := .later }
def FnExactGoOneCardSaid : Prop := Claim7.holds Tryd.pinned (.plain (OpenSpec.ofChange fnExactGoOneSpec)) fnExactGoOneCard

/-- THE TIED CARD OF 'laws.FnExactGoOrder'. -/
def fnExactGoOrderCard : Claim7 := { stood := { row := fnExactGoOrderRow, standIns := [], harness := (true, "54e97c0faba83bd37564cc87ac0dc9d982da9dd3290abaf5aa20f86c716c60e8"), looks := false }, kinds := [], alts := [], laidByText := true, laidKinds := [.data], laidTests := true, laidLooks := .later }
def FnExactGoOrderCardSaid : Prop := Claim7.holds Tryd.pinned (.plain (OpenSpec.ofChange fnExactGoOrderSpec)) fnExactGoOrderCard

/-- THE TIED CARD OF 'laws.FnExactWaitCircle'. -/
def fnExactWaitCircleCard : Claim7 := { stood := { row := fnExactWaitCircleRow, standIns := [], harness := (true, "54e97c0faba83bd37564cc87ac0dc9d982da9dd3290abaf5aa20f86c716c60e8"), looks := false }, kinds := [], alts := [], laidByText := true, laidKinds := [.data], laidTests := true, laidLooks := .later }
def FnExactWaitCircleCardSaid : Prop := Claim7.holds Tryd.pinned (.plain (OpenSpec.ofChange fnExactWaitCircleSpec)) fnExactWaitCircleCard

/-- THE TIED CARD OF 'laws.FnExactFewestOut'. -/
def fnExactFewestOutCard : Claim7 := { stood := { row := fnExactFewestOutRow, standIns := [], harness := (true, "54e97c0faba83bd37564cc87ac0dc9d982da9dd3290abaf5aa20f86c716c60e8"), looks := false }, kinds := [], alts := [], laidByText := true, laidKinds := [.data], laidTests := true, laidLooks := .later }
def FnExactFewestOutCardSaid : Prop := Claim7.holds Tryd.pinned (.plain (OpenSpec.ofChange fnExactFewestOutSpec)) fnExactFewestOutCard

/-- THE TIED CARD OF 'laws.FnExactMostGone'. -/
def fnExactMostGoneCard : Claim7 := { stood := { row := fnExactMostGoneRow, standIns := [], harness := (true, "54e97c0faba83bd37564cc87ac0dc9d982da9dd3290abaf5aa20f86c716c60e8"), looks := false }, kinds := [], alts := [], laidByText := true, laidKinds := [.data], laidTests := true, laidLooks := .later }
def FnExactMostGoneCardSaid : Prop := Claim7.holds Tryd.pinned (.plain (OpenSpec.ofChange fnExactMostGoneSpec)) fnExactMostGoneCard

/-- THE SECOND FORM's CARD OF 'laws.FnGuests'. -/
def fnGuestsUptoCard : Claim7 := { stood := { row := fnGuestsUptoRow, standIns := [], harness := (true, "54e97c0faba83bd37564cc87ac0dc9d982da9dd3290abaf5aa20f86c716c60e8"), looks := false }, kinds := [], alts := [], laidByText := true, laidKinds := [.data], laidTests := true, laidLooks := .later }
def FnGuestsUptoCardSaid : Prop := Claim7.holds Tryd.pinned (.plain (OpenSpec.upto fnGuestsSpec)) fnGuestsUptoCard

/-- THE SECOND FORM's CARD OF 'laws.FnFewestOut'. -/
def fnFewestOutUptoCard : Claim7 := { stood := { row := fnFewestOutUptoRow, standIns := [], harness := (true, "54e97c0faba83bd37564cc87ac0dc9d982da9dd3290abaf5aa20f86c716c60e8"), looks := false }, kinds := [], alts := [], laidByText := true, laidKinds := [.data], laidTests := true, laidLooks := .later }
def FnFewestOutUptoCardSaid : Prop := Claim7.holds Tryd.pinned (.plain (OpenSpec.upto fnFewestOutSpec)) fnFewestOutUptoCard

/-- THE SECOND FORM's CARD OF 'laws.FnExactCanGo'. -/
def fnExactCanGoUptoCard : Claim7 := { stood := { row := fnExactCanGoUptoRow, standIns := [], harness := (true, "54e97c0faba83bd37564cc87ac0dc9d982da9dd3290abaf5aa20f86c716c60e8"), looks := false }, kinds := [], alts := [], laidByText := true, laidKinds := [.data], laidTests := true, laidLooks := .later }
def FnExactCanGoUptoCardSaid : Prop := Claim7.holds Tryd.pinned (.plain (OpenSpec.upto fnExactCanGoSpec)) fnExactCanGoUptoCard

/-- THE SECOND FORM's CARD OF 'laws.FnExactGoOne'. -/
def fnExactGoOneUptoCard : Claim7 := { stood := { row := fnExactGoOneUptoRow, standIns := [], harness := (true, "54e97c0faba83bd37564cc87ac0dc9d982da9dd3290abaf5aa20f86c716c60e8"), looks := false }, kinds := [], alts := [], laidByText := true, laidKinds := [.data], laidTests := true, laidLooks := .later }
def FnExactGoOneUptoCardSaid : Prop := Claim7.holds Tryd.pinned (.plain (OpenSpec.upto fnExactGoOneSpec)) fnExactGoOneUptoCard

/-- THE SECOND FORM's CARD OF 'laws.FnExactGoOrder'. -/
def fnExactGoOrderUptoCard : Claim7 := { stood := { row := fnExactGoOrderUptoRow, standIns := [], harness := (true, "54e97c0faba83bd37564cc87ac0dc9d982da9dd3290abaf5aa20f86c716c60e8"), looks := false }, kinds := [], alts := [], laidByText := true, laidKinds := [.data], laidTests := true, laidLooks := .later }
def FnExactGoOrderUptoCardSaid : Prop := Claim7.holds Tryd.pinned (.plain (OpenSpec.upto fnExactGoOrderSpec)) fnExactGoOrderUptoCard

/-- THE SECOND FORM's CARD OF 'laws.FnExactWaitCircle'. -/
def fnExactWaitCircleUptoCard : Claim7 := { stood := { row := fnExactWaitCircleUptoRow, standIns := [], harness := (true, "54e97c0faba83bd37564cc87ac0dc9d982da9dd3290abaf5aa20f86c716c60e8"), looks := false }, kinds := [], alts := [], laidByText := true, laidKinds := [.data], laidTests := true, laidLooks := .later }
def FnExactWaitCircleUptoCardSaid : Prop := Claim7.holds Tryd.pinned (.plain (OpenSpec.upto fnExactWaitCircleSpec)) fnExactWaitCircleUptoCard

/-- THE SECOND FORM's CARD OF 'laws.FnExactFewestOut'. -/
def fnExactFewestOutUptoCard : Claim7 := { stood := { row := fnExactFewestOutUptoRow, standIns := [], harness := (true, "54e97c0faba83bd37564cc87ac0dc9d982da9dd3290abaf5aa20f86c716c60e8"), looks := false }, kinds := [], alts := [], laidByText := true, laidKinds := [.data], laidTests := true, laidLooks := .later }
def FnExactFewestOutUptoCardSaid : Prop := Claim7.holds Tryd.pinned (.plain (OpenSpec.upto fnExactFewestOutSpec)) fnExactFewestOutUptoCard

/-- THE SECOND FORM's CARD OF 'laws.FnExactMostGone'. -/
def fnExactMostGoneUptoCard : Claim7 := { stood := { row := fnExactMostGoneUptoRow, standIns := [], harness := (true, "54e97c0faba83bd37564cc87ac0dc9d982da9dd3290abaf5aa20f86c716c60e8"), looks := false }, kinds := [], alts := [], laidByText := true, laidKinds := [.data], laidTests := true, laidLooks := .later }
def FnExactMostGoneUptoCardSaid : Prop := Claim7.holds Tryd.pinned (.plain (OpenSpec.upto fnExactMostGoneSpec)) fnExactMostGoneUptoCard
end Rows
end Go.Proofs.YtkfeihnapcfkgaaDoor
