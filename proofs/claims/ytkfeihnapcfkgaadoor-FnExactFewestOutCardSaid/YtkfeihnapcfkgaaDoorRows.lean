/-
  NARROWER THAN 'FOR EVERY INPUT', by the rows' own cells (each row's printed sentence says how): FnGuests: laid · FnFewestOut: laid · FnExactCanGo: laid · FnExactGoOne: laid · FnExactGoOrder: laid · FnExactWaitCircle: laid · FnExactFewestOut: laid · FnExactMostGone: laid.
  DERIVED. THE GIVEN ROWS OF THIS SEAT. 8 by the template 'for every input the law returns true; each argument reads behind the call as it read before'; 0 by the template 'total and deterministic' (their statements: YtkfeihnapcfkgaaDoorTotals.lean).
  GIVEN WITH THE SEED: the statements are not yours to turn. If you find one false, say at which input.
  Laid BY PROGRAM, IN A SANDBOX (cutbox-rows.mjs): the forced cells as the released guide's own fill.sh prints them over the translation 106ef9ec9a012442… (all of the seat's roots in one cut). By AI agents, Wed Nov 11 2026. No macro, syntax, notation, axiom, sorry.
-/
import Derived.Test.YtkfeihnapcfkgaaDoorChecked
import GoSem.Claim
import GoSem.ClaimJoined
import GoSem.ClaimMapViews
import Derived.JoinedTies
import Derived.KernelRfl
namespace Go.Proofs.YtkfeihnapcfkgaaDoor
/- THE CELL 'sum', in the pinned program and in every row, IS THE sha256 OF THE DUMP (.gsa) THAT YtkfeihnapcfkgaaDoorProg.lean LOADS. Nothing in Lean hashes anything: it is a label: what it is worth is what the hold of that sum in a sandbox is worth. -/
noncomputable def Tryd.pinned : Pinned := { name := "ytkfeihnapcfkgaadoor", sum := "106ef9ec9a0124425dfbb09843f3ad26dd37c711d68c522d9a878ccbf99ac882", checked := Tryd.checked }
namespace Rows
def none {H : Type} : Left H := { results := [], args := [] }

/- WHAT THE LISTED PACKAGE-LEVEL VARIABLES READ AS WHEN THE CALL BEGINS. Each datum BY PROGRAM (the guide's laid-datum.mjs) off the statement by which the dump's own 'gosem.cut.vars' lays the variable. In a bare row this is a premise. The card (YtkfeihnapcfkgaaDoorCards.lean) ties it to the program's text. -/
def laid_math_bits_deBruijn64tab {H : Type} : DataW H := .agg [.lit (.int .u8 0), .lit (.int .u8 1), .lit (.int .u8 56), .lit (.int .u8 2), .lit (.int .u8 57), .lit (.int .u8 49), .lit (.int .u8 28), .lit (.int .u8 3), .lit (.int .u8 61), .lit (.int .u8 58), .lit (.int .u8 42), .lit (.int .u8 50), .lit (.int .u8 38), .lit (.int .u8 29), .lit (.int .u8 17), .lit (.int .u8 4), .lit (.int .u8 62), .lit (.int .u8 47), .lit (.int .u8 59), .lit (.int .u8 36), .lit (.int .u8 45), .lit (.int .u8 43), .lit (.int .u8 51), .lit (.int .u8 22), .lit (.int .u8 53), .lit (.int .u8 39), .lit (.int .u8 33), .lit (.int .u8 30), .lit (.int .u8 24), .lit (.int .u8 18), .lit (.int .u8 12), .lit (.int .u8 5), .lit (.int .u8 63), .lit (.int .u8 55), .lit (.int .u8 48), .lit (.int .u8 27), .lit (.int .u8 60), .lit (.int .u8 41), .lit (.int .u8 37), .lit (.int .u8 16), .lit (.int .u8 46), .lit (.int .u8 35), .lit (.int .u8 44), .lit (.int .u8 21), .lit (.int .u8 52), .lit (.int .u8 32), .lit (.int .u8 23), .lit (.int .u8 11), .lit (.int .u8 54), .lit (.int .u8 26), .lit (.int .u8 40), .lit (.int .u8 15), .lit (.int .u8 34), .lit (.int .u8 20), .lit (.int .u8 31), .lit (.int .u8 10), .lit (.int .u8 25), .lit (.int .u8 14), .lit (.int .u8 19), .lit (.int .u8 9), .lit (.int .u8 13), .lit (.int .u8 8), .lit (.int .u8 7), .lit (.int .u8 6)]

/-- 'laws.FnGuests': WHATEVER THE INPUT: true; the input reads as it did. -/
def fnGuestsSpec : ChangeSpec := { name := "fnGuests", fn := fun _ => fun
  | [d] => { results := [.lit (.bool true)], args := [d] }
  | _ => none }
def fnGuestsRow : OpenClaim := { program := "ytkfeihnapcfkgaadoor", sum := "106ef9ec9a0124425dfbb09843f3ad26dd37c711d68c522d9a878ccbf99ac882", func := "loop.example/g01046/laws.FnGuests", spec := "fnGuests", unfollowed := true, recurses := true, named := ["math/bits.deBruijn64tab"], apart := false, laid := [("math/bits.deBruijn64tab", laid_math_bits_deBruijn64tab)] }
def FnGuestsSaid : Prop := fnGuestsRow.holds Tryd.pinned (OpenSpec.ofChange fnGuestsSpec)

/-- ITS FALSE NEIGHBOUR: 'it returns false'. Refute it at one input. -/
def fnGuestsWrong : ChangeSpec := { name := "fnGuests", fn := fun _ => fun
  | [d] => { results := [.lit (.bool false)], args := [d] }
  | _ => none }
def FnGuestsWrongFalsely : Prop := fnGuestsRow.holds Tryd.pinned (OpenSpec.ofChange fnGuestsWrong)

/-- 'laws.FnFewestOut': WHATEVER THE INPUT: true; the input reads as it did. -/
def fnFewestOutSpec : ChangeSpec := { name := "fnFewestOut", fn := fun _ => fun
  | [d1, d2] => { results := [.lit (.bool true)], args := [d1, d2] }
  | _ => none }
def fnFewestOutRow : OpenClaim := { program := "ytkfeihnapcfkgaadoor", sum := "106ef9ec9a0124425dfbb09843f3ad26dd37c711d68c522d9a878ccbf99ac882", func := "loop.example/g01046/laws.FnFewestOut", spec := "fnFewestOut", unfollowed := true, recurses := true, named := ["math/bits.deBruijn64tab"], apart := false, laid := [("math/bits.deBruijn64tab", laid_math_bits_deBruijn64tab)] }
def FnFewestOutSaid : Prop := fnFewestOutRow.holds Tryd.pinned (OpenSpec.ofChange fnFewestOutSpec)

/-- ITS FALSE NEIGHBOUR: 'it returns false'. Refute it at one input. -/
def fnFewestOutWrong : ChangeSpec := { name := "fnFewestOut", fn := fun _ => fun
  | [d1, d2] => { results := [.lit (.bool false)], args := [d1, d2] }
  | _ => none }
def FnFewestOutWrongFalsely : Prop := fnFewestOutRow.holds Tryd.pinned (OpenSpec.ofChange fnFewestOutWrong)

/-- 'laws.FnExactCanGo': WHATEVER THE INPUT: true; the input reads as it did. -/
def fnExactCanGoSpec : ChangeSpec := { name := "fnExactCanGo", fn := fun _ => fun
  | [d1, d2] => { results := [.lit (.bool true)], args := [d1, d2] }
  | _ => none }
def fnExactCanGoRow : OpenClaim := { program := "ytkfeihnapcfkgaadoor", sum := "106ef9ec9a0124425dfbb09843f3ad26dd37c711d68c522d9a878ccbf99ac882", func := "loop.example/g01046/laws.FnExactCanGo", spec := "fnExactCanGo", unfollowed := true, recurses := true, named := ["math/bits.deBruijn64tab"], apart := false, laid := [("math/bits.deBruijn64tab", laid_math_bits_deBruijn64tab)] }
def FnExactCanGoSaid : Prop := fnExactCanGoRow.holds Tryd.pinned (OpenSpec.ofChange fnExactCanGoSpec)

/-- ITS FALSE NEIGHBOUR: 'it returns false'. Refute it at one input. -/
def fnExactCanGoWrong : ChangeSpec := { name := "fnExactCanGo", fn := fun _ => fun
  | [d1, d2] => { results := [.lit (.bool false)], args := [d1, d2] }
  | _ => none }
def FnExactCanGoWrongFalsely : Prop := fnExactCanGoRow.holds Tryd.pinned (OpenSpec.ofChange fnExactCanGoWrong)

/-- 'laws.FnExactGoOne': WHATEVER THE INPUT: true; the input reads as it did. -/
def fnExactGoOneSpec : ChangeSpec := { name := "fnExactGoOne", fn := fun _ => fun
  | [d1, d2, d3] => { results := [.lit (.bool true)], args := [d1, d2, d3] }
  | _ => none }
def fnExactGoOneRow : OpenClaim := { program := "ytkfeihnapcfkgaadoor", sum := "106ef9ec9a0124425dfbb09843f3ad26dd37c711d68c522d9a878ccbf99ac882", func := "loop.example/g01046/laws.FnExactGoOne", spec := "fnExactGoOne", unfollowed := true, recurses := true, named := ["math/bits.deBruijn64tab"], apart := false, laid := [("math/bits.deBruijn64tab", laid_math_bits_deBruijn64tab)] }
def FnExactGoOneSaid : Prop := fnExactGoOneRow.holds Tryd.pinned (OpenSpec.ofChange fnExactGoOneSpec)

/-- ITS FALSE NEIGHBOUR: 'it returns false'. Refute it at one input. -/
def fnExactGoOneWrong : ChangeSpec := { name := "fnExactGoOne", fn := fun _ => fun
  | [d1, d2, d3] => { results := [.lit (.bool false)], args := [d1, d2, d3] }
  | _ => none }
def FnExactGoOneWrongFalsely : Prop := fnExactGoOneRow.holds Tryd.pinned (OpenSpec.ofChange fnExactGoOneWrong)

/-- 'laws.FnExactGoOrder': WHATEVER THE INPUT: true; the input reads as it did. -/
def fnExactGoOrderSpec : ChangeSpec := { name := "fnExactGoOrder", fn := fun _ => fun
  | [d1, d2] => { results := [.lit (.bool true)], args := [d1, d2] }
  | _ => none }
def fnExactGoOrderRow : OpenClaim := { program := "ytkfeihnapcfkgaadoor", sum := "106ef9ec9a0124425dfbb09843f3ad26dd37c711d68c522d9a878ccbf99ac882", func := "loop.example/g01046/laws.FnExactGoOrder", spec := "fnExactGoOrder", unfollowed := true, recurses := true, named := ["math/bits.deBruijn64tab"], apart := false, laid := [("math/bits.deBruijn64tab", laid_math_bits_deBruijn64tab)] }
def FnExactGoOrderSaid : Prop := fnExactGoOrderRow.holds Tryd.pinned (OpenSpec.ofChange fnExactGoOrderSpec)

/-- ITS FALSE NEIGHBOUR: 'it returns false'. Refute it at one input. -/
def fnExactGoOrderWrong : ChangeSpec := { name := "fnExactGoOrder", fn := fun _ => fun
  | [d1, d2] => { results := [.lit (.bool false)], args := [d1, d2] }
  | _ => none }
def FnExactGoOrderWrongFalsely : Prop := fnExactGoOrderRow.holds Tryd.pinned (OpenSpec.ofChange fnExactGoOrderWrong)

/-- 'laws.FnExactWaitCircle': WHATEVER THE INPUT: true; the input reads as it did. -/
def fnExactWaitCircleSpec : ChangeSpec := { name := "fnExactWaitCircle", fn := fun _ => fun
  | [d1, d2] => { results := [.lit (.bool true)], args := [d1, d2] }
  | _ => none }
def fnExactWaitCircleRow : OpenClaim := { program := "ytkfeihnapcfkgaadoor", sum := "106ef9ec9a0124425dfbb09843f3ad26dd37c711d68c522d9a878ccbf99ac882", func := "loop.example/g01046/laws.FnExactWaitCircle", spec := "fnExactWaitCircle", unfollowed := true, recurses := true, named := ["math/bits.deBruijn64tab"], apart := false, laid := [("math/bits.deBruijn64tab", laid_math_bits_deBruijn64tab)] }
def FnExactWaitCircleSaid : Prop := fnExactWaitCircleRow.holds Tryd.pinned (OpenSpec.ofChange fnExactWaitCircleSpec)

/-- ITS FALSE NEIGHBOUR: 'it returns false'. Refute it at one input. -/
def fnExactWaitCircleWrong : ChangeSpec := { name := "fnExactWaitCircle", fn := fun _ => fun
  | [d1, d2] => { results := [.lit (.bool false)], args := [d1, d2] }
  | _ => none }
def FnExactWaitCircleWrongFalsely : Prop := fnExactWaitCircleRow.holds Tryd.pinned (OpenSpec.ofChange fnExactWaitCircleWrong)

/-- 'laws.FnExactFewestOut': WHATEVER THE INPUT: true; the input reads as it did. -/
def fnExactFewestOutSpec : ChangeSpec := { name := "fnExactFewestOut", fn := fun _ => fun
  | [d1, d2] => { results := [.lit (.bool true)], args := [d1, d2] }
  | _ => none }
def fnExactFewestOutRow : OpenClaim := { program := "ytkfeihnapcfkgaadoor", sum := "106ef9ec9a0124425dfbb09843f3ad26dd37c711d68c522d9a878ccbf99ac882", func := "loop.example/g01046/laws.FnExactFewestOut", spec := "fnExactFewestOut", unfollowed := true, recurses := true, named := ["math/bits.deBruijn64tab"], apart := false, laid := [("math/bits.deBruijn64tab", laid_math_bits_deBruijn64tab)] }
def FnExactFewestOutSaid : Prop := fnExactFewestOutRow.holds Tryd.pinned (OpenSpec.ofChange fnExactFewestOutSpec)

/-- ITS FALSE NEIGHBOUR: 'it returns false'. Refute it at one input. -/
def fnExactFewestOutWrong : ChangeSpec := { name := "fnExactFewestOut", fn := fun _ => fun
  | [d1, d2] => { results := [.lit (.bool false)], args := [d1, d2] }
  | _ => none }
def FnExactFewestOutWrongFalsely : Prop := fnExactFewestOutRow.holds Tryd.pinned (OpenSpec.ofChange fnExactFewestOutWrong)

/-- 'laws.FnExactMostGone': WHATEVER THE INPUT: true; the input reads as it did. -/
def fnExactMostGoneSpec : ChangeSpec := { name := "fnExactMostGone", fn := fun _ => fun
  | [d1, d2] => { results := [.lit (.bool true)], args := [d1, d2] }
  | _ => none }
def fnExactMostGoneRow : OpenClaim := { program := "ytkfeihnapcfkgaadoor", sum := "106ef9ec9a0124425dfbb09843f3ad26dd37c711d68c522d9a878ccbf99ac882", func := "loop.example/g01046/laws.FnExactMostGone", spec := "fnExactMostGone", unfollowed := true, recurses := true, named := ["math/bits.deBruijn64tab"], apart := false, laid := [("math/bits.deBruijn64tab", laid_math_bits_deBruijn64tab)] }
def FnExactMostGoneSaid : Prop := fnExactMostGoneRow.holds Tryd.pinned (OpenSpec.ofChange fnExactMostGoneSpec)

/-- ITS FALSE NEIGHBOUR: 'it returns false'. Refute it at one input. -/
def fnExactMostGoneWrong : ChangeSpec := { name := "fnExactMostGone", fn := fun _ => fun
  | [d1, d2] => { results := [.lit (.bool false)], args := [d1, d2] }
  | _ => none }
def FnExactMostGoneWrongFalsely : Prop := fnExactMostGoneRow.holds Tryd.pinned (OpenSpec.ofChange fnExactMostGoneWrong)

/- THE SECOND FORM. 'bulk': how many values and letters a reading holds, each counted each time it is reached (what is shared counts as often as it is met; a slice's spare places count too). A statement '..UptoSaid' is the law's where the arguments, and the package variables that the reading takes, are together of bulk at most 1048576: NARROWER than '..Said'. Prove '..Said' where nothing that the law and all that it calls make is longer than what came in: it says more and counts as full. Else prove '..UptoSaid'. A law counts once. -/
mutual
def uptoBulk {H : Type} : DataW H → Nat
  | .lit (.string bytes) => bytes.length + 1
  | .lit _ => 1
  | .nil => 1
  | .ptr d => uptoBulk d + 1
  | .slice elems spare => uptoBulkAll elems + uptoBulkAll spare + 1
  | .agg parts => uptoBulkAll parts + 1
  | .iface _ d => uptoBulk d + 1
  | .map entries => uptoBulkEntries entries + 1
  | .held _ => 1
def uptoBulkAll {H : Type} : List (DataW H) → Nat
  | [] => 0
  | d :: r => uptoBulk d + uptoBulkAll r
def uptoBulkEntries {H : Type} : List (Lit × DataW H) → Nat
  | [] => 0
  | x :: r => uptoBulkEntry x + uptoBulkEntries r
def uptoBulkEntry {H : Type} : Lit × DataW H → Nat
  | (.string bytes, d) => bytes.length + uptoBulk d + 1
  | (_, d) => uptoBulk d + 1
 end
def uptoSmall : (H : Type) → List (DataW H) → Bool := fun _ ds => decide (uptoBulkAll ds ≤ 1048576)
def OpenSpec.upto (s : _root_.Go.ChangeSpec) : _root_.Go.OpenSpec := { _root_.Go.OpenSpec.ofChange s with cond := some uptoSmall }

/-- 'laws.FnGuests', WHERE WHAT IT READS IS OF BULK AT MOST 1048576: true; the input reads as it did. -/
def fnGuestsUptoRow : OpenClaim := { program := "ytkfeihnapcfkgaadoor", sum := "106ef9ec9a0124425dfbb09843f3ad26dd37c711d68c522d9a878ccbf99ac882", func := "loop.example/g01046/laws.FnGuests", spec := "fnGuests", unfollowed := true, recurses := true, named := ["math/bits.deBruijn64tab"], apart := false, laid := [("math/bits.deBruijn64tab", laid_math_bits_deBruijn64tab)], narrowed := true }
def FnGuestsUptoSaid : Prop := fnGuestsUptoRow.holds Tryd.pinned (OpenSpec.upto fnGuestsSpec)

/-- 'laws.FnFewestOut', WHERE WHAT IT READS IS OF BULK AT MOST 1048576: true; the input reads as it did. -/
def fnFewestOutUptoRow : OpenClaim := { program := "ytkfeihnapcfkgaadoor", sum := "106ef9ec9a0124425dfbb09843f3ad26dd37c711d68c522d9a878ccbf99ac882", func := "loop.example/g01046/laws.FnFewestOut", spec := "fnFewestOut", unfollowed := true, recurses := true, named := ["math/bits.deBruijn64tab"], apart := false, laid := [("math/bits.deBruijn64tab", laid_math_bits_deBruijn64tab)], narrowed := true }
def FnFewestOutUptoSaid : Prop := fnFewestOutUptoRow.holds Tryd.pinned (OpenSpec.upto fnFewestOutSpec)

/-- 'laws.FnExactCanGo', WHERE WHAT IT READS IS OF BULK AT MOST 1048576: true; the input reads as it did. -/
def fnExactCanGoUptoRow : OpenClaim := { program := "ytkfeihnapcfkgaadoor", sum := "106ef9ec9a0124425dfbb09843f3ad26dd37c711d68c522d9a878ccbf99ac882", func := "loop.example/g01046/laws.FnExactCanGo", spec := "fnExactCanGo", unfollowed := true, recurses := true, named := ["math/bits.deBruijn64tab"], apart := false, laid := [("math/bits.deBruijn64tab", laid_math_bits_deBruijn64tab)], narrowed := true }
def FnExactCanGoUptoSaid : Prop := fnExactCanGoUptoRow.holds Tryd.pinned (OpenSpec.upto fnExactCanGoSpec)

/-- 'laws.FnExactGoOne', WHERE WHAT IT READS IS OF BULK AT MOST 1048576: true; the input reads as it did. -/
def fnExactGoOneUptoRow : OpenClaim := { program := "ytkfeihnapcfkgaadoor", sum := "106ef9ec9a0124425dfbb09843f3ad26dd37c711d68c522d9a878ccbf99ac882", func := "loop.example/g01046/laws.FnExactGoOne", spec := "fnExactGoOne", unfollowed := true, recurses := true, named := ["math/bits.deBruijn64tab"], apart := false, laid := [("math/bits.deBruijn64tab", laid_math_bits_deBruijn64tab)], narrowed := true }
def FnExactGoOneUptoSaid : Prop := fnExactGoOneUptoRow.holds Tryd.pinned (OpenSpec.upto fnExactGoOneSpec)

/-- 'laws.FnExactGoOrder', WHERE WHAT IT READS IS OF BULK AT MOST 1048576: true; the input reads as it did. -/
def fnExactGoOrderUptoRow : OpenClaim := { program := "ytkfeihnapcfkgaadoor", sum := "106ef9ec9a0124425dfbb09843f3ad26dd37c711d68c522d9a878ccbf99ac882", func := "loop.example/g01046/laws.FnExactGoOrder", spec := "fnExactGoOrder", unfollowed := true, recurses := true, named := ["math/bits.deBruijn64tab"], apart := false, laid := [("math/bits.deBruijn64tab", laid_math_bits_deBruijn64tab)], narrowed := true }
def FnExactGoOrderUptoSaid : Prop := fnExactGoOrderUptoRow.holds Tryd.pinned (OpenSpec.upto fnExactGoOrderSpec)

/-- 'laws.FnExactWaitCircle', WHERE WHAT IT READS IS OF BULK AT MOST 1048576: true; the input reads as it did. -/
def fnExactWaitCircleUptoRow : OpenClaim := { program := "ytkfeihnapcfkgaadoor", sum := "106ef9ec9a0124425dfbb09843f3ad26dd37c711d68c522d9a878ccbf99ac882", func := "loop.example/g01046/laws.FnExactWaitCircle", spec := "fnExactWaitCircle", unfollowed := true, recurses := true, named := ["math/bits.deBruijn64tab"], apart := false, laid := [("math/bits.deBruijn64tab", laid_math_bits_deBruijn64tab)], narrowed := true }
def FnExactWaitCircleUptoSaid : Prop := fnExactWaitCircleUptoRow.holds Tryd.pinned (OpenSpec.upto fnExactWaitCircleSpec)

/-- 'laws.FnExactFewestOut', WHERE WHAT IT READS IS OF BULK AT MOST 1048576: true; the input reads as it did. -/
def fnExactFewestOutUptoRow : OpenClaim := { program := "ytkfeihnapcfkgaadoor", sum := "106ef9ec9a0124425dfbb09843f3ad26dd37c711d68c522d9a878ccbf99ac882", func := "loop.example/g01046/laws.FnExactFewestOut", spec := "fnExactFewestOut", unfollowed := true, recurses := true, named := ["math/bits.deBruijn64tab"], apart := false, laid := [("math/bits.deBruijn64tab", laid_math_bits_deBruijn64tab)], narrowed := true }
def FnExactFewestOutUptoSaid : Prop := fnExactFewestOutUptoRow.holds Tryd.pinned (OpenSpec.upto fnExactFewestOutSpec)

/-- 'laws.FnExactMostGone', WHERE WHAT IT READS IS OF BULK AT MOST 1048576: true; the input reads as it did. -/
def fnExactMostGoneUptoRow : OpenClaim := { program := "ytkfeihnapcfkgaadoor", sum := "106ef9ec9a0124425dfbb09843f3ad26dd37c711d68c522d9a878ccbf99ac882", func := "loop.example/g01046/laws.FnExactMostGone", spec := "fnExactMostGone", unfollowed := true, recurses := true, named := ["math/bits.deBruijn64tab"], apart := false, laid := [("math/bits.deBruijn64tab", laid_math_bits_deBruijn64tab)], narrowed := true }
def FnExactMostGoneUptoSaid : Prop := fnExactMostGoneUptoRow.holds Tryd.pinned (OpenSpec.upto fnExactMostGoneSpec)

end Rows
end Go.Proofs.YtkfeihnapcfkgaaDoor
