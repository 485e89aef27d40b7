/-
  No cell of these rows narrows 'for every input' (looked for: loops, veiled, ifaces, maps, wideKeys, modest, calm, conditions, laid).
  DERIVED. THE GIVEN ROWS OF THIS SEAT. 4 by the template 'for every input the law returns true; each argument reads behind the call as it read before'; 0 by the template 'total and deterministic' (their statements: YtkfeihnapcfkgaaTotals.lean).
  GIVEN WITH THE SEED: the statements are not yours to turn. If you find one false, say at which input.
  Laid BY PROGRAM, IN A SANDBOX (cutbox-rows.mjs): the forced cells as the released guide's own fill.sh prints them over the translation 73c8920aec1605bb… (all of the seat's roots in one cut). By AI agents, Wed Nov 11 2026. No macro, syntax, notation, axiom, sorry.
-/
import Derived.Test.YtkfeihnapcfkgaaChecked
import GoSem.Claim
import GoSem.ClaimJoined
import GoSem.ClaimMapViews
import Derived.JoinedTies
import Derived.KernelRfl
namespace Go.Proofs.Ytkfeihnapcfkgaa
/- THE CELL 'sum', in the pinned program and in every row, IS THE sha256 OF THE DUMP (.gsa) THAT YtkfeihnapcfkgaaProg.lean LOADS. Nothing in Lean hashes anything: it is a label: what it is worth is what the hold of that sum in a sandbox is worth. -/
noncomputable def Try.pinned : Pinned := { name := "ytkfeihnapcfkgaa", sum := "73c8920aec1605bbebbb35e0873807dfd04bab5b1d7d706c68e993ed1cc5e13b", checked := Try.checked }
namespace Rows
def none {H : Type} : Left H := { results := [], args := [] }

/-- 'laws.FnExactValidRooms': WHATEVER THE INPUT: true; the input reads as it did. -/
def fnExactValidRoomsSpec : ChangeSpec := { name := "fnExactValidRooms", fn := fun _ => fun
  | [d1, d2] => { results := [.lit (.bool true)], args := [d1, d2] }
  | _ => none }
def fnExactValidRoomsRow : OpenClaim := { program := "ytkfeihnapcfkgaa", sum := "73c8920aec1605bbebbb35e0873807dfd04bab5b1d7d706c68e993ed1cc5e13b", func := "loop.example/g01046/laws.FnExactValidRooms", spec := "fnExactValidRooms", apart := false }
def FnExactValidRoomsSaid : Prop := fnExactValidRoomsRow.holds Try.pinned (OpenSpec.ofChange fnExactValidRoomsSpec)

/-- ITS FALSE NEIGHBOUR: 'it returns false'. Refute it at one input. -/
def fnExactValidRoomsWrong : ChangeSpec := { name := "fnExactValidRooms", fn := fun _ => fun
  | [d1, d2] => { results := [.lit (.bool false)], args := [d1, d2] }
  | _ => none }
def FnExactValidRoomsWrongFalsely : Prop := fnExactValidRoomsRow.holds Try.pinned (OpenSpec.ofChange fnExactValidRoomsWrong)

/-- 'laws.FnExactSameGuests': WHATEVER THE INPUT: true; the input reads as it did. -/
def fnExactSameGuestsSpec : ChangeSpec := { name := "fnExactSameGuests", fn := fun _ => fun
  | [d1, d2] => { results := [.lit (.bool true)], args := [d1, d2] }
  | _ => none }
def fnExactSameGuestsRow : OpenClaim := { program := "ytkfeihnapcfkgaa", sum := "73c8920aec1605bbebbb35e0873807dfd04bab5b1d7d706c68e993ed1cc5e13b", func := "loop.example/g01046/laws.FnExactSameGuests", spec := "fnExactSameGuests", apart := false }
def FnExactSameGuestsSaid : Prop := fnExactSameGuestsRow.holds Try.pinned (OpenSpec.ofChange fnExactSameGuestsSpec)

/-- ITS FALSE NEIGHBOUR: 'it returns false'. Refute it at one input. -/
def fnExactSameGuestsWrong : ChangeSpec := { name := "fnExactSameGuests", fn := fun _ => fun
  | [d1, d2] => { results := [.lit (.bool false)], args := [d1, d2] }
  | _ => none }
def FnExactSameGuestsWrongFalsely : Prop := fnExactSameGuestsRow.holds Try.pinned (OpenSpec.ofChange fnExactSameGuestsWrong)

/-- 'laws.FnExactFreePlaces': WHATEVER THE INPUT: true; the input reads as it did. -/
def fnExactFreePlacesSpec : ChangeSpec := { name := "fnExactFreePlaces", fn := fun _ => fun
  | [d1, d2] => { results := [.lit (.bool true)], args := [d1, d2] }
  | _ => none }
def fnExactFreePlacesRow : OpenClaim := { program := "ytkfeihnapcfkgaa", sum := "73c8920aec1605bbebbb35e0873807dfd04bab5b1d7d706c68e993ed1cc5e13b", func := "loop.example/g01046/laws.FnExactFreePlaces", spec := "fnExactFreePlaces", apart := false }
def FnExactFreePlacesSaid : Prop := fnExactFreePlacesRow.holds Try.pinned (OpenSpec.ofChange fnExactFreePlacesSpec)

/-- ITS FALSE NEIGHBOUR: 'it returns false'. Refute it at one input. -/
def fnExactFreePlacesWrong : ChangeSpec := { name := "fnExactFreePlaces", fn := fun _ => fun
  | [d1, d2] => { results := [.lit (.bool false)], args := [d1, d2] }
  | _ => none }
def FnExactFreePlacesWrongFalsely : Prop := fnExactFreePlacesRow.holds Try.pinned (OpenSpec.ofChange fnExactFreePlacesWrong)

/-- 'laws.FnExactIsStuck': WHATEVER THE INPUT: true; the input reads as it did. -/
def fnExactIsStuckSpec : ChangeSpec := { name := "fnExactIsStuck", fn := fun _ => fun
  | [d1, d2] => { results := [.lit (.bool true)], args := [d1, d2] }
  | _ => none }
def fnExactIsStuckRow : OpenClaim := { program := "ytkfeihnapcfkgaa", sum := "73c8920aec1605bbebbb35e0873807dfd04bab5b1d7d706c68e993ed1cc5e13b", func := "loop.example/g01046/laws.FnExactIsStuck", spec := "fnExactIsStuck", unfollowed := true, recurses := true, apart := false }
def FnExactIsStuckSaid : Prop := fnExactIsStuckRow.holds Try.pinned (OpenSpec.ofChange fnExactIsStuckSpec)

/-- ITS FALSE NEIGHBOUR: 'it returns false'. Refute it at one input. -/
def fnExactIsStuckWrong : ChangeSpec := { name := "fnExactIsStuck", fn := fun _ => fun
  | [d1, d2] => { results := [.lit (.bool false)], args := [d1, d2] }
  | _ => none }
def FnExactIsStuckWrongFalsely : Prop := fnExactIsStuckRow.holds Try.pinned (OpenSpec.ofChange fnExactIsStuckWrong)

/- THE SECOND FORM. 'bulk': how many values and letters a reading holds, each counted each time it is reached (what is shared counts as often as it is met; a slice's spare places count too). A statement '..UptoSaid' is the law's where the arguments, and the package variables that the reading takes, are together of bulk at most 1048576: NARROWER than '..Said'. Prove '..Said' where nothing that the law and all that it calls make is longer than what came in: it says more and counts as full. Else prove '..UptoSaid'. A law counts once. -/
mutual
def uptoBulk {H : Type} : DataW H → Nat
  | .lit (.string bytes) => bytes.length + 1
  | .lit _ => 1
  | .nil => 1
  | .ptr d => uptoBulk d + 1
  | .slice elems spare => uptoBulkAll elems + uptoBulkAll spare + 1
  | .agg parts => uptoBulkAll parts + 1
  | .iface _ d => uptoBulk d + 1
  | .map entries => uptoBulkEntries entries + 1
  | .held _ => 1
def uptoBulkAll {H : Type} : List (DataW H) → Nat
  | [] => 0
  | d :: r => uptoBulk d + uptoBulkAll r
def uptoBulkEntries {H : Type} : List (Lit × DataW H) → Nat
  | [] => 0
  | x :: r => uptoBulkEntry x + uptoBulkEntries r
def uptoBulkEntry {H : Type} : Lit × DataW H → Nat
  | (.string bytes, d) => bytes.length + uptoBulk d + 1
  | (_, d) => uptoBulk d + 1
 end
def uptoSmall : (H : Type) → List (DataW H) → Bool := fun _ ds => decide (uptoBulkAll ds ≤ 1048576)
def OpenSpec.upto (s : _root_.Go.ChangeSpec) : _root_.Go.OpenSpec := { _root_.Go.OpenSpec.ofChange s with cond := some uptoSmall }

/-- 'laws.FnExactValidRooms', WHERE WHAT IT READS IS OF BULK AT MOST 1048576: true; the input reads as it did. -/
def fnExactValidRoomsUptoRow : OpenClaim := { program := "ytkfeihnapcfkgaa", sum := "73c8920aec1605bbebbb35e0873807dfd04bab5b1d7d706c68e993ed1cc5e13b", func := "loop.example/g01046/laws.FnExactValidRooms", spec := "fnExactValidRooms", apart := false, narrowed := true }
def FnExactValidRoomsUptoSaid : Prop := fnExactValidRoomsUptoRow.holds Try.pinned (OpenSpec.upto fnExactValidRoomsSpec)

/-- 'laws.FnExactSameGuests', WHERE WHAT IT READS IS OF BULK AT MOST 1048576: true; the input reads as it did. -/
def fnExactSameGuestsUptoRow : OpenClaim := { program := "ytkfeihnapcfkgaa", sum := "73c8920aec1605bbebbb35e0873807dfd04bab5b1d7d706c68e993ed1cc5e13b", func := "loop.example/g01046/laws.FnExactSameGuests", spec := "fnExactSameGuests", apart := false, narrowed := true }
def FnExactSameGuestsUptoSaid : Prop := fnExactSameGuestsUptoRow.holds Try.pinned (OpenSpec.upto fnExactSameGuestsSpec)

/-- 'laws.FnExactFreePlaces', WHERE WHAT IT READS IS OF BULK AT MOST 1048576: true; the input reads as it did. -/
def fnExactFreePlacesUptoRow : OpenClaim := { program := "ytkfeihnapcfkgaa", sum := "73c8920aec1605bbebbb35e0873807dfd04bab5b1d7d706c68e993ed1cc5e13b", func := "loop.example/g01046/laws.FnExactFreePlaces", spec := "fnExactFreePlaces", apart := false, narrowed := true }
def FnExactFreePlacesUptoSaid : Prop := fnExactFreePlacesUptoRow.holds Try.pinned (OpenSpec.upto fnExactFreePlacesSpec)

/-- 'laws.FnExactIsStuck', WHERE WHAT IT READS IS OF BULK AT MOST 1048576: true; the input reads as it did. -/
def fnExactIsStuckUptoRow : OpenClaim := { program := "ytkfeihnapcfkgaa", sum := "73c8920aec1605bbebbb35e0873807dfd04bab5b1d7d706c68e993ed1cc5e13b", func := "loop.example/g01046/laws.FnExactIsStuck", spec := "fnExactIsStuck", unfollowed := true, recurses := true, apart := false, narrowed := true }
def FnExactIsStuckUptoSaid : Prop := fnExactIsStuckUptoRow.holds Try.pinned (OpenSpec.upto fnExactIsStuckSpec)

end Rows
end Go.Proofs.Ytkfeihnapcfkgaa
