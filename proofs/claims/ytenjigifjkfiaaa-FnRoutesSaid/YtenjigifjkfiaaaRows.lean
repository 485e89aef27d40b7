/-
  No cell of these rows narrows 'for every input' (looked for: loops, veiled, ifaces, maps, wideKeys, modest, calm, conditions, laid).
  DERIVED. THE GIVEN ROWS OF THIS SEAT. 5 by the template 'for every input the law returns true; each argument reads behind the call as it read before'; 0 by the template 'total and deterministic' (their statements: YtenjigifjkfiaaaTotals.lean).
  GIVEN WITH THE SEED: the statements are not yours to turn. If you find one false, say at which input.
  Laid BY PROGRAM, IN A SANDBOX (cutbox-rows.mjs): the forced cells as the released guide's own fill.sh prints them over the translation 451d884bce440efc… (all of the seat's roots in one cut). By AI agents, Wed Nov 11 2026. No macro, syntax, notation, axiom, sorry.
-/
import Derived.Test.YtenjigifjkfiaaaChecked
import GoSem.Claim
import GoSem.ClaimJoined
import GoSem.ClaimMapViews
import Derived.JoinedTies
import Derived.KernelRfl
namespace Go.Proofs.Ytenjigifjkfiaaa
/- THE CELL 'sum', in the pinned program and in every row, IS THE sha256 OF THE DUMP (.gsa) THAT YtenjigifjkfiaaaProg.lean LOADS. Nothing in Lean hashes anything: it is a label: what it is worth is what the hold of that sum in a sandbox is worth. -/
noncomputable def Try.pinned : Pinned := { name := "ytenjigifjkfiaaa", sum := "451d884bce440efcf6c3c043dd5273eda75b34829d1e17b890873250c941b164", checked := Try.checked }
namespace Rows
def none {H : Type} : Left H := { results := [], args := [] }

/-- 'laws.FnRoutes': WHATEVER THE INPUT: true; the input reads as it did. -/
def fnRoutesSpec : ChangeSpec := { name := "fnRoutes", fn := fun _ => fun
  | [d1, d2] => { results := [.lit (.bool true)], args := [d1, d2] }
  | _ => none }
def fnRoutesRow : OpenClaim := { program := "ytenjigifjkfiaaa", sum := "451d884bce440efcf6c3c043dd5273eda75b34829d1e17b890873250c941b164", func := "loop.example/g01046/laws.FnRoutes", spec := "fnRoutes", unfollowed := true, recurses := true, apart := false }
def FnRoutesSaid : Prop := fnRoutesRow.holds Try.pinned (OpenSpec.ofChange fnRoutesSpec)

/-- ITS FALSE NEIGHBOUR: 'it returns false'. Refute it at one input. -/
def fnRoutesWrong : ChangeSpec := { name := "fnRoutes", fn := fun _ => fun
  | [d1, d2] => { results := [.lit (.bool false)], args := [d1, d2] }
  | _ => none }
def FnRoutesWrongFalsely : Prop := fnRoutesRow.holds Try.pinned (OpenSpec.ofChange fnRoutesWrong)

/-- 'laws.FnExactSetWay': WHATEVER THE INPUT: true; the input reads as it did. -/
def fnExactSetWaySpec : ChangeSpec := { name := "fnExactSetWay", fn := fun _ => fun
  | [d1, d2, d3] => { results := [.lit (.bool true)], args := [d1, d2, d3] }
  | _ => none }
def fnExactSetWayRow : OpenClaim := { program := "ytenjigifjkfiaaa", sum := "451d884bce440efcf6c3c043dd5273eda75b34829d1e17b890873250c941b164", func := "loop.example/g01046/laws.FnExactSetWay", spec := "fnExactSetWay", unfollowed := true, recurses := true, apart := false }
def FnExactSetWaySaid : Prop := fnExactSetWayRow.holds Try.pinned (OpenSpec.ofChange fnExactSetWaySpec)

/-- ITS FALSE NEIGHBOUR: 'it returns false'. Refute it at one input. -/
def fnExactSetWayWrong : ChangeSpec := { name := "fnExactSetWay", fn := fun _ => fun
  | [d1, d2, d3] => { results := [.lit (.bool false)], args := [d1, d2, d3] }
  | _ => none }
def FnExactSetWayWrongFalsely : Prop := fnExactSetWayRow.holds Try.pinned (OpenSpec.ofChange fnExactSetWayWrong)

/-- 'laws.FnExactTurnsFor': WHATEVER THE INPUT: true; the input reads as it did. -/
def fnExactTurnsForSpec : ChangeSpec := { name := "fnExactTurnsFor", fn := fun _ => fun
  | [d1, d2, d3] => { results := [.lit (.bool true)], args := [d1, d2, d3] }
  | _ => none }
def fnExactTurnsForRow : OpenClaim := { program := "ytenjigifjkfiaaa", sum := "451d884bce440efcf6c3c043dd5273eda75b34829d1e17b890873250c941b164", func := "loop.example/g01046/laws.FnExactTurnsFor", spec := "fnExactTurnsFor", unfollowed := true, recurses := true, apart := false }
def FnExactTurnsForSaid : Prop := fnExactTurnsForRow.holds Try.pinned (OpenSpec.ofChange fnExactTurnsForSpec)

/-- ITS FALSE NEIGHBOUR: 'it returns false'. Refute it at one input. -/
def fnExactTurnsForWrong : ChangeSpec := { name := "fnExactTurnsFor", fn := fun _ => fun
  | [d1, d2, d3] => { results := [.lit (.bool false)], args := [d1, d2, d3] }
  | _ => none }
def FnExactTurnsForWrongFalsely : Prop := fnExactTurnsForRow.holds Try.pinned (OpenSpec.ofChange fnExactTurnsForWrong)

/-- 'laws.FnExactFirstClash': WHATEVER THE INPUT: true; the input reads as it did. -/
def fnExactFirstClashSpec : ChangeSpec := { name := "fnExactFirstClash", fn := fun _ => fun
  | [d1, d2, d3] => { results := [.lit (.bool true)], args := [d1, d2, d3] }
  | _ => none }
def fnExactFirstClashRow : OpenClaim := { program := "ytenjigifjkfiaaa", sum := "451d884bce440efcf6c3c043dd5273eda75b34829d1e17b890873250c941b164", func := "loop.example/g01046/laws.FnExactFirstClash", spec := "fnExactFirstClash", unfollowed := true, recurses := true, apart := false }
def FnExactFirstClashSaid : Prop := fnExactFirstClashRow.holds Try.pinned (OpenSpec.ofChange fnExactFirstClashSpec)

/-- ITS FALSE NEIGHBOUR: 'it returns false'. Refute it at one input. -/
def fnExactFirstClashWrong : ChangeSpec := { name := "fnExactFirstClash", fn := fun _ => fun
  | [d1, d2, d3] => { results := [.lit (.bool false)], args := [d1, d2, d3] }
  | _ => none }
def FnExactFirstClashWrongFalsely : Prop := fnExactFirstClashRow.holds Try.pinned (OpenSpec.ofChange fnExactFirstClashWrong)

/-- 'laws.FnExactWaysFit': WHATEVER THE INPUT: true; the input reads as it did. -/
def fnExactWaysFitSpec : ChangeSpec := { name := "fnExactWaysFit", fn := fun _ => fun
  | [d1, d2] => { results := [.lit (.bool true)], args := [d1, d2] }
  | _ => none }
def fnExactWaysFitRow : OpenClaim := { program := "ytenjigifjkfiaaa", sum := "451d884bce440efcf6c3c043dd5273eda75b34829d1e17b890873250c941b164", func := "loop.example/g01046/laws.FnExactWaysFit", spec := "fnExactWaysFit", unfollowed := true, recurses := true, apart := false }
def FnExactWaysFitSaid : Prop := fnExactWaysFitRow.holds Try.pinned (OpenSpec.ofChange fnExactWaysFitSpec)

/-- ITS FALSE NEIGHBOUR: 'it returns false'. Refute it at one input. -/
def fnExactWaysFitWrong : ChangeSpec := { name := "fnExactWaysFit", fn := fun _ => fun
  | [d1, d2] => { results := [.lit (.bool false)], args := [d1, d2] }
  | _ => none }
def FnExactWaysFitWrongFalsely : Prop := fnExactWaysFitRow.holds Try.pinned (OpenSpec.ofChange fnExactWaysFitWrong)

/- THE SECOND FORM. 'bulk': how many values and letters a reading holds, each counted each time it is reached (what is shared counts as often as it is met; a slice's spare places count too). A statement '..UptoSaid' is the law's where the arguments, and the package variables that the reading takes, are together of bulk at most 1048576: NARROWER than '..Said'. Prove '..Said' where nothing that the law and all that it calls make is longer than what came in: it says more and counts as full. Else prove '..UptoSaid'. A law counts once. -/
mutual
def uptoBulk {H : Type} : DataW H → Nat
  | .lit (.string bytes) => bytes.length + 1
  | .lit _ => 1
  | .nil => 1
  | .ptr d => uptoBulk d + 1
  | .slice elems spare => uptoBulkAll elems + uptoBulkAll spare + 1
  | .agg parts => uptoBulkAll parts + 1
  | .iface _ d => uptoBulk d + 1
  | .map entries => uptoBulkEntries entries + 1
  | .held _ => 1
def uptoBulkAll {H : Type} : List (DataW H) → Nat
  | [] => 0
  | d :: r => uptoBulk d + uptoBulkAll r
def uptoBulkEntries {H : Type} : List (Lit × DataW H) → Nat
  | [] => 0
  | x :: r => uptoBulkEntry x + uptoBulkEntries r
def uptoBulkEntry {H : Type} : Lit × DataW H → Nat
  | (.string bytes, d) => bytes.length + uptoBulk d + 1
  | (_, d) => uptoBulk d + 1
 end
def uptoSmall : (H : Type) → List (DataW H) → Bool := fun _ ds => decide (uptoBulkAll ds ≤ 1048576)
def OpenSpec.upto (s : _root_.Go.ChangeSpec) : _root_.Go.OpenSpec := { _root_.Go.OpenSpec.ofChange s with cond := some uptoSmall }

/-- 'laws.FnRoutes', WHERE WHAT IT READS IS OF BULK AT MOST 1048576: true; the input reads as it did. -/
def fnRoutesUptoRow : OpenClaim := { program := "ytenjigifjkfiaaa", sum := "451d884bce440efcf6c3c043dd5273eda75b34829d1e17b890873250c941b164", func := "loop.example/g01046/laws.FnRoutes", spec := "fnRoutes", unfollowed := true, recurses := true, apart := false, narrowed := true }
def FnRoutesUptoSaid : Prop := fnRoutesUptoRow.holds Try.pinned (OpenSpec.upto fnRoutesSpec)

/-- 'laws.FnExactSetWay', WHERE WHAT IT READS IS OF BULK AT MOST 1048576: true; the input reads as it did. -/
def fnExactSetWayUptoRow : OpenClaim := { program := "ytenjigifjkfiaaa", sum := "451d884bce440efcf6c3c043dd5273eda75b34829d1e17b890873250c941b164", func := "loop.example/g01046/laws.FnExactSetWay", spec := "fnExactSetWay", unfollowed := true, recurses := true, apart := false, narrowed := true }
def FnExactSetWayUptoSaid : Prop := fnExactSetWayUptoRow.holds Try.pinned (OpenSpec.upto fnExactSetWaySpec)

/-- 'laws.FnExactTurnsFor', WHERE WHAT IT READS IS OF BULK AT MOST 1048576: true; the input reads as it did. -/
def fnExactTurnsForUptoRow : OpenClaim := { program := "ytenjigifjkfiaaa", sum := "451d884bce440efcf6c3c043dd5273eda75b34829d1e17b890873250c941b164", func := "loop.example/g01046/laws.FnExactTurnsFor", spec := "fnExactTurnsFor", unfollowed := true, recurses := true, apart := false, narrowed := true }
def FnExactTurnsForUptoSaid : Prop := fnExactTurnsForUptoRow.holds Try.pinned (OpenSpec.upto fnExactTurnsForSpec)

/-- 'laws.FnExactFirstClash', WHERE WHAT IT READS IS OF BULK AT MOST 1048576: true; the input reads as it did. -/
def fnExactFirstClashUptoRow : OpenClaim := { program := "ytenjigifjkfiaaa", sum := "451d884bce440efcf6c3c043dd5273eda75b34829d1e17b890873250c941b164", func := "loop.example/g01046/laws.FnExactFirstClash", spec := "fnExactFirstClash", unfollowed := true, recurses := true, apart := false, narrowed := true }
def FnExactFirstClashUptoSaid : Prop := fnExactFirstClashUptoRow.holds Try.pinned (OpenSpec.upto fnExactFirstClashSpec)

/-- 'laws.FnExactWaysFit', WHERE WHAT IT READS IS OF BULK AT MOST 1048576: true; the input reads as it did. -/
def fnExactWaysFitUptoRow : OpenClaim := { program := "ytenjigifjkfiaaa", sum := "451d884bce440efcf6c3c043dd5273eda75b34829d1e17b890873250c941b164", func := "loop.example/g01046/laws.FnExactWaysFit", spec := "fnExactWaysFit", unfollowed := true, recurses := true, apart := false, narrowed := true }
def FnExactWaysFitUptoSaid : Prop := fnExactWaysFitUptoRow.holds Try.pinned (OpenSpec.upto fnExactWaysFitSpec)

end Rows
end Go.Proofs.Ytenjigifjkfiaaa
