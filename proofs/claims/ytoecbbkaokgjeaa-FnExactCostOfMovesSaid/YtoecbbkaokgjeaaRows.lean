/-
  No cell of these rows narrows 'for every input' (looked for: loops, veiled, ifaces, maps, wideKeys, modest, calm, conditions, laid).
  DERIVED. THE GIVEN ROWS OF THIS SEAT. 7 by the template 'for every input the law returns true; each argument reads behind the call as it read before'; 0 by the template 'total and deterministic' (their statements: YtoecbbkaokgjeaaTotals.lean).
  GIVEN WITH THE SEED: the statements are not yours to turn. If you find one false, say at which input.
  Laid BY PROGRAM, IN A SANDBOX (cutbox-rows.mjs): the forced cells as the released guide's own fill.sh prints them over the translation ec7ddebccfbd4974… (all of the seat's roots in one cut). By AI agents, Wed Nov 11 2026. No macro, syntax, notation, axiom, sorry.
-/
import Derived.Test.YtoecbbkaokgjeaaChecked
import GoSem.Claim
import GoSem.ClaimJoined
import GoSem.ClaimMapViews
import Derived.JoinedTies
import Derived.KernelRfl
namespace Go.Proofs.Ytoecbbkaokgjeaa
/- THE CELL 'sum', in the pinned program and in every row, IS THE sha256 OF THE DUMP (.gsa) THAT YtoecbbkaokgjeaaProg.lean LOADS. Nothing in Lean hashes anything: it is a label: what it is worth is what the hold of that sum in a sandbox is worth. -/
noncomputable def Try.pinned : Pinned := { name := "ytoecbbkaokgjeaa", sum := "ec7ddebccfbd49745362a0298f0f71ded696f8bf65ffd4ceb0ab50f7ef82496f", checked := Try.checked }
namespace Rows
def none {H : Type} : Left H := { results := [], args := [] }

/-- 'laws.FnExactValidStock': WHATEVER THE INPUT: true; the input reads as it did. -/
def fnExactValidStockSpec : ChangeSpec := { name := "fnExactValidStock", fn := fun _ => fun
  | [d] => { results := [.lit (.bool true)], args := [d] }
  | _ => none }
def fnExactValidStockRow : OpenClaim := { program := "ytoecbbkaokgjeaa", sum := "ec7ddebccfbd49745362a0298f0f71ded696f8bf65ffd4ceb0ab50f7ef82496f", func := "loop.example/g01046/laws.FnExactValidStock", spec := "fnExactValidStock", apart := false }
def FnExactValidStockSaid : Prop := fnExactValidStockRow.holds Try.pinned (OpenSpec.ofChange fnExactValidStockSpec)

/-- ITS FALSE NEIGHBOUR: 'it returns false'. Refute it at one input. -/
def fnExactValidStockWrong : ChangeSpec := { name := "fnExactValidStock", fn := fun _ => fun
  | [d] => { results := [.lit (.bool false)], args := [d] }
  | _ => none }
def FnExactValidStockWrongFalsely : Prop := fnExactValidStockRow.holds Try.pinned (OpenSpec.ofChange fnExactValidStockWrong)

/-- 'laws.FnExactSameMoves': WHATEVER THE INPUT: true; the input reads as it did. -/
def fnExactSameMovesSpec : ChangeSpec := { name := "fnExactSameMoves", fn := fun _ => fun
  | [d1, d2] => { results := [.lit (.bool true)], args := [d1, d2] }
  | _ => none }
def fnExactSameMovesRow : OpenClaim := { program := "ytoecbbkaokgjeaa", sum := "ec7ddebccfbd49745362a0298f0f71ded696f8bf65ffd4ceb0ab50f7ef82496f", func := "loop.example/g01046/laws.FnExactSameMoves", spec := "fnExactSameMoves", apart := false }
def FnExactSameMovesSaid : Prop := fnExactSameMovesRow.holds Try.pinned (OpenSpec.ofChange fnExactSameMovesSpec)

/-- ITS FALSE NEIGHBOUR: 'it returns false'. Refute it at one input. -/
def fnExactSameMovesWrong : ChangeSpec := { name := "fnExactSameMoves", fn := fun _ => fun
  | [d1, d2] => { results := [.lit (.bool false)], args := [d1, d2] }
  | _ => none }
def FnExactSameMovesWrongFalsely : Prop := fnExactSameMovesRow.holds Try.pinned (OpenSpec.ofChange fnExactSameMovesWrong)

/-- 'laws.FnExactSendCarriers': WHATEVER THE INPUT: true; the input reads as it did. -/
def fnExactSendCarriersSpec : ChangeSpec := { name := "fnExactSendCarriers", fn := fun _ => fun
  | [d1, d2] => { results := [.lit (.bool true)], args := [d1, d2] }
  | _ => none }
def fnExactSendCarriersRow : OpenClaim := { program := "ytoecbbkaokgjeaa", sum := "ec7ddebccfbd49745362a0298f0f71ded696f8bf65ffd4ceb0ab50f7ef82496f", func := "loop.example/g01046/laws.FnExactSendCarriers", spec := "fnExactSendCarriers", apart := false }
def FnExactSendCarriersSaid : Prop := fnExactSendCarriersRow.holds Try.pinned (OpenSpec.ofChange fnExactSendCarriersSpec)

/-- ITS FALSE NEIGHBOUR: 'it returns false'. Refute it at one input. -/
def fnExactSendCarriersWrong : ChangeSpec := { name := "fnExactSendCarriers", fn := fun _ => fun
  | [d1, d2] => { results := [.lit (.bool false)], args := [d1, d2] }
  | _ => none }
def FnExactSendCarriersWrongFalsely : Prop := fnExactSendCarriersRow.holds Try.pinned (OpenSpec.ofChange fnExactSendCarriersWrong)

/-- 'laws.FnExactSendAll': WHATEVER THE INPUT: true; the input reads as it did. -/
def fnExactSendAllSpec : ChangeSpec := { name := "fnExactSendAll", fn := fun _ => fun
  | [d1, d2] => { results := [.lit (.bool true)], args := [d1, d2] }
  | _ => none }
def fnExactSendAllRow : OpenClaim := { program := "ytoecbbkaokgjeaa", sum := "ec7ddebccfbd49745362a0298f0f71ded696f8bf65ffd4ceb0ab50f7ef82496f", func := "loop.example/g01046/laws.FnExactSendAll", spec := "fnExactSendAll", apart := false }
def FnExactSendAllSaid : Prop := fnExactSendAllRow.holds Try.pinned (OpenSpec.ofChange fnExactSendAllSpec)

/-- ITS FALSE NEIGHBOUR: 'it returns false'. Refute it at one input. -/
def fnExactSendAllWrong : ChangeSpec := { name := "fnExactSendAll", fn := fun _ => fun
  | [d1, d2] => { results := [.lit (.bool false)], args := [d1, d2] }
  | _ => none }
def FnExactSendAllWrongFalsely : Prop := fnExactSendAllRow.holds Try.pinned (OpenSpec.ofChange fnExactSendAllWrong)

/-- 'laws.FnExactShortStations': WHATEVER THE INPUT: true; the input reads as it did. -/
def fnExactShortStationsSpec : ChangeSpec := { name := "fnExactShortStations", fn := fun _ => fun
  | [d1, d2] => { results := [.lit (.bool true)], args := [d1, d2] }
  | _ => none }
def fnExactShortStationsRow : OpenClaim := { program := "ytoecbbkaokgjeaa", sum := "ec7ddebccfbd49745362a0298f0f71ded696f8bf65ffd4ceb0ab50f7ef82496f", func := "loop.example/g01046/laws.FnExactShortStations", spec := "fnExactShortStations", apart := false }
def FnExactShortStationsSaid : Prop := fnExactShortStationsRow.holds Try.pinned (OpenSpec.ofChange fnExactShortStationsSpec)

/-- ITS FALSE NEIGHBOUR: 'it returns false'. Refute it at one input. -/
def fnExactShortStationsWrong : ChangeSpec := { name := "fnExactShortStations", fn := fun _ => fun
  | [d1, d2] => { results := [.lit (.bool false)], args := [d1, d2] }
  | _ => none }
def FnExactShortStationsWrongFalsely : Prop := fnExactShortStationsRow.holds Try.pinned (OpenSpec.ofChange fnExactShortStationsWrong)

/-- 'laws.FnExactMovesBack': WHATEVER THE INPUT: true; the input reads as it did. -/
def fnExactMovesBackSpec : ChangeSpec := { name := "fnExactMovesBack", fn := fun _ => fun
  | [d1, d2] => { results := [.lit (.bool true)], args := [d1, d2] }
  | _ => none }
def fnExactMovesBackRow : OpenClaim := { program := "ytoecbbkaokgjeaa", sum := "ec7ddebccfbd49745362a0298f0f71ded696f8bf65ffd4ceb0ab50f7ef82496f", func := "loop.example/g01046/laws.FnExactMovesBack", spec := "fnExactMovesBack", apart := false }
def FnExactMovesBackSaid : Prop := fnExactMovesBackRow.holds Try.pinned (OpenSpec.ofChange fnExactMovesBackSpec)

/-- ITS FALSE NEIGHBOUR: 'it returns false'. Refute it at one input. -/
def fnExactMovesBackWrong : ChangeSpec := { name := "fnExactMovesBack", fn := fun _ => fun
  | [d1, d2] => { results := [.lit (.bool false)], args := [d1, d2] }
  | _ => none }
def FnExactMovesBackWrongFalsely : Prop := fnExactMovesBackRow.holds Try.pinned (OpenSpec.ofChange fnExactMovesBackWrong)

/-- 'laws.FnExactCostOfMoves': WHATEVER THE INPUT: true; the input reads as it did. -/
def fnExactCostOfMovesSpec : ChangeSpec := { name := "fnExactCostOfMoves", fn := fun _ => fun
  | [d1, d2] => { results := [.lit (.bool true)], args := [d1, d2] }
  | _ => none }
def fnExactCostOfMovesRow : OpenClaim := { program := "ytoecbbkaokgjeaa", sum := "ec7ddebccfbd49745362a0298f0f71ded696f8bf65ffd4ceb0ab50f7ef82496f", func := "loop.example/g01046/laws.FnExactCostOfMoves", spec := "fnExactCostOfMoves", apart := false }
def FnExactCostOfMovesSaid : Prop := fnExactCostOfMovesRow.holds Try.pinned (OpenSpec.ofChange fnExactCostOfMovesSpec)

/-- ITS FALSE NEIGHBOUR: 'it returns false'. Refute it at one input. -/
def fnExactCostOfMovesWrong : ChangeSpec := { name := "fnExactCostOfMoves", fn := fun _ => fun
  | [d1, d2] => { results := [.lit (.bool false)], args := [d1, d2] }
  | _ => none }
def FnExactCostOfMovesWrongFalsely : Prop := fnExactCostOfMovesRow.holds Try.pinned (OpenSpec.ofChange fnExactCostOfMovesWrong)

/- THE SECOND FORM. 'bulk': how many values and letters a reading holds, each counted each time it is reached (what is shared counts as often as it is met; a slice's spare places count too). A statement '..UptoSaid' is the law's where the arguments, and the package variables that the reading takes, are together of bulk at most 1048576: NARROWER than '..Said'. Prove '..Said' where nothing that the law and all that it calls make is longer than what came in: it says more and counts as full. Else prove '..UptoSaid'. A law counts once. -/
mutual
def uptoBulk {H : Type} : DataW H → Nat
  | .lit (.string bytes) => bytes.length + 1
  | .lit _ => 1
  | .nil => 1
  | .ptr d => uptoBulk d + 1
  | .slice elems spare => uptoBulkAll elems + uptoBulkAll spare + 1
  | .agg parts => uptoBulkAll parts + 1
  | .iface _ d => uptoBulk d + 1
  | .map entries => uptoBulkEntries entries + 1
  | .held _ => 1
def uptoBulkAll {H : Type} : List (DataW H) → Nat
  | [] => 0
  | d :: r => uptoBulk d + uptoBulkAll r
def uptoBulkEntries {H : Type} : List (Lit × DataW H) → Nat
  | [] => 0
  | x :: r => uptoBulkEntry x + uptoBulkEntries r
def uptoBulkEntry {H : Type} : Lit × DataW H → Nat
  | (.string bytes, d) => bytes.length + uptoBulk d + 1
  | (_, d) => uptoBulk d + 1
 end
def uptoSmall : (H : Type) → List (DataW H) → Bool := fun _ ds => decide (uptoBulkAll ds ≤ 1048576)
def OpenSpec.upto (s : _root_.Go.ChangeSpec) : _root_.Go.OpenSpec := { _root_.Go.OpenSpec.ofChange s with cond := some uptoSmall }

/-- 'laws.FnExactValidStock', WHERE WHAT IT READS IS OF BULK AT MOST 1048576: true; the input reads as it did. -/
def fnExactValidStockUptoRow : OpenClaim := { program := "ytoecbbkaokgjeaa", sum := "ec7ddebccfbd49745362a0298f0f71ded696f8bf65ffd4ceb0ab50f7ef82496f", func := "loop.example/g01046/laws.FnExactValidStock", spec := "fnExactValidStock", apart := false, narrowed := true }
def FnExactValidStockUptoSaid : Prop := fnExactValidStockUptoRow.holds Try.pinned (OpenSpec.upto fnExactValidStockSpec)

/-- 'laws.FnExactSameMoves', WHERE WHAT IT READS IS OF BULK AT MOST 1048576: true; the input reads as it did. -/
def fnExactSameMovesUptoRow : OpenClaim := { program := "ytoecbbkaokgjeaa", sum := "ec7ddebccfbd49745362a0298f0f71ded696f8bf65ffd4ceb0ab50f7ef82496f", func := "loop.example/g01046/laws.FnExactSameMoves", spec := "fnExactSameMoves", apart := false, narrowed := true }
def FnExactSameMovesUptoSaid : Prop := fnExactSameMovesUptoRow.holds Try.pinned (OpenSpec.upto fnExactSameMovesSpec)

/-- 'laws.FnExactSendCarriers', WHERE WHAT IT READS IS OF BULK AT MOST 1048576: true; the input reads as it did. -/
def fnExactSendCarriersUptoRow : OpenClaim := { program := "ytoecbbkaokgjeaa", sum := "ec7ddebccfbd49745362a0298f0f71ded696f8bf65ffd4ceb0ab50f7ef82496f", func := "loop.example/g01046/laws.FnExactSendCarriers", spec := "fnExactSendCarriers", apart := false, narrowed := true }
def FnExactSendCarriersUptoSaid : Prop := fnExactSendCarriersUptoRow.holds Try.pinned (OpenSpec.upto fnExactSendCarriersSpec)

/-- 'laws.FnExactSendAll', WHERE WHAT IT READS IS OF BULK AT MOST 1048576: true; the input reads as it did. -/
def fnExactSendAllUptoRow : OpenClaim := { program := "ytoecbbkaokgjeaa", sum := "ec7ddebccfbd49745362a0298f0f71ded696f8bf65ffd4ceb0ab50f7ef82496f", func := "loop.example/g01046/laws.FnExactSendAll", spec := "fnExactSendAll", apart := false, narrowed := true }
def FnExactSendAllUptoSaid : Prop := fnExactSendAllUptoRow.holds Try.pinned (OpenSpec.upto fnExactSendAllSpec)

/-- 'laws.FnExactShortStations', WHERE WHAT IT READS IS OF BULK AT MOST 1048576: true; the input reads as it did. -/
def fnExactShortStationsUptoRow : OpenClaim := { program := "ytoecbbkaokgjeaa", sum := "ec7ddebccfbd49745362a0298f0f71ded696f8bf65ffd4ceb0ab50f7ef82496f", func := "loop.example/g01046/laws.FnExactShortStations", spec := "fnExactShortStations", apart := false, narrowed := true }
def FnExactShortStationsUptoSaid : Prop := fnExactShortStationsUptoRow.holds Try.pinned (OpenSpec.upto fnExactShortStationsSpec)

/-- 'laws.FnExactMovesBack', WHERE WHAT IT READS IS OF BULK AT MOST 1048576: true; the input reads as it did. -/
def fnExactMovesBackUptoRow : OpenClaim := { program := "ytoecbbkaokgjeaa", sum := "ec7ddebccfbd49745362a0298f0f71ded696f8bf65ffd4ceb0ab50f7ef82496f", func := "loop.example/g01046/laws.FnExactMovesBack", spec := "fnExactMovesBack", apart := false, narrowed := true }
def FnExactMovesBackUptoSaid : Prop := fnExactMovesBackUptoRow.holds Try.pinned (OpenSpec.upto fnExactMovesBackSpec)

/-- 'laws.FnExactCostOfMoves', WHERE WHAT IT READS IS OF BULK AT MOST 1048576: true; the input reads as it did. -/
def fnExactCostOfMovesUptoRow : OpenClaim := { program := "ytoecbbkaokgjeaa", sum := "ec7ddebccfbd49745362a0298f0f71ded696f8bf65ffd4ceb0ab50f7ef82496f", func := "loop.example/g01046/laws.FnExactCostOfMoves", spec := "fnExactCostOfMoves", apart := false, narrowed := true }
def FnExactCostOfMovesUptoSaid : Prop := fnExactCostOfMovesUptoRow.holds Try.pinned (OpenSpec.upto fnExactCostOfMovesSpec)

end Rows
end Go.Proofs.Ytoecbbkaokgjeaa
