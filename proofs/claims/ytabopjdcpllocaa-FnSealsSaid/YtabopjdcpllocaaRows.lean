/-
  No cell of these rows narrows 'for every input' (looked for: loops, veiled, ifaces, maps, wideKeys, modest, calm, conditions, laid).
  DERIVED. THE GIVEN ROWS OF THIS SEAT. 6 by the template 'for every input the law returns true; each argument reads behind the call as it read before'; 0 by the template 'total and deterministic' (their statements: YtabopjdcpllocaaTotals.lean).
  GIVEN WITH THE SEED: the statements are not yours to turn. If you find one false, say at which input.
  Laid BY PROGRAM, IN A SANDBOX (cutbox-rows.mjs): the forced cells as the released guide's own fill.sh prints them over the translation 3462f0305d6c6a0b… (all of the seat's roots in one cut). By AI agents, Wed Nov 11 2026. No macro, syntax, notation, axiom, sorry.
-/
import Derived.Test.YtabopjdcpllocaaChecked
import GoSem.Claim
import GoSem.ClaimJoined
import GoSem.ClaimMapViews
import Derived.JoinedTies
import Derived.KernelRfl
namespace Go.Proofs.Ytabopjdcpllocaa
/- THE CELL 'sum', in the pinned program and in every row, IS THE sha256 OF THE DUMP (.gsa) THAT YtabopjdcpllocaaProg.lean LOADS. Nothing in Lean hashes anything: it is a label: what it is worth is what the hold of that sum in a sandbox is worth. -/
noncomputable def Try.pinned : Pinned := { name := "ytabopjdcpllocaa", sum := "3462f0305d6c6a0b1501cfd692583c60debdcdfca073ab410113e83769f03ab3", checked := Try.checked }
namespace Rows
def none {H : Type} : Left H := { results := [], args := [] }

/-- 'laws.FnExactValidSeals': WHATEVER THE INPUT: true; the input reads as it did. -/
def fnExactValidSealsSpec : ChangeSpec := { name := "fnExactValidSeals", fn := fun _ => fun
  | [d] => { results := [.lit (.bool true)], args := [d] }
  | _ => none }
def fnExactValidSealsRow : OpenClaim := { program := "ytabopjdcpllocaa", sum := "3462f0305d6c6a0b1501cfd692583c60debdcdfca073ab410113e83769f03ab3", func := "loop.example/g01046/laws.FnExactValidSeals", spec := "fnExactValidSeals", apart := false }
def FnExactValidSealsSaid : Prop := fnExactValidSealsRow.holds Try.pinned (OpenSpec.ofChange fnExactValidSealsSpec)

/-- ITS FALSE NEIGHBOUR: 'it returns false'. Refute it at one input. -/
def fnExactValidSealsWrong : ChangeSpec := { name := "fnExactValidSeals", fn := fun _ => fun
  | [d] => { results := [.lit (.bool false)], args := [d] }
  | _ => none }
def FnExactValidSealsWrongFalsely : Prop := fnExactValidSealsRow.holds Try.pinned (OpenSpec.ofChange fnExactValidSealsWrong)

/-- 'laws.FnExactRunCarrier': WHATEVER THE INPUT: true; the input reads as it did. -/
def fnExactRunCarrierSpec : ChangeSpec := { name := "fnExactRunCarrier", fn := fun _ => fun
  | [d1, d2] => { results := [.lit (.bool true)], args := [d1, d2] }
  | _ => none }
def fnExactRunCarrierRow : OpenClaim := { program := "ytabopjdcpllocaa", sum := "3462f0305d6c6a0b1501cfd692583c60debdcdfca073ab410113e83769f03ab3", func := "loop.example/g01046/laws.FnExactRunCarrier", spec := "fnExactRunCarrier", apart := false }
def FnExactRunCarrierSaid : Prop := fnExactRunCarrierRow.holds Try.pinned (OpenSpec.ofChange fnExactRunCarrierSpec)

/-- ITS FALSE NEIGHBOUR: 'it returns false'. Refute it at one input. -/
def fnExactRunCarrierWrong : ChangeSpec := { name := "fnExactRunCarrier", fn := fun _ => fun
  | [d1, d2] => { results := [.lit (.bool false)], args := [d1, d2] }
  | _ => none }
def FnExactRunCarrierWrongFalsely : Prop := fnExactRunCarrierRow.holds Try.pinned (OpenSpec.ofChange fnExactRunCarrierWrong)

/-- 'laws.FnExactNextCarrier': WHATEVER THE INPUT: true; the input reads as it did. -/
def fnExactNextCarrierSpec : ChangeSpec := { name := "fnExactNextCarrier", fn := fun _ => fun
  | [d] => { results := [.lit (.bool true)], args := [d] }
  | _ => none }
def fnExactNextCarrierRow : OpenClaim := { program := "ytabopjdcpllocaa", sum := "3462f0305d6c6a0b1501cfd692583c60debdcdfca073ab410113e83769f03ab3", func := "loop.example/g01046/laws.FnExactNextCarrier", spec := "fnExactNextCarrier", apart := false }
def FnExactNextCarrierSaid : Prop := fnExactNextCarrierRow.holds Try.pinned (OpenSpec.ofChange fnExactNextCarrierSpec)

/-- ITS FALSE NEIGHBOUR: 'it returns false'. Refute it at one input. -/
def fnExactNextCarrierWrong : ChangeSpec := { name := "fnExactNextCarrier", fn := fun _ => fun
  | [d] => { results := [.lit (.bool false)], args := [d] }
  | _ => none }
def FnExactNextCarrierWrongFalsely : Prop := fnExactNextCarrierRow.holds Try.pinned (OpenSpec.ofChange fnExactNextCarrierWrong)

/-- 'laws.FnExactWornSeals': WHATEVER THE INPUT: true; the input reads as it did. -/
def fnExactWornSealsSpec : ChangeSpec := { name := "fnExactWornSeals", fn := fun _ => fun
  | [d] => { results := [.lit (.bool true)], args := [d] }
  | _ => none }
def fnExactWornSealsRow : OpenClaim := { program := "ytabopjdcpllocaa", sum := "3462f0305d6c6a0b1501cfd692583c60debdcdfca073ab410113e83769f03ab3", func := "loop.example/g01046/laws.FnExactWornSeals", spec := "fnExactWornSeals", apart := false }
def FnExactWornSealsSaid : Prop := fnExactWornSealsRow.holds Try.pinned (OpenSpec.ofChange fnExactWornSealsSpec)

/-- ITS FALSE NEIGHBOUR: 'it returns false'. Refute it at one input. -/
def fnExactWornSealsWrong : ChangeSpec := { name := "fnExactWornSeals", fn := fun _ => fun
  | [d] => { results := [.lit (.bool false)], args := [d] }
  | _ => none }
def FnExactWornSealsWrongFalsely : Prop := fnExactWornSealsRow.holds Try.pinned (OpenSpec.ofChange fnExactWornSealsWrong)

/-- 'laws.FnExactRunsLeft': WHATEVER THE INPUT: true; the input reads as it did. -/
def fnExactRunsLeftSpec : ChangeSpec := { name := "fnExactRunsLeft", fn := fun _ => fun
  | [d] => { results := [.lit (.bool true)], args := [d] }
  | _ => none }
def fnExactRunsLeftRow : OpenClaim := { program := "ytabopjdcpllocaa", sum := "3462f0305d6c6a0b1501cfd692583c60debdcdfca073ab410113e83769f03ab3", func := "loop.example/g01046/laws.FnExactRunsLeft", spec := "fnExactRunsLeft", apart := false }
def FnExactRunsLeftSaid : Prop := fnExactRunsLeftRow.holds Try.pinned (OpenSpec.ofChange fnExactRunsLeftSpec)

/-- ITS FALSE NEIGHBOUR: 'it returns false'. Refute it at one input. -/
def fnExactRunsLeftWrong : ChangeSpec := { name := "fnExactRunsLeft", fn := fun _ => fun
  | [d] => { results := [.lit (.bool false)], args := [d] }
  | _ => none }
def FnExactRunsLeftWrongFalsely : Prop := fnExactRunsLeftRow.holds Try.pinned (OpenSpec.ofChange fnExactRunsLeftWrong)

/-- 'laws.FnSeals': WHATEVER THE INPUT: true; the input reads as it did. -/
def fnSealsSpec : ChangeSpec := { name := "fnSeals", fn := fun _ => fun
  | [d] => { results := [.lit (.bool true)], args := [d] }
  | _ => none }
def fnSealsRow : OpenClaim := { program := "ytabopjdcpllocaa", sum := "3462f0305d6c6a0b1501cfd692583c60debdcdfca073ab410113e83769f03ab3", func := "loop.example/g01046/laws.FnSeals", spec := "fnSeals", apart := false }
def FnSealsSaid : Prop := fnSealsRow.holds Try.pinned (OpenSpec.ofChange fnSealsSpec)

/-- ITS FALSE NEIGHBOUR: 'it returns false'. Refute it at one input. -/
def fnSealsWrong : ChangeSpec := { name := "fnSeals", fn := fun _ => fun
  | [d] => { results := [.lit (.bool false)], args := [d] }
  | _ => none }
def FnSealsWrongFalsely : Prop := fnSealsRow.holds Try.pinned (OpenSpec.ofChange fnSealsWrong)

/- THE SECOND FORM. 'bulk': how many values and letters a reading holds, each counted each time it is reached (what is shared counts as often as it is met; a slice's spare places count too). A statement '..UptoSaid' is the law's where the arguments, and the package variables that the reading takes, are together of bulk at most 1048576: NARROWER than '..Said'. Prove '..Said' where nothing that the law and all that it calls make is longer than what came in: it says more and counts as full. Else prove '..UptoSaid'. A law counts once. -/
mutual
def uptoBulk {H : Type} : DataW H → Nat
  | .lit (.string bytes) => bytes.length + 1
  | .lit _ => 1
  | .nil => 1
  | .ptr d => uptoBulk d + 1
  | .slice elems spare => uptoBulkAll elems + uptoBulkAll spare + 1
  | .agg parts => uptoBulkAll parts + 1
  | .iface _ d => uptoBulk d + 1
  | .map entries => uptoBulkEntries entries + 1
  | .held _ => 1
def uptoBulkAll {H : Type} : List (DataW H) → Nat
  | [] => 0
  | d :: r => uptoBulk d + uptoBulkAll r
def uptoBulkEntries {H : Type} : List (Lit × DataW H) → Nat
  | [] => 0
  | x :: r => uptoBulkEntry x + uptoBulkEntries r
def uptoBulkEntry {H : Type} : Lit × DataW H → Nat
  | (.string bytes, d) => bytes.length + uptoBulk d + 1
  | (_, d) => uptoBulk d + 1
 end
def uptoSmall : (H : Type) → List (DataW H) → Bool := fun _ ds => decide (uptoBulkAll ds ≤ 1048576)
def OpenSpec.upto (s : _root_.Go.ChangeSpec) : _root_.Go.OpenSpec := { _root_.Go.OpenSpec.ofChange s with cond := some uptoSmall }

/-- 'laws.FnExactValidSeals', WHERE WHAT IT READS IS OF BULK AT MOST 1048576: true; the input reads as it did. -/
def fnExactValidSealsUptoRow : OpenClaim := { program := "ytabopjdcpllocaa", sum := "3462f0305d6c6a0b1501cfd692583c60debdcdfca073ab410113e83769f03ab3", func := "loop.example/g01046/laws.FnExactValidSeals", spec := "fnExactValidSeals", apart := false, narrowed := true }
def FnExactValidSealsUptoSaid : Prop := fnExactValidSealsUptoRow.holds Try.pinned (OpenSpec.upto fnExactValidSealsSpec)

/-- 'laws.FnExactRunCarrier', WHERE WHAT IT READS IS OF BULK AT MOST 1048576: true; the input reads as it did. -/
def fnExactRunCarrierUptoRow : OpenClaim := { program := "ytabopjdcpllocaa", sum := "3462f0305d6c6a0b1501cfd692583c60debdcdfca073ab410113e83769f03ab3", func := "loop.example/g01046/laws.FnExactRunCarrier", spec := "fnExactRunCarrier", apart := false, narrowed := true }
def FnExactRunCarrierUptoSaid : Prop := fnExactRunCarrierUptoRow.holds Try.pinned (OpenSpec.upto fnExactRunCarrierSpec)

/-- 'laws.FnExactNextCarrier', WHERE WHAT IT READS IS OF BULK AT MOST 1048576: true; the input reads as it did. -/
def fnExactNextCarrierUptoRow : OpenClaim := { program := "ytabopjdcpllocaa", sum := "3462f0305d6c6a0b1501cfd692583c60debdcdfca073ab410113e83769f03ab3", func := "loop.example/g01046/laws.FnExactNextCarrier", spec := "fnExactNextCarrier", apart := false, narrowed := true }
def FnExactNextCarrierUptoSaid : Prop := fnExactNextCarrierUptoRow.holds Try.pinned (OpenSpec.upto fnExactNextCarrierSpec)

/-- 'laws.FnExactWornSeals', WHERE WHAT IT READS IS OF BULK AT MOST 1048576: true; the input reads as it did. -/
def fnExactWornSealsUptoRow : OpenClaim := { program := "ytabopjdcpllocaa", sum := "3462f0305d6c6a0b1501cfd692583c60debdcdfca073ab410113e83769f03ab3", func := "loop.example/g01046/laws.FnExactWornSeals", spec := "fnExactWornSeals", apart := false, narrowed := true }
def FnExactWornSealsUptoSaid : Prop := fnExactWornSealsUptoRow.holds Try.pinned (OpenSpec.upto fnExactWornSealsSpec)

/-- 'laws.FnExactRunsLeft', WHERE WHAT IT READS IS OF BULK AT MOST 1048576: true; the input reads as it did. -/
def fnExactRunsLeftUptoRow : OpenClaim := { program := "ytabopjdcpllocaa", sum := "3462f0305d6c6a0b1501cfd692583c60debdcdfca073ab410113e83769f03ab3", func := "loop.example/g01046/laws.FnExactRunsLeft", spec := "fnExactRunsLeft", apart := false, narrowed := true }
def FnExactRunsLeftUptoSaid : Prop := fnExactRunsLeftUptoRow.holds Try.pinned (OpenSpec.upto fnExactRunsLeftSpec)

/-- 'laws.FnSeals', WHERE WHAT IT READS IS OF BULK AT MOST 1048576: true; the input reads as it did. -/
def fnSealsUptoRow : OpenClaim := { program := "ytabopjdcpllocaa", sum := "3462f0305d6c6a0b1501cfd692583c60debdcdfca073ab410113e83769f03ab3", func := "loop.example/g01046/laws.FnSeals", spec := "fnSeals", apart := false, narrowed := true }
def FnSealsUptoSaid : Prop := fnSealsUptoRow.holds Try.pinned (OpenSpec.upto fnSealsSpec)

end Rows
end Go.Proofs.Ytabopjdcpllocaa
