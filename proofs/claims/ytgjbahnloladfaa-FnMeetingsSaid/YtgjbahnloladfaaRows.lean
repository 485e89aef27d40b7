/-
  No cell of these rows narrows 'for every input' (looked for: loops, veiled, ifaces, maps, wideKeys, modest, calm, conditions, laid).
  DERIVED. THE GIVEN ROWS OF THIS SEAT. 8 by the template 'for every input the law returns true; each argument reads behind the call as it read before'; 0 by the template 'total and deterministic' (their statements: YtgjbahnloladfaaTotals.lean).
  GIVEN WITH THE SEED: the statements are not yours to turn. If you find one false, say at which input.
  Laid BY PROGRAM, IN A SANDBOX (cutbox-rows.mjs): the forced cells as the released guide's own fill.sh prints them over the translation ad41a3e6d934ad0d… (all of the seat's roots in one cut). By AI agents, Wed Nov 11 2026. No macro, syntax, notation, axiom, sorry.
-/
import Derived.Test.YtgjbahnloladfaaChecked
import GoSem.Claim
import GoSem.ClaimJoined
import GoSem.ClaimMapViews
import Derived.JoinedTies
import Derived.KernelRfl
namespace Go.Proofs.Ytgjbahnloladfaa
/- THE CELL 'sum', in the pinned program and in every row, IS THE sha256 OF THE DUMP (.gsa) THAT YtgjbahnloladfaaProg.lean LOADS. Nothing in Lean hashes anything: it is a label: what it is worth is what the hold of that sum in a sandbox is worth. -/
noncomputable def Try.pinned : Pinned := { name := "ytgjbahnloladfaa", sum := "ad41a3e6d934ad0dd47b2e4b9e81ba159d321370658f2fb54857bb0d19bb6167", checked := Try.checked }
namespace Rows
def none {H : Type} : Left H := { results := [], args := [] }

/-- 'laws.FnMeetings': WHATEVER THE INPUT: true; the input reads as it did. -/
def fnMeetingsSpec : ChangeSpec := { name := "fnMeetings", fn := fun _ => fun
  | [d1, d2] => { results := [.lit (.bool true)], args := [d1, d2] }
  | _ => none }
def fnMeetingsRow : OpenClaim := { program := "ytgjbahnloladfaa", sum := "ad41a3e6d934ad0dd47b2e4b9e81ba159d321370658f2fb54857bb0d19bb6167", func := "loop.example/g01046/laws.FnMeetings", spec := "fnMeetings", unfollowed := true, recurses := true, apart := false }
def FnMeetingsSaid : Prop := fnMeetingsRow.holds Try.pinned (OpenSpec.ofChange fnMeetingsSpec)

/-- ITS FALSE NEIGHBOUR: 'it returns false'. Refute it at one input. -/
def fnMeetingsWrong : ChangeSpec := { name := "fnMeetings", fn := fun _ => fun
  | [d1, d2] => { results := [.lit (.bool false)], args := [d1, d2] }
  | _ => none }
def FnMeetingsWrongFalsely : Prop := fnMeetingsRow.holds Try.pinned (OpenSpec.ofChange fnMeetingsWrong)

/-- 'laws.FnExactValidTimes': WHATEVER THE INPUT: true; the input reads as it did. -/
def fnExactValidTimesSpec : ChangeSpec := { name := "fnExactValidTimes", fn := fun _ => fun
  | [d] => { results := [.lit (.bool true)], args := [d] }
  | _ => none }
def fnExactValidTimesRow : OpenClaim := { program := "ytgjbahnloladfaa", sum := "ad41a3e6d934ad0dd47b2e4b9e81ba159d321370658f2fb54857bb0d19bb6167", func := "loop.example/g01046/laws.FnExactValidTimes", spec := "fnExactValidTimes", apart := false }
def FnExactValidTimesSaid : Prop := fnExactValidTimesRow.holds Try.pinned (OpenSpec.ofChange fnExactValidTimesSpec)

/-- ITS FALSE NEIGHBOUR: 'it returns false'. Refute it at one input. -/
def fnExactValidTimesWrong : ChangeSpec := { name := "fnExactValidTimes", fn := fun _ => fun
  | [d] => { results := [.lit (.bool false)], args := [d] }
  | _ => none }
def FnExactValidTimesWrongFalsely : Prop := fnExactValidTimesRow.holds Try.pinned (OpenSpec.ofChange fnExactValidTimesWrong)

/-- 'laws.FnExactValidRuns': WHATEVER THE INPUT: true; the input reads as it did. -/
def fnExactValidRunsSpec : ChangeSpec := { name := "fnExactValidRuns", fn := fun _ => fun
  | [d1, d2] => { results := [.lit (.bool true)], args := [d1, d2] }
  | _ => none }
def fnExactValidRunsRow : OpenClaim := { program := "ytgjbahnloladfaa", sum := "ad41a3e6d934ad0dd47b2e4b9e81ba159d321370658f2fb54857bb0d19bb6167", func := "loop.example/g01046/laws.FnExactValidRuns", spec := "fnExactValidRuns", apart := false }
def FnExactValidRunsSaid : Prop := fnExactValidRunsRow.holds Try.pinned (OpenSpec.ofChange fnExactValidRunsSpec)

/-- ITS FALSE NEIGHBOUR: 'it returns false'. Refute it at one input. -/
def fnExactValidRunsWrong : ChangeSpec := { name := "fnExactValidRuns", fn := fun _ => fun
  | [d1, d2] => { results := [.lit (.bool false)], args := [d1, d2] }
  | _ => none }
def FnExactValidRunsWrongFalsely : Prop := fnExactValidRunsRow.holds Try.pinned (OpenSpec.ofChange fnExactValidRunsWrong)

/-- 'laws.FnExactSameRuns': WHATEVER THE INPUT: true; the input reads as it did. -/
def fnExactSameRunsSpec : ChangeSpec := { name := "fnExactSameRuns", fn := fun _ => fun
  | [d1, d2] => { results := [.lit (.bool true)], args := [d1, d2] }
  | _ => none }
def fnExactSameRunsRow : OpenClaim := { program := "ytgjbahnloladfaa", sum := "ad41a3e6d934ad0dd47b2e4b9e81ba159d321370658f2fb54857bb0d19bb6167", func := "loop.example/g01046/laws.FnExactSameRuns", spec := "fnExactSameRuns", unfollowed := true, recurses := true, apart := false }
def FnExactSameRunsSaid : Prop := fnExactSameRunsRow.holds Try.pinned (OpenSpec.ofChange fnExactSameRunsSpec)

/-- ITS FALSE NEIGHBOUR: 'it returns false'. Refute it at one input. -/
def fnExactSameRunsWrong : ChangeSpec := { name := "fnExactSameRuns", fn := fun _ => fun
  | [d1, d2] => { results := [.lit (.bool false)], args := [d1, d2] }
  | _ => none }
def FnExactSameRunsWrongFalsely : Prop := fnExactSameRunsRow.holds Try.pinned (OpenSpec.ofChange fnExactSameRunsWrong)

/-- 'laws.FnExactSpansOf': WHATEVER THE INPUT: true; the input reads as it did. -/
def fnExactSpansOfSpec : ChangeSpec := { name := "fnExactSpansOf", fn := fun _ => fun
  | [d1, d2] => { results := [.lit (.bool true)], args := [d1, d2] }
  | _ => none }
def fnExactSpansOfRow : OpenClaim := { program := "ytgjbahnloladfaa", sum := "ad41a3e6d934ad0dd47b2e4b9e81ba159d321370658f2fb54857bb0d19bb6167", func := "loop.example/g01046/laws.FnExactSpansOf", spec := "fnExactSpansOf", apart := false }
def FnExactSpansOfSaid : Prop := fnExactSpansOfRow.holds Try.pinned (OpenSpec.ofChange fnExactSpansOfSpec)

/-- ITS FALSE NEIGHBOUR: 'it returns false'. Refute it at one input. -/
def fnExactSpansOfWrong : ChangeSpec := { name := "fnExactSpansOf", fn := fun _ => fun
  | [d1, d2] => { results := [.lit (.bool false)], args := [d1, d2] }
  | _ => none }
def FnExactSpansOfWrongFalsely : Prop := fnExactSpansOfRow.holds Try.pinned (OpenSpec.ofChange fnExactSpansOfWrong)

/-- 'laws.FnExactEndOfRun': WHATEVER THE INPUT: true; the input reads as it did. -/
def fnExactEndOfRunSpec : ChangeSpec := { name := "fnExactEndOfRun", fn := fun _ => fun
  | [d1, d2] => { results := [.lit (.bool true)], args := [d1, d2] }
  | _ => none }
def fnExactEndOfRunRow : OpenClaim := { program := "ytgjbahnloladfaa", sum := "ad41a3e6d934ad0dd47b2e4b9e81ba159d321370658f2fb54857bb0d19bb6167", func := "loop.example/g01046/laws.FnExactEndOfRun", spec := "fnExactEndOfRun", apart := false }
def FnExactEndOfRunSaid : Prop := fnExactEndOfRunRow.holds Try.pinned (OpenSpec.ofChange fnExactEndOfRunSpec)

/-- ITS FALSE NEIGHBOUR: 'it returns false'. Refute it at one input. -/
def fnExactEndOfRunWrong : ChangeSpec := { name := "fnExactEndOfRun", fn := fun _ => fun
  | [d1, d2] => { results := [.lit (.bool false)], args := [d1, d2] }
  | _ => none }
def FnExactEndOfRunWrongFalsely : Prop := fnExactEndOfRunRow.holds Try.pinned (OpenSpec.ofChange fnExactEndOfRunWrong)

/-- 'laws.FnExactFirstMeeting': WHATEVER THE INPUT: true; the input reads as it did. -/
def fnExactFirstMeetingSpec : ChangeSpec := { name := "fnExactFirstMeeting", fn := fun _ => fun
  | [d1, d2] => { results := [.lit (.bool true)], args := [d1, d2] }
  | _ => none }
def fnExactFirstMeetingRow : OpenClaim := { program := "ytgjbahnloladfaa", sum := "ad41a3e6d934ad0dd47b2e4b9e81ba159d321370658f2fb54857bb0d19bb6167", func := "loop.example/g01046/laws.FnExactFirstMeeting", spec := "fnExactFirstMeeting", unfollowed := true, recurses := true, apart := false }
def FnExactFirstMeetingSaid : Prop := fnExactFirstMeetingRow.holds Try.pinned (OpenSpec.ofChange fnExactFirstMeetingSpec)

/-- ITS FALSE NEIGHBOUR: 'it returns false'. Refute it at one input. -/
def fnExactFirstMeetingWrong : ChangeSpec := { name := "fnExactFirstMeeting", fn := fun _ => fun
  | [d1, d2] => { results := [.lit (.bool false)], args := [d1, d2] }
  | _ => none }
def FnExactFirstMeetingWrongFalsely : Prop := fnExactFirstMeetingRow.holds Try.pinned (OpenSpec.ofChange fnExactFirstMeetingWrong)

/-- 'laws.FnExactDelayRun': WHATEVER THE INPUT: true; the input reads as it did. -/
def fnExactDelayRunSpec : ChangeSpec := { name := "fnExactDelayRun", fn := fun _ => fun
  | [d1, d2, d3, d4] => { results := [.lit (.bool true)], args := [d1, d2, d3, d4] }
  | _ => none }
def fnExactDelayRunRow : OpenClaim := { program := "ytgjbahnloladfaa", sum := "ad41a3e6d934ad0dd47b2e4b9e81ba159d321370658f2fb54857bb0d19bb6167", func := "loop.example/g01046/laws.FnExactDelayRun", spec := "fnExactDelayRun", apart := false }
def FnExactDelayRunSaid : Prop := fnExactDelayRunRow.holds Try.pinned (OpenSpec.ofChange fnExactDelayRunSpec)

/-- ITS FALSE NEIGHBOUR: 'it returns false'. Refute it at one input. -/
def fnExactDelayRunWrong : ChangeSpec := { name := "fnExactDelayRun", fn := fun _ => fun
  | [d1, d2, d3, d4] => { results := [.lit (.bool false)], args := [d1, d2, d3, d4] }
  | _ => none }
def FnExactDelayRunWrongFalsely : Prop := fnExactDelayRunRow.holds Try.pinned (OpenSpec.ofChange fnExactDelayRunWrong)

/- THE SECOND FORM. 'bulk': how many values and letters a reading holds, each counted each time it is reached (what is shared counts as often as it is met; a slice's spare places count too). A statement '..UptoSaid' is the law's where the arguments, and the package variables that the reading takes, are together of bulk at most 1048576: NARROWER than '..Said'. Prove '..Said' where nothing that the law and all that it calls make is longer than what came in: it says more and counts as full. Else prove '..UptoSaid'. A law counts once. -/
mutual
def uptoBulk {H : Type} : DataW H → Nat
  | .lit (.string bytes) => bytes.length + 1
  | .lit _ => 1
  | .nil => 1
  | .ptr d => uptoBulk d + 1
  | .slice elems spare => uptoBulkAll elems + uptoBulkAll spare + 1
  | .agg parts => uptoBulkAll parts + 1
  | .iface _ d => uptoBulk d + 1
  | .map entries => uptoBulkEntries entries + 1
  | .held _ => 1
def uptoBulkAll {H : Type} : List (DataW H) → Nat
  | [] => 0
  | d :: r => uptoBulk d + uptoBulkAll r
def uptoBulkEntries {H : Type} : List (Lit × DataW H) → Nat
  | [] => 0
  | x :: r => uptoBulkEntry x + uptoBulkEntries r
def uptoBulkEntry {H : Type} : Lit × DataW H → Nat
  | (.string bytes, d) => bytes.length + uptoBulk d + 1
  | (_, d) => uptoBulk d + 1
 end
def uptoSmall : (H : Type) → List (DataW H) → Bool := fun _ ds => decide (uptoBulkAll ds ≤ 1048576)
def OpenSpec.upto (s : _root_.Go.ChangeSpec) : _root_.Go.OpenSpec := { _root_.Go.OpenSpec.ofChange s with cond := some uptoSmall }

/-- 'laws.FnMeetings', WHERE WHAT IT READS IS OF BULK AT MOST 1048576: true; the input reads as it did. -/
def fnMeetingsUptoRow : OpenClaim := { program := "ytgjbahnloladfaa", sum := "ad41a3e6d934ad0dd47b2e4b9e81ba159d321370658f2fb54857bb0d19bb6167", func := "loop.example/g01046/laws.FnMeetings", spec := "fnMeetings", unfollowed := true, recurses := true, apart := false, narrowed := true }
def FnMeetingsUptoSaid : Prop := fnMeetingsUptoRow.holds Try.pinned (OpenSpec.upto fnMeetingsSpec)

/-- 'laws.FnExactValidTimes', WHERE WHAT IT READS IS OF BULK AT MOST 1048576: true; the input reads as it did. -/
def fnExactValidTimesUptoRow : OpenClaim := { program := "ytgjbahnloladfaa", sum := "ad41a3e6d934ad0dd47b2e4b9e81ba159d321370658f2fb54857bb0d19bb6167", func := "loop.example/g01046/laws.FnExactValidTimes", spec := "fnExactValidTimes", apart := false, narrowed := true }
def FnExactValidTimesUptoSaid : Prop := fnExactValidTimesUptoRow.holds Try.pinned (OpenSpec.upto fnExactValidTimesSpec)

/-- 'laws.FnExactValidRuns', WHERE WHAT IT READS IS OF BULK AT MOST 1048576: true; the input reads as it did. -/
def fnExactValidRunsUptoRow : OpenClaim := { program := "ytgjbahnloladfaa", sum := "ad41a3e6d934ad0dd47b2e4b9e81ba159d321370658f2fb54857bb0d19bb6167", func := "loop.example/g01046/laws.FnExactValidRuns", spec := "fnExactValidRuns", apart := false, narrowed := true }
def FnExactValidRunsUptoSaid : Prop := fnExactValidRunsUptoRow.holds Try.pinned (OpenSpec.upto fnExactValidRunsSpec)

/-- 'laws.FnExactSameRuns', WHERE WHAT IT READS IS OF BULK AT MOST 1048576: true; the input reads as it did. -/
def fnExactSameRunsUptoRow : OpenClaim := { program := "ytgjbahnloladfaa", sum := "ad41a3e6d934ad0dd47b2e4b9e81ba159d321370658f2fb54857bb0d19bb6167", func := "loop.example/g01046/laws.FnExactSameRuns", spec := "fnExactSameRuns", unfollowed := true, recurses := true, apart := false, narrowed := true }
def FnExactSameRunsUptoSaid : Prop := fnExactSameRunsUptoRow.holds Try.pinned (OpenSpec.upto fnExactSameRunsSpec)

/-- 'laws.FnExactSpansOf', WHERE WHAT IT READS IS OF BULK AT MOST 1048576: true; the input reads as it did. -/
def fnExactSpansOfUptoRow : OpenClaim := { program := "ytgjbahnloladfaa", sum := "ad41a3e6d934ad0dd47b2e4b9e81ba159d321370658f2fb54857bb0d19bb6167", func := "loop.example/g01046/laws.FnExactSpansOf", spec := "fnExactSpansOf", apart := false, narrowed := true }
def FnExactSpansOfUptoSaid : Prop := fnExactSpansOfUptoRow.holds Try.pinned (OpenSpec.upto fnExactSpansOfSpec)

/-- 'laws.FnExactEndOfRun', WHERE WHAT IT READS IS OF BULK AT MOST 1048576: true; the input reads as it did. -/
def fnExactEndOfRunUptoRow : OpenClaim := { program := "ytgjbahnloladfaa", sum := "ad41a3e6d934ad0dd47b2e4b9e81ba159d321370658f2fb54857bb0d19bb6167", func := "loop.example/g01046/laws.FnExactEndOfRun", spec := "fnExactEndOfRun", apart := false, narrowed := true }
def FnExactEndOfRunUptoSaid : Prop := fnExactEndOfRunUptoRow.holds Try.pinned (OpenSpec.upto fnExactEndOfRunSpec)

/-- 'laws.FnExactFirstMeeting', WHERE WHAT IT READS IS OF BULK AT MOST 1048576: true; the input reads as it did. -/
def fnExactFirstMeetingUptoRow : OpenClaim := { program := "ytgjbahnloladfaa", sum := "ad41a3e6d934ad0dd47b2e4b9e81ba159d321370658f2fb54857bb0d19bb6167", func := "loop.example/g01046/laws.FnExactFirstMeeting", spec := "fnExactFirstMeeting", unfollowed := true, recurses := true, apart := false, narrowed := true }
def FnExactFirstMeetingUptoSaid : Prop := fnExactFirstMeetingUptoRow.holds Try.pinned (OpenSpec.upto fnExactFirstMeetingSpec)

/-- 'laws.FnExactDelayRun', WHERE WHAT IT READS IS OF BULK AT MOST 1048576: true; the input reads as it did. -/
def fnExactDelayRunUptoRow : OpenClaim := { program := "ytgjbahnloladfaa", sum := "ad41a3e6d934ad0dd47b2e4b9e81ba159d321370658f2fb54857bb0d19bb6167", func := "loop.example/g01046/laws.FnExactDelayRun", spec := "fnExactDelayRun", apart := false, narrowed := true }
def FnExactDelayRunUptoSaid : Prop := fnExactDelayRunUptoRow.holds Try.pinned (OpenSpec.upto fnExactDelayRunSpec)

end Rows
end Go.Proofs.Ytgjbahnloladfaa
