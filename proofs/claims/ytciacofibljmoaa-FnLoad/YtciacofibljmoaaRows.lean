/-
  No cell of these rows narrows 'for every input' (looked for: loops, veiled, ifaces, maps, wideKeys, modest, calm, conditions, laid).
  DERIVED. THE GIVEN ROWS OF THIS SEAT. 6 by the template 'for every input the law returns true; each argument reads behind the call as it read before'; 0 by the template 'total and deterministic' (their statements: YtciacofibljmoaaTotals.lean).
  GIVEN WITH THE SEED: the statements are not yours to turn. If you find one false, say at which input.
  Laid BY PROGRAM, IN A SANDBOX (cutbox-rows.mjs): the forced cells as the released guide's own fill.sh prints them over the translation 73dd3e808369f635… (all of the seat's roots in one cut). By AI agents, Wed Nov 11 2026. No macro, syntax, notation, axiom, sorry.
-/
import Derived.Test.YtciacofibljmoaaChecked
import GoSem.Claim
import GoSem.ClaimJoined
import GoSem.ClaimMapViews
import Derived.JoinedTies
import Derived.KernelRfl
namespace Go.Proofs.Ytciacofibljmoaa
/- THE CELL 'sum', in the pinned program and in every row, IS THE sha256 OF THE DUMP (.gsa) THAT YtciacofibljmoaaProg.lean LOADS. Nothing in Lean hashes anything: it is a label: what it is worth is what the hold of that sum in a sandbox is worth. -/
noncomputable def Try.pinned : Pinned := { name := "ytciacofibljmoaa", sum := "73dd3e808369f635b80f2306c94def33a256d6d777fd780f328fdf1779b38271", checked := Try.checked }
namespace Rows
def none {H : Type} : Left H := { results := [], args := [] }

/-- 'laws.FnLoad': WHATEVER THE INPUT: true; the input reads as it did. -/
def fnLoadSpec : ChangeSpec := { name := "fnLoad", fn := fun _ => fun
  | [d1, d2] => { results := [.lit (.bool true)], args := [d1, d2] }
  | _ => none }
def fnLoadRow : OpenClaim := { program := "ytciacofibljmoaa", sum := "73dd3e808369f635b80f2306c94def33a256d6d777fd780f328fdf1779b38271", func := "loop.example/lapflow/laws.FnLoad", spec := "fnLoad", unfollowed := true, recurses := true, apart := false }
def FnLoadSaid : Prop := fnLoadRow.holds Try.pinned (OpenSpec.ofChange fnLoadSpec)

/-- ITS FALSE NEIGHBOUR: 'it returns false'. Refute it at one input. -/
def fnLoadWrong : ChangeSpec := { name := "fnLoad", fn := fun _ => fun
  | [d1, d2] => { results := [.lit (.bool false)], args := [d1, d2] }
  | _ => none }
def FnLoadWrongFalsely : Prop := fnLoadRow.holds Try.pinned (OpenSpec.ofChange fnLoadWrong)

/-- 'laws.FnExactFlowFlightsOk': WHATEVER THE INPUT: true; the input reads as it did. -/
def fnExactFlowFlightsOkSpec : ChangeSpec := { name := "fnExactFlowFlightsOk", fn := fun _ => fun
  | [d] => { results := [.lit (.bool true)], args := [d] }
  | _ => none }
def fnExactFlowFlightsOkRow : OpenClaim := { program := "ytciacofibljmoaa", sum := "73dd3e808369f635b80f2306c94def33a256d6d777fd780f328fdf1779b38271", func := "loop.example/lapflow/laws.FnExactFlowFlightsOk", spec := "fnExactFlowFlightsOk", unfollowed := true, recurses := true, apart := false }
def FnExactFlowFlightsOkSaid : Prop := fnExactFlowFlightsOkRow.holds Try.pinned (OpenSpec.ofChange fnExactFlowFlightsOkSpec)

/-- ITS FALSE NEIGHBOUR: 'it returns false'. Refute it at one input. -/
def fnExactFlowFlightsOkWrong : ChangeSpec := { name := "fnExactFlowFlightsOk", fn := fun _ => fun
  | [d] => { results := [.lit (.bool false)], args := [d] }
  | _ => none }
def FnExactFlowFlightsOkWrongFalsely : Prop := fnExactFlowFlightsOkRow.holds Try.pinned (OpenSpec.ofChange fnExactFlowFlightsOkWrong)

/-- 'laws.FnExactFlowCapsOk': WHATEVER THE INPUT: true; the input reads as it did. -/
def fnExactFlowCapsOkSpec : ChangeSpec := { name := "fnExactFlowCapsOk", fn := fun _ => fun
  | [d] => { results := [.lit (.bool true)], args := [d] }
  | _ => none }
def fnExactFlowCapsOkRow : OpenClaim := { program := "ytciacofibljmoaa", sum := "73dd3e808369f635b80f2306c94def33a256d6d777fd780f328fdf1779b38271", func := "loop.example/lapflow/laws.FnExactFlowCapsOk", spec := "fnExactFlowCapsOk", unfollowed := true, recurses := true, apart := false }
def FnExactFlowCapsOkSaid : Prop := fnExactFlowCapsOkRow.holds Try.pinned (OpenSpec.ofChange fnExactFlowCapsOkSpec)

/-- ITS FALSE NEIGHBOUR: 'it returns false'. Refute it at one input. -/
def fnExactFlowCapsOkWrong : ChangeSpec := { name := "fnExactFlowCapsOk", fn := fun _ => fun
  | [d] => { results := [.lit (.bool false)], args := [d] }
  | _ => none }
def FnExactFlowCapsOkWrongFalsely : Prop := fnExactFlowCapsOkRow.holds Try.pinned (OpenSpec.ofChange fnExactFlowCapsOkWrong)

/-- 'laws.FnExactFlowLoad': WHATEVER THE INPUT: true; the input reads as it did. -/
def fnExactFlowLoadSpec : ChangeSpec := { name := "fnExactFlowLoad", fn := fun _ => fun
  | [d1, d2, d3, d4] => { results := [.lit (.bool true)], args := [d1, d2, d3, d4] }
  | _ => none }
def fnExactFlowLoadRow : OpenClaim := { program := "ytciacofibljmoaa", sum := "73dd3e808369f635b80f2306c94def33a256d6d777fd780f328fdf1779b38271", func := "loop.example/lapflow/laws.FnExactFlowLoad", spec := "fnExactFlowLoad", unfollowed := true, recurses := true, apart := false }
def FnExactFlowLoadSaid : Prop := fnExactFlowLoadRow.holds Try.pinned (OpenSpec.ofChange fnExactFlowLoadSpec)

/-- ITS FALSE NEIGHBOUR: 'it returns false'. Refute it at one input. -/
def fnExactFlowLoadWrong : ChangeSpec := { name := "fnExactFlowLoad", fn := fun _ => fun
  | [d1, d2, d3, d4] => { results := [.lit (.bool false)], args := [d1, d2, d3, d4] }
  | _ => none }
def FnExactFlowLoadWrongFalsely : Prop := fnExactFlowLoadRow.holds Try.pinned (OpenSpec.ofChange fnExactFlowLoadWrong)

/-- 'laws.FnExactFlowRuns': WHATEVER THE INPUT: true; the input reads as it did. -/
def fnExactFlowRunsSpec : ChangeSpec := { name := "fnExactFlowRuns", fn := fun _ => fun
  | [d1, d2, d3] => { results := [.lit (.bool true)], args := [d1, d2, d3] }
  | _ => none }
def fnExactFlowRunsRow : OpenClaim := { program := "ytciacofibljmoaa", sum := "73dd3e808369f635b80f2306c94def33a256d6d777fd780f328fdf1779b38271", func := "loop.example/lapflow/laws.FnExactFlowRuns", spec := "fnExactFlowRuns", unfollowed := true, recurses := true, apart := false }
def FnExactFlowRunsSaid : Prop := fnExactFlowRunsRow.holds Try.pinned (OpenSpec.ofChange fnExactFlowRunsSpec)

/-- ITS FALSE NEIGHBOUR: 'it returns false'. Refute it at one input. -/
def fnExactFlowRunsWrong : ChangeSpec := { name := "fnExactFlowRuns", fn := fun _ => fun
  | [d1, d2, d3] => { results := [.lit (.bool false)], args := [d1, d2, d3] }
  | _ => none }
def FnExactFlowRunsWrongFalsely : Prop := fnExactFlowRunsRow.holds Try.pinned (OpenSpec.ofChange fnExactFlowRunsWrong)

/-- 'laws.FnExactFlowFits': WHATEVER THE INPUT: true; the input reads as it did. -/
def fnExactFlowFitsSpec : ChangeSpec := { name := "fnExactFlowFits", fn := fun _ => fun
  | [d1, d2, d3] => { results := [.lit (.bool true)], args := [d1, d2, d3] }
  | _ => none }
def fnExactFlowFitsRow : OpenClaim := { program := "ytciacofibljmoaa", sum := "73dd3e808369f635b80f2306c94def33a256d6d777fd780f328fdf1779b38271", func := "loop.example/lapflow/laws.FnExactFlowFits", spec := "fnExactFlowFits", unfollowed := true, recurses := true, apart := false }
def FnExactFlowFitsSaid : Prop := fnExactFlowFitsRow.holds Try.pinned (OpenSpec.ofChange fnExactFlowFitsSpec)

/-- ITS FALSE NEIGHBOUR: 'it returns false'. Refute it at one input. -/
def fnExactFlowFitsWrong : ChangeSpec := { name := "fnExactFlowFits", fn := fun _ => fun
  | [d1, d2, d3] => { results := [.lit (.bool false)], args := [d1, d2, d3] }
  | _ => none }
def FnExactFlowFitsWrongFalsely : Prop := fnExactFlowFitsRow.holds Try.pinned (OpenSpec.ofChange fnExactFlowFitsWrong)

/- THE SECOND FORM. 'bulk': how many values and letters a reading holds, each counted each time it is reached (what is shared counts as often as it is met; a slice's spare places count too). A statement '..UptoSaid' is the law's where the arguments, and the package variables that the reading takes, are together of bulk at most 1048576: NARROWER than '..Said'. Prove '..Said' where nothing that the law and all that it calls make is longer than what came in: it says more and counts as full. Else prove '..UptoSaid'. A law counts once. -/
mutual
def uptoBulk {H : Type} : DataW H → Nat
  | .lit (.string bytes) => bytes.length + 1
  | .lit _ => 1
  | .nil => 1
  | .ptr d => uptoBulk d + 1
  | .slice elems spare => uptoBulkAll elems + uptoBulkAll spare + 1
  | .agg parts => uptoBulkAll parts + 1
  | .iface _ d => uptoBulk d + 1
  | .map entries => uptoBulkEntries entries + 1
  | .held _ => 1
def uptoBulkAll {H : Type} : List (DataW H) → Nat
  | [] => 0
  | d :: r => uptoBulk d + uptoBulkAll r
def uptoBulkEntries {H : Type} : List (Lit × DataW H) → Nat
  | [] => 0
  | x :: r => uptoBulkEntry x + uptoBulkEntries r
def uptoBulkEntry {H : Type} : Lit × DataW H → Nat
  | (.string bytes, d) => bytes.length + uptoBulk d + 1
  | (_, d) => uptoBulk d + 1
 end
def uptoSmall : (H : Type) → List (DataW H) → Bool := fun _ ds => decide (uptoBulkAll ds ≤ 1048576)
def OpenSpec.upto (s : _root_.Go.ChangeSpec) : _root_.Go.OpenSpec := { _root_.Go.OpenSpec.ofChange s with cond := some uptoSmall }

/-- 'laws.FnLoad', WHERE WHAT IT READS IS OF BULK AT MOST 1048576: true; the input reads as it did. -/
def fnLoadUptoRow : OpenClaim := { program := "ytciacofibljmoaa", sum := "73dd3e808369f635b80f2306c94def33a256d6d777fd780f328fdf1779b38271", func := "loop.example/lapflow/laws.FnLoad", spec := "fnLoad", unfollowed := true, recurses := true, apart := false, narrowed := true }
def FnLoadUptoSaid : Prop := fnLoadUptoRow.holds Try.pinned (OpenSpec.upto fnLoadSpec)

/-- 'laws.FnExactFlowFlightsOk', WHERE WHAT IT READS IS OF BULK AT MOST 1048576: true; the input reads as it did. -/
def fnExactFlowFlightsOkUptoRow : OpenClaim := { program := "ytciacofibljmoaa", sum := "73dd3e808369f635b80f2306c94def33a256d6d777fd780f328fdf1779b38271", func := "loop.example/lapflow/laws.FnExactFlowFlightsOk", spec := "fnExactFlowFlightsOk", unfollowed := true, recurses := true, apart := false, narrowed := true }
def FnExactFlowFlightsOkUptoSaid : Prop := fnExactFlowFlightsOkUptoRow.holds Try.pinned (OpenSpec.upto fnExactFlowFlightsOkSpec)

/-- 'laws.FnExactFlowCapsOk', WHERE WHAT IT READS IS OF BULK AT MOST 1048576: true; the input reads as it did. -/
def fnExactFlowCapsOkUptoRow : OpenClaim := { program := "ytciacofibljmoaa", sum := "73dd3e808369f635b80f2306c94def33a256d6d777fd780f328fdf1779b38271", func := "loop.example/lapflow/laws.FnExactFlowCapsOk", spec := "fnExactFlowCapsOk", unfollowed := true, recurses := true, apart := false, narrowed := true }
def FnExactFlowCapsOkUptoSaid : Prop := fnExactFlowCapsOkUptoRow.holds Try.pinned (OpenSpec.upto fnExactFlowCapsOkSpec)

/-- 'laws.FnExactFlowLoad', WHERE WHAT IT READS IS OF BULK AT MOST 1048576: true; the input reads as it did. -/
def fnExactFlowLoadUptoRow : OpenClaim := { program := "ytciacofibljmoaa", sum := "73dd3e808369f635b80f2306c94def33a256d6d777fd780f328fdf1779b38271", func := "loop.example/lapflow/laws.FnExactFlowLoad", spec := "fnExactFlowLoad", unfollowed := true, recurses := true, apart := false, narrowed := true }
def FnExactFlowLoadUptoSaid : Prop := fnExactFlowLoadUptoRow.holds Try.pinned (OpenSpec.upto fnExactFlowLoadSpec)

/-- 'laws.FnExactFlowRuns', WHERE WHAT IT READS IS OF BULK AT MOST 1048576: true; the input reads as it did. -/
def fnExactFlowRunsUptoRow : OpenClaim := { program := "ytciacofibljmoaa", sum := "73dd3e808369f635b80f2306c94def33a256d6d777fd780f328fdf1779b38271", func := "loop.example/lapflow/laws.FnExactFlowRuns", spec := "fnExactFlowRuns", unfollowed := true, recurses := true, apart := false, narrowed := true }
def FnExactFlowRunsUptoSaid : Prop := fnExactFlowRunsUptoRow.holds Try.pinned (OpenSpec.upto fnExactFlowRunsSpec)

/-- 'laws.FnExactFlowFits', WHERE WHAT IT READS IS OF BULK AT MOST 1048576: true; the input reads as it did. -/
def fnExactFlowFitsUptoRow : OpenClaim := { program := "ytciacofibljmoaa", sum := "73dd3e808369f635b80f2306c94def33a256d6d777fd780f328fdf1779b38271", func := "loop.example/lapflow/laws.FnExactFlowFits", spec := "fnExactFlowFits", unfollowed := true, recurses := true, apart := false, narrowed := true }
def FnExactFlowFitsUptoSaid : Prop := fnExactFlowFitsUptoRow.holds Try.pinned (OpenSpec.upto fnExactFlowFitsSpec)

end Rows
end Go.Proofs.Ytciacofibljmoaa
