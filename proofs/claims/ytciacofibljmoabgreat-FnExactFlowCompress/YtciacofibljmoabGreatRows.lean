/-
  No cell of these rows narrows 'for every input' (looked for: loops, veiled, ifaces, maps, wideKeys, modest, calm, conditions, laid).
  DERIVED. THE GIVEN ROWS OF THIS SEAT. 2 by the template 'for every input the law returns true; each argument reads behind the call as it read before'; 0 by the template 'total and deterministic' (their statements: YtciacofibljmoabGreatTotals.lean).
  GIVEN WITH THE SEED: the statements are not yours to turn. If you find one false, say at which input.
  Laid BY PROGRAM, IN A SANDBOX (cutbox-rows.mjs): the forced cells as the released guide's own fill.sh prints them over the translation 9f3eb2b8fa9958bf… (all of the seat's roots in one cut). By AI agents, Wed Nov 11 2026. No macro, syntax, notation, axiom, sorry.
-/
import Derived.Test.YtciacofibljmoabGreatChecked
import GoSem.Claim
import GoSem.ClaimJoined
import GoSem.ClaimMapViews
import Derived.JoinedTies
import Derived.KernelRfl
namespace Go.Proofs.YtciacofibljmoabGreat
/- THE CELL 'sum', in the pinned program and in every row, IS THE sha256 OF THE DUMP (.gsa) THAT YtciacofibljmoabGreatProg.lean LOADS. Nothing in Lean hashes anything: it is a label: what it is worth is what the hold of that sum in a sandbox is worth. -/
noncomputable def Tryz.pinned : Pinned := { name := "ytciacofibljmoabgreat", sum := "9f3eb2b8fa9958bf83f0efd20e41965fdf9f9dbc677760233e36a29ad882c4d2", checked := Tryz.checked }
namespace Rows
def none {H : Type} : Left H := { results := [], args := [] }

/-- 'laws.FnExactFlowGive': WHATEVER THE INPUT: true; the input reads as it did. -/
def fnExactFlowGiveSpec : ChangeSpec := { name := "fnExactFlowGive", fn := fun _ => fun
  | [d1, d2] => { results := [.lit (.bool true)], args := [d1, d2] }
  | _ => none }
def fnExactFlowGiveRow : OpenClaim := { program := "ytciacofibljmoabgreat", sum := "9f3eb2b8fa9958bf83f0efd20e41965fdf9f9dbc677760233e36a29ad882c4d2", func := "loop.example/lapflow/laws.FnExactFlowGive", spec := "fnExactFlowGive", unfollowed := true, recurses := true, apart := false }
def FnExactFlowGiveSaid : Prop := fnExactFlowGiveRow.holds Tryz.pinned (OpenSpec.ofChange fnExactFlowGiveSpec)

/-- ITS FALSE NEIGHBOUR: 'it returns false'. Refute it at one input. -/
def fnExactFlowGiveWrong : ChangeSpec := { name := "fnExactFlowGive", fn := fun _ => fun
  | [d1, d2] => { results := [.lit (.bool false)], args := [d1, d2] }
  | _ => none }
def FnExactFlowGiveWrongFalsely : Prop := fnExactFlowGiveRow.holds Tryz.pinned (OpenSpec.ofChange fnExactFlowGiveWrong)

/-- 'laws.FnExactFlowCompress': WHATEVER THE INPUT: true; the input reads as it did. -/
def fnExactFlowCompressSpec : ChangeSpec := { name := "fnExactFlowCompress", fn := fun _ => fun
  | [d] => { results := [.lit (.bool true)], args := [d] }
  | _ => none }
def fnExactFlowCompressRow : OpenClaim := { program := "ytciacofibljmoabgreat", sum := "9f3eb2b8fa9958bf83f0efd20e41965fdf9f9dbc677760233e36a29ad882c4d2", func := "loop.example/lapflow/laws.FnExactFlowCompress", spec := "fnExactFlowCompress", unfollowed := true, recurses := true, apart := false }
def FnExactFlowCompressSaid : Prop := fnExactFlowCompressRow.holds Tryz.pinned (OpenSpec.ofChange fnExactFlowCompressSpec)

/-- ITS FALSE NEIGHBOUR: 'it returns false'. Refute it at one input. -/
def fnExactFlowCompressWrong : ChangeSpec := { name := "fnExactFlowCompress", fn := fun _ => fun
  | [d] => { results := [.lit (.bool false)], args := [d] }
  | _ => none }
def FnExactFlowCompressWrongFalsely : Prop := fnExactFlowCompressRow.holds Tryz.pinned (OpenSpec.ofChange fnExactFlowCompressWrong)

/- THE SECOND FORM. 'bulk': how many values and letters a reading holds, each counted each time it is reached (what is shared counts as often as it is met; a slice's spare places count too). A statement '..UptoSaid' is the law's where the arguments, and the package variables that the reading takes, are together of bulk at most 1048576: NARROWER than '..Said'. Prove '..Said' where nothing that the law and all that it calls make is longer than what came in: it says more and counts as full. Else prove '..UptoSaid'. A law counts once. -/
mutual
def uptoBulk {H : Type} : DataW H → Nat
  | .lit (.string bytes) => bytes.length + 1
  | .lit _ => 1
  | .nil => 1
  | .ptr d => uptoBulk d + 1
  | .slice elems spare => uptoBulkAll elems + uptoBulkAll spare + 1
  | .agg parts => uptoBulkAll parts + 1
  | .iface _ d => uptoBulk d + 1
  | .map entries => uptoBulkEntries entries + 1
  | .held _ => 1
def uptoBulkAll {H : Type} : List (DataW H) → Nat
  | [] => 0
  | d :: r => uptoBulk d + uptoBulkAll r
def uptoBulkEntries {H : Type} : List (Lit × DataW H) → Nat
  | [] => 0
  | x :: r => uptoBulkEntry x + uptoBulkEntries r
def uptoBulkEntry {H : Type} : Lit × DataW H → Nat
  | (.string bytes, d) => bytes.length + uptoBulk d + 1
  | (_, d) => uptoBulk d + 1
 end
def uptoSmall : (H : Type) → List (DataW H) → Bool := fun _ ds => decide (uptoBulkAll ds ≤ 1048576)
def OpenSpec.upto (s : _root_.Go.ChangeSpec) : _root_.Go.OpenSpec := { _root_.Go.OpenSpec.ofChange s with cond := some uptoSmall }

/-- 'laws.FnExactFlowGive', WHERE WHAT IT READS IS OF BULK AT MOST 1048576: true; the input reads as it did. -/
def fnExactFlowGiveUptoRow : OpenClaim := { program := "ytciacofibljmoabgreat", sum := "9f3eb2b8fa9958bf83f0efd20e41965fdf9f9dbc677760233e36a29ad882c4d2", func := "loop.example/lapflow/laws.FnExactFlowGive", spec := "fnExactFlowGive", unfollowed := true, recurses := true, apart := false, narrowed := true }
def FnExactFlowGiveUptoSaid : Prop := fnExactFlowGiveUptoRow.holds Tryz.pinned (OpenSpec.upto fnExactFlowGiveSpec)

/-- 'laws.FnExactFlowCompress', WHERE WHAT IT READS IS OF BULK AT MOST 1048576: true; the input reads as it did. -/
def fnExactFlowCompressUptoRow : OpenClaim := { program := "ytciacofibljmoabgreat", sum := "9f3eb2b8fa9958bf83f0efd20e41965fdf9f9dbc677760233e36a29ad882c4d2", func := "loop.example/lapflow/laws.FnExactFlowCompress", spec := "fnExactFlowCompress", unfollowed := true, recurses := true, apart := false, narrowed := true }
def FnExactFlowCompressUptoSaid : Prop := fnExactFlowCompressUptoRow.holds Tryz.pinned (OpenSpec.upto fnExactFlowCompressSpec)

end Rows
end Go.Proofs.YtciacofibljmoabGreat
