/- Whether nobody can come ahead alone: the program's and the document's way, walked. -/
import Derived.Test.YtciacofibljmoabGreatDoorBook
import Derived.Test.YtciacofibljmoabGreatDoorImplGive
import Derived.Test.YtciacofibljmoabGreatDoorCompMath
namespace Go.Proofs.YtciacofibljmoabGreatDoor
open Go.RowKit

def stableAt (cs : List (ByteArray × Int)) (fs : List Fli) (ss : List Int) (i : Nat) : Bool := decide (leastV cs fs ss i = ss.getD i 0)
def stableB (cs : List (ByteArray × Int)) (fs : List Fli) (ss : List Int) : Bool := fitsB cs fs ss && (List.range fs.length).all (stableAt cs fs ss)

theorem l3Least_val (ac a a' : Option Addr) (capc cap cap' : Nat) (cs : List (ByteArray × Int)) (fs : List Fli) (ss : List Int) (i : Nat) (q : Int) (hq : leastV cs fs ss i = q) (w : World) (hcc : CapsIn w ac cs) (hc : FlightsIn w a fs) (hc' : IntsIn w a' ss) (hlc : cs.length ≤ 1048576) (hl : fs.length ≤ 1048576) (hln : ss.length = fs.length)
    (hsc : ∀ c ∈ cs, c.1.size ≤ maxLen) (hvl : ∀ f ∈ fs, f.2.2.2.length ≤ 1048576) (hs : ∀ f ∈ fs, SizesOk f) (hi' : i < fs.length) (hb : flisB fs = true) :
    Calls Tryz.prog 27 #[.slice ac cs.length capc, .slice a fs.length cap, .slice a' ss.length cap', .int .i64 (i : Nat)] w fun e w' => e = .returned (.int .i64 q) ∧ Below w.heap.size w w' := by
  subst hq
  exact l3Least_at ac a a' capc cap cap' cs fs ss _ rfl i w hcc hc hc' hlc hl hln hsc hvl hs hi' hb
theorem implLeast_val (ac a a' : Option Addr) (capc cap cap' : Nat) (cs : List (ByteArray × Int)) (fs : List Fli) (ss : List Int) (i : Nat) (q : Int) (hq : leastV cs fs ss i = q) (w : World) (hcc : CapsIn w ac cs) (hc : FlightsIn w a fs) (hc' : IntsIn w a' ss) (hm : BookSm cs fs ss) (hfit : fitsB cs fs ss = true) (hi : i < fs.length) :
    Calls Tryz.prog 144 #[.slice ac cs.length capc, .slice a fs.length cap, .slice a' ss.length cap', .int .i64 (i : Nat)] w fun e w' => e = .returned (.int .i64 q) ∧ Below w.heap.size w w' := by
  subst hq
  exact implLeast_at ac a a' capc cap cap' cs fs ss _ rfl i w hcc hc hc' hm.nc hm.nf hm.ns hm.sc hm.vl hm.sf hfit hi

end Go.Proofs.YtciacofibljmoabGreatDoor
