/- Slots by who is planned first: the program's own way, walked. -/
import Derived.Test.YtciacofibljmoaaGreatDoorImplLeast
import Derived.Test.YtciacofibljmoaaGreatDoorLaysB
import Derived.Test.YtciacofibljmoaaGreatDoorRepeat
import Derived.Test.YtciacofibljmoaaGreatDoorMaths
namespace Go.Proofs.YtciacofibljmoaaGreatDoor
open Go.RowKit

attribute [local go_sem ↓] Go.wp_at_zero Go.wp_at_succ

theorem implLeast_at (ac a a' : Option Addr) (capc cap cap' : Nat) (cs : List (ByteArray × Int)) (fs : List Fli) (ss : List Int) (n : Nat) (hn : ss.length = n) (i : Nat) (w : World) (hcc : CapsIn w ac cs) (hc : FlightsIn w a fs) (hc' : IntsIn w a' ss) (hlc : cs.length ≤ 1048576) (hl : fs.length ≤ 1048576) (hl' : ss.length ≤ 1048576)
    (hsc : ∀ c ∈ cs, c.1.size ≤ maxLen) (hvl : ∀ f ∈ fs, f.2.2.2.length ≤ 1048576) (hs : ∀ f ∈ fs, SizesOk f) (hfit : fitsB cs fs ss = true) (hi : i < fs.length) :
    Calls Tryz.prog 31 #[.slice ac cs.length capc, .slice a fs.length cap, .slice a' n cap', .int .i64 (i : Nat)] w fun e w' => e = .returned (.int .i64 (leastV cs fs ss i)) ∧ Below w.heap.size w w' := by
  subst hn
  exact implLeast_ok ac a a' capc cap cap' cs fs ss i w hcc hc hc' hlc hl hl' hsc hvl hs hfit hi
theorem own_nilI (w : World) (base : Nat) : OwnI w base (.slice none 0 0) [] := World.ownsRow_nil _ _ _ _

end Go.Proofs.YtciacofibljmoaaGreatDoor
