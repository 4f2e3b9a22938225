/- Whether nobody can come ahead alone: the program's and the document's way, walked. -/
import Derived.Test.YtciacofibljmoaaGreatDoorBook
import Derived.Test.YtciacofibljmoaaGreatDoorImplGive
import Derived.Test.YtciacofibljmoaaGreatDoorMathsC
namespace Go.Proofs.YtciacofibljmoaaGreatDoor
open Go.RowKit

def stableAt (cs : List (ByteArray × Int)) (fs : List Fli) (ss : List Int) (i : Nat) : Bool := decide (leastV cs fs ss i = ss.getD i 0)
def stableB (cs : List (ByteArray × Int)) (fs : List Fli) (ss : List Int) : Bool := fitsB cs fs ss && (List.range fs.length).all (stableAt cs fs ss)

theorem l3Least_val (ac a a' : Option Addr) (capc cap cap' : Nat) (cs : List (ByteArray × Int)) (fs : List Fli) (ss : List Int) (i : Nat) (q : Int) (hq : leastV cs fs ss i = q) (w : World) (hcc : CapsIn w ac cs) (hc : FlightsIn w a fs) (hc' : IntsIn w a' ss) (hlc : cs.length ≤ 1048576) (hl : fs.length ≤ 1048576) (hln : ss.length = fs.length)
    (hsc : ∀ c ∈ cs, c.1.size ≤ maxLen) (hvl : ∀ f ∈ fs, f.2.2.2.length ≤ 1048576) (hs : ∀ f ∈ fs, SizesOk f) (hi' : i < fs.length) (hb : flisB fs = true) :
    Calls Tryz.prog 34 #[.slice ac cs.length capc, .slice a fs.length cap, .slice a' ss.length cap', .int .i64 (i : Nat)] w fun e w' => e = .returned (.int .i64 q) ∧ Below w.heap.size w w' := by
  subst hq
  exact l3Least_at ac a a' capc cap cap' cs fs ss _ rfl i w hcc hc hc' hlc hl hln hsc hvl hs hi' hb
theorem implLeast_val (ac a a' : Option Addr) (capc cap cap' : Nat) (cs : List (ByteArray × Int)) (fs : List Fli) (ss : List Int) (i : Nat) (q : Int) (hq : leastV cs fs ss i = q) (w : World) (hcc : CapsIn w ac cs) (hc : FlightsIn w a fs) (hc' : IntsIn w a' ss) (hm : BookSm cs fs ss) (hfit : fitsB cs fs ss = true) (hi : i < fs.length) :
    Calls Tryz.prog 31 #[.slice ac cs.length capc, .slice a fs.length cap, .slice a' ss.length cap', .int .i64 (i : Nat)] w fun e w' => e = .returned (.int .i64 q) ∧ Below w.heap.size w w' := by
  subst hq
  exact implLeast_at ac a a' capc cap cap' cs fs ss _ rfl i w hcc hc hc' hm.nc hm.nf hm.ns hm.sc hm.vl hm.sf hfit hi

set_option maxRecDepth 100000 in
set_option maxHeartbeats 1600000 in
theorem implStable_any (ac a a' : Option Addr) (capc cap cap' : Nat) (cs : List (ByteArray × Int)) (fs : List Fli) (ss : List Int) (w : World) (hb : BookIn w ac a a' cs fs ss) (hm : BookSm cs fs ss) :
    Calls Tryz.prog 10 #[bkV ac a a' capc cap cap' cs fs ss] w fun e w' => e = .returned (.bool (stableB cs fs ss)) ∧ Below w.heap.size w w' := by
  have HB := hide hb
  have HM := hide hm
  have hnf := hm.nf
  have hns := hm.ns
  clear hb hm
  obtain ⟨W, hW, x0, x1, x2, hWb⟩ := alloc3 w (.slice ac cs.length capc) (.slice a fs.length cap) (.slice a' ss.length cap') 29
  have HW := hide hW
  have WB := hide hWb
  clear hW hWb
  cases hq : fitsB cs fs ss
  · have HQ := hide hq
    have HR : Hid (stableB cs fs ss = false) := by show _ = _; unfold stableB; rw [hq]; rfl
    clear hq
    go_enter Tryz.func10, Tryz.ntmps10
    go_wp2_with fail
    rw [HW.out]
    refine (implBookOk_val ac a a' capc cap cap' cs fs ss _ HQ.out W (HB.out.later WB.out) HM.out).mono ?_
    rintro e w1 ⟨rfl, hb1⟩
    have B1 := hide (below_two WB.out hb1)
    clear hb1 x0 x1 x2
    go_wp2
    go_ret
    exact ⟨by rw [HR.out]; rfl, B1.out⟩
  · have HQ := hide hq
    have hln := fits_len hq
    have HR : Hid (stableB cs fs ss = (List.range ss.length).all (stableAt cs fs ss)) := by show _ = _; unfold stableB; rw [hq, hln]; rfl
    have hln1 : ss.length ≤ fs.length := by omega
    have HLN := hide hln
    clear hq hln
    have HX0 := hide x0
    have HX1 := hide x1
    have HX2 := hide x2
    go_enter Tryz.func10, Tryz.ntmps10
    go_wp2_with fail
    rw [HW.out]
    refine (implBookOk_val ac a a' capc cap cap' cs fs ss _ HQ.out W (HB.out.later WB.out) HM.out).mono ?_
    rintro e w1 ⟨rfl, hb1⟩
    have B1 := hide hb1
    have y2 := cell_later hb1 x2
    clear hb1 x0 x1 x2
    go_wp2
    go_loopw [11] (fun i wr => ∃ (k : Nat), k ≤ ss.length ∧ i = .int .i64 k ∧ Hid ((List.range k).all (stableAt cs fs ss) = true) ∧ Hid (Below W.heap.size W wr)) (fun i _ => ss.length - (intOf i).toNat)
    case atStart => exact ⟨0, Nat.zero_le _, rfl, rfl, B1.out⟩
    case round =>
      obtain ⟨k, hk, rfl, HK, HBW⟩ := hrel
      clear y2
      by_cases hlt : k < ss.length
      · have hlt2 : k < fs.length := by omega
        have x0 := cell_later HBW.out HX0.out
        have x1 := cell_later HBW.out HX1.out
        have x2 := cell_later HBW.out HX2.out
        have BK := hide ((HB.out.later WB.out).later HBW.out)
        obtain ⟨b', off', rfl, hblt', s0⟩ := BK.out.ints k hlt
        have HA : Hid (stableAt cs fs ss k = decide (leastV cs fs ss k = ss[k])) := by show _ = _; unfold stableAt; rw [getD_at ss k _ hlt]
        have k0 : (0 : Int) ≤ (k : Int) := by omega
        have k1 : (k : Int) < (fs.length : Int) := by omega
        have k2 : (k : Int) < (ss.length : Int) := by omega
        generalize hlv : leastV cs fs ss k = q at HA
        have HLV := hide hlv
        clear hlv
        generalize ss[k] = z at s0 HA
        by_cases hz : q = z
        · have hzz : (z != q) = false := by rw [hz]; simp
          have HX : Hid (stableAt cs fs ss k = true) := by show _ = _; rw [HA.out, decide_eq_true hz]
          clear HA
          have HZ := hide hz
          clear hz
          go_wp2_with fail
          refine (implLeast_val ac a _ capc cap cap' cs fs ss k _ HLV.out wr BK.out.caps BK.out.fl BK.out.ints HM.out HQ.out hlt2).mono ?_
          rintro e w2 ⟨rfl, hb2⟩
          have B2 := hide (below_two HBW.out hb2)
          clear hb2 x0 x1 x2 s0
          go_wp2
          go_roundw
          case rel => exact ⟨k + 1, by omega, by go_num, all_succ HK.out HX.out, B2.out⟩
          case measure => simp [intOf]; omega
        · have hzz : (z != q) = true := by rw [bne_iff_ne]; exact fun hh => hz hh.symm
          have HX : Hid (stableAt cs fs ss k = false) := by show _ = _; rw [HA.out, decide_eq_false hz]
          clear HA hz
          go_wp2_with fail
          refine (implLeast_val ac a _ capc cap cap' cs fs ss k _ HLV.out wr BK.out.caps BK.out.fl BK.out.ints HM.out HQ.out hlt2).mono ?_
          rintro e w2 ⟨rfl, hb2⟩
          have B2 := hide (below_two HBW.out hb2)
          clear hb2 x0 x1 x2 s0
          go_wp2
          go_ret
          exact ⟨by rw [HR.out]; exact congrArg (fun b => Ending.returned (.bool b)) (all_bad hlt HX.out).symm, below_two WB.out B2.out⟩
      · go_wp2
        go_ret
        have : k = ss.length := by omega
        subst this
        exact ⟨by rw [HR.out, HK.out]; rfl, below_two WB.out HBW.out⟩

end Go.Proofs.YtciacofibljmoaaGreatDoor
