/- The law of giving, walked through. -/
import Derived.Test.YtciacofibljmoaaGreatDoorImplGive
import Derived.Test.YtciacofibljmoaaGreatDoorDrawsC
import Derived.Test.YtciacofibljmoaaGreatDoorOpensB
namespace Go.Proofs.YtciacofibljmoaaGreatDoor
open Go.RowKit

attribute [local go_sem ↓] Go.wp_at_zero Go.wp_at_succ

set_option maxHeartbeats 800000 in
theorem wInts_same (a a' : Option Addr) (cap cap' : Nat) (zs : List Int) (w : World) (hc : IntsIn w a zs) (hc' : IntsIn w a' zs) (hl : zs.length ≤ 1048576) :
    Calls Tryz.prog 29 #[.slice a zs.length cap, .slice a' zs.length cap'] w fun e w' => e = .returned (.bool true) ∧ Below w.heap.size w w' := by
  go_enter Tryz.func29, Tryz.ntmps29
  go_wp2
  go_loopw [5] (fun i wr => ∃ (k : Nat), k ≤ zs.length ∧ i = .int .i64 k ∧ Below w.heap.size w wr) (fun i _ => zs.length - (RowKit.intOf i).toNat)
  case atStart => exact ⟨0, Nat.zero_le _, rfl, Below.refl _ _⟩
  case round =>
    obtain ⟨k, hk, rfl, hbw⟩ := hrel
    by_cases hlt : k < zs.length
    · obtain ⟨b, off, rfl, hblt, e0⟩ := hc.later hbw k hlt
      obtain ⟨b', off', rfl, hblt', e0'⟩ := hc'.later hbw k hlt
      clear hc hc'
      generalize zs[k] = c at e0 e0'
      have k0 : (0 : Int) ≤ (k : Int) := by omega
      have k1 : (k : Int) < (zs.length : Int) := by omega
      go_wp2
      go_quiet (fail)
      go_wp2
      go_roundw
      case rel => exact ⟨k + 1, by omega, by go_num, below_drewN hbw _⟩
      case measure => simp [RowKit.intOf]; omega
    · go_wp2
      go_ret
      exact ⟨rfl, hbw⟩

theorem implFits_at (ac a a' : Option Addr) (capc cap cap' : Nat) (cs : List (ByteArray × Int)) (fs : List Fli) (ss : List Int) (n : Nat) (hn : ss.length = n) (q : Bool) (hq : fitsB cs fs ss = q) (w : World) (hcc : CapsIn w ac cs) (hc : FlightsIn w a fs) (hc' : IntsIn w a' ss) (hlc : cs.length ≤ 1048576) (hl : fs.length ≤ 1048576) (hl' : ss.length ≤ 1048576)
    (hsc : ∀ c ∈ cs, c.1.size ≤ maxLen) (hvl : ∀ f ∈ fs, f.2.2.2.length ≤ 1048576) (hs : ∀ f ∈ fs, SizesOk f) :
    Calls Tryz.prog 35 #[.slice ac cs.length capc, .slice a fs.length cap, .slice a' n cap'] w fun e w' => e = .returned (.bool q) ∧ Below w.heap.size w w' := by
  subst hn hq
  exact implFits_any ac a a' capc cap cap' cs fs ss w hcc hc hc' hlc hl hl' hsc hvl hs
theorem ints_set {w : World} {a : Option Addr} {zs : List Int} (h : IntsIn w a zs) (g k : Nat) (u : Value) (hne : ∀ p, a = some p → p.block ≠ g) : IntsIn (w.setCell ⟨g, k, none⟩ u) a zs := fun q hq => by
  obtain ⟨b, off, rfl, h9, c9⟩ := h q hq
  refine ⟨b, off, rfl, by simpa using h9, ?_⟩
  rw [World.cell?_of_block (w := w) (Below.heap_setCell _ _ _ _ (hne _ rfl))]
  exact c9

theorem giveV_len8 (cs : List (ByteArray × Int)) (fs : List Fli) : (giveV cs fs).length ≤ fs.length := by
  unfold giveV
  split
  · rw [giveTo_len]; exact Nat.le_refl _
  · simp

end Go.Proofs.YtciacofibljmoaaGreatDoor
