/- Where a name stands, the document's way. -/
import Derived.Test.YtciacofibljmoaaGreatDoorPlace
import Derived.Test.YtciacofibljmoaaGreatDoorStable
import Derived.Test.YtciacofibljmoaaGreatDoorDocs
import Derived.Test.YtciacofibljmoaaGreatDoorRounds
namespace Go.Proofs.YtciacofibljmoaaGreatDoor
open Go.RowKit

def atV (fs : List Fli) (nm : ByteArray) : Int := if thereB fs nm = true then (placeV fs nm : Int) else -1
theorem at_hit {fs : List Fli} {nm : ByteArray} (ho : InOrder fs) {k : Nat} (hk : k < fs.length) (he : fs[k].1.toList = nm.toList) : atV fs nm = k := by
  have h1 : thereB fs nm = true := List.any_eq_true.2 ⟨fs[k], List.getElem_mem _, by simp [he]⟩
  have h2 : placeV fs nm = k := place_is ho (by omega) (fun i hi hlt => by
    have := List.pairwise_iff_getElem.1 ho i k hi hk hlt
    rw [he] at this
    exact this) (fun _ => by rw [he]; exact List.lt_irrefl _)
  unfold atV
  rw [if_pos h1, h2]
theorem at_miss {fs : List Fli} {nm : ByteArray} (h : ∀ j (hj : j < fs.length), fs[j].1.toList ≠ nm.toList) : atV fs nm = -1 := by
  unfold atV
  rw [if_neg]
  intro ht
  obtain ⟨f, hf, he⟩ := List.any_eq_true.1 ht
  obtain ⟨i, hi, rfl⟩ := List.getElem_of_mem hf
  exact h i hi (by simpa using he)

set_option maxRecDepth 100000 in
set_option maxHeartbeats 800000 in
theorem l4At_any (ac a a' : Option Addr) (capc cap cap' : Nat) (cs : List (ByteArray × Int)) (fs : List Fli) (ss : List Int) (nm : ByteArray) (w : World) (hc : FlightsIn w a fs) (hl : fs.length ≤ 1048576) (ho : InOrder fs) :
    Calls Tryz.prog 26 #[bkV ac a a' capc cap cap' cs fs ss, .string nm] w fun e w' => e = .returned (.int .i64 (atV fs nm)) ∧ Below w.heap.size w w' := by
  have HC := hide hc
  have HO := hide ho
  clear hc ho
  obtain ⟨W, hW, x0, x1, x2, hWb⟩ := alloc3 w (.slice ac cs.length capc) (.slice a fs.length cap) (.slice a' ss.length cap') 29
  have HW := hide hW
  have WB := hide hWb
  clear hW hWb
  go_enter Tryz.func26, Tryz.ntmps26
  go_wp2_with fail
  rw [HW.out]
  go_loopw [5] (fun i wr => ∃ (k : Nat), k ≤ fs.length ∧ i = .int .i64 k ∧ Hid (∀ j (hj : j < fs.length), j < k → fs[j].1.toList ≠ nm.toList) ∧ wr = W) (fun i _ => fs.length - (intOf i).toNat)
  case atStart => exact ⟨0, Nat.zero_le _, rfl, fun j _ h => absurd h (by omega), rfl⟩
  case round =>
    obtain ⟨k, hk, rfl, HK, rfl⟩ := hrel
    by_cases hlt : k < fs.length
    · have k0 : (0 : Int) ≤ (k : Int) := by omega
      have k1 : (k : Int) < (fs.length : Int) := by omega
      obtain ⟨b, off, rfl, hblt, c0, -⟩ := (HC.out.later WB.out) k hlt
      by_cases he : fs[k].1.toList = nm.toList
      · have HE := hide (at_hit HO.out hlt he)
        generalize fs[k].1 = s at c0 he
        have he' : (s.toList == nm.toList) = true := by simpa using he
        clear he
        go_wp2
        go_ret
        exact ⟨by rw [HE.out]; rfl, WB.out⟩
      · generalize hs : fs[k].1 = s at c0
        have HN : Hid (∀ j (hj : j < fs.length), j < k + 1 → fs[j].1.toList ≠ nm.toList) := fun j hj hjk => by
          by_cases hj' : j < k
          · exact HK.out j hj hj'
          · obtain rfl : j = k := by omega
            exact he
        rw [hs] at he
        have he' : (s.toList == nm.toList) = false := by simpa using he
        clear hs he
        go_wp2
        go_roundw
        case rel => exact ⟨k + 1, by omega, by go_num, HN, trivial⟩
        case measure => simp [intOf]; omega
    · have k1 : (fs.length : Int) ≤ (k : Int) := by omega
      have HE := hide (at_miss (fun j hj => HK.out j hj (by omega)))
      go_wp2
      go_ret
      exact ⟨by rw [HE.out]; rfl, WB.out⟩
end Go.Proofs.YtciacofibljmoaaGreatDoor

/- FlowCompress, the document's way, walked. -/
namespace Go.Proofs.YtciacofibljmoaaGreatDoor
open Go.RowKit

theorem own_nil {w : World} {base : Nat} {t : TypeId} {sz n c : Nat} {xs : List Value} (h : w.ownsRow base t sz (.slice none n c) n xs) : c = 0 := by
  rcases h.2 with ⟨h0, _⟩ | ⟨g, cap, cur, e, _⟩
  · simp at h0; exact h0.2
  · simp at e

end Go.Proofs.YtciacofibljmoaaGreatDoor
