/- The document's reading of caps that are ok, walked. -/
import Derived.Test.YtciacofibljmoaaGreatDoorLeafEq
import Derived.BigQuiet
import Derived.Deep.QuietTactic
namespace Go.Proofs.YtciacofibljmoaaGreatDoor
open Go.RowKit

/-- Texts byte by byte: the first is ahead. -/
def ahead (s t : ByteArray) : Bool := Op.bytesLess s.toList t.toList
/-- The cap at a place is ok, and behind the one ahead of it. -/
def capOkAt (cs : List (ByteArray × Int)) (i : Nat) : Bool :=
  nameB (cs.getD i (ByteArray.empty, 0)).1 && (decide (i = 0) || ahead (cs.getD (i - 1) (ByteArray.empty, 0)).1 (cs.getD i (ByteArray.empty, 0)).1) && inB (cs.getD i (ByteArray.empty, 0)).2 0 20
def capsTo (cs : List (ByteArray × Int)) (k : Nat) : Bool := (List.range k).all (capOkAt cs)
def capsB (cs : List (ByteArray × Int)) : Bool := decide (cs.length ≤ 6) && capsTo cs cs.length

theorem capsTo_zero (cs : List (ByteArray × Int)) : capsTo cs 0 = true := rfl
theorem capsTo_succ (cs : List (ByteArray × Int)) (k : Nat) (h : capsTo cs k = true) (h2 : capOkAt cs k = true) : capsTo cs (k + 1) = true := by
  unfold capsTo at *
  rw [List.range_succ, List.all_append, h]
  simp [h2]
theorem capsTo_bad (cs : List (ByteArray × Int)) (k n : Nat) (hk : k < n) (h2 : capOkAt cs k = false) : capsTo cs n = false := by
  unfold capsTo
  rw [List.all_eq_false]
  exact ⟨k, List.mem_range.2 hk, by simp [h2]⟩
theorem getD_at {α : Type} (l : List α) (i : Nat) (d : α) (h : i < l.length) : l.getD i d = l[i] := by simp [List.getD, List.getElem?_eq_getElem h]

set_option maxHeartbeats 800000 in
theorem specCapsOk_any (a : Option Addr) (cap : Nat) (cs : List (ByteArray × Int)) (w : World) (hc : CapsIn w a cs) (hl : cs.length ≤ 1048576) (hs : ∀ c ∈ cs, c.1.size ≤ maxLen) :
    Calls Tryz.prog 65 #[.slice a cs.length cap] w fun e w' => e = .returned (.bool (capsB cs)) ∧ Below w.heap.size w w' := by
  by_cases h6 : (6 : Int) < (cs.length : Int)
  · go_enter Tryz.func65, Tryz.ntmps65
    go_wp2
    go_ret
    have : decide (cs.length ≤ 6) = false := decide_eq_false (by omega)
    exact ⟨by simp [capsB, this], Below.refl _ _⟩
  · have d6 : decide (cs.length ≤ 6) = true := decide_eq_true (by omega)
    have D : Hid (capsB cs = capsTo cs cs.length) := by show _ = _; simp [capsB, d6]
    clear d6
    go_enter Tryz.func65, Tryz.ntmps65
    go_wp2
    go_loopw [3] (fun i wr => ∃ (k : Nat), k ≤ cs.length ∧ i = .int .i64 k ∧ Hid (capsTo cs k = true) ∧ Below w.heap.size w wr) (fun i _ => cs.length - (intOf i).toNat)
    case atStart => exact ⟨0, Nat.zero_le _, rfl, rfl, Below.refl _ _⟩
    case round =>
      obtain ⟨k, hk, rfl, HK, hbw⟩ := hrel
      by_cases hlt : k < cs.length
      · obtain ⟨b, off, rfl, hblt, e0, e1⟩ := hc.later hbw k hlt
        have hsz := hs _ (List.getElem_mem hlt)
        have k0 : (0 : Int) ≤ (k : Int) := by omega
        have k1 : (k : Int) < (cs.length : Int) := by omega
        have HC : Hid (CapsIn w (some ⟨b, off, none⟩) cs) := hc
        have HA : Hid (capOkAt cs k = (nameB cs[k].1 && (decide (k = 0) || ahead (cs.getD (k - 1) (ByteArray.empty, 0)).1 cs[k].1) && inB cs[k].2 0 20)) := by
          show _ = _
          unfold capOkAt
          rw [getD_at cs k _ hlt]
        clear hc hs
        generalize cs[k] = c at e0 e1 hsz HA
        cases hn : nameB c.1
        · have HN : Hid (∀ u : World, Calls Tryz.prog 50 #[.string c.1] u fun e w' => e = .returned (.bool false) ∧ w' = u) := fun u => by rw [← hn]; exact l1NameOk_any _ _ hsz
          have HF : Hid (capOkAt cs k = false) := by show _ = _; rw [HA.out, hn]; rfl
          clear hn
          go_wp2
          go_quiet (((go_at_call 50; exact Calls.quiet_of_same (HN.out _))))
          go_wp2
          go_ret
          exact ⟨by rw [D.out, capsTo_bad cs _ _ hlt HF.out]; rfl, below_drewN hbw _⟩
        · have HN : Hid (∀ u : World, Calls Tryz.prog 50 #[.string c.1] u fun e w' => e = .returned (.bool true) ∧ w' = u) := fun u => by rw [← hn]; exact l1NameOk_any _ _ hsz
          cases k with
          | zero =>
            simp only [Nat.zero_mul, Nat.add_zero] at e0 e1
            cases hi : inB c.2 0 20
            · have HI : Hid (∀ u : World, Calls Tryz.prog 51 #[.int .i64 c.2, .int .i64 0, .int .i64 20] u fun e w' => e = .returned (.bool false) ∧ w' = u) := fun u => by rw [← hi]; exact l1In_any _ _ _ _
              have HF : Hid (capOkAt cs 0 = false) := by show _ = _; rw [HA.out, hi]; simp
              clear hn hi
              go_wp2
              go_quiet ((first | (go_at_call 50; exact Calls.quiet_of_same (HN.out _)) | (go_at_call 51; exact Calls.quiet_of_same (HI.out _))))
              go_wp2
              go_ret
              exact ⟨by rw [D.out, capsTo_bad cs _ _ hlt HF.out]; rfl, below_drewN hbw _⟩
            · have HI : Hid (∀ u : World, Calls Tryz.prog 51 #[.int .i64 c.2, .int .i64 0, .int .i64 20] u fun e w' => e = .returned (.bool true) ∧ w' = u) := fun u => by rw [← hi]; exact l1In_any _ _ _ _
              have HT : Hid (capOkAt cs 0 = true) := by show _ = _; rw [HA.out, hi, hn]; simp
              clear hn hi
              go_wp2
              go_quiet ((first | (go_at_call 50; exact Calls.quiet_of_same (HN.out _)) | (go_at_call 51; exact Calls.quiet_of_same (HI.out _))))
              go_wp2
              go_roundw
              case rel => exact ⟨_ + 1, by omega, by go_num, capsTo_succ cs _ HK.out HT.out, below_drewN hbw _⟩
              case measure => simp [intOf]; omega
          | succ j =>
            obtain ⟨b', off', hsame, _, g0, _⟩ := HC.out.later hbw j (by omega)
            obtain ⟨rfl, rfl⟩ : b = b' ∧ off = off' := by simpa using hsame
            rw [show j + 1 - 1 = j from rfl, getD_at cs j _ (by omega)] at HA
            generalize cs[j] = p at g0 HA
            clear hsame
            have j0 : (0 : Int) ≤ (j : Int) := by omega
            have j1 : (j : Int) < (cs.length : Int) := by omega
            cases hq : ahead p.1 c.1
            · have HF : Hid (capOkAt cs (j + 1) = false) := by show _ = _; rw [HA.out, hq]; simp
              have hq' : Op.bytesLess p.1.toList c.1.toList = false := hq
              clear hn hq
              go_wp2
              go_quiet (((go_at_call 50; exact Calls.quiet_of_same (HN.out _))))
              go_wp2
              go_ret
              exact ⟨by rw [D.out, capsTo_bad cs _ _ hlt HF.out]; rfl, below_drewN hbw _⟩
            · have hq' : Op.bytesLess p.1.toList c.1.toList = true := hq
              cases hi : inB c.2 0 20
              · have HI : Hid (∀ u : World, Calls Tryz.prog 51 #[.int .i64 c.2, .int .i64 0, .int .i64 20] u fun e w' => e = .returned (.bool false) ∧ w' = u) := fun u => by rw [← hi]; exact l1In_any _ _ _ _
                have HF : Hid (capOkAt cs (j + 1) = false) := by show _ = _; rw [HA.out, hi]; simp
                clear hn hi hq
                go_wp2
                go_quiet ((first | (go_at_call 50; exact Calls.quiet_of_same (HN.out _)) | (go_at_call 51; exact Calls.quiet_of_same (HI.out _))))
                go_wp2
                go_ret
                exact ⟨by rw [D.out, capsTo_bad cs _ _ hlt HF.out]; rfl, below_drewN hbw _⟩
              · have HI : Hid (∀ u : World, Calls Tryz.prog 51 #[.int .i64 c.2, .int .i64 0, .int .i64 20] u fun e w' => e = .returned (.bool true) ∧ w' = u) := fun u => by rw [← hi]; exact l1In_any _ _ _ _
                have HT : Hid (capOkAt cs (j + 1) = true) := by show _ = _; rw [HA.out, hi, hn, hq]; simp
                clear hn hi hq
                go_wp2
                go_quiet ((first | (go_at_call 50; exact Calls.quiet_of_same (HN.out _)) | (go_at_call 51; exact Calls.quiet_of_same (HI.out _))))
                go_wp2
                go_roundw
                case rel => exact ⟨_ + 1, by omega, by go_num, capsTo_succ cs _ HK.out HT.out, below_drewN hbw _⟩
                case measure => simp [intOf]; omega
      · go_wp2
        go_ret
        have : k = cs.length := by omega
        subst this
        exact ⟨by rw [D.out, HK.out]; rfl, hbw⟩

end Go.Proofs.YtciacofibljmoaaGreatDoor
