/- Visits that are ok: the document's reading and the program's check, walked. -/
import Derived.Test.YtciacofibljmoaaGreatFlights
namespace Go.Proofs.YtciacofibljmoaaGreat
open Go.RowKit

theorem l1In_val (n lo hi : Int) (q : Bool) (h : inB n lo hi = q) (w : World) : Calls Tryz.prog 48 #[.int .i64 n, .int .i64 lo, .int .i64 hi] w fun e w' => e = .returned (.bool q) ∧ w' = w := by
  rw [← h]; exact l1In_any n lo hi w
theorem within_val (n lo hi : Int) (q : Bool) (h : inB n lo hi = q) (w : World) : Calls Tryz.prog 64 #[.int .i64 n, .int .i64 lo, .int .i64 hi] w fun e w' => e = .returned (.bool q) ∧ w' = w := by
  rw [← h]; exact within_any n lo hi w
theorem l1NameOk_val (s : ByteArray) (q : Bool) (h : nameB s = q) (hs : s.size ≤ maxLen) (w : World) : Calls Tryz.prog 47 #[.string s] w fun e w' => e = .returned (.bool q) ∧ w' = w := by
  rw [← h]; exact l1NameOk_any s w hs
theorem nameOk_val (s : ByteArray) (q : Bool) (h : nameB s = q) (hs : s.size ≤ maxLen) (w : World) : Calls Tryz.prog 90 #[.string s] w fun e w' => e = .returned (.bool q) ∧ Below w.heap.size w w' := by
  rw [← h]; exact nameOk_any s w hs

/-- The visit at a place is ok, and behind the one ahead of it. -/
def visOkAt (vs : List Vis) (i : Nat) : Bool :=
  nameB (vs.getD i (ByteArray.empty, 0, 0)).1 && inB (vs.getD i (ByteArray.empty, 0, 0)).2.1 0 200 && inB (vs.getD i (ByteArray.empty, 0, 0)).2.2 1 30 &&
    (decide (i = 0) || !decide ((vs.getD i (ByteArray.empty, 0, 0)).2.1 < (vs.getD (i - 1) (ByteArray.empty, 0, 0)).2.1 + (vs.getD (i - 1) (ByteArray.empty, 0, 0)).2.2))
def visTo (vs : List Vis) (k : Nat) : Bool := (List.range k).all (visOkAt vs)
def visB (vs : List Vis) : Bool := inB (vs.length : Int) 1 5 && visTo vs vs.length
theorem all_succ {p : Nat → Bool} {k : Nat} (h : (List.range k).all p = true) (h2 : p k = true) : (List.range (k + 1)).all p = true := by
  rw [List.range_succ, List.all_append, h]
  simp [h2]
theorem all_bad {p : Nat → Bool} {k n : Nat} (hk : k < n) (h2 : p k = false) : (List.range n).all p = false := by
  rw [List.all_eq_false]
  exact ⟨k, List.mem_range.2 hk, by simp [h2]⟩
theorem all_at {p : Nat → Bool} {k n : Nat} (h : (List.range n).all p = true) (hk : k < n) : p k = true := List.all_eq_true.1 h k (List.mem_range.2 hk)

/-- What is known of a visit ahead. -/
theorem vis_bounds {vs : List Vis} {k j : Nat} (h : visTo vs k = true) (hj : j < k) (hl : j < vs.length) : (0 ≤ vs[j].2.1 ∧ vs[j].2.1 ≤ 200) ∧ 1 ≤ vs[j].2.2 ∧ vs[j].2.2 ≤ 30 := by
  have := all_at h hj
  unfold visOkAt at this
  rw [getD_at vs j _ hl] at this
  simp only [Bool.and_eq_true] at this
  exact ⟨inB_iff.1 this.1.1.2, inB_iff.1 this.1.2⟩

set_option maxRecDepth 100000 in
set_option maxHeartbeats 1600000 in
theorem l1VisitsOk_any (a : Option Addr) (cap : Nat) (vs : List Vis) (w : World) (hc : VisitsIn w a vs) (hl : vs.length ≤ 1048576) (hs : ∀ v ∈ vs, v.1.size ≤ maxLen) :
    Calls Tryz.prog 49 #[.slice a vs.length cap] w fun e w' => e = .returned (.bool (visB vs)) ∧ Below w.heap.size w w' := by
  cases h5 : inB (vs.length : Int) 1 5
  · go_enter Tryz.func49, Tryz.ntmps49
    have H5 := hide h5
    clear h5
    go_wp2_with (go_at_call 48; refine (l1In_val _ _ _ _ H5.out _).mono ?_; rintro e w' ⟨rfl, rfl⟩)
    go_ret
    exact ⟨by unfold visB; rw [H5.out]; rfl, Below.refl _ _⟩
  · have D : Hid (visB vs = visTo vs vs.length) := by show _ = _; unfold visB; rw [h5]; rfl
    have H5 := hide h5
    clear h5
    go_enter Tryz.func49, Tryz.ntmps49
    go_wp2_with (go_at_call 48; refine (l1In_val _ _ _ _ H5.out _).mono ?_; rintro e w0 ⟨rfl, rfl⟩)
    go_loopw [3] (fun i wr => ∃ (k : Nat), k ≤ vs.length ∧ i = .int .i64 k ∧ Hid (visTo vs k = true) ∧ Below w0.heap.size w0 wr) (fun i _ => vs.length - (intOf i).toNat)
    case atStart => exact ⟨0, Nat.zero_le _, rfl, rfl, Below.refl _ _⟩
    case round =>
      obtain ⟨k, hk, rfl, HK, hbw⟩ := hrel
      by_cases hlt : k < vs.length
      · obtain ⟨b, off, rfl, hblt, e0, e1, e2⟩ := hc.later hbw k hlt
        have hsz := hs _ (List.getElem_mem hlt)
        have k0 : (0 : Int) ≤ (k : Int) := by omega
        have k1 : (k : Int) < (vs.length : Int) := by omega
        have HC := hide hc
        have HV : Hid (visOkAt vs k = (nameB vs[k].1 && inB vs[k].2.1 0 200 && inB vs[k].2.2 1 30 && (decide (k = 0) || !decide (vs[k].2.1 < (vs.getD (k - 1) (ByteArray.empty, 0, 0)).2.1 + (vs.getD (k - 1) (ByteArray.empty, 0, 0)).2.2)))) := by
          show _ = _
          unfold visOkAt
          rw [getD_at vs k _ hlt]
        clear hc hs
        generalize vs[k] = c at e0 e1 e2 hsz HV
        cases hn : nameB c.1
        · have HN := hide hn
          have HF : Hid (visOkAt vs k = false) := by show _ = _; rw [HV.out, hn]; rfl
          clear hn
          go_wp2
          go_quiet (((go_at_call 47; exact Calls.quiet_of_same (l1NameOk_val _ _ HN.out hsz _))))
          go_wp2
          go_ret
          exact ⟨by rw [D.out]; exact congrArg (fun b => Ending.returned (.bool b)) (all_bad hlt HF.out).symm, below_drewN (hbw.alloc hbw.size _) _⟩
        cases ha : inB c.2.1 0 200
        · have HN := hide hn
          have HA := hide ha
          have HF : Hid (visOkAt vs k = false) := by show _ = _; rw [HV.out, hn, ha]; rfl
          clear hn ha
          go_wp2
          go_quiet ((first | (go_at_call 47; exact Calls.quiet_of_same (l1NameOk_val _ _ HN.out hsz _)) | (go_at_call_of 48 (Value.int .i64 200); exact Calls.quiet_of_same (l1In_val _ _ _ _ HA.out _))))
          go_wp2
          go_ret
          exact ⟨by rw [D.out]; exact congrArg (fun b => Ending.returned (.bool b)) (all_bad hlt HF.out).symm, below_drewN (hbw.alloc hbw.size _) _⟩
        cases hS : inB c.2.2 1 30
        · have HN := hide hn
          have HA := hide ha
          have HS := hide hS
          have HF : Hid (visOkAt vs k = false) := by show _ = _; rw [HV.out, hn, ha, hS]; rfl
          clear hn ha hS
          go_wp2
          go_quiet ((first | (go_at_call 47; exact Calls.quiet_of_same (l1NameOk_val _ _ HN.out hsz _)) | (go_at_call_of 48 (Value.int .i64 200); exact Calls.quiet_of_same (l1In_val _ _ _ _ HA.out _)) | (go_at_call_of 48 (Value.int .i64 30); exact Calls.quiet_of_same (l1In_val _ _ _ _ HS.out _))))
          go_wp2
          go_ret
          exact ⟨by rw [D.out]; exact congrArg (fun b => Ending.returned (.bool b)) (all_bad hlt HF.out).symm, below_drewN (hbw.alloc hbw.size _) _⟩
        have HN := hide hn
        have HA := hide ha
        have HS := hide hS
        rw [hn, ha, hS] at HV
        clear hn ha hS
        cases k with
        | zero =>
          simp only [Nat.zero_mul, Nat.add_zero] at e0 e1 e2
          have HT : Hid (visOkAt vs 0 = true) := by show _ = _; rw [HV.out]; rfl
          go_wp2
          go_quiet ((first | (go_at_call 47; exact Calls.quiet_of_same (l1NameOk_val _ _ HN.out hsz _)) | (go_at_call_of 48 (Value.int .i64 200); exact Calls.quiet_of_same (l1In_val _ _ _ _ HA.out _)) | (go_at_call_of 48 (Value.int .i64 30); exact Calls.quiet_of_same (l1In_val _ _ _ _ HS.out _))))
          go_wp2
          go_roundw
          case rel => exact ⟨_ + 1, by omega, by go_num, all_succ HK.out HT.out, below_drewN (hbw.alloc hbw.size _) _⟩
          case measure => simp [intOf]; omega
        | succ j =>
          obtain ⟨b', off', hsame, _, g0, g1, g2⟩ := HC.out.later hbw j (by omega)
          obtain ⟨rfl, rfl⟩ : b = b' ∧ off = off' := by simpa using hsame
          rw [show j + 1 - 1 = j from rfl, getD_at vs j _ (by omega)] at HV
          obtain ⟨⟨p0, p1⟩, p2, p3⟩ := vis_bounds HK.out (show j < j + 1 by omega) (show j < vs.length by omega)
          obtain ⟨c0, c1⟩ := inB_iff.1 HA.out
          generalize vs[j] = p at g0 g1 g2 HV p0 p1 p2 p3
          clear hsame
          have j0 : (0 : Int) ≤ (j : Int) := by omega
          have j1 : (j : Int) < (vs.length : Int) := by omega
          by_cases hq : c.2.1 < p.2.1 + p.2.2
          · have HF : Hid (visOkAt vs (j + 1) = false) := by show _ = _; rw [HV.out, decide_eq_true hq]; rfl
            go_wp2
            go_quiet ((first | (go_at_call 47; exact Calls.quiet_of_same (l1NameOk_val _ _ HN.out hsz _)) | (go_at_call_of 48 (Value.int .i64 200); exact Calls.quiet_of_same (l1In_val _ _ _ _ HA.out _)) | (go_at_call_of 48 (Value.int .i64 30); exact Calls.quiet_of_same (l1In_val _ _ _ _ HS.out _))))
            go_wp2
            go_ret
            exact ⟨by rw [D.out]; exact congrArg (fun b => Ending.returned (.bool b)) (all_bad hlt HF.out).symm, below_drewN (hbw.alloc hbw.size _) _⟩
          · have hq' : decide (c.2.1 < p.2.1 + p.2.2) = false := decide_eq_false hq
            have HT : Hid (visOkAt vs (j + 1) = true) := by show _ = _; rw [HV.out, hq']; rfl
            clear hq
            go_wp2
            go_quiet ((first | (go_at_call 47; exact Calls.quiet_of_same (l1NameOk_val _ _ HN.out hsz _)) | (go_at_call_of 48 (Value.int .i64 200); exact Calls.quiet_of_same (l1In_val _ _ _ _ HA.out _)) | (go_at_call_of 48 (Value.int .i64 30); exact Calls.quiet_of_same (l1In_val _ _ _ _ HS.out _))))
            go_wp2
            go_roundw
            case rel => exact ⟨_ + 1, by omega, by go_num, all_succ HK.out HT.out, below_drewN (hbw.alloc hbw.size _) _⟩
            case measure => simp [intOf]; omega
      · go_wp2
        go_ret
        have : k = vs.length := by omega
        subst this
        exact ⟨by rw [D.out, HK.out]; rfl, hbw⟩

end Go.Proofs.YtciacofibljmoaaGreat
