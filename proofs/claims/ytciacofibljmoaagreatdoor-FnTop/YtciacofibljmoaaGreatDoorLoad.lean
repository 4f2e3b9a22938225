/- Loads: the program's and the document's reading, walked. -/
import Derived.Test.YtciacofibljmoaaGreatDoorHas
namespace Go.Proofs.YtciacofibljmoaaGreatDoor
open Go.RowKit

/-- Slots are ok for flights. -/
def slotOkAt (ss : List Int) (i : Nat) : Bool := inB (ss.getD i 0) (-1) 10060
def slotsTo (ss : List Int) (k : Nat) : Bool := (List.range k).all (slotOkAt ss)
def slotsB (fs : List Fli) (ss : List Int) : Bool := flisB fs && decide (ss.length = fs.length) && slotsTo ss ss.length

theorem implFlightsOk_val (a : Option Addr) (cap : Nat) (fs : List Fli) (q : Bool) (h : flisB fs = q) (w : World) (hc : FlightsIn w a fs) (hl : fs.length ≤ 1048576) (hvl : ∀ f ∈ fs, f.2.2.2.length ≤ 1048576) (hs : ∀ f ∈ fs, SizesOk f) :
    Calls Tryz.prog 73 #[.slice a fs.length cap] w fun e w' => e = .returned (.bool q) ∧ Below w.heap.size w w' := by rw [← h]; exact implFlightsOk_any a cap fs w hc hl hvl hs
theorem specFlightsOk_val (a : Option Addr) (cap : Nat) (fs : List Fli) (q : Bool) (h : flisB fs = q) (w : World) (hc : FlightsIn w a fs) (hl : fs.length ≤ 1048576) (hvl : ∀ f ∈ fs, f.2.2.2.length ≤ 1048576) (hs : ∀ f ∈ fs, SizesOk f) :
    Calls Tryz.prog 32 #[.slice a fs.length cap] w fun e w' => e = .returned (.bool q) ∧ Below w.heap.size w w' := by rw [← h]; exact specFlightsOk_any a cap fs w hc hl hvl hs

set_option maxHeartbeats 1600000 in
theorem slotsOk_any (a a' : Option Addr) (cap cap' : Nat) (fs : List Fli) (ss : List Int) (w : World) (hc : FlightsIn w a fs) (hc' : IntsIn w a' ss) (hl : fs.length ≤ 1048576) (hl' : ss.length ≤ 1048576) (hvl : ∀ f ∈ fs, f.2.2.2.length ≤ 1048576) (hs : ∀ f ∈ fs, SizesOk f) :
    Calls Tryz.prog 54 #[.slice a fs.length cap, .slice a' ss.length cap'] w fun e w' => e = .returned (.bool (slotsB fs ss)) ∧ Below w.heap.size w w' := by
  have HC := hide hc
  have HC' := hide hc'
  have HS := hide hs
  have HVL := hide hvl
  clear hc hc' hs hvl
  cases hf : flisB fs
  · have HF := hide hf
    have HR : Hid (slotsB fs ss = false) := by show _ = _; unfold slotsB; rw [hf]; rfl
    clear hf
    go_enter Tryz.func54, Tryz.ntmps54
    go_wp2_with (go_at_call 73; refine (implFlightsOk_val a cap fs _ HF.out _ HC.out hl HVL.out HS.out).mono ?_; rintro e w1 ⟨rfl, hb1⟩)
    go_ret
    exact ⟨by rw [HR.out]; rfl, hb1⟩
  have HF := hide hf
  by_cases hln : ss.length = fs.length
  · have hne : ((ss.length : Int) != (fs.length : Int)) = false := by rw [hln]; simp
    have D : Hid (slotsB fs ss = slotsTo ss ss.length) := by show _ = _; unfold slotsB; rw [hf, decide_eq_true hln]; rfl
    have HLN := hide hln
    clear hf hln
    go_enter Tryz.func54, Tryz.ntmps54
    go_wp2_with (go_at_call 73; refine (implFlightsOk_val a cap fs _ HF.out _ HC.out hl HVL.out HS.out).mono ?_; rintro e w1 ⟨rfl, hb1⟩)
    go_loopw [19] (fun i wr => ∃ (k : Nat), k ≤ ss.length ∧ i = .int .i64 k ∧ Hid (slotsTo ss k = true) ∧ Below w.heap.size w wr) (fun i _ => ss.length - (intOf i).toNat)
    case atStart => exact ⟨0, Nat.zero_le _, rfl, rfl, hb1⟩
    case round =>
      obtain ⟨k, hk, rfl, HK, hbw⟩ := hrel
      by_cases hlt : k < ss.length
      · obtain ⟨b, off, rfl, hblt, e0⟩ := HC'.out.later hbw k hlt
        have HA : Hid (slotOkAt ss k = inB ss[k] (-1) 10060) := by show _ = _; unfold slotOkAt; rw [getD_at ss k _ hlt]
        generalize ss[k] = z at e0 HA
        cases hi : inB z (-1) 10060
        · have HI := hide hi
          have HX : Hid (slotOkAt ss k = false) := by show _ = _; rw [HA.out, hi]
          clear hi
          go_wp2_with (go_at_call 46; refine (within_val _ _ _ _ HI.out _).mono ?_; rintro e w2 ⟨rfl, rfl⟩)
          go_ret
          exact ⟨by rw [D.out]; exact congrArg (fun b => Ending.returned (.bool b)) (all_bad hlt HX.out).symm, hbw⟩
        · have HI := hide hi
          have HX : Hid (slotOkAt ss k = true) := by show _ = _; rw [HA.out, hi]
          clear hi
          go_wp2_with (go_at_call 46; refine (within_val _ _ _ _ HI.out _).mono ?_; rintro e w2 ⟨rfl, rfl⟩)
          go_roundw
          case rel => exact ⟨k + 1, by omega, by go_num, all_succ HK.out HX.out, hbw⟩
          case measure => simp [intOf]; omega
      · go_wp2
        go_ret
        have : k = ss.length := by omega
        subst this
        exact ⟨by rw [D.out, HK.out]; rfl, hbw⟩
  · have hne : ((ss.length : Int) != (fs.length : Int)) = true := by rw [bne_iff_ne]; omega
    have HR : Hid (slotsB fs ss = false) := by show _ = _; unfold slotsB; rw [decide_eq_false hln]; simp
    clear hf hln
    go_enter Tryz.func54, Tryz.ntmps54
    go_wp2_with (go_at_call 73; refine (implFlightsOk_val a cap fs _ HF.out _ HC.out hl HVL.out HS.out).mono ?_; rintro e w1 ⟨rfl, hb1⟩)
    go_ret
    exact ⟨by rw [HR.out]; rfl, hb1⟩
theorem slotsOk_val (a a' : Option Addr) (cap cap' : Nat) (fs : List Fli) (ss : List Int) (q : Bool) (h : slotsB fs ss = q) (w : World) (hc : FlightsIn w a fs) (hc' : IntsIn w a' ss) (hl : fs.length ≤ 1048576) (hl' : ss.length ≤ 1048576) (hvl : ∀ f ∈ fs, f.2.2.2.length ≤ 1048576) (hs : ∀ f ∈ fs, SizesOk f) :
    Calls Tryz.prog 54 #[.slice a fs.length cap, .slice a' ss.length cap'] w fun e w' => e = .returned (.bool q) ∧ Below w.heap.size w w' := by rw [← h]; exact slotsOk_any a a' cap cap' fs ss w hc hc' hl hl' hvl hs

set_option maxHeartbeats 1600000 in
theorem l2SlotsOk_any (a a' : Option Addr) (cap cap' : Nat) (fs : List Fli) (ss : List Int) (w : World) (hc : FlightsIn w a fs) (hc' : IntsIn w a' ss) (hl : fs.length ≤ 1048576) (hl' : ss.length ≤ 1048576) (hvl : ∀ f ∈ fs, f.2.2.2.length ≤ 1048576) (hs : ∀ f ∈ fs, SizesOk f) :
    Calls Tryz.prog 66 #[.slice a fs.length cap, .slice a' ss.length cap'] w fun e w' => e = .returned (.bool (slotsB fs ss)) ∧ Below w.heap.size w w' := by
  have HC := hide hc
  have HC' := hide hc'
  have HS := hide hs
  have HVL := hide hvl
  clear hc hc' hs hvl
  cases hf : flisB fs
  · have HF := hide hf
    have HR : Hid (slotsB fs ss = false) := by show _ = _; unfold slotsB; rw [hf]; rfl
    clear hf
    go_enter Tryz.func66, Tryz.ntmps66
    go_wp2_with (go_at_call 32; refine (specFlightsOk_val a cap fs _ HF.out _ HC.out hl HVL.out HS.out).mono ?_; rintro e w1 ⟨rfl, hb1⟩)
    go_ret
    exact ⟨by rw [HR.out]; rfl, hb1⟩
  have HF := hide hf
  by_cases hln : ss.length = fs.length
  · have hne : ((ss.length : Int) != (fs.length : Int)) = false := by rw [hln]; simp
    have D : Hid (slotsB fs ss = slotsTo ss ss.length) := by show _ = _; unfold slotsB; rw [hf, decide_eq_true hln]; rfl
    have HLN := hide hln
    clear hf hln
    go_enter Tryz.func66, Tryz.ntmps66
    go_wp2_with (go_at_call 32; refine (specFlightsOk_val a cap fs _ HF.out _ HC.out hl HVL.out HS.out).mono ?_; rintro e w1 ⟨rfl, hb1⟩)
    go_loopw [5] (fun i wr => ∃ (k : Nat), k ≤ ss.length ∧ i = .int .i64 k ∧ Hid (slotsTo ss k = true) ∧ Below w.heap.size w wr) (fun i _ => ss.length - (intOf i).toNat)
    case atStart => exact ⟨0, Nat.zero_le _, rfl, rfl, hb1⟩
    case round =>
      obtain ⟨k, hk, rfl, HK, hbw⟩ := hrel
      by_cases hlt : k < ss.length
      · obtain ⟨b, off, rfl, hblt, e0⟩ := HC'.out.later hbw k hlt
        have HA : Hid (slotOkAt ss k = inB ss[k] (-1) 10060) := by show _ = _; unfold slotOkAt; rw [getD_at ss k _ hlt]
        generalize ss[k] = z at e0 HA
        cases hi : inB z (-1) 10060
        · have HI := hide hi
          have HX : Hid (slotOkAt ss k = false) := by show _ = _; rw [HA.out, hi]
          clear hi
          go_wp2_with (go_at_call 51; refine (l1In_val _ _ _ _ HI.out _).mono ?_; rintro e w2 ⟨rfl, rfl⟩)
          go_ret
          exact ⟨by rw [D.out]; exact congrArg (fun b => Ending.returned (.bool b)) (all_bad hlt HX.out).symm, hbw⟩
        · have HI := hide hi
          have HX : Hid (slotOkAt ss k = true) := by show _ = _; rw [HA.out, hi]
          clear hi
          go_wp2_with (go_at_call 51; refine (l1In_val _ _ _ _ HI.out _).mono ?_; rintro e w2 ⟨rfl, rfl⟩)
          go_roundw
          case rel => exact ⟨k + 1, by omega, by go_num, all_succ HK.out HX.out, hbw⟩
          case measure => simp [intOf]; omega
      · go_wp2
        go_ret
        have : k = ss.length := by omega
        subst this
        exact ⟨by rw [D.out, HK.out]; rfl, hbw⟩
  · have hne : ((ss.length : Int) != (fs.length : Int)) = true := by rw [bne_iff_ne]; omega
    have HR : Hid (slotsB fs ss = false) := by show _ = _; unfold slotsB; rw [decide_eq_false hln]; simp
    clear hf hln
    go_enter Tryz.func66, Tryz.ntmps66
    go_wp2_with (go_at_call 32; refine (specFlightsOk_val a cap fs _ HF.out _ HC.out hl HVL.out HS.out).mono ?_; rintro e w1 ⟨rfl, hb1⟩)
    go_ret
    exact ⟨by rw [HR.out]; rfl, hb1⟩
theorem l2SlotsOk_val (a a' : Option Addr) (cap cap' : Nat) (fs : List Fli) (ss : List Int) (q : Bool) (h : slotsB fs ss = q) (w : World) (hc : FlightsIn w a fs) (hc' : IntsIn w a' ss) (hl : fs.length ≤ 1048576) (hl' : ss.length ≤ 1048576) (hvl : ∀ f ∈ fs, f.2.2.2.length ≤ 1048576) (hs : ∀ f ∈ fs, SizesOk f) :
    Calls Tryz.prog 66 #[.slice a fs.length cap, .slice a' ss.length cap'] w fun e w' => e = .returned (.bool q) ∧ Below w.heap.size w w' := by rw [← h]; exact l2SlotsOk_any a a' cap cap' fs ss w hc hc' hl hl' hvl hs

/-- The flight at a place flies, and is there. -/
def flyAt (fs : List Fli) (ss : List Int) (sec : ByteArray) (t : Int) (i : Nat) : Bool :=
  decide (0 ≤ ss.getD i 0) && hasB (fs.getD i (ByteArray.empty, 0, 0, [])).2.2.2 (ss.getD i 0) sec t
def loadTo (fs : List Fli) (ss : List Int) (sec : ByteArray) (t : Int) (k : Nat) : Nat := ((List.range k).filter (flyAt fs ss sec t)).length
theorem loadTo_yes {fs : List Fli} {ss : List Int} {sec : ByteArray} {t : Int} {k : Nat} (h : flyAt fs ss sec t k = true) : loadTo fs ss sec t (k + 1) = loadTo fs ss sec t k + 1 := by
  unfold loadTo
  rw [List.range_succ, List.filter_append]
  simp [h]
theorem loadTo_no {fs : List Fli} {ss : List Int} {sec : ByteArray} {t : Int} {k : Nat} (h : flyAt fs ss sec t k = false) : loadTo fs ss sec t (k + 1) = loadTo fs ss sec t k := by
  unfold loadTo
  rw [List.range_succ, List.filter_append]
  simp [h]
theorem loadTo_le (fs : List Fli) (ss : List Int) (sec : ByteArray) (t : Int) (k : Nat) : loadTo fs ss sec t k ≤ k := by
  unfold loadTo
  have := List.length_filter_le (flyAt fs ss sec t) (List.range k)
  simpa using this

/-- What slots that are ok give. -/
theorem slots_bd {fs : List Fli} {ss : List Int} (h : slotsB fs ss = true) : ss.length = fs.length ∧ fs.length ≤ 8 ∧ (∀ i (hi : i < ss.length), -1 ≤ ss[i] ∧ ss[i] ≤ 10060) ∧ ∀ i (hi : i < fs.length), VisBd fs[i].2.2.2 ∧ (0 ≤ fs[i].2.1 ∧ fs[i].2.1 ≤ 10000) ∧ (0 ≤ fs[i].2.2.1 ∧ fs[i].2.2.1 ≤ 60) ∧ 1 ≤ fs[i].2.2.2.length ∧ fs[i].2.2.2.length ≤ 5 := by
  unfold slotsB at h
  simp only [Bool.and_eq_true, decide_eq_true_eq] at h
  obtain ⟨⟨h1, h2⟩, h3⟩ := h
  unfold flisB at h1
  simp only [Bool.and_eq_true, decide_eq_true_eq] at h1
  obtain ⟨h4, h5⟩ := h1
  refine ⟨h2, h4, fun i hi => ?_, fun i hi => ?_⟩
  · have := all_at h3 hi
    unfold slotOkAt at this
    rw [getD_at ss i _ hi] at this
    exact inB_iff.1 this
  · have := all_at h5 hi
    unfold fliOkAt at this
    rw [getD_at fs i _ hi] at this
    simp only [Bool.and_eq_true] at this
    obtain ⟨⟨⟨_, p1⟩, p2⟩, p3⟩ := this
    unfold visB at p3
    simp only [Bool.and_eq_true] at p3
    refine ⟨fun v hv => ?_, inB_iff.1 p1, inB_iff.1 p2, ?_⟩
    · obtain ⟨j, hj, rfl⟩ := List.getElem_of_mem hv
      exact vis_bounds p3.2 hj hj
    · have := inB_iff.1 p3.1
      omega

theorem l2Has_val (f : Fli) (av : Option Addr) (cv : Nat) (slot : Int) (sec : ByteArray) (t : Int) (q : Bool) (h : hasB f.2.2.2 slot sec t = q) (w : World) (hv : VisitsIn w av f.2.2.2) (hl : f.2.2.2.length ≤ 1048576) (hbd : VisBd f.2.2.2) (hs0 : 0 ≤ slot) (hs1 : slot ≤ 10060) :
    Calls Tryz.prog 90 #[.agg #[.string f.1, .int .i64 f.2.1, .int .i64 f.2.2.1, .slice av f.2.2.2.length cv], .int .i64 slot, .string sec, .int .i64 t] w fun e w' => e = .returned (.bool q) ∧ Below w.heap.size w w' := by rw [← h]; exact l2Has_any f av cv slot sec t w hv hl hbd hs0 hs1

set_option maxRecDepth 100000 in
set_option maxHeartbeats 1600000 in
theorem l2Load_any (a a' : Option Addr) (cap cap' : Nat) (fs : List Fli) (ss : List Int) (sec : ByteArray) (t : Int) (w : World) (hc : FlightsIn w a fs) (hc' : IntsIn w a' ss) (hl : fs.length ≤ 1048576) (hvl : ∀ f ∈ fs, f.2.2.2.length ≤ 1048576) (hok : slotsB fs ss = true) :
    Calls Tryz.prog 83 #[.slice a fs.length cap, .slice a' ss.length cap', .string sec, .int .i64 t] w fun e w' => e = .returned (.int .i64 (loadTo fs ss sec t fs.length : Nat)) ∧ Below w.heap.size w w' := by
  obtain ⟨hln, _, hsb, hfb⟩ := slots_bd hok
  have HC := hide hc
  have HC' := hide hc'
  have HVL := hide hvl
  have HSB := hide hsb
  have HFB := hide hfb
  have HOK := hide hok
  have HLN := hide hln
  have hln1 : fs.length ≤ ss.length := by omega
  clear hc hc' hvl hsb hfb hok hln
  go_enter Tryz.func83, Tryz.ntmps83
  go_wp2
  go_loopw [9, 10] (fun n i wr => ∃ (k : Nat), k ≤ fs.length ∧ i = .int .i64 k ∧ n = .int .i64 (loadTo fs ss sec t k : Nat) ∧ Below w.heap.size w wr) (fun _ i _ => fs.length - (intOf i).toNat)
  case atStart => exact ⟨0, Nat.zero_le _, rfl, rfl, Below.refl _ _⟩
  case round =>
    obtain ⟨k, hk, rfl, rfl, hbw⟩ := hrel
    by_cases hlt : k < fs.length
    · have hlt2 : k < ss.length := by omega
      obtain ⟨b, off, rfl, hblt, e0, e1, e2, av, cv, e3, hv⟩ := HC.out.later hbw k hlt
      obtain ⟨b', off', rfl, hblt', s0⟩ := HC'.out.later hbw k hlt2
      obtain ⟨z0, z1⟩ := HSB.out k hlt2
      have hbd := (HFB.out k hlt).1
      have hvk := HVL.out _ (List.getElem_mem hlt)
      have HA : Hid (flyAt fs ss sec t k = (decide (0 ≤ ss[k]) && hasB fs[k].2.2.2 ss[k] sec t)) := by
        show _ = _
        unfold flyAt
        rw [getD_at fs k _ hlt, getD_at ss k _ hlt2]
      have HV := hide hv
      have HBD := hide hbd
      clear hv hbd
      generalize fs[k] = c at e0 e1 e2 e3 HV HBD hvk HA
      generalize ss[k] = z at s0 z0 z1 HA
      have hle := loadTo_le fs ss sec t k
      have k0 : (0 : Int) ≤ (k : Int) := by omega
      have k1 : (k : Int) < (fs.length : Int) := by omega
      have k2 : (k : Int) < (ss.length : Int) := by omega
      by_cases hz : 0 ≤ z
      · cases hh : hasB c.2.2.2 z sec t
        · have HH := hide hh
          have HN : Hid (loadTo fs ss sec t (k + 1) = loadTo fs ss sec t k) := loadTo_no (by rw [HA.out, hh]; simp)
          clear hh HA
          generalize loadTo fs ss sec t k = n at hle HN
          go_wp2
          have y0 := grow_cell e0
          have y1 := grow_cell e1
          have y2 := grow_cell e2
          have y3 := grow_cell e3
          have y4 := grow_cell s0
          have hne := grow_some wr
          refine wp_region_grow (by kernel_rfl) (by kernel_rfl) ?_
          repeat (go_big_quiet_step (((go_at_call 90; exact grow_of (l2Has_val c av cv _ _ _ _ HH.out _ (HV.out.later (Grow.below _)) hvk HBD.out hz z1)))))
          refine wpQuiet_nil ?_
          intro _ hw'
          obtain ⟨u, hw''⟩ := hw'
          subst hw''
          go_wp2
          go_roundw
          case rel => exact ⟨k + 1, by omega, by go_num, by rw [HN.out], below_two hbw u.below⟩
          case measure => simp [intOf]; omega
        · have HH := hide hh
          have HN : Hid (loadTo fs ss sec t (k + 1) = loadTo fs ss sec t k + 1) := loadTo_yes (by rw [HA.out, hh, decide_eq_true hz]; rfl)
          clear hh HA
          generalize loadTo fs ss sec t k = n at hle HN
          go_wp2
          have y0 := grow_cell e0
          have y1 := grow_cell e1
          have y2 := grow_cell e2
          have y3 := grow_cell e3
          have y4 := grow_cell s0
          have hne := grow_some wr
          refine wp_region_grow (by kernel_rfl) (by kernel_rfl) ?_
          repeat (go_big_quiet_step (((go_at_call 90; exact grow_of (l2Has_val c av cv _ _ _ _ HH.out _ (HV.out.later (Grow.below _)) hvk HBD.out hz z1)))))
          refine wpQuiet_nil ?_
          intro _ hw'
          obtain ⟨u, hw''⟩ := hw'
          subst hw''
          go_wp2
          go_roundw
          case rel => exact ⟨k + 1, by omega, by go_num, by rw [HN.out]; go_num, below_two hbw u.below⟩
          case measure => simp [intOf]; omega
      · have hz1 : z = -1 := by omega
        have HN : Hid (loadTo fs ss sec t (k + 1) = loadTo fs ss sec t k) := loadTo_no (by rw [HA.out, decide_eq_false hz]; rfl)
        clear HA hz
        subst hz1
        generalize loadTo fs ss sec t k = n at hle HN
        go_wp2
        have y0 := grow_cell e0
        have y1 := grow_cell e1
        have y2 := grow_cell e2
        have y3 := grow_cell e3
        have y4 := grow_cell s0
        have hne := grow_some wr
        refine wp_region_grow (by kernel_rfl) (by kernel_rfl) ?_
        repeat (go_big_quiet_step (fail))
        refine wpQuiet_nil ?_
        intro _ hw'
        obtain ⟨u, hw''⟩ := hw'
        subst hw''
        go_wp2
        go_roundw
        case rel => exact ⟨k + 1, by omega, by go_num, by rw [HN.out], below_two hbw u.below⟩
        case measure => simp [intOf]; omega
    · go_wp2
      go_ret
      have : k = fs.length := by omega
      subst this
      exact ⟨rfl, hbw⟩

end Go.Proofs.YtciacofibljmoaaGreatDoor
