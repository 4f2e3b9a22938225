/- Whether slots fit, whole: the program's and the document's reading, walked. -/
import Derived.Test.YtciacofibljmoaaGreatFits
namespace Go.Proofs.YtciacofibljmoaaGreat
open Go.RowKit

/-- A slice's address leads to these runs. -/
def RunsIn (w : World) (a : Option Addr) (rs : List Run) : Prop :=
  ∀ i (hi : i < rs.length), ∃ b off, a = some ⟨b, off, none⟩ ∧ b < w.heap.size ∧ w.cell? ⟨b, off + i * 3, none⟩ = some (.int .i64 rs[i].1) ∧ w.cell? ⟨b, off + i * 3 + 1, none⟩ = some (.int .i64 rs[i].2.1) ∧ w.cell? ⟨b, off + i * 3 + 2, none⟩ = some (.int .i64 rs[i].2.2)
theorem RunsIn.later {w w' : World} {a : Option Addr} {rs : List Run} (h : RunsIn w a rs) (hb : Below w.heap.size w w') : RunsIn w' a rs := fun i hi => by
  obtain ⟨b, off, ha, hlt, h0, h1, h2⟩ := h i hi
  exact ⟨b, off, ha, Nat.lt_of_lt_of_le hlt hb.size, cell_later hb h0, cell_later hb h1, cell_later hb h2⟩
theorem runCells_at : ∀ (rs : List Run) (i : Nat) (hi : i < rs.length), (runCells rs)[i * 3]? = some (.int .i64 rs[i].1) ∧ (runCells rs)[i * 3 + 1]? = some (.int .i64 rs[i].2.1) ∧ (runCells rs)[i * 3 + 2]? = some (.int .i64 rs[i].2.2)
  | [], i, hi => by simp at hi
  | r :: rs, 0, _ => by simp [runCells]
  | r :: rs, i + 1, hi => by
    have ih := runCells_at rs i (by simpa using hi)
    have e : runCells (r :: rs) = [.int .i64 r.1, .int .i64 r.2.1, .int .i64 r.2.2] ++ runCells rs := by simp [runCells]
    rw [e, show (i + 1) * 3 = i * 3 + 3 by omega]
    simpa using ih
theorem own_runs {w : World} {base : Nat} {v : Value} {rs : List Run} (h : OwnRuns w base v rs) : ∃ a cap, v = .slice a rs.length cap ∧ RunsIn w a rs := by
  unfold OwnRuns at h
  rcases h.2 with ⟨rfl, h0⟩ | ⟨g, cap, cur, rfl, hg, hh, h1, h2, h3, h4⟩
  · exact ⟨none, 0, by rw [h0], fun i hi => by omega⟩
  · refine ⟨_, cap, rfl, fun i hi => ⟨g, 0, rfl, (Array.getElem?_eq_some_iff.1 hh).1, ?_, ?_, ?_⟩⟩
    · rw [Nat.zero_add, h.cellAt _ (by omega)]; exact (runCells_at rs i hi).1
    · rw [Nat.zero_add, h.cellAt _ (by omega)]; exact (runCells_at rs i hi).2.1
    · rw [Nat.zero_add, h.cellAt _ (by omega)]; exact (runCells_at rs i hi).2.2

theorem implCapsOk_val (a : Option Addr) (cap : Nat) (cs : List (ByteArray × Int)) (q : Bool) (h : capsB cs = q) (w : World) (hc : CapsIn w a cs) (hl : cs.length ≤ 1048576) (hs : ∀ c ∈ cs, c.1.size ≤ maxLen) :
    Calls Tryz.prog 12 #[.slice a cs.length cap] w fun e w' => e = .returned (.bool q) ∧ Below w.heap.size w w' := by rw [← h]; exact implCapsOk_any a cap cs w hc hl hs
theorem specCapsOk_val (a : Option Addr) (cap : Nat) (cs : List (ByteArray × Int)) (q : Bool) (h : capsB cs = q) (w : World) (hc : CapsIn w a cs) (hl : cs.length ≤ 1048576) (hs : ∀ c ∈ cs, c.1.size ≤ maxLen) :
    Calls Tryz.prog 13 #[.slice a cs.length cap] w fun e w' => e = .returned (.bool q) ∧ Below w.heap.size w w' := by rw [← h]; exact specCapsOk_any a cap cs w hc hl hs
theorem slotsInTime_val (a a' : Option Addr) (cap cap' : Nat) (fs : List Fli) (ss : List Int) (q : Bool) (h : inTimeB fs ss = q) (w : World) (hc : FlightsIn w a fs) (hc' : IntsIn w a' ss) (hok : slotsB fs ss = true) :
    Calls Tryz.prog 51 #[.slice a fs.length cap, .slice a' ss.length cap'] w fun e w' => e = .returned (.bool q) ∧ Below w.heap.size w w' := by rw [← h]; exact slotsInTime_any a a' cap cap' fs ss w hc hc' hok
theorem l2Full_val (sec : ByteArray) (cp : Int) (a a' : Option Addr) (cap cap' : Nat) (fs : List Fli) (ss : List Int) (q : Bool) (h : fullB fs ss sec cp = q) (w : World) (hc : FlightsIn w a fs) (hc' : IntsIn w a' ss) (hl : fs.length ≤ 1048576) (hvl : ∀ f ∈ fs, f.2.2.2.length ≤ 1048576) (hok : slotsB fs ss = true) :
    Calls Tryz.prog 79 #[.agg #[.string sec, .int .i64 cp], .slice a fs.length cap, .slice a' ss.length cap'] w fun e w' => e = .returned (.bool q) ∧ Below w.heap.size w w' := by rw [← h]; exact l2Full_any sec cp a a' cap cap' fs ss w hc hc' hl hvl hok

theorem caps_bd {cs : List (ByteArray × Int)} (h : capsB cs = true) : cs.length ≤ 6 ∧ ∀ i (hi : i < cs.length), 0 ≤ cs[i].2 ∧ cs[i].2 ≤ 20 := by
  unfold capsB at h
  simp only [Bool.and_eq_true, decide_eq_true_eq] at h
  refine ⟨h.1, fun i hi => ?_⟩
  have := all_at h.2 hi
  unfold capOkAt at this
  rw [getD_at cs i _ hi] at this
  simp only [Bool.and_eq_true] at this
  exact inB_iff.1 this.2

set_option maxRecDepth 100000 in
set_option maxHeartbeats 3200000 in
theorem specFits_any (ac a a' : Option Addr) (capc cap cap' : Nat) (cs : List (ByteArray × Int)) (fs : List Fli) (ss : List Int) (w : World) (hcc : CapsIn w ac cs) (hc : FlightsIn w a fs) (hc' : IntsIn w a' ss) (hlc : cs.length ≤ 1048576) (hl : fs.length ≤ 1048576) (hl' : ss.length ≤ 1048576)
    (hsc : ∀ c ∈ cs, c.1.size ≤ maxLen) (hvl : ∀ f ∈ fs, f.2.2.2.length ≤ 1048576) (hs : ∀ f ∈ fs, SizesOk f) :
    Calls Tryz.prog 33 #[.slice ac cs.length capc, .slice a fs.length cap, .slice a' ss.length cap'] w fun e w' => e = .returned (.bool (fitsB cs fs ss)) ∧ Below w.heap.size w w' := by
  have HCC := hide hcc
  have HC := hide hc
  have HC' := hide hc'
  have HSC := hide hsc
  have HVL := hide hvl
  have HS := hide hs
  clear hcc hc hc' hsc hvl hs
  cases hq1 : capsB cs
  · have H1 := hide hq1
    have HR : Hid (fitsB cs fs ss = false) := by show _ = _; unfold fitsB; rw [hq1]; rfl
    clear hq1
    go_enter Tryz.func33, Tryz.ntmps33
    go_wp2_with (go_at_call 13; refine (specCapsOk_val ac capc cs _ H1.out _ HCC.out hlc HSC.out).mono ?_; rintro e w1 ⟨rfl, hb1⟩)
    go_ret
    exact ⟨by rw [HR.out]; rfl, hb1⟩
  cases hq2 : slotsB fs ss
  · have H1 := hide hq1
    have H2 := hide hq2
    have HR : Hid (fitsB cs fs ss = false) := by show _ = _; unfold fitsB; rw [hq2]; simp
    clear hq1 hq2
    go_enter Tryz.func33, Tryz.ntmps33
    go_wp2_with (first | (go_at_call 13; refine (specCapsOk_val ac capc cs _ H1.out _ HCC.out hlc HSC.out).mono ?_; rintro e w1 ⟨rfl, hb1⟩; have HB1 := hide hb1; clear hb1) | (go_at_call 63; refine (l2SlotsOk_val a a' cap cap' fs ss _ H2.out _ (HC.out.later HB1.out) (HC'.out.later HB1.out) hl hl' HVL.out HS.out).mono ?_; rintro e w2 ⟨rfl, hb2⟩))
    go_ret
    exact ⟨by rw [HR.out]; rfl, below_two HB1.out hb2⟩
  have H1 := hide hq1
  have H2 := hide hq2
  obtain ⟨hln, h8, hsb, hfb⟩ := slots_bd hq2
  have hln1 : fs.length ≤ ss.length := by omega
  have HSB := hide hsb
  have HFB := hide hfb
  have D : Hid (fitsB cs fs ss = (inTimeB fs ss && roomB cs fs ss)) := by show _ = _; unfold fitsB; rw [hq1, hq2]; rfl
  clear hq1 hq2 hsb hfb hln
  go_enter Tryz.func33, Tryz.ntmps33
  go_wp2_with (first | (go_at_call 13; refine (specCapsOk_val ac capc cs _ H1.out _ HCC.out hlc HSC.out).mono ?_; rintro e w1 ⟨rfl, hb1⟩; have HB1 := hide hb1; clear hb1) | (go_at_call 63; refine (l2SlotsOk_val a a' cap cap' fs ss _ H2.out _ (HC.out.later HB1.out) (HC'.out.later HB1.out) hl hl' HVL.out HS.out).mono ?_; rintro e w2 ⟨rfl, hb2⟩; have HB2 := hide (below_two HB1.out hb2); clear hb2))
  go_loopw [7] (fun i wr => ∃ (k : Nat), k ≤ fs.length ∧ i = .int .i64 k ∧ Hid ((List.range k).all (inTimeAt fs ss) = true) ∧ Hid (Below w.heap.size w wr)) (fun i _ => fs.length - (RowKit.intOf i).toNat)
  case atStart => exact ⟨0, Nat.zero_le _, rfl, rfl, HB2.out⟩
  case round =>
    obtain ⟨k, hk, rfl, HK, HB⟩ := hrel
    by_cases hlt : k < fs.length
    · have hlt2 : k < ss.length := by omega
      obtain ⟨b, off, rfl, hblt, e0, e1, e2, av, cv, e3, hv⟩ := HC.out.later HB.out k hlt
      obtain ⟨b', off', rfl, hblt', s0⟩ := HC'.out.later HB.out k hlt2
      obtain ⟨z0, z1⟩ := HSB.out k hlt2
      obtain ⟨_, ⟨p0, p1⟩, ⟨l0, l1⟩, _⟩ := HFB.out k hlt
      have HA : Hid (inTimeAt fs ss k = (decide (ss[k] < 0) || inB ss[k] fs[k].2.1 (fs[k].2.1 + fs[k].2.2.1))) := by
        show _ = _
        unfold inTimeAt
        rw [getD_at fs k _ hlt, getD_at ss k _ hlt2]
      clear hv
      generalize fs[k] = c at e0 e1 e2 e3 p0 p1 l0 l1 HA
      generalize ss[k] = z at s0 z0 z1 HA
      have k0 : (0 : Int) ≤ (k : Int) := by omega
      have k1 : (k : Int) < (fs.length : Int) := by omega
      have k2 : (k : Int) < (ss.length : Int) := by omega
      by_cases hz : 0 ≤ z
      · rw [decide_eq_false (show ¬ z < 0 by omega), Bool.false_or] at HA
        cases hh : inB z c.2.1 (c.2.1 + c.2.2.1)
        · have HH := hide hh
          have HF : Hid (inTimeAt fs ss k = false) := by show _ = _; rw [HA.out, hh]
          clear hh HA
          go_wp2
          have y1 := grow_cell e1
          have y2 := grow_cell e2
          have y4 := grow_cell s0
          clear e0 e1 e2 e3 s0
          have hne := grow_some wr
          refine wp_region_grow (by kernel_rfl) (by kernel_rfl) ?_
          repeat (go_big_quiet_step (((go_at_call 48; exact grow_same (l1In_val _ _ _ _ HH.out _)))))
          refine wpQuiet_nil ?_
          intro _ hw'
          obtain ⟨u, hw''⟩ := hw'
          subst hw''
          go_wp2
          go_ret
          exact ⟨by rw [D.out]; unfold inTimeB; rw [all_bad hlt HF.out]; rfl, below_two HB.out u.below⟩
        · have HH := hide hh
          have HT : Hid (inTimeAt fs ss k = true) := by show _ = _; rw [HA.out, hh]
          clear hh HA
          go_wp2
          have y1 := grow_cell e1
          have y2 := grow_cell e2
          have y4 := grow_cell s0
          clear e0 e1 e2 e3 s0
          have hne := grow_some wr
          refine wp_region_grow (by kernel_rfl) (by kernel_rfl) ?_
          repeat (go_big_quiet_step (((go_at_call 48; exact grow_same (l1In_val _ _ _ _ HH.out _)))))
          refine wpQuiet_nil ?_
          intro _ hw'
          obtain ⟨u, hw''⟩ := hw'
          subst hw''
          go_wp2
          go_roundw
          case rel => exact ⟨k + 1, by omega, by go_num, all_succ HK.out HT.out, below_two HB.out u.below⟩
          case measure => simp [RowKit.intOf]; omega
      · have hz1 : z = -1 := by omega
        have HT : Hid (inTimeAt fs ss k = true) := by show _ = _; rw [HA.out, decide_eq_true (show z < 0 by omega)]; rfl
        clear HA hz
        subst hz1
        go_wp2
        have y4 := grow_cell s0
        clear e0 e1 e2 e3 s0
        have hne := grow_some wr
        refine wp_region_grow (by kernel_rfl) (by kernel_rfl) ?_
        repeat (go_big_quiet_step (fail))
        refine wpQuiet_nil ?_
        intro _ hw'
        obtain ⟨u, hw''⟩ := hw'
        subst hw''
        go_wp2
        go_roundw
        case rel => exact ⟨k + 1, by omega, by go_num, all_succ HK.out HT.out, below_two HB.out u.below⟩
        case measure => simp [RowKit.intOf]; omega
    · have : k = fs.length := by omega
      subst this
      have D2 : Hid (fitsB cs fs ss = roomB cs fs ss) := by show _ = _; rw [D.out]; unfold inTimeB; rw [HK.out]; rfl
      clear D HK
      go_wp2
      go_loopw [8] (fun i wi => ∃ (k : Nat), k ≤ cs.length ∧ i = .int .i64 k ∧ Hid ((List.range k).all (notFullAt cs fs ss) = true) ∧ Hid (Below w.heap.size w wi)) (fun i _ => cs.length - (RowKit.intOf i).toNat)
      case atStart => exact ⟨0, Nat.zero_le _, rfl, rfl, HB.out⟩
      case round =>
        obtain ⟨k, hk, rfl, HK, HBi⟩ := hrel
        by_cases hlt : k < cs.length
        · obtain ⟨b, off, rfl, hblt, e0, e1⟩ := HCC.out.later HBi.out k hlt
          have HA : Hid (notFullAt cs fs ss k = !fullB fs ss cs[k].1 cs[k].2) := by show _ = _; unfold notFullAt; rw [getD_at cs k _ hlt]
          generalize cs[k] = c at e0 e1 HA
          cases hh : fullB fs ss c.1 c.2
          · have HH := hide hh
            have HT : Hid (notFullAt cs fs ss k = true) := by show _ = _; rw [HA.out, hh]; rfl
            clear hh HA
            go_wp2_with (go_at_call 79; refine (l2Full_val c.1 c.2 a a' cap cap' fs ss _ HH.out _ (HC.out.later HBi.out) (HC'.out.later HBi.out) hl HVL.out H2.out).mono ?_; rintro e w5 ⟨rfl, hb5⟩)
            go_roundw
            case rel => exact ⟨k + 1, by omega, by go_num, all_succ HK.out HT.out, below_two HBi.out hb5⟩
            case measure => simp [RowKit.intOf]; omega
          · have HH := hide hh
            have HF : Hid (notFullAt cs fs ss k = false) := by show _ = _; rw [HA.out, hh]; rfl
            clear hh HA
            go_wp2_with (go_at_call 79; refine (l2Full_val c.1 c.2 a a' cap cap' fs ss _ HH.out _ (HC.out.later HBi.out) (HC'.out.later HBi.out) hl HVL.out H2.out).mono ?_; rintro e w5 ⟨rfl, hb5⟩)
            go_ret
            exact ⟨by rw [D2.out]; unfold roomB; rw [all_bad hlt HF.out]; rfl, below_two HBi.out hb5⟩
        · have : k = cs.length := by omega
          subst this
          go_wp2
          go_ret
          exact ⟨by rw [D2.out]; unfold roomB; rw [HK.out]; rfl, HBi.out⟩

end Go.Proofs.YtciacofibljmoaaGreat
