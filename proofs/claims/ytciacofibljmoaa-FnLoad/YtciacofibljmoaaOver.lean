/- No sector has more than it can guide, looked up tick by tick by the law. -/
import Derived.Test.YtciacofibljmoaaLoadMath
namespace Go.Proofs.Ytciacofibljmoaa
open Go.RowKit

set_option maxHeartbeats 1600000 in
theorem wIn_any (f : Fli) (av : Option Addr) (cv : Nat) (slot : Int) (sec : ByteArray) (t : Int) (w : World) (hv : VisitsIn w av f.2.2.2) (hl : f.2.2.2.length ≤ 1048576) (hbd : VisBd f.2.2.2) (hs0 : 0 ≤ slot) (hs1 : slot ≤ 10060) :
    Calls Try.prog 51 #[.agg #[.string f.1, .int .i64 f.2.1, .int .i64 f.2.2.1, .slice av f.2.2.2.length cv], .int .i64 slot, .string sec, .int .i64 t] w fun e w' => e = .returned (.bool (hasB f.2.2.2 slot sec t)) ∧ Below w.heap.size w w' := by
  obtain ⟨s, n, m, vs⟩ := f
  simp only at hv hl hbd ⊢
  obtain ⟨W, hW, _, _, _, x3, hWb⟩ := alloc4 w (.string s) (.int .i64 n) (.int .i64 m) (.slice av vs.length cv) 74
  go_enter Try.func51, Try.ntmps51
  go_wp2
  go_loopw [9] (fun i wr => ∃ (k : Nat), k ≤ vs.length ∧ i = .int .i64 k ∧ Hid (∀ j, j < k → hasAt vs slot sec t j = false) ∧ Below W.heap.size W wr) (fun i _ => vs.length - (intOf i).toNat)
  case atStart => exact ⟨0, Nat.zero_le _, rfl, fun j hj => by omega, by first | exact Below.refl _ _ | (rw [← hW]; exact Below.refl _ _)⟩
  case round =>
    obtain ⟨k, hk, rfl, HK, hbw⟩ := hrel
    have x3' := cell_later hbw x3
    have hBW := hide (below_two hWb hbw)
    by_cases hlt : k < vs.length
    · obtain ⟨b, off, rfl, hblt, e0, e1, e2⟩ := (hv.later hWb).later hbw k hlt
      obtain ⟨⟨b0, b1⟩, b2, b3⟩ := hbd _ (List.getElem_mem hlt)
      have HA : Hid (hasAt vs slot sec t k = ((vs[k].1.toList == sec.toList) && inB t (slot + vs[k].2.1) (slot + vs[k].2.1 + vs[k].2.2 - 1))) := by
        show _ = _
        unfold hasAt
        rw [getD_at vs k _ hlt]
      clear hv hbd hW x3 hWb
      generalize vs[k] = c at e0 e1 e2 HA b0 b1 b2 b3
      have step : ∀ (_ : hasAt vs slot sec t k = false), ∀ j, j < k + 1 → hasAt vs slot sec t j = false := fun h j hj => by
        by_cases ej : j = k
        · rw [ej]; exact h
        · exact HK.out j (by omega)
      have STEP := hide step
      clear step
      cases hq : (c.1.toList == sec.toList)
      · have HF : Hid (hasAt vs slot sec t k = false) := by show _ = _; rw [HA.out, hq]; rfl
        clear HA
        go_wp2
        go_roundw
        case rel => exact ⟨k + 1, by omega, by go_num, STEP.out HF.out, hbw⟩
        case measure => simp [intOf]; omega
      · by_cases hi : slot + c.2.1 ≤ t
        · by_cases hj : t < slot + c.2.1 + c.2.2
          · have HT : Hid (hasAt vs slot sec t k = true) := by show _ = _; rw [HA.out, inB_eq, hq, decide_eq_true (by omega)]; rfl
            clear HA
            go_wp2
            go_ret
            exact ⟨by unfold hasB; rw [any_yes hlt HT.out]; rfl, hBW.out⟩
          · have HF : Hid (hasAt vs slot sec t k = false) := by show _ = _; rw [HA.out, inB_eq, hq, decide_eq_false (by omega)]; rfl
            clear HA
            go_wp2
            go_roundw
            case rel => exact ⟨k + 1, by omega, by go_num, STEP.out HF.out, hbw⟩
            case measure => simp [intOf]; omega
        · have HF : Hid (hasAt vs slot sec t k = false) := by show _ = _; rw [HA.out, inB_eq, hq, decide_eq_false (by omega)]; rfl
          clear HA
          go_wp2
          go_roundw
          case rel => exact ⟨k + 1, by omega, by go_num, STEP.out HF.out, hbw⟩
          case measure => simp [intOf]; omega
    · clear hW x3 hWb
      go_wp2
      go_ret
      have : k = vs.length := by omega
      subst this
      exact ⟨by unfold hasB; rw [any_no HK.out]; rfl, hBW.out⟩
theorem wIn_val (f : Fli) (av : Option Addr) (cv : Nat) (slot : Int) (sec : ByteArray) (t : Int) (q : Bool) (h : hasB f.2.2.2 slot sec t = q) (w : World) (hv : VisitsIn w av f.2.2.2) (hl : f.2.2.2.length ≤ 1048576) (hbd : VisBd f.2.2.2) (hs0 : 0 ≤ slot) (hs1 : slot ≤ 10060) :
    Calls Try.prog 51 #[.agg #[.string f.1, .int .i64 f.2.1, .int .i64 f.2.2.1, .slice av f.2.2.2.length cv], .int .i64 slot, .string sec, .int .i64 t] w fun e w' => e = .returned (.bool q) ∧ Below w.heap.size w w' := by rw [← h]; exact wIn_any f av cv slot sec t w hv hl hbd hs0 hs1

theorem capsB_bd {cs : List (ByteArray × Int)} (h : capsB cs = true) : ∀ i (hi : i < cs.length), 0 ≤ cs[i].2 ∧ cs[i].2 ≤ 20 := fun i hi => by
  unfold capsB at h
  simp only [Bool.and_eq_true] at h
  have := List.all_eq_true.1 h.2 i (List.mem_range.2 hi)
  unfold capOkAt at this
  simp only [Bool.and_eq_true] at this
  have h3 := this.2
  rw [getD_at cs i _ hi, inB_eq] at h3
  simpa using h3

set_option maxRecDepth 100000 in
set_option maxHeartbeats 3200000 in
theorem wOver_no (ac a a' : Option Addr) (capc cap cap' : Nat) (cs : List (ByteArray × Int)) (fs : List Fli) (ss : List Int) (from' : Int) (w : World) (hcc : CapsIn w ac cs) (hc : FlightsIn w a fs) (hc' : IntsIn w a' ss) (hfit : fitsB cs fs ss = true) (hvl : ∀ f ∈ fs, f.2.2.2.length ≤ 1048576) (hlc : cs.length ≤ 1048576) (hf0 : 0 ≤ from') (hf1 : from' ≤ 10000) :
    Calls Try.prog 16 #[.agg #[.slice ac cs.length capc, .slice a fs.length cap, .slice a' ss.length cap'], .int .i64 from'] w fun e w' => e = .returned (.bool false) ∧ Below w.heap.size w w' := by
  have hok : slotsB fs ss = true := by
    unfold fitsB at hfit
    simp only [Bool.and_eq_true] at hfit
    exact hfit.1.1.2
  have hcb : capsB cs = true := by
    unfold fitsB at hfit
    simp only [Bool.and_eq_true] at hfit
    exact hfit.1.1.1
  obtain ⟨hln, h8, hsb, hfb⟩ := slots_bd hok
  obtain ⟨W, hW, x0, x1, x2, hWb⟩ := alloc3 w (.slice ac cs.length capc) (.slice a fs.length cap) (.slice a' ss.length cap') 37
  have HX0 := hide x0
  have HX1 := hide x1
  have HX2 := hide x2
  have HWB := hide hWb
  have HCC := hide (hcc.later hWb)
  have HC := hide (hc.later hWb)
  have HC' := hide (hc'.later hWb)
  have HVL := hide hvl
  have HSB := hide hsb
  have HFB := hide hfb
  have HLD := hide (fun i (hi : i < cs.length) (t : Int) (h0 : 0 ≤ t) (h1 : t < 20001) => fits_load (ss := ss) hfit (fun i hi => (capsB_bd hcb i hi).1) hi h0 h1)
  have hln1 : fs.length ≤ ss.length := by omega
  clear x0 x1 x2 hWb hcc hc hc' hvl hsb hfb hok hcb hln hfit
  go_enter Try.func16, Try.ntmps16
  go_wp2
  go_loopw [5] (fun i wr => ∃ (k : Nat), k ≤ cs.length ∧ i = .int .i64 k ∧ Hid (Below W.heap.size W wr)) (fun i _ => cs.length - (intOf i).toNat)
  case atStart => exact ⟨0, Nat.zero_le _, rfl, by first | exact Below.refl _ _ | (rw [← hW]; exact Below.refl _ _)⟩
  case round =>
    obtain ⟨ci, hci, rfl, HB⟩ := hrel
    clear hW
    have x0 := cell_later HB.out HX0.out
    by_cases hlt : ci < cs.length
    · have hlt' : (ci : Int) < (cs.length : Int) := by omega
      obtain ⟨cb, co, rfl, _⟩ := HCC.out ci hlt
      have HCV : Hid (∀ wx : World, Below W.heap.size W wx → wx.cell? ⟨cb, co + ci * 2, none⟩ = some (.string cs[ci].1) ∧ wx.cell? ⟨cb, co + ci * 2 + 1, none⟩ = some (.int .i64 cs[ci].2)) := fun wx hx => by
        obtain ⟨b9, o9, e9, _, q0, q1⟩ := (HCC.out.later hx) ci hlt
        simp at e9
        obtain ⟨rfl, rfl⟩ := e9
        exact ⟨q0, q1⟩
      have HLDC := hide (HLD.out ci hlt)
      generalize cs[ci] = cc at HCV HLDC
      have ci0 : (0 : Int) ≤ (ci : Int) := by omega
      go_wp2
      go_loopw [6] (fun t wr => ∃ (j : Nat), j ≤ 90 ∧ t = .int .i64 (from' + (j : Int)) ∧ Hid (Below W.heap.size W wr)) (fun t _ => (from' + 90 - intOf t).toNat)
      case atStart => exact ⟨0, by omega, by simp, HB.out⟩
      case round =>
        obtain ⟨j, hj, rfl, HB2⟩ := hrel
        clear HB x0
        by_cases hjl : j < 90
        · have hjl' : from' + (j : Int) < from' + 90 := by omega
          go_wp2
          go_loopw [7, 8] (fun n i wr => ∃ (k : Nat), k ≤ fs.length ∧ i = .int .i64 k ∧ n = .int .i64 (loadTo fs ss cc.1 (from' + (j : Int)) k : Nat) ∧ Hid (Below W.heap.size W wr)) (fun _ i _ => fs.length - (intOf i).toNat)
          case atStart => exact ⟨0, Nat.zero_le _, rfl, rfl, HB2.out⟩
          case round =>
            obtain ⟨k, hk, rfl, rfl, HB3⟩ := hrel
            clear HB2
            have x0 := cell_later HB3.out HX0.out
            have x1 := cell_later HB3.out HX1.out
            have x2 := cell_later HB3.out HX2.out
            obtain ⟨q0, q1⟩ := HCV.out _ HB3.out
            by_cases hkl : k < fs.length
            · have hlt2 : k < ss.length := by omega
              obtain ⟨b, off, rfl, hblt, e0, e1, e2, av, cv, e3, hv⟩ := HC.out.later HB3.out k hkl
              obtain ⟨b', off', rfl, hblt', s0⟩ := HC'.out.later HB3.out k hlt2
              obtain ⟨z0, z1⟩ := HSB.out k hlt2
              have hbd := (HFB.out k hkl).1
              have hvk := HVL.out _ (List.getElem_mem hkl)
              have HA : Hid (flyAt fs ss cc.1 (from' + (j : Int)) k = (decide (0 ≤ ss[k]) && hasB fs[k].2.2.2 ss[k] cc.1 (from' + (j : Int)))) := by
                show _ = _
                unfold flyAt
                rw [getD_at fs k _ hkl, getD_at ss k _ hlt2]
              have HV := hide hv
              have HBD := hide hbd
              clear hv hbd
              generalize fs[k] = c at e0 e1 e2 e3 HV HBD hvk HA
              generalize ss[k] = z at s0 z0 z1 HA
              have hle := loadTo_le fs ss cc.1 (from' + (j : Int)) k
              have k0 : (0 : Int) ≤ (k : Int) := by omega
              have k1 : (k : Int) < (fs.length : Int) := by omega
              have k2 : (k : Int) < (ss.length : Int) := by omega
              by_cases hz : 0 ≤ z
              · cases hh : hasB c.2.2.2 z cc.1 (from' + (j : Int))
                · have HH := hide hh
                  have HN : Hid (loadTo fs ss cc.1 (from' + (j : Int)) (k + 1) = loadTo fs ss cc.1 (from' + (j : Int)) k) := loadTo_no (by rw [HA.out, hh]; simp)
                  clear hh HA
                  generalize loadTo fs ss cc.1 (from' + (j : Int)) k = n at hle HN
                  go_wp2
                  have y0 := grow_cell e0
                  have y1 := grow_cell e1
                  have y2 := grow_cell e2
                  have y3 := grow_cell e3
                  have y4 := grow_cell s0
                  have y5 := grow_cell x0
                  have y6 := grow_cell x1
                  have y7 := grow_cell x2
                  have y8 := grow_cell q0
                  have hne := grow_some wr
                  refine wp_region_grow (by kernel_rfl) (by kernel_rfl) ?_
                  repeat (go_big_quiet_step (((go_at_call 51; exact grow_of (wIn_val c av cv _ _ _ _ HH.out _ (HV.out.later (Grow.below _)) hvk HBD.out hz z1)))))
                  refine wpQuiet_nil ?_
                  intro _ hw'
                  obtain ⟨u, hw''⟩ := hw'
                  subst hw''
                  go_wp2
                  go_roundw
                  case rel => exact ⟨k + 1, by omega, by go_num, by rw [HN.out], below_two HB3.out u.below⟩
                  case measure => simp [intOf]; omega
                · have HH := hide hh
                  have HN : Hid (loadTo fs ss cc.1 (from' + (j : Int)) (k + 1) = loadTo fs ss cc.1 (from' + (j : Int)) k + 1) := loadTo_yes (by rw [HA.out, hh, decide_eq_true hz]; rfl)
                  clear hh HA
                  generalize loadTo fs ss cc.1 (from' + (j : Int)) k = n at hle HN
                  go_wp2
                  have y0 := grow_cell e0
                  have y1 := grow_cell e1
                  have y2 := grow_cell e2
                  have y3 := grow_cell e3
                  have y4 := grow_cell s0
                  have y5 := grow_cell x0
                  have y6 := grow_cell x1
                  have y7 := grow_cell x2
                  have y8 := grow_cell q0
                  have hne := grow_some wr
                  refine wp_region_grow (by kernel_rfl) (by kernel_rfl) ?_
                  repeat (go_big_quiet_step (((go_at_call 51; exact grow_of (wIn_val c av cv _ _ _ _ HH.out _ (HV.out.later (Grow.below _)) hvk HBD.out hz z1)))))
                  refine wpQuiet_nil ?_
                  intro _ hw'
                  obtain ⟨u, hw''⟩ := hw'
                  subst hw''
                  go_wp2
                  go_roundw
                  case rel => exact ⟨k + 1, by omega, by go_num, by rw [HN.out]; go_num, below_two HB3.out u.below⟩
                  case measure => simp [intOf]; omega
              · have hz1 : z = -1 := by omega
                have HN : Hid (loadTo fs ss cc.1 (from' + (j : Int)) (k + 1) = loadTo fs ss cc.1 (from' + (j : Int)) k) := loadTo_no (by rw [HA.out, decide_eq_false hz]; rfl)
                clear HA hz
                subst hz1
                generalize loadTo fs ss cc.1 (from' + (j : Int)) k = n at hle HN
                go_wp2
                have y0 := grow_cell e0
                have y1 := grow_cell e1
                have y2 := grow_cell e2
                have y3 := grow_cell e3
                have y4 := grow_cell s0
                have y5 := grow_cell x0
                have y6 := grow_cell x1
                have y7 := grow_cell x2
                have y8 := grow_cell q0
                have hne := grow_some wr
                refine wp_region_grow (by kernel_rfl) (by kernel_rfl) ?_
                repeat (go_big_quiet_step (fail))
                refine wpQuiet_nil ?_
                intro _ hw'
                obtain ⟨u, hw''⟩ := hw'
                subst hw''
                go_wp2
                go_roundw
                case rel => exact ⟨k + 1, by omega, by go_num, by rw [HN.out], below_two HB3.out u.below⟩
                case measure => simp [intOf]; omega
            · have hkn : k = fs.length := by omega
              subst hkn
              have HL := HLDC.out (from' + (j : Int)) (by omega) (by omega)
              have hle := loadTo_le fs ss cc.1 (from' + (j : Int)) fs.length
              generalize loadTo fs ss cc.1 (from' + (j : Int)) fs.length = n at HL hle
              have hnc : ¬ cc.2 < (n : Int) := by omega
              go_wp2
              go_roundw
              case rel => exact ⟨j + 1, by omega, by simp; omega, HB3.out⟩
              case measure => simp [intOf]; omega
        · have hjl' : ¬ from' + (j : Int) < from' + 90 := by omega
          go_wp2
          go_roundw
          case rel => exact ⟨ci + 1, by omega, by go_num, HB2.out⟩
          case measure => simp [intOf]; omega
    · go_wp2
      go_ret
      exact ⟨rfl, below_two HWB.out HB.out⟩

end Go.Proofs.Ytciacofibljmoaa
