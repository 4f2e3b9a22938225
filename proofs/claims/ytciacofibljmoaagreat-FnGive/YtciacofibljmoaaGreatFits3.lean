/- Whether slots fit: the program's own way, walked. -/
import Derived.Test.YtciacofibljmoaaGreatFits2
namespace Go.Proofs.YtciacofibljmoaaGreat
open Go.RowKit

def overAt (rs : List Run) (cap : Int) (i : Nat) : Bool := decide (cap < (rs.getD i (0, 0, 0)).2.2)
theorem over_range (rs : List Run) (cap : Int) : overB rs cap = (List.range rs.length).any (overAt rs cap) := by
  rw [Bool.eq_iff_iff]
  unfold overB
  constructor
  · intro h
    obtain ⟨r, hr, hc⟩ := List.any_eq_true.1 h
    obtain ⟨i, hi, rfl⟩ := List.getElem_of_mem hr
    exact any_yes hi (by unfold overAt; rw [getD_at rs i _ hi]; exact hc)
  · intro h
    obtain ⟨i, hi, hc⟩ := List.any_eq_true.1 h
    have hi' := List.mem_range.1 hi
    unfold overAt at hc
    rw [getD_at rs i _ hi'] at hc
    exact List.any_eq_true.2 ⟨rs[i], List.getElem_mem hi', hc⟩

/-- The runs of a sector, by the program: both steps together. -/
theorem changes_hyps {fs : List Fli} {ss : List Int} (h : slotsB fs ss = true) (sec : ByteArray) :
    (∀ x, isEnd (spansTo fs ss sec fs.length) x → 0 ≤ x ∧ x ≤ 20000) ∧ ∀ x, -1000 ≤ dAt (spansTo fs ss sec fs.length) x ∧ dAt (spansTo fs ss sec fs.length) x ≤ 1000 := by
  obtain ⟨_, h8, _, hfb⟩ := slots_bd h
  refine ⟨fun x ⟨p, hp, hh⟩ => ?_, fun x => ?_⟩
  · have := spansTo_bd h (Nat.le_refl _) p hp
    omega
  · have h1 := dAt_bd (spansTo fs ss sec fs.length) x
    have h2 := spansTo_len hfb (ss := ss) (sec := sec) fs.length (Nat.le_refl _)
    omega

set_option maxRecDepth 100000 in
set_option maxHeartbeats 3200000 in
theorem implFits_any (ac a a' : Option Addr) (capc cap cap' : Nat) (cs : List (ByteArray × Int)) (fs : List Fli) (ss : List Int) (w : World) (hcc : CapsIn w ac cs) (hc : FlightsIn w a fs) (hc' : IntsIn w a' ss) (hlc : cs.length ≤ 1048576) (hl : fs.length ≤ 1048576) (hl' : ss.length ≤ 1048576)
    (hsc : ∀ c ∈ cs, c.1.size ≤ maxLen) (hvl : ∀ f ∈ fs, f.2.2.2.length ≤ 1048576) (hs : ∀ f ∈ fs, SizesOk f) :
    Calls Tryz.prog 15 #[.slice ac cs.length capc, .slice a fs.length cap, .slice a' ss.length cap'] w fun e w' => e = .returned (.bool (fitsB cs fs ss)) ∧ Below w.heap.size w w' := by
  have HCC := hide hcc
  have HC := hide hc
  have HC' := hide hc'
  have HSC := hide hsc
  have HVL := hide hvl
  have HS := hide hs
  clear hcc hc hc' hsc hvl hs
  cases hq1 : capsB cs
  · have H1 := hide hq1
    have HR : Hid (fitsB cs fs ss = false) := by show _ = _; unfold fitsB; rw [hq1]; rfl
    clear hq1
    go_enter Tryz.func15, Tryz.ntmps15
    go_wp2_with (go_at_call 12; refine (implCapsOk_val ac capc cs _ H1.out _ HCC.out hlc HSC.out).mono ?_; rintro e w1 ⟨rfl, hb1⟩)
    go_ret
    exact ⟨by rw [HR.out]; rfl, hb1⟩
  cases hq2 : slotsB fs ss
  · have H1 := hide hq1
    have H2 := hide hq2
    have HR : Hid (fitsB cs fs ss = false) := by show _ = _; unfold fitsB; rw [hq2]; simp
    clear hq1 hq2
    go_enter Tryz.func15, Tryz.ntmps15
    go_wp2_with (first | (go_at_call 12; refine (implCapsOk_val ac capc cs _ H1.out _ HCC.out hlc HSC.out).mono ?_; rintro e w1 ⟨rfl, hb1⟩; have HB1 := hide hb1; clear hb1) | (go_at_call 50; refine (slotsOk_val a a' cap cap' fs ss _ H2.out _ (HC.out.later HB1.out) (HC'.out.later HB1.out) hl hl' HVL.out HS.out).mono ?_; rintro e w2 ⟨rfl, hb2⟩))
    go_ret
    exact ⟨by rw [HR.out]; rfl, below_two HB1.out hb2⟩
  cases hq3 : inTimeB fs ss
  · have H1 := hide hq1
    have H2 := hide hq2
    have H3 := hide hq3
    have HR : Hid (fitsB cs fs ss = false) := by show _ = _; unfold fitsB; rw [hq3]; simp
    clear hq1 hq2 hq3
    go_enter Tryz.func15, Tryz.ntmps15
    go_wp2_with (first | (go_at_call 12; refine (implCapsOk_val ac capc cs _ H1.out _ HCC.out hlc HSC.out).mono ?_; rintro e w1 ⟨rfl, hb1⟩; have HB1 := hide hb1; clear hb1) | (go_at_call 50; refine (slotsOk_val a a' cap cap' fs ss _ H2.out _ (HC.out.later HB1.out) (HC'.out.later HB1.out) hl hl' HVL.out HS.out).mono ?_; rintro e w2 ⟨rfl, hb2⟩; have HB2 := hide (below_two HB1.out hb2); clear hb2) | (go_at_call 51; refine (slotsInTime_val a a' cap cap' fs ss _ H3.out _ (HC.out.later HB2.out) (HC'.out.later HB2.out) H2.out).mono ?_; rintro e w3 ⟨rfl, hb3⟩))
    go_ret
    exact ⟨by rw [HR.out]; rfl, below_two HB2.out hb3⟩
  have H1 := hide hq1
  have H2 := hide hq2
  have H3 := hide hq3
  obtain ⟨hc6, hcb⟩ := caps_bd hq1
  have HCB := hide hcb
  have D : Hid (fitsB cs fs ss = roomB cs fs ss) := by show _ = _; unfold fitsB; rw [hq1, hq2, hq3]; rfl
  clear hq1 hq2 hq3 hcb
  go_enter Tryz.func15, Tryz.ntmps15
  go_wp2_with (first | (go_at_call 12; refine (implCapsOk_val ac capc cs _ H1.out _ HCC.out hlc HSC.out).mono ?_; rintro e w1 ⟨rfl, hb1⟩; have HB1 := hide hb1; clear hb1) | (go_at_call 50; refine (slotsOk_val a a' cap cap' fs ss _ H2.out _ (HC.out.later HB1.out) (HC'.out.later HB1.out) hl hl' HVL.out HS.out).mono ?_; rintro e w2 ⟨rfl, hb2⟩; have HB2 := hide (below_two HB1.out hb2); clear hb2) | (go_at_call 51; refine (slotsInTime_val a a' cap cap' fs ss _ H3.out _ (HC.out.later HB2.out) (HC'.out.later HB2.out) H2.out).mono ?_; rintro e w3 ⟨rfl, hb3⟩; have HB3 := hide (below_two HB2.out hb3); clear hb3))
  go_loopw [28] (fun i wr => ∃ (k : Nat), k ≤ cs.length ∧ i = .int .i64 k ∧ Hid ((List.range k).all (notFullAt cs fs ss) = true) ∧ Hid (Below w.heap.size w wr)) (fun i _ => cs.length - (RowKit.intOf i).toNat)
  case atStart => exact ⟨0, Nat.zero_le _, rfl, rfl, HB3.out⟩
  case round =>
    obtain ⟨k, hk, rfl, HK, HB⟩ := hrel
    by_cases hlt : k < cs.length
    · obtain ⟨b, off, rfl, hblt, e0, e1⟩ := HCC.out.later HB.out k hlt
      obtain ⟨cb0, cb1⟩ := HCB.out k hlt
      have HA : Hid (notFullAt cs fs ss k = !fullB fs ss cs[k].1 cs[k].2) := by show _ = _; unfold notFullAt; rw [getD_at cs k _ hlt]
      generalize cs[k] = c at e0 e1 HA cb0 cb1
      rw [← over_full H2.out c.1 cb0] at HA
      have HHY := hide (changes_hyps H2.out c.1)
      obtain ⟨W, hW, x0, x1, hWb⟩ := alloc2 wr (.string c.1) (.int .i64 c.2) 54
      have X1 := hide x1
      have HLT : Hid (∀ (wx : World) (v : Value), wx.cell? ⟨wr.heap.size, 1, none⟩ = some v → wr.heap.size < wx.heap.size) := fun wx v h => World.block_lt_of_cell? wx ⟨wr.heap.size, 1, none⟩ h
      have HWB := hide hWb
      have HW := hide hW
      clear x0 x1 hWb hW
      go_wp2_with fail
      rw [HW.out]
      refine (loadChanges_any a a' cap cap' fs ss c.1 W (HC.out.later (below_two HB.out HWB.out)) (HC'.out.later (below_two HB.out HWB.out)) H2.out).mono ?_
      rintro e w4 ⟨rfl, ⟨n, DD, hn, hchg⟩, hb4⟩
      have HCH := hide hchg
      have HB4 := hide hb4
      clear hchg hb4
      go_wp2_with fail
      refine (runsOf_any W.heap.size n DD _ _ w4 HCH.out (by omega) HHY.out.1 HHY.out.2).mono ?_
      rintro e w5 ⟨v, zs, rfl, hz, hm, hor, hle, hb5⟩
      rw [impl_runs H2.out hz hm] at hor hle
      obtain ⟨ar, cr, rfl, hri⟩ := own_runs hor
      have HRI := hide hri
      have HB5 := hide (below_two HB4.out hb5)
      have hX := cell_later hb5 (cell_later HB4.out X1.out)
      have HX := hide hX
      rw [over_range] at HA
      clear hz hm hor hri hb5 hX HCH HHY
      generalize runsL fs ss c.1 = rs at HA HRI hle
      have hBase := hide (below_two (below_two HB.out HWB.out) HB5.out)
      go_wp2
      go_loopw [39] (fun i wi => ∃ (j : Nat), j ≤ rs.length ∧ i = .int .i64 j ∧ Hid (∀ q, q < j → overAt rs c.2 q = false) ∧ Hid (Below w5.heap.size w5 wi)) (fun i _ => rs.length - (RowKit.intOf i).toNat)
      case atStart => exact ⟨0, Nat.zero_le _, rfl, fun q hq => by omega, Below.refl _ _⟩
      case round =>
        obtain ⟨j, hj, rfl, HJ, HBi⟩ := hrel
        by_cases hjl : j < rs.length
        · obtain ⟨br, orr, rfl, hbr, r0, r1, r2⟩ := HRI.out.later HBi.out j hjl
          have hcap := cell_later HBi.out HX.out
          have hlt6 := HLT.out _ _ hcap
          have HO : Hid (overAt rs c.2 j = decide (c.2 < rs[j].2.2)) := by show _ = _; unfold overAt; rw [getD_at rs j _ hjl]
          generalize rs[j] = r at r0 r1 r2 HO
          by_cases hgt : c.2 < r.2.2
          · have HT : Hid (overAt rs c.2 j = true) := by show _ = _; rw [HO.out, decide_eq_true hgt]
            have HF : Hid (notFullAt cs fs ss k = false) := by show _ = _; rw [HA.out, any_yes hjl HT.out]; rfl
            clear HO HA
            go_wp2
            go_ret
            exact ⟨by rw [D.out]; unfold roomB; rw [all_bad hlt HF.out]; rfl, (below_two hBase.out HBi.out).alloc (below_two hBase.out HBi.out).size _⟩
          · have hgt' : decide (c.2 < r.2.2) = false := decide_eq_false hgt
            have HF : Hid (overAt rs c.2 j = false) := by show _ = _; rw [HO.out, hgt']
            clear HO
            go_wp2
            go_roundw
            case rel => exact ⟨j + 1, by omega, by go_num, fun q hq' => by
              by_cases e : q = j
              · rw [e]; exact HF.out
              · exact HJ.out q (by omega), HBi.out.alloc HBi.out.size _⟩
            case measure => simp [RowKit.intOf]; omega
        · have : j = rs.length := by omega
          subst this
          have HT : Hid (notFullAt cs fs ss k = true) := by show _ = _; rw [HA.out, any_no HJ.out]; rfl
          go_wp2
          go_roundw
          case rel => exact ⟨k + 1, by omega, by go_num, all_succ HK.out HT.out, below_two hBase.out HBi.out⟩
          case measure => simp [RowKit.intOf]; omega
    · go_wp2
      go_ret
      have : k = cs.length := by omega
      subst this
      exact ⟨by rw [D.out]; unfold roomB; rw [HK.out]; rfl, HB.out⟩

end Go.Proofs.YtciacofibljmoaaGreat
