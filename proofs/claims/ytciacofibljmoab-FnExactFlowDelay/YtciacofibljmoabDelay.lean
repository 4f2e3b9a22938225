/- By how much all are late together: the program's and the document's way, walked. -/
import Derived.Test.YtciacofibljmoabLoad
import Derived.Test.YtciacofibljmoabBoundFits
namespace Go.Proofs.Ytciacofibljmoab
open Go.RowKit

theorem delTo_bd {fs : List Fli} {ss : List Int} (h : slotsB fs ss = true) : ∀ k, k ≤ fs.length → -(10000 * (k : Int)) ≤ delTo fs ss k ∧ delTo fs ss k ≤ 10060 * (k : Int)
  | 0, _ => by simp [delTo]
  | k + 1, hk => by
    have ih := delTo_bd h k (by omega)
    obtain ⟨hln, _, hsb, hfb⟩ := slots_bd h
    have z := hsb k (by omega)
    have p := (hfb k (by omega)).2.1
    unfold delTo planAt
    rw [getD_at ss k _ (by omega), getD_at fs k _ (by omega)]
    by_cases h0 : 0 ≤ ss[k]'(by omega)
    · rw [if_pos h0]; omega
    · rw [if_neg h0]; omega

set_option maxHeartbeats 1600000 in
theorem specDelay_any (a a' : Option Addr) (cap cap' : Nat) (fs : List Fli) (ss : List Int) (w : World) (hc : FlightsIn w a fs) (hc' : IntsIn w a' ss) (hl : fs.length ≤ 1048576) (hl' : ss.length ≤ 1048576) (hvl : ∀ f ∈ fs, f.2.2.2.length ≤ 1048576) (hs : ∀ f ∈ fs, SizesOk f) :
    Calls Try.prog 33 #[.slice a fs.length cap, .slice a' ss.length cap'] w fun e w' => e = .returned (.int .i64 (delayV fs ss)) ∧ Below w.heap.size w w' := by
  have HC := hide hc
  have HC' := hide hc'
  have HS := hide hs
  have HVL := hide hvl
  clear hc hc' hs hvl
  cases hq : slotsB fs ss
  · have HQ := hide hq
    have HR : Hid (delayV fs ss = 0) := by show _ = _; unfold delayV; rw [hq]; rfl
    clear hq
    go_enter Try.func33, Try.ntmps33
    go_wp2_with (go_at_call 70; refine (l2SlotsOk_val a a' cap cap' fs ss _ HQ.out _ HC.out HC'.out hl hl' HVL.out HS.out).mono ?_; rintro e w1 ⟨rfl, hb1⟩)
    go_ret
    exact ⟨by rw [HR.out]; rfl, hb1⟩
  · obtain ⟨hln, hl8, hsb, hfb⟩ := slots_bd hq
    have HQ := hide hq
    have HR : Hid (delayV fs ss = delTo fs ss fs.length) := by show _ = _; unfold delayV; rw [hq]; rfl
    have HSB := hide hsb
    have HFB := hide hfb
    have hln1 : fs.length ≤ ss.length := by omega
    have HLN := hide hln
    clear hq hsb hfb hln
    go_enter Try.func33, Try.ntmps33
    go_wp2_with fail
    refine (l2SlotsOk_val a a' cap cap' fs ss _ HQ.out _ HC.out HC'.out hl hl' HVL.out HS.out).mono ?_
    rintro e w1 ⟨rfl, hb1⟩
    have HB := hide hb1
    clear hb1
    go_wp2
    go_loopw [5, 6] (fun n i wr => ∃ (k : Nat), k ≤ fs.length ∧ i = .int .i64 k ∧ n = .int .i64 (delTo fs ss k) ∧ Below w.heap.size w wr) (fun _ i _ => fs.length - (intOf i).toNat)
    case atStart => exact ⟨0, Nat.zero_le _, rfl, rfl, HB.out⟩
    case round =>
      obtain ⟨k, hk, rfl, rfl, hbw⟩ := hrel
      by_cases hlt : k < fs.length
      · have hlt2 : k < ss.length := by omega
        obtain ⟨b, off, rfl, hblt, e0, e1, e2, av, cv, e3, -⟩ := HC.out.later hbw k hlt
        obtain ⟨b', off', rfl, hblt', s0⟩ := HC'.out.later hbw k hlt2
        obtain ⟨z0, z1⟩ := HSB.out k hlt2
        obtain ⟨p0, p1⟩ := (HFB.out k hlt).2.1
        obtain ⟨d0, d1⟩ := delTo_bd HQ.out k hk
        have HA : Hid (delTo fs ss (k + 1) = delTo fs ss k + if 0 ≤ ss[k] then ss[k] - fs[k].2.1 else 0) := by
          show delTo fs ss k + (if 0 ≤ ss.getD k 0 then ss.getD k 0 - planAt fs k else 0) = _
          unfold planAt
          rw [getD_at fs k _ hlt, getD_at ss k _ hlt2]
        generalize fs[k] = c at e0 e1 e2 e3 p0 p1 HA
        generalize ss[k] = z at s0 z0 z1 HA
        have k0 : (0 : Int) ≤ (k : Int) := by omega
        have k1 : (k : Int) < (fs.length : Int) := by omega
        have k2 : (k : Int) < (ss.length : Int) := by omega
        by_cases hz : 0 ≤ z
        · have HN : Hid (delTo fs ss (k + 1) = delTo fs ss k + z - c.2.1) := by show _ = _; rw [HA.out, if_pos hz]; omega
          clear HA
          generalize delTo fs ss k = n at d0 d1 HN
          go_wp2
          go_quiet (fail)
          go_wp2
          go_roundw
          case rel => exact ⟨k + 1, by omega, by go_num, by rw [HN.out], below_drewN hbw _⟩
          case measure => simp [intOf]; omega
        · have HN : Hid (delTo fs ss (k + 1) = delTo fs ss k) := by show _ = _; rw [HA.out, if_neg hz]; omega
          clear HA
          generalize delTo fs ss k = n at d0 d1 HN
          go_wp2
          go_roundw
          case rel => exact ⟨k + 1, by omega, by go_num, by rw [HN.out], hbw⟩
          case measure => simp [intOf]; omega
      · go_wp2
        go_ret
        have : k = fs.length := by omega
        subst this
        exact ⟨by rw [HR.out]; rfl, hbw⟩

set_option maxHeartbeats 1600000 in
theorem implDelay_any (a a' : Option Addr) (cap cap' : Nat) (fs : List Fli) (ss : List Int) (w : World) (hc : FlightsIn w a fs) (hc' : IntsIn w a' ss) (hl : fs.length ≤ 1048576) (hl' : ss.length ≤ 1048576) (hvl : ∀ f ∈ fs, f.2.2.2.length ≤ 1048576) (hs : ∀ f ∈ fs, SizesOk f) :
    Calls Try.prog 34 #[.slice a fs.length cap, .slice a' ss.length cap'] w fun e w' => e = .returned (.int .i64 (delayV fs ss)) ∧ Below w.heap.size w w' := by
  have HC := hide hc
  have HC' := hide hc'
  have HS := hide hs
  have HVL := hide hvl
  clear hc hc' hs hvl
  cases hq : slotsB fs ss
  · have HQ := hide hq
    have HR : Hid (delayV fs ss = 0) := by show _ = _; unfold delayV; rw [hq]; rfl
    clear hq
    go_enter Try.func34, Try.ntmps34
    go_wp2_with (go_at_call 71; refine (slotsOk_val a a' cap cap' fs ss _ HQ.out _ HC.out HC'.out hl hl' HVL.out HS.out).mono ?_; rintro e w1 ⟨rfl, hb1⟩)
    go_ret
    exact ⟨by rw [HR.out]; rfl, hb1⟩
  · obtain ⟨hln, hl8, hsb, hfb⟩ := slots_bd hq
    have HQ := hide hq
    have HR : Hid (delayV fs ss = delTo fs ss fs.length) := by show _ = _; unfold delayV; rw [hq]; rfl
    have HSB := hide hsb
    have HFB := hide hfb
    have hln1 : fs.length ≤ ss.length := by omega
    have HLN := hide hln
    clear hq hsb hfb hln
    go_enter Try.func34, Try.ntmps34
    go_wp2_with fail
    refine (slotsOk_val a a' cap cap' fs ss _ HQ.out _ HC.out HC'.out hl hl' HVL.out HS.out).mono ?_
    rintro e w1 ⟨rfl, hb1⟩
    have HB := hide hb1
    clear hb1
    go_wp2
    go_loopw [5, 14] (fun n i wr => ∃ (k : Nat), k ≤ fs.length ∧ i = .int .i64 k ∧ n = .int .i64 (delTo fs ss k) ∧ Below w.heap.size w wr) (fun _ i _ => fs.length - (intOf i).toNat)
    case atStart => exact ⟨0, Nat.zero_le _, rfl, rfl, HB.out⟩
    case round =>
      obtain ⟨k, hk, rfl, rfl, hbw⟩ := hrel
      by_cases hlt : k < fs.length
      · have hlt2 : k < ss.length := by omega
        obtain ⟨b, off, rfl, hblt, e0, e1, e2, av, cv, e3, -⟩ := HC.out.later hbw k hlt
        obtain ⟨b', off', rfl, hblt', s0⟩ := HC'.out.later hbw k hlt2
        obtain ⟨z0, z1⟩ := HSB.out k hlt2
        obtain ⟨p0, p1⟩ := (HFB.out k hlt).2.1
        obtain ⟨d0, d1⟩ := delTo_bd HQ.out k hk
        have HA : Hid (delTo fs ss (k + 1) = delTo fs ss k + if 0 ≤ ss[k] then ss[k] - fs[k].2.1 else 0) := by
          show delTo fs ss k + (if 0 ≤ ss.getD k 0 then ss.getD k 0 - planAt fs k else 0) = _
          unfold planAt
          rw [getD_at fs k _ hlt, getD_at ss k _ hlt2]
        generalize fs[k] = c at e0 e1 e2 e3 p0 p1 HA
        generalize ss[k] = z at s0 z0 z1 HA
        have k0 : (0 : Int) ≤ (k : Int) := by omega
        have k1 : (k : Int) < (fs.length : Int) := by omega
        have k2 : (k : Int) < (ss.length : Int) := by omega
        by_cases hz : 0 ≤ z
        · have HN : Hid (delTo fs ss (k + 1) = delTo fs ss k + (z - c.2.1)) := by show _ = _; rw [HA.out, if_pos hz]
          have hz2 : (z != -1) = true := by (rw [bne_iff_ne]; omega)
          clear HA
          generalize delTo fs ss k = n at d0 d1 HN
          go_wp2
          obtain ⟨W, hW, x0, x1, x2, x3, hWb⟩ := alloc4 wr (.string c.1) (.int .i64 c.2.1) (.int .i64 c.2.2.1) (.slice av c.2.2.2.length cv) 60
          rw [hW]
          have s1 := cell_later hWb s0
          clear hW x0 x2 x3 s0 e0 e1 e2 e3
          go_quiet (fail)
          go_wp2
          go_roundw
          case rel => exact ⟨k + 1, by omega, by go_num, by rw [HN.out], below_drewN (below_two hbw hWb) _⟩
          case measure => simp [intOf]; omega
        · have HN : Hid (delTo fs ss (k + 1) = delTo fs ss k) := by show _ = _; rw [HA.out, if_neg hz]; omega
          have hz2 : (z != -1) = false := by (rw [bne_eq_false_iff_eq]; omega)
          clear HA
          generalize delTo fs ss k = n at d0 d1 HN
          go_wp2
          go_roundw
          case rel => exact ⟨k + 1, by omega, by go_num, by rw [HN.out], hbw.alloc hbw.size _⟩
          case measure => simp [intOf]; omega
      · go_wp2
        go_ret
        have : k = fs.length := by omega
        subst this
        exact ⟨by rw [HR.out]; rfl, hbw⟩

end Go.Proofs.Ytciacofibljmoab
