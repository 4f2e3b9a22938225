/- Where a sector has no room for one more: the program's own way, walked. -/
import Derived.Test.YtciacofibljmoabLeastMath
import Derived.Test.YtciacofibljmoabFits3
namespace Go.Proofs.Ytciacofibljmoab
open Go.RowKit

theorem own_one (W : World) (base : Nat) (hb : base ≤ W.heap.size) (x y z : Int) : OwnRuns (W.alloc (.cells #[.int .i64 x, .int .i64 y, .int .i64 z] 121)) base (.slice (some ⟨W.heap.size, 0, none⟩) 1 1) [(x, y, z)] :=
  ⟨rfl, .inr ⟨W.heap.size, 1, _, rfl, hb, World.alloc_heap_new W _, Nat.le_refl _, by unfold maxLen; omega, rfl, rfl⟩⟩
theorem filter_take {rs : List Run} {p : Run → Bool} {k : Nat} (hk : k < rs.length) : (rs.take (k + 1)).filter p = (rs.take k).filter p ++ if p rs[k] = true then [rs[k]] else [] := by
  rw [List.take_succ_eq_append_getElem hk, List.filter_append]
  congr 1
  by_cases h : p rs[k] = true
  · simp [h]
  · simp [h]
theorem own_baseR {w : World} {base base' : Nat} {v : Value} {rs : List Run} (h : OwnRuns w base v rs) (hb : base' ≤ base) : OwnRuns w base' v rs := by
  obtain ⟨h1, h2⟩ := h
  refine ⟨h1, ?_⟩
  rcases h2 with h2 | ⟨g, cap, cur, e1, e2, e3⟩
  · exact .inl h2
  · exact .inr ⟨g, cap, cur, e1, by omega, e3⟩

set_option maxRecDepth 100000 in
set_option maxHeartbeats 3200000 in
theorem fullRuns_any (c : ByteArray × Int) (a a' : Option Addr) (cap cap' : Nat) (fs : List Fli) (ss : List Int) (w : World) (hc : FlightsIn w a fs) (hc' : IntsIn w a' ss) (hok : slotsB fs ss = true) :
    Calls Try.prog 84 #[.agg #[.string c.1, .int .i64 c.2], .slice a fs.length cap, .slice a' ss.length cap'] w fun e w' => ∃ v, e = .returned v ∧ OwnRuns w' w.heap.size v (fullV c.2 (runsL fs ss c.1)) ∧ Below w.heap.size w w' := by
  obtain ⟨i0, hi, iz0, iz1, iz2⟩ := info_parts info_run
  have HC := hide hc
  have HC' := hide hc'
  have H2 := hide hok
  have HHY := hide (changes_hyps hok c.1)
  clear hc hc' hok
  obtain ⟨sec, cp⟩ := c
  simp only at HHY ⊢
  by_cases h0 : cp = 0
  · subst h0
    have HV : Hid (fullV 0 (runsL fs ss sec) = [(0, 10290, 0)]) := by show _ = _; unfold fullV; rw [if_pos rfl]
    have hd2 : ((0 : Int) == 0) = true := rfl
    go_enter Try.func84, Try.ntmps84
    go_wp2
    go_ret
    refine ⟨_, rfl, ?_, ((Below.refl _ _).alloc (Nat.le_refl _) _).alloc (by simp) _⟩
    rw [HV.out]
    have := own_one (w.alloc (.cells #[.string sec, .int .i64 0] 74)) w.heap.size (by simp) 0 10290 0
    simpa using this
  · have HV : Hid (fullV cp (runsL fs ss sec) = (runsL fs ss sec).filter fun r => decide (cp ≤ r.2.2)) := by show _ = _; unfold fullV; rw [if_neg h0]
    have hd2 : (cp == 0) = false := beq_eq_false_iff_ne.2 h0
    clear h0
    obtain ⟨W, hW, x0, x1, hWb⟩ := alloc2 w (.string sec) (.int .i64 cp) 74
    have X1 := hide x1
    have HWB := hide hWb
    have HW := hide hW
    clear x0 x1 hWb hW
    go_enter Try.func84, Try.ntmps84
    go_wp2_with fail
    rw [HW.out]
    refine (loadChanges_any a a' cap cap' fs ss sec W (HC.out.later HWB.out) (HC'.out.later HWB.out) H2.out).mono ?_
    rintro e w4 ⟨rfl, ⟨n, DD, hn, hchg⟩, hb4⟩
    have HCH := hide hchg
    have HB4 := hide hb4
    clear hchg hb4
    go_wp2_with fail
    refine (runsOf_any W.heap.size n DD _ _ w4 HCH.out (by omega) HHY.out.1 HHY.out.2).mono ?_
    rintro e w5 ⟨v, zs, rfl, hz, hm, hor, hle, hb5⟩
    rw [impl_runs H2.out hz hm] at hor hle
    obtain ⟨ar, cr, rfl, hri⟩ := own_runs hor
    have HRI := hide hri
    have HB5 := hide (below_two HB4.out hb5)
    have HX := hide (cell_later hb5 (cell_later HB4.out X1.out))
    have hBase := hide (below_two HWB.out HB5.out)
    clear hz hm hor hri hb5 HCH HHY
    generalize hrs : runsL fs ss sec = rs at HV HRI hle
    have HRS := hide hrs
    clear hrs
    go_wp2
    go_loopw [7, 22] (fun v i wr => ∃ (k : Nat), k ≤ rs.length ∧ i = .int .i64 k ∧ Hid (OwnRuns wr w5.heap.size v ((rs.take k).filter fun r => decide (cp ≤ r.2.2))) ∧ Hid (Below w5.heap.size w5 wr)) (fun _ i _ => rs.length - (RowKit.intOf i).toNat)
    case atStart => exact ⟨0, Nat.zero_le _, rfl, World.ownsRow_nil _ _ _ _, Below.refl _ _⟩
    case round =>
      obtain ⟨k, hk, rfl, HO, HB⟩ := hrel
      by_cases hlt : k < rs.length
      · obtain ⟨br, orr, rfl, hbr, r0, r1, r2⟩ := HRI.out.later HB.out k hlt
        have hcap := cell_later HB.out HX.out
        have hlt6 : w.heap.size < wr.heap.size := World.block_lt_of_cell? wr ⟨w.heap.size, 1, none⟩ hcap
        have HFT := hide (filter_take (p := fun r => decide (cp ≤ r.2.2)) hlt)
        have hlen : ((rs.take k).filter fun r => decide (cp ≤ r.2.2)).length ≤ k := Nat.le_trans (List.length_filter_le _ _) (by simp; omega)
        generalize rs[k] = r at r0 r1 r2 HFT
        generalize (rs.take k).filter (fun r => decide (cp ≤ r.2.2)) = out at HO HFT hlen
        by_cases hge : cp ≤ r.2.2
        · have HF : Hid ((rs.take (k + 1)).filter (fun r => decide (cp ≤ r.2.2)) = out ++ [r]) := by show _ = _; rw [HFT.out, if_pos (by simpa using hge)]
          clear HFT
          go_wp2_with (first
            | (at_builtin; refine wpList_append_own _ rfl _ _ 116 rfl w5.heap.size 121 i0 (.agg #[.int .i64 0, .int .i64 0, .int .i64 0]) 3 24 Try.underlying116 hi iz0 iz1 iz2 rfl (by decide) _ _ _ rfl ((HO.out.alloc _).alloc _) ⟨wr.heap.size + 1, 0, none⟩ 1 1 [.int .i64 r.1, .int .i64 r.2.1, .int .i64 r.2.2] rfl rfl (by have := cell_three_new (wr.alloc (.cells #[.int .i64 r.1, .int .i64 r.2.1, .int .i64 r.2.2] 121)) (.int .i64 r.1) (.int .i64 r.2.1) (.int .i64 r.2.2) 121; simpa using this) (fun x hx => by simp at hx; rcases hx with rfl | rfl | rfl <;> rfl) (by unfold maxLen; omega) (by omega) (by have := HB.out.size; simp; omega) ?_; intro v' w3 hown3 hgrow3 hnil3; have HO3 := hide hown3; have HB3 := hide (Below.grown ((HB.out.alloc HB.out.size _).alloc (by have := HB.out.size; simp; omega) _) hgrow3 (by have := HB.out.size; simp; omega) (fun q hq => (HO.out.lt _ hq).1)); clear hown3 hgrow3 hnil3))
          go_roundw
          case rel => exact ⟨k + 1, by omega, by go_num, by show OwnRuns _ _ _ _; rw [HF.out]; show World.ownsRow _ _ _ _ _ _ _; rw [runCells_snoc, List.length_append]; exact HO3.out, HB3.out⟩
          case measure => simp [RowKit.intOf]; omega
        · have hge' : decide (cp ≤ r.2.2) = false := decide_eq_false hge
          have HF : Hid ((rs.take (k + 1)).filter (fun r => decide (cp ≤ r.2.2)) = out) := by show _ = _; rw [HFT.out, if_neg (by simpa using hge), List.append_nil]
          clear HFT
          go_wp2
          go_roundw
          case rel => exact ⟨k + 1, by omega, by go_num, by show OwnRuns _ _ _ _; rw [HF.out]; exact World.ownsRow.alloc HO.out _, HB.out.alloc HB.out.size _⟩
          case measure => simp [RowKit.intOf]; omega
      · go_wp2
        go_ret
        have : k = rs.length := by omega
        subst this
        refine ⟨_, rfl, ?_, below_two hBase.out HB.out⟩
        rw [HRS.out, HV.out]
        have h3 := HO.out
        rw [List.take_length] at h3
        exact own_baseR h3 hBase.out.size

end Go.Proofs.Ytciacofibljmoab
