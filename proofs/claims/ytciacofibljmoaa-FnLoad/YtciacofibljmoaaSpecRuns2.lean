/- The document's runs, whole, walked. -/
import Derived.Test.YtciacofibljmoaaSpecRuns
namespace Go.Proofs.Ytciacofibljmoaa
open Go.RowKit

theorem own_later {w w' : World} {base : Nat} {v : Value} {rs : List Run} (h : OwnRuns w base v rs) (hb : Below w.heap.size w w') : OwnRuns w' base v rs := by
  obtain ⟨h1, h2⟩ := h
  refine ⟨h1, ?_⟩
  rcases h2 with h2 | ⟨g, cap, cur, e1, e2, e3, e4⟩
  · exact .inl h2
  · exact .inr ⟨g, cap, cur, e1, e2, (hb.block g (Array.getElem?_eq_some_iff.1 e3).1).trans e3, e4⟩
theorem own_form {w : World} {base : Nat} {v : Value} {pre : List Run} {r : Run} (h : OwnRuns w base v (pre ++ [r])) :
    ∃ g cp, v = .slice (some ⟨g, 0, none⟩) (pre.length + 1) cp ∧ base ≤ g ∧ g < w.heap.size ∧ w.cell? ⟨g, pre.length * 3 + 1, none⟩ = some (.int .i64 r.2.1) ∧ w.cell? ⟨g, pre.length * 3 + 2, none⟩ = some (.int .i64 r.2.2) ∧ w.frozen? ⟨g, pre.length * 3 + 1, none⟩ = false := by
  unfold OwnRuns at h
  have hat := runCells_at (pre ++ [r]) pre.length (by simp)
  rcases h.2 with ⟨_, h0⟩ | ⟨g, cap, cur, rfl, hg, hh, h1, h2, h3, h4⟩
  · simp at h0
  · refine ⟨g, cap, by simp, hg, (Array.getElem?_eq_some_iff.1 hh).1, ?_, ?_, h.frozenAt _⟩
    · rw [h.cellAt _ (by simp; omega), hat.2.1]; simp
    · rw [h.cellAt _ (by simp; omega), hat.2.2]; simp
theorem own_set {w : World} {base g cp : Nat} {pre : List Run} {r : Run} (h : OwnRuns w base (.slice (some ⟨g, 0, none⟩) (pre.length + 1) cp) (pre ++ [r])) (t : Int) :
    OwnRuns (w.setCell ⟨g, pre.length * 3 + 1, none⟩ (.int .i64 t)) base (.slice (some ⟨g, 0, none⟩) (pre.length + 1) cp) (pre ++ [(r.1, t, r.2.2)]) := by
  unfold OwnRuns at *
  have e : (pre ++ [r]).length = pre.length + 1 := by simp
  have e' : (pre ++ [(r.1, t, r.2.2)]).length = pre.length + 1 := by simp
  rw [e] at h
  rw [e']
  have hs := (h.stored (pre.length * 3 + 1) (.int .i64 t)).1
  have ec : (runCells (pre ++ [r])).set (pre.length * 3 + 1) (.int .i64 t) = runCells (pre ++ [(r.1, t, r.2.2)]) := by
    rw [runCells_snoc, runCells_snoc, ← runCells_len pre, List.set_append_right _ _ (by omega)]
    simp
  rw [ec] at hs
  exact hs

theorem own_empty (w : World) : OwnRuns (w.alloc (.cells #[] 31)) w.heap.size (.slice (some ⟨w.heap.size, 0, none⟩) 0 0) [] := World.ownsRow_made w #[] 0 (Nat.le_refl _) (Nat.zero_le _) (by simp)
theorem snoc_cases (rs : List Run) : rs = [] ∨ ∃ pre r, rs = pre ++ [r] := by
  by_cases h : rs = []
  · exact .inl h
  · exact .inr ⟨rs.dropLast, rs.getLast h, (List.dropLast_concat_getLast h).symm⟩
theorem own_len0 {w : World} {base : Nat} {v : Value} (h : OwnRuns w base v []) : ∃ (a : Option Addr) (cp : Nat), v = .slice a 0 cp := by
  obtain ⟨a, cp, e, _⟩ := own_runs h
  exact ⟨a, cp, e⟩

set_option maxRecDepth 100000 in
set_option maxHeartbeats 6400000 in
theorem specRuns_any (a a' : Option Addr) (cap cap' : Nat) (fs : List Fli) (ss : List Int) (sec : ByteArray) (w : World) (hc : FlightsIn w a fs) (hc' : IntsIn w a' ss) (hl : fs.length ≤ 1048576) (hl' : ss.length ≤ 1048576) (hvl : ∀ f ∈ fs, f.2.2.2.length ≤ 1048576) (hs : ∀ f ∈ fs, SizesOk f) :
    Calls Try.prog 29 #[.slice a fs.length cap, .slice a' ss.length cap', .string sec] w fun e w' => ∃ v, e = .returned v ∧ OwnRuns w' w.heap.size v (if slotsB fs ss = true then runsL fs ss sec else []) ∧ Below w.heap.size w w' := by
  obtain ⟨i0, hi, iz0, iz1, iz2⟩ := info_parts info_run
  have HC := hide hc
  have HC' := hide hc'
  have HVL := hide hvl
  have HS := hide hs
  clear hc hc' hvl hs
  cases hq : slotsB fs ss
  · have H2 := hide hq
    clear hq
    rw [if_neg (by simp)]
    go_enter Try.func29, Try.ntmps29
    go_wp2_with fail
    refine (l2SlotsOk_val a a' cap cap' fs ss _ H2.out _ (HC.out.later ((Below.refl _ _).alloc (Nat.le_refl _) _)) (HC'.out.later ((Below.refl _ _).alloc (Nat.le_refl _) _)) hl hl' HVL.out HS.out).mono ?_
    rintro e w1 ⟨rfl, hb1⟩
    have HO := hide (own_later (own_empty w) hb1)
    have HB := hide (below_two ((Below.refl _ _).alloc (Nat.le_refl _) _) hb1)
    clear hb1
    go_wp2
    go_ret
    exact ⟨_, rfl, HO.out, HB.out⟩
  · have H2 := hide hq
    clear hq
    rw [if_pos rfl]
    go_enter Try.func29, Try.ntmps29
    go_wp2_with fail
    refine (l2SlotsOk_val a a' cap cap' fs ss _ H2.out _ (HC.out.later ((Below.refl _ _).alloc (Nat.le_refl _) _)) (HC'.out.later ((Below.refl _ _).alloc (Nat.le_refl _) _)) hl hl' HVL.out HS.out).mono ?_
    rintro e w1 ⟨rfl, hb1⟩
    have HO0 := hide (own_later (own_empty w) hb1)
    have HB0 := hide (below_two ((Below.refl _ _).alloc (Nat.le_refl _) _) hb1)
    clear hb1
    go_wp2_with fail
    refine (l2Ends_any a a' cap cap' fs ss w1 (HC.out.later HB0.out) (HC'.out.later HB0.out) H2.out).mono ?_
    rintro e w2 ⟨⟨low, high, rfl, l0, l1, g0, g1, hends⟩, hb2⟩
    have HE := hide hends
    have HO2 := hide (own_later HO0.out hb2)
    have HB2 := hide (below_two HB0.out hb2)
    clear hends hb2 HO0 HB0
    go_wp2
    go_loopw [7, 10] (fun v t wr => ∃ (m : Nat) (rs : List Run), (m : Int) ≤ 30000 ∧ low + (m : Int) ≤ max low (high + 1) ∧ t = .int .i64 (low + (m : Int)) ∧ rs.length ≤ m ∧ Hid ((ticks low m).foldl (stepS (fun t => (loadTo fs ss sec t fs.length : Nat))) [] = rs) ∧ Hid (OwnRuns wr w.heap.size v rs) ∧ Hid (Below w.heap.size w wr)) (fun _ t _ => (high + 1 - RowKit.intOf t).toNat)
    case atStart => exact ⟨0, [], by omega, by omega, by go_num, Nat.le_refl _, rfl, HO2.out, HB2.out⟩
    case round =>
      obtain ⟨m, rs, hm0, hm1, rfl, hrl, HR, HO, HB⟩ := hrel
      by_cases hlt : low + (m : Int) ≤ high
      · have HST : Hid ((ticks low (m + 1)).foldl (stepS (fun t => (loadTo fs ss sec t fs.length : Nat))) [] = stepS (fun t => (loadTo fs ss sec t fs.length : Nat)) rs (low + (m : Int))) := by
          show _ = _
          rw [ticks_succ, List.foldl_append, HR.out]
          rfl
        have hLb := loadTo_le fs ss sec (low + (m : Int)) fs.length
        have h8 := (slots_bd H2.out).2.1
        generalize hLL : ((loadTo fs ss sec (low + (m : Int)) fs.length : Nat) : Int) = L at *
        have hL0 : 0 ≤ L := by omega
        have hL1 : L ≤ 8 := by omega
        have HL := hide hLL
        have hm2 : (m : Int) ≤ 10291 := by omega
        clear hLL hLb h8 HR
        have tok0 : True := trivial
        by_cases hz : L = 0
        · have hz2 : (L == 0) = true := by rw [hz]; rfl
          have HNX : Hid ((ticks low (m + 1)).foldl (stepS (fun t => (loadTo fs ss sec t fs.length : Nat))) [] = rs) := by
            show _ = _
            rw [HST.out]; unfold stepS; rw [if_pos (by show ((loadTo fs ss sec (low + (m : Int)) fs.length : Nat) : Int) = 0; rw [HL.out]; exact hz)]
          have HZ := hide hz
          clear hz HST
          obtain ⟨av, cpv, rfl, _⟩ := own_runs HO.out
          go_wp2_with ((go_at_call 46; have _t := tok0; refine (l2Load_val a a' cap cap' fs ss sec _ _ HL.out _ (HC.out.later HB.out) (HC'.out.later HB.out) hl HVL.out H2.out).mono ?_; rintro e w1 ⟨rfl, hb1⟩; have HB1 := hide (below_two HB.out hb1); have HO1 := hide (own_later HO.out hb1); clear hb1 tok0))
          go_roundw
          case rel => exact ⟨m + 1, rs, by omega, by omega, by go_num, by omega, HNX.out, HO1.out, HB1.out⟩
          case measure => simp [RowKit.intOf]; omega
        · have hz2 : (L == 0) = false := beq_eq_false_iff_ne.2 hz
          have HZ : Hid ((loadTo fs ss sec (low + (m : Int)) fs.length : Nat) ≠ (0 : Int)) := by show _ ≠ _; rw [HL.out]; exact hz
          clear hz
          rcases snoc_cases rs with rfl | ⟨pre, r, rfl⟩
          · have HNX : Hid ((ticks low (m + 1)).foldl (stepS (fun t => (loadTo fs ss sec t fs.length : Nat))) [] = [] ++ [(low + (m : Int), low + (m : Int), L)]) := by
              show _ = _
              rw [HST.out, stepS_new HZ.out (by simp), HL.out]
            clear HST
            obtain ⟨av, cpv, rfl⟩ := own_len0 HO.out
            go_wp2_with (first
              | (go_at_call 46; have _t := tok0; refine (l2Load_val a a' cap cap' fs ss sec _ _ HL.out _ (HC.out.later HB.out) (HC'.out.later HB.out) hl HVL.out H2.out).mono ?_; rintro e w1 ⟨rfl, hb1⟩; have HB1 := hide (below_two HB.out hb1); have HO1 := hide (own_later HO.out hb1); clear hb1 tok0)
              | (at_builtin; refine wpList_append_own _ rfl _ _ 27 rfl w.heap.size 31 i0 (.agg #[.int .i64 0, .int .i64 0, .int .i64 0]) 3 24 Try.underlying27 hi iz0 iz1 iz2 rfl (by decide) _ _ _ rfl (HO1.out.alloc _) ⟨w1.heap.size, 0, none⟩ 1 1 [.int .i64 (low + (m : Int)), .int .i64 (low + (m : Int)), .int .i64 L] rfl rfl (cell_three_new _ _ _ _ _) (fun x hx => by simp at hx; rcases hx with rfl | rfl | rfl <;> rfl) (by unfold maxLen; first | (simp; done) | (simp; omega)) (by first | (simp; done) | (simp; omega)) (by have := HB1.out.size; simp; omega) ?_; intro v' w3 hown3 hgrow3 hnil3; have HO3 := hide hown3; have HB3 := hide (Below.grown (HB1.out.alloc HB1.out.size _) hgrow3 (by have := HB1.out.size; simp; omega) (fun q hq => (HO1.out.lt _ hq).1)); clear hown3 hgrow3 hnil3))
            go_roundw
            case rel => exact ⟨m + 1, [] ++ [(low + (m : Int), low + (m : Int), L)], by omega, by omega, by go_num, by simp, HNX.out, by show World.ownsRow _ _ _ _ _ _ _; rw [runCells_snoc, List.length_append]; exact HO3.out, HB3.out⟩
            case measure => simp [RowKit.intOf]; omega
          · obtain ⟨g, cp, rfl, hgb, hglt, gc1, gc2, gfz⟩ := own_form HO.out
            have hpl : pre.length + 1 ≤ m := by simpa using hrl
            have hpi0 : (0 : Int) ≤ (pre.length : Int) := by omega
            have hpi1 : (pre.length : Int) < (pre.length : Int) + 1 := by omega
            have hwr : IntKind.i64.wrap (pre.length : Int) = (pre.length : Int) := by rw [IntKind.wrap_i64]; omega
            by_cases h1 : r.2.1 = low + (m : Int) - 1
            · have h1' : (r.2.1 == low + (m : Int) - 1) = true := by rw [h1]; simp
              by_cases h2 : r.2.2 = L
              · have h2' : (r.2.2 == L) = true := by rw [h2]; simp
                have HNX : Hid ((ticks low (m + 1)).foldl (stepS (fun t => (loadTo fs ss sec t fs.length : Nat))) [] = pre ++ [(r.1, low + (m : Int), r.2.2)]) := by
                  show _ = _
                  rw [HST.out]
                  exact stepS_same HZ.out h1 (by show r.2.2 = ((loadTo fs ss sec (low + (m : Int)) fs.length : Nat) : Int); rw [HL.out]; exact h2)
                clear HST h1 h2
                go_wp2_with (first
                  | (go_at_call 46; have _t := tok0; refine (l2Load_val a a' cap cap' fs ss sec _ _ HL.out _ (HC.out.later HB.out) (HC'.out.later HB.out) hl HVL.out H2.out).mono ?_; rintro e w1 ⟨rfl, hb1⟩; have HB1 := hide (below_two HB.out hb1); have HO1 := hide (own_later HO.out hb1); have d1 := cell_later hb1 gc1; have d2 := cell_later hb1 gc2; have d3 := (hb1.frozen (p := ⟨g, pre.length * 3 + 1, none⟩) hglt).trans gfz; clear hb1 tok0))
                go_roundw
                case rel => exact ⟨m + 1, pre ++ [(r.1, low + (m : Int), r.2.2)], by omega, by omega, by go_num, by simp; omega, HNX.out, own_set HO1.out _, HB1.out.setCell hgb _⟩
                case measure => simp [RowKit.intOf]; omega
              · have h2' : (r.2.2 == L) = false := beq_eq_false_iff_ne.2 h2
                have HNX : Hid ((ticks low (m + 1)).foldl (stepS (fun t => (loadTo fs ss sec t fs.length : Nat))) [] = (pre ++ [r]) ++ [(low + (m : Int), low + (m : Int), L)]) := by
                  show _ = _
                  rw [HST.out, stepS_new HZ.out (fun q hq hh => by rw [List.getLast?_concat] at hq; simp at hq; subst hq; exact h2 (by rw [hh.2, HL.out])), HL.out]
                clear HST h1 h2
                go_wp2_with (first
                  | (go_at_call 46; have _t := tok0; refine (l2Load_val a a' cap cap' fs ss sec _ _ HL.out _ (HC.out.later HB.out) (HC'.out.later HB.out) hl HVL.out H2.out).mono ?_; rintro e w1 ⟨rfl, hb1⟩; have HB1 := hide (below_two HB.out hb1); have HO1 := hide (own_later HO.out hb1); have d1 := cell_later hb1 gc1; have d2 := cell_later hb1 gc2; have d3 := (hb1.frozen (p := ⟨g, pre.length * 3 + 1, none⟩) hglt).trans gfz; clear hb1 tok0)
                  | (at_builtin; refine wpList_append_own _ rfl _ _ 27 rfl w.heap.size 31 i0 (.agg #[.int .i64 0, .int .i64 0, .int .i64 0]) 3 24 Try.underlying27 hi iz0 iz1 iz2 rfl (by decide) _ _ _ rfl (HO1.out.alloc _) ⟨w1.heap.size, 0, none⟩ 1 1 [.int .i64 (low + (m : Int)), .int .i64 (low + (m : Int)), .int .i64 L] rfl rfl (cell_three_new _ _ _ _ _) (fun x hx => by simp at hx; rcases hx with rfl | rfl | rfl <;> rfl) (by unfold maxLen; first | (simp; done) | (simp; omega)) (by first | (simp; done) | (simp; omega)) (by have := HB1.out.size; simp; omega) ?_; intro v' w3 hown3 hgrow3 hnil3; have HO3 := hide hown3; have HB3 := hide (Below.grown (HB1.out.alloc HB1.out.size _) hgrow3 (by have := HB1.out.size; simp; omega) (fun q hq => (HO1.out.lt _ hq).1)); clear hown3 hgrow3 hnil3))
                go_roundw
                case rel => exact ⟨m + 1, (pre ++ [r]) ++ [(low + (m : Int), low + (m : Int), L)], by omega, by omega, by go_num, by simp; omega, HNX.out, by show World.ownsRow _ _ _ _ _ _ _; rw [runCells_snoc, List.length_append]; exact HO3.out, HB3.out⟩
                case measure => simp [RowKit.intOf]; omega
            · have h1' : (r.2.1 == low + (m : Int) - 1) = false := beq_eq_false_iff_ne.2 h1
              have HNX : Hid ((ticks low (m + 1)).foldl (stepS (fun t => (loadTo fs ss sec t fs.length : Nat))) [] = (pre ++ [r]) ++ [(low + (m : Int), low + (m : Int), L)]) := by
                show _ = _
                rw [HST.out, stepS_new HZ.out (fun q hq hh => by rw [List.getLast?_concat] at hq; simp at hq; subst hq; exact h1 hh.1), HL.out]
              clear HST h1
              go_wp2_with (first
                | (go_at_call 46; have _t := tok0; refine (l2Load_val a a' cap cap' fs ss sec _ _ HL.out _ (HC.out.later HB.out) (HC'.out.later HB.out) hl HVL.out H2.out).mono ?_; rintro e w1 ⟨rfl, hb1⟩; have HB1 := hide (below_two HB.out hb1); have HO1 := hide (own_later HO.out hb1); have d1 := cell_later hb1 gc1; have d2 := cell_later hb1 gc2; have d3 := (hb1.frozen (p := ⟨g, pre.length * 3 + 1, none⟩) hglt).trans gfz; clear hb1 tok0)
                | (at_builtin; refine wpList_append_own _ rfl _ _ 27 rfl w.heap.size 31 i0 (.agg #[.int .i64 0, .int .i64 0, .int .i64 0]) 3 24 Try.underlying27 hi iz0 iz1 iz2 rfl (by decide) _ _ _ rfl (HO1.out.alloc _) ⟨w1.heap.size, 0, none⟩ 1 1 [.int .i64 (low + (m : Int)), .int .i64 (low + (m : Int)), .int .i64 L] rfl rfl (cell_three_new _ _ _ _ _) (fun x hx => by simp at hx; rcases hx with rfl | rfl | rfl <;> rfl) (by unfold maxLen; first | (simp; done) | (simp; omega)) (by first | (simp; done) | (simp; omega)) (by have := HB1.out.size; simp; omega) ?_; intro v' w3 hown3 hgrow3 hnil3; have HO3 := hide hown3; have HB3 := hide (Below.grown (HB1.out.alloc HB1.out.size _) hgrow3 (by have := HB1.out.size; simp; omega) (fun q hq => (HO1.out.lt _ hq).1)); clear hown3 hgrow3 hnil3))
              go_roundw
              case rel => exact ⟨m + 1, (pre ++ [r]) ++ [(low + (m : Int), low + (m : Int), L)], by omega, by omega, by go_num, by simp; omega, HNX.out, by show World.ownsRow _ _ _ _ _ _ _; rw [runCells_snoc, List.length_append]; exact HO3.out, HB3.out⟩
              case measure => simp [RowKit.intOf]; omega
      · go_wp2
        go_ret
        have hfin : rs = runsL fs ss sec := by
          rw [← HR.out]
          unfold runsL
          refine ticksS_do _ _ _ _ _ (fun x hx => ?_) (fun x hx => ?_) _
          · have := ends_load H2.out HE.out (show loadTo fs ss sec x fs.length ≠ 0 by omega)
            omega
          · have := ends_load H2.out HE.out (show loadTo fs ss sec x fs.length ≠ 0 by omega)
            omega
        subst hfin
        exact ⟨_, rfl, HO.out, HB.out⟩

end Go.Proofs.Ytciacofibljmoaa
