/- The runs, out of the changes in order: the program's own walk. -/
import Derived.Test.YtciacofibljmoaaGreatSorted
namespace Go.Proofs.YtciacofibljmoaaGreat
open Go.RowKit Go.Maps

/-- The cells of runs. -/
def runCells (rs : List Run) : List Value := rs.flatMap fun r => [.int .i64 r.1, .int .i64 r.2.1, .int .i64 r.2.2]
theorem runCells_len (rs : List Run) : (runCells rs).length = rs.length * 3 := by
  induction rs with
  | nil => rfl
  | cons r l ih => simp only [runCells, List.flatMap_cons, List.length_append, List.length_cons, List.length_nil] at *; omega
theorem runCells_snoc (rs : List Run) (r : Run) : runCells (rs ++ [r]) = runCells rs ++ [.int .i64 r.1, .int .i64 r.2.1, .int .i64 r.2.2] := by simp [runCells, List.flatMap_append]
/-- A slice of the call's own that holds these runs. -/
def OwnRuns (w : World) (base : Nat) (v : Value) (rs : List Run) : Prop := w.ownsRow base 76 3 v rs.length (runCells rs)

theorem info_run : (Tryz.prog.info? 76).map (fun i => (i.zero, i.size, i.bytes)) = some (some (.agg #[.int .i64 0, .int .i64 0, .int .i64 0]), 3, 24) := by kernel_rfl
theorem cell_three_new (w : World) (a b c : Value) (t : TypeId) : ∀ j u, [a, b, c][j]? = some u → (w.alloc (.cells #[a, b, c] t)).cell? ((⟨w.heap.size, 0, none⟩ : Addr).add j) = some u := by
  intro j u hj
  match j, hj with
  | 0, hj => simp at hj; subst hj; simp [Addr.add]
  | 1, hj => simp at hj; subst hj; simp [Addr.add]
  | 2, hj => simp at hj; subst hj; simp [Addr.add]
  | j + 3, hj => simp at hj

set_option maxRecDepth 100000 in
set_option maxHeartbeats 3200000 in
theorem runsOf_any (B n : Nat) (D : DataW Unit) (f : Int → Int) (K : Int → Prop) (w : World) (h : Chg w B n D f K) (hn : n ≤ 1000) (hK : ∀ x, K x → 0 ≤ x ∧ x ≤ 20000) (hf : ∀ x, -1000 ≤ f x ∧ f x ≤ 1000) :
    Calls Tryz.prog 52 #[.map (some B)] w fun e w' => ∃ (v : Value) (zs : List Int), e = .returned v ∧ zs.Pairwise (· < ·) ∧ (∀ x, x ∈ zs ↔ K x) ∧ OwnRuns w' w.heap.size v (zs.foldl (stepR f) ([], 0, 0)).1 ∧ (zs.foldl (stepR f) ([], 0, 0)).1.length ≤ 1000 ∧ Below w.heap.size w w' := by
  obtain ⟨i0, hi, hz0, hz1, hz2⟩ := info_parts info_run
  have HCH := hide h
  have HKB := hide hK
  have HF := hide hf
  clear h hK hf
  go_enter Tryz.func52, Tryz.ntmps52
  go_wp2_with fail
  refine (keys_calls (some B) w).mono ?_
  rintro e w1 ⟨rfl, rfl⟩
  go_wp2_with fail
  refine (sorted_calls B n D f K w HCH.out hn).mono ?_
  rintro e w2 ⟨a, cap, zs, rfl, hzs, hasc, hmem, hlen, hb2⟩
  have HZ := hide hzs
  have HAS := hide hasc
  have HME := hide hmem
  have HB2 := hide hb2
  have HC2 := hide (HCH.out.later hb2)
  have hlen2 : zs.length ≤ 1000 := by omega
  clear hzs hasc hmem hlen hb2 HCH
  go_wp2
  go_loopw [3, 4, 5, 12] (fun v q l i wr => ∃ (k : Nat) (rs : List Run) (fr ld : Int), k ≤ zs.length ∧ i = .int .i64 k ∧ q = .int .i64 fr ∧ l = .int .i64 ld ∧ -(1000 * (k : Int)) ≤ ld ∧ ld ≤ 1000 * (k : Int) ∧ rs.length ≤ k ∧ Hid ((zs.take k).foldl (stepR f) ([], 0, 0) = (rs, fr, ld)) ∧ Hid (OwnRuns wr w2.heap.size v rs) ∧ Hid (Below w2.heap.size w2 wr)) (fun _ _ _ i _ => zs.length - (RowKit.intOf i).toNat)
  case atStart => exact ⟨0, [], 0, 0, Nat.zero_le _, rfl, rfl, rfl, by omega, by omega, Nat.le_refl _, rfl, World.ownsRow_nil _ _ _ _, Below.refl _ _⟩
  case round =>
    obtain ⟨k, rs, fr, ld, hk, rfl, rfl, rfl, hl0, hl1, hrl, HR, HO, HB⟩ := hrel
    by_cases hlt : k < zs.length
    · obtain ⟨b, off, rfl, hblt, e0⟩ := HZ.out.later HB.out k hlt
      have hkey := HKB.out _ ((HME.out _).1 (List.getElem_mem hlt))
      have hfb := HF.out zs[k]
      have HST : Hid ((zs.take (k + 1)).foldl (stepR f) ([], 0, 0) = stepR f (rs, fr, ld) zs[k]) := by
        show _ = _
        rw [List.take_succ_eq_append_getElem hlt, List.foldl_append, HR.out]
        rfl
      clear HR
      generalize zs[k] = t at e0 hkey hfb HST
      obtain ⟨ht0, ht1⟩ := hkey
      obtain ⟨hf0, hf1⟩ := hfb
      have HC3 := hide (HC2.out.later HB.out)
      have tok1 : True := trivial
      have tok2 : True := trivial
      generalize hft : f t = ft at hf0 hf1
      have HFT := hide hft
      clear hft
      by_cases hd : ft = 0
      · have hd2 : (ft == 0) = true := by rw [hd]; rfl
        have HST2 : Hid ((zs.take (k + 1)).foldl (stepR f) ([], 0, 0) = (rs, fr, ld)) := by
          show _ = _
          rw [HST.out]; unfold stepR; rw [if_pos (by rw [HFT.out, hd])]
        have HD := hide hd
        clear hd HST
        go_wp2_with (first
          | (at_lookup; have _t := tok1; refine wpList_lookup_own_int _ rfl _ _ 73 rfl 3 3 .i64 law_int Tryz.underlying73 Tryz.underlying3 (zero_int _) B n D rfl HC3.out.1 _ _ rfl (keyOf_int_mk Tryz.underlying3 (WalkArith.wf_i64 (by omega))) ?_; intro c1 hat1 hwc1; obtain rfl := ((chg_at HC3.out hat1).trans HFT.out).symm; clear tok1 hat1 hwc1))
        go_roundw
        case rel => exact ⟨k + 1, rs, fr, ld, by omega, by go_num, rfl, rfl, by omega, by omega, by omega, HST2, HO.out, HB.out⟩
        case measure => simp [RowKit.intOf]; omega
      · have hd2 : (ft == 0) = false := beq_eq_false_iff_ne.2 hd
        by_cases hpos : 0 < ld
        · have HST2 : Hid ((zs.take (k + 1)).foldl (stepR f) ([], 0, 0) = (rs ++ [(fr, t - 1, ld)], t, ld + ft)) := by
            show _ = _
            rw [HST.out]; unfold stepR; rw [if_neg (by rw [HFT.out]; exact hd), if_pos hpos, HFT.out]
          have HD := hide hd
          clear hd HST
          go_wp2_with (first
            | (at_lookup; have _t := tok1; refine wpList_lookup_own_int _ rfl _ _ 73 rfl 3 3 .i64 law_int Tryz.underlying73 Tryz.underlying3 (zero_int _) B n D rfl HC3.out.1 _ _ rfl (keyOf_int_mk Tryz.underlying3 (WalkArith.wf_i64 (by omega))) ?_; intro c1 hat1 hwc1; obtain rfl := ((chg_at HC3.out hat1).trans HFT.out).symm; clear tok1 hat1 hwc1)
            | (at_builtin; refine wpList_append_own _ rfl _ _ 71 rfl w2.heap.size 76 i0 (.agg #[.int .i64 0, .int .i64 0, .int .i64 0]) 3 24 Tryz.underlying71 hi hz0 hz1 hz2 rfl (by decide) _ _ _ rfl (HO.out.alloc _) ⟨wr.heap.size, 0, none⟩ 1 1 [.int .i64 fr, .int .i64 (t - 1), .int .i64 ld] rfl rfl (cell_three_new _ _ _ _ _) (fun x hx => by simp at hx; rcases hx with rfl | rfl | rfl <;> rfl) (by unfold maxLen; omega) (by omega) (by have := HB.out.size; simp; omega) ?_; intro v' w3 hown3 hgrow3 hnil3; have HO3 := hide hown3; have HB3 := hide (Below.grown (HB.out.alloc HB.out.size _) hgrow3 (by have := HB.out.size; simp; omega) (fun q hq => (HO.out.lt _ hq).1)); have HC4 := hide (HC2.out.later HB3.out); clear hown3 hgrow3 hnil3)
            | (at_lookup; have _t := tok2; refine wpList_lookup_own_int _ rfl _ _ 73 rfl 3 3 .i64 law_int Tryz.underlying73 Tryz.underlying3 (zero_int _) B n D rfl HC4.out.1 _ _ rfl (keyOf_int_mk Tryz.underlying3 (WalkArith.wf_i64 (by omega))) ?_; intro c2 hat2 hwc2; obtain rfl := ((chg_at HC4.out hat2).trans HFT.out).symm; clear tok2 hat2 hwc2))
          go_roundw
          case rel => exact ⟨k + 1, rs ++ [(fr, t - 1, ld)], t, ld + ft, by omega, by go_num, rfl, rfl, by omega, by omega, by simp; omega, HST2, by show World.ownsRow _ _ _ _ _ _ _; rw [runCells_snoc, List.length_append]; exact HO3.out, HB3.out⟩
          case measure => simp [RowKit.intOf]; omega
        · have HST2 : Hid ((zs.take (k + 1)).foldl (stepR f) ([], 0, 0) = (rs, t, ld + ft)) := by
            show _ = _
            rw [HST.out]; unfold stepR; rw [if_neg (by rw [HFT.out]; exact hd), if_neg hpos, HFT.out]
          have HD := hide hd
          clear hd HST
          go_wp2_with (first
            | (at_lookup; have _t := tok1; refine wpList_lookup_own_int _ rfl _ _ 73 rfl 3 3 .i64 law_int Tryz.underlying73 Tryz.underlying3 (zero_int _) B n D rfl HC3.out.1 _ _ rfl (keyOf_int_mk Tryz.underlying3 (WalkArith.wf_i64 (by omega))) ?_; intro c1 hat1 hwc1; obtain rfl := ((chg_at HC3.out hat1).trans HFT.out).symm; clear tok1 hat1 hwc1)
            | (at_lookup; have _t := tok2; refine wpList_lookup_own_int _ rfl _ _ 73 rfl 3 3 .i64 law_int Tryz.underlying73 Tryz.underlying3 (zero_int _) B n D rfl HC3.out.1 _ _ rfl (keyOf_int_mk Tryz.underlying3 (WalkArith.wf_i64 (by omega))) ?_; intro c2 hat2 hwc2; obtain rfl := ((chg_at HC3.out hat2).trans HFT.out).symm; clear tok2 hat2 hwc2))
          go_roundw
          case rel => exact ⟨k + 1, rs, t, ld + ft, by omega, by go_num, rfl, rfl, by omega, by omega, by omega, HST2, HO.out, HB.out⟩
          case measure => simp [RowKit.intOf]; omega
    · go_wp2
      go_ret
      have : k = zs.length := by omega
      subst this
      have hR := HR.out
      rw [List.take_length] at hR
      refine ⟨_, zs, rfl, HAS.out, HME.out, ?_, by rw [hR]; show rs.length ≤ 1000; omega, ?_⟩
      · rw [hR]
        have h2 := HB2.out.size
        have h3 := HO.out
        obtain ⟨q1, q2⟩ := h3
        refine ⟨q1, ?_⟩
        rcases q2 with q2 | ⟨g, cp, cur, e1, e2, e3⟩
        · exact .inl q2
        · exact .inr ⟨g, cp, cur, e1, by omega, e3⟩
      · exact below_two HB2.out HB.out

end Go.Proofs.YtciacofibljmoaaGreat
