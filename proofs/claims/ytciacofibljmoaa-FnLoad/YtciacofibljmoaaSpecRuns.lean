/- The document's runs, tick by tick, walked. -/
import Derived.Test.YtciacofibljmoaaFits3
namespace Go.Proofs.Ytciacofibljmoaa
open Go.RowKit

/-- Ticks without a load may be left out. -/
theorem foldS_skip (n : Int → Int) : ∀ (l : List Int) (out : List Run), l.foldl (stepS n) out = (l.filter fun t => decide (n t ≠ 0)).foldl (stepS n) out
  | [], _ => rfl
  | t :: l, out => by
    by_cases h : n t = 0
    · rw [List.foldl_cons, List.filter_cons_of_neg (by simpa using h), foldS_skip n l]
      have : stepS n out t = out := by unfold stepS; rw [if_pos h]
      rw [this]
    · rw [List.foldl_cons, List.filter_cons_of_pos (by simpa using h), List.foldl_cons, foldS_skip n l]
theorem ticksS_do (n : Int → Int) (low low' : Int) (m m' : Nat) (h1 : ∀ x, n x ≠ 0 → low ≤ x ∧ x < low + m) (h2 : ∀ x, n x ≠ 0 → low' ≤ x ∧ x < low' + m') (out : List Run) : (ticks low m).foldl (stepS n) out = (ticks low' m').foldl (stepS n) out := by
  rw [foldS_skip n (ticks low m), foldS_skip n (ticks low' m')]
  congr 1
  refine asc_eq ((ticks_asc low m).filter _) ((ticks_asc low' m').filter _) fun x => ?_
  simp only [List.mem_filter, decide_eq_true_eq]
  constructor
  · rintro ⟨_, hx⟩; exact ⟨(mem_ticks _ _ x).2 (h2 x hx), hx⟩
  · rintro ⟨_, hx⟩; exact ⟨(mem_ticks _ _ x).2 (h1 x hx), hx⟩

theorem free_le {vs : List Vis} (hv : visTo vs vs.length = true) : ∀ (d j : Nat), j + d = vs.length → freeAt vs j ≤ freeAt vs vs.length
  | 0, j, h => by rw [show j = vs.length by omega]; exact Int.le_refl _
  | d + 1, j, h => by
    have h1 := free_mono hv (show j < vs.length by omega)
    have h2 := free_le hv d (j + 1) (by omega)
    omega
/-- When a flight is nowhere any more. -/
def endOf (f : Fli) (slot : Int) : Int := slot + freeAt f.2.2.2 f.2.2.2.length
/-- What the ends of all that fly are good for. -/
def Ends (fs : List Fli) (ss : List Int) (k : Nat) (low high : Int) : Prop := ∀ i (hi : i < fs.length) (hi' : i < ss.length), i < k → 0 ≤ ss[i] → low ≤ ss[i] ∧ endOf fs[i] ss[i] ≤ high
theorem ends_load {fs : List Fli} {ss : List Int} (h : slotsB fs ss = true) {low high : Int} (he : Ends fs ss fs.length low high) {sec : ByteArray} {t : Int} (hl : loadTo fs ss sec t fs.length ≠ 0) : low ≤ t ∧ t < high := by
  obtain ⟨hln, _, hsb, hfb⟩ := slots_bd h
  have hv := slots_vis h
  have hpos : 0 < loadTo fs ss sec t fs.length := by omega
  unfold loadTo at hpos
  obtain ⟨i, hi⟩ := List.exists_mem_of_length_pos hpos
  obtain ⟨hi1, hi2⟩ := List.mem_filter.1 hi
  have hil := List.mem_range.1 hi1
  unfold flyAt at hi2
  rw [getD_at fs i _ hil, getD_at ss i _ (by omega)] at hi2
  simp only [Bool.and_eq_true, decide_eq_true_eq] at hi2
  obtain ⟨j, hj, hh⟩ := has_at hi2.2
  unfold hasAt at hh
  rw [getD_at _ j _ hj] at hh
  simp only [Bool.and_eq_true] at hh
  have hin := inB_iff.1 hh.2
  have hb := vis_at (hv i hil) hj
  have hf0 := freeAt_bd (vs := fs[i].2.2.2) (k := j) (by
    have := hv i hil
    unfold visTo at this ⊢
    rw [List.all_eq_true] at this ⊢
    intro q hq
    exact this q (List.mem_range.2 (by have := List.mem_range.1 hq; omega))) (by omega)
  have hfj := free_le (hv i hil) (fs[i].2.2.2.length - (j + 1)) (j + 1) (by omega)
  rw [freeAt_succ _ j hj] at hfj
  have := he i hil (by omega) hil hi2.1
  unfold endOf at this
  omega

theorem alloc3d (wr : World) (a b c : Value) (t : TypeId) : ∃ W, (wr.alloc (.cells #[a, b, c] t)).drew = W ∧ W.cell? ⟨wr.heap.size, 1, none⟩ = some b ∧ W.cell? ⟨wr.heap.size, 2, none⟩ = some c ∧ Below wr.heap.size wr W :=
  ⟨_, rfl, by show (wr.alloc _).cell? _ = _; simp, by show (wr.alloc _).cell? _ = _; simp, ((Below.refl _ _).alloc (Nat.le_refl _) _).drew⟩
theorem endOf_last (f : Fli) (slot : Int) (n : Nat) (h : f.2.2.2.length = n + 1) : endOf f slot = slot + (f.2.2.2[n]'(by omega)).2.1 + (f.2.2.2[n]'(by omega)).2.2 := by
  unfold endOf
  have h1 : freeAt f.2.2.2 f.2.2.2.length = freeAt f.2.2.2 (n + 1) := congrArg _ h
  rw [h1, freeAt_succ f.2.2.2 n (by omega)]
  omega

set_option maxRecDepth 100000 in
set_option maxHeartbeats 3200000 in
theorem l2Ends_any (a a' : Option Addr) (cap cap' : Nat) (fs : List Fli) (ss : List Int) (w : World) (hc : FlightsIn w a fs) (hc' : IntsIn w a' ss) (hok : slotsB fs ss = true) :
    Calls Try.prog 62 #[.slice a fs.length cap, .slice a' ss.length cap'] w fun e w' => (∃ low high : Int, e = .returned (.tuple #[.int .i64 low, .int .i64 high]) ∧ 0 ≤ low ∧ low ≤ 10290 ∧ -1 ≤ high ∧ high ≤ 10290 ∧ Ends fs ss fs.length low high) ∧ Below w.heap.size w w' := by
  obtain ⟨hln, h8, hsb, hfb⟩ := slots_bd hok
  have hvs := slots_vis hok
  have HC := hide hc
  have HC' := hide hc'
  have HSB := hide hsb
  have HFB := hide hfb
  have HVS := hide hvs
  have hln1 : fs.length ≤ ss.length := by omega
  clear hc hc' hsb hfb hok hln hvs
  go_enter Try.func62, Try.ntmps62
  go_wp2
  go_loopw [6, 7, 8] (fun lo hi i wr => ∃ (k : Nat) (low high : Int), k ≤ fs.length ∧ i = .int .i64 k ∧ lo = .int .i64 low ∧ hi = .int .i64 high ∧ 0 ≤ low ∧ low ≤ 10290 ∧ -1 ≤ high ∧ high ≤ 10290 ∧ Hid (Ends fs ss k low high) ∧ Hid (Below w.heap.size w wr)) (fun _ _ i _ => fs.length - (RowKit.intOf i).toNat)
  case atStart => exact ⟨0, 10290, -1, Nat.zero_le _, rfl, rfl, rfl, by omega, by omega, by omega, by omega, fun i _ _ hi => by omega, Below.refl _ _⟩
  case round =>
    obtain ⟨k, low, high, hk, rfl, rfl, rfl, hl0, hl1, hh0, hh1, HE, HB⟩ := hrel
    by_cases hlt : k < fs.length
    · have hlt2 : k < ss.length := by omega
      obtain ⟨b, off, rfl, hblt, _, _, _, av, cv, e3, hv⟩ := HC.out.later HB.out k hlt
      obtain ⟨b', off', rfl, hblt', s0⟩ := HC'.out.later HB.out k hlt2
      obtain ⟨z0, z1⟩ := HSB.out k hlt2
      obtain ⟨hbd, _, _, hvl0, hvl1⟩ := HFB.out k hlt
      have HSTEP : Hid (∀ low' high', low' ≤ low → high ≤ high' → (0 ≤ ss[k] → low' ≤ ss[k] ∧ endOf fs[k] ss[k] ≤ high') → Ends fs ss (k + 1) low' high') := fun low' high' q1 q2 q3 i hi hi' hik hz => by
        by_cases e : i = k
        · subst e; exact q3 hz
        · have := HE.out i hi hi' (by omega) hz; omega
      clear HE
      generalize fs[k] = c at e3 hv hbd hvl0 hvl1 HSTEP
      generalize ss[k] = z at s0 z0 z1 HSTEP
      have k0 : (0 : Int) ≤ (k : Int) := by omega
      have k1 : (k : Int) < (fs.length : Int) := by omega
      have k2 : (k : Int) < (ss.length : Int) := by omega
      by_cases hz : z < 0
      · have HN := hide (HSTEP.out low high (Int.le_refl _) (Int.le_refl _) (fun h => by omega))
        clear HSTEP hv hbd
        go_wp2
        go_roundw
        case rel => exact ⟨k + 1, low, high, by omega, by go_num, rfl, rfl, hl0, hl1, hh0, hh1, HN.out, HB.out⟩
        case measure => simp [RowKit.intOf]; omega
      · obtain ⟨n1, hn1⟩ : ∃ n1, c.2.2.2.length = n1 + 1 := ⟨c.2.2.2.length - 1, by omega⟩
        obtain ⟨bv, ov, rfl, hbv, v0, v1, v2⟩ := hv n1 (by omega)
        obtain ⟨⟨a0, a1⟩, a2, a3⟩ := hbd _ (List.getElem_mem (show n1 < c.2.2.2.length by omega))
        have HEND2 := hide (endOf_last c z n1 hn1)
        generalize (c.2.2.2[n1]'(by omega)) = v at v0 v1 v2 a0 a1 a2 a3 HEND2
        clear hv hbd
        rw [hn1] at e3
        have hnn : (0 : Int) ≤ (n1 : Int) := by omega
        have hnm : (n1 : Int) < (n1 : Int) + 1 := by omega
        have hwr : IntKind.i64.wrap (n1 : Int) = (n1 : Int) := by rw [IntKind.wrap_i64]; omega
        clear hn1 hvl0
        go_wp2
        have n0 := World.new_ne wr _ v0
        have n1' := World.new_ne wr _ v1
        have n2 := World.new_ne wr _ v2
        have n3 := World.new_ne wr _ e3
        have n4 := World.new_ne wr _ s0
        go_region_held3 (fun w' => w'.cell? ⟨b, off + k * 4 + 3, none⟩ = some (.slice (some ⟨bv, ov, none⟩) (n1 + 1) cv) ∧ w'.cell? ⟨bv, ov + n1 * 3, none⟩ = some (.string v.1) ∧ w'.cell? ⟨bv, ov + n1 * 3 + 1, none⟩ = some (.int .i64 v.2.1) ∧ w'.cell? ⟨bv, ov + n1 * 3 + 2, none⟩ = some (.int .i64 v.2.2)) (go_keep) (fail)
        rename_i hH
        clear hH
        obtain ⟨W, hW, x1, x2, hWb⟩ := alloc3d wr (.string v.1) (.int .i64 v.2.1) (.int .i64 v.2.2) 110
        rw [hW]
        have s1 := cell_later hWb s0
        clear hW n0 n1' n2 n3 n4 v0 v1 v2 e3 s0
        by_cases hlo : z < low
        · by_cases hhi : high < z + v.2.1 + v.2.2
          · have HN := hide (HSTEP.out z (z + v.2.1 + v.2.2) (by omega) (by omega) (fun _ => ⟨by omega, by rw [HEND2.out]; omega⟩))
            clear HSTEP HEND2
            go_wp2
            have y1 := grow_cell x1
            have y2 := grow_cell x2
            have y3 := grow_cell s1
            have X1 := hide x1
            have X2 := hide x2
            have S1 := hide s1
            clear x1 x2 s1
            have hneu := grow_some W
            refine wp_region_grow (by kernel_rfl) (by kernel_rfl) ?_
            repeat (go_big_quiet_step (fail))
            refine wpQuiet_nil ?_
            intro _ hw'
            obtain ⟨u, hw''⟩ := hw'
            subst hw''
            go_wp2
            have t1 := grow_cell (y1 u)
            have t2 := grow_cell (y2 u)
            have t3 := grow_cell (y3 u)
            clear y1 y2 y3
            have hneu2 := grow_some u.val
            refine wp_region_grow (by kernel_rfl) (by kernel_rfl) ?_
            repeat (go_big_quiet_step (fail))
            refine wpQuiet_nil ?_
            intro _ hw'
            obtain ⟨u2, hw''⟩ := hw'
            subst hw''
            go_wp2
            go_roundw
            case rel => exact ⟨k + 1, z, (z + v.2.1 + v.2.2), by omega, by go_num, rfl, rfl, by omega, by omega, by omega, by omega, HN.out, below_two (below_two (below_two HB.out hWb) u.below) u2.below⟩
            case measure => simp [RowKit.intOf]; omega
          · have HN := hide (HSTEP.out z high (by omega) (by omega) (fun _ => ⟨by omega, by rw [HEND2.out]; omega⟩))
            have hgt' : decide (high < z + v.2.1 + v.2.2) = false := decide_eq_false hhi
            clear HSTEP HEND2
            go_wp2
            have y1 := grow_cell x1
            have y2 := grow_cell x2
            have y3 := grow_cell s1
            have X1 := hide x1
            have X2 := hide x2
            have S1 := hide s1
            clear x1 x2 s1
            have hneu := grow_some W
            refine wp_region_grow (by kernel_rfl) (by kernel_rfl) ?_
            repeat (go_big_quiet_step (fail))
            refine wpQuiet_nil ?_
            intro _ hw'
            obtain ⟨u, hw''⟩ := hw'
            subst hw''
            go_wp2
            go_roundw
            case rel => exact ⟨k + 1, z, high, by omega, by go_num, rfl, rfl, by omega, by omega, by omega, by omega, HN.out, below_two (below_two HB.out hWb) u.below⟩
            case measure => simp [RowKit.intOf]; omega
        · by_cases hhi : high < z + v.2.1 + v.2.2
          · have HN := hide (HSTEP.out low (z + v.2.1 + v.2.2) (by omega) (by omega) (fun _ => ⟨by omega, by rw [HEND2.out]; omega⟩))
            have hlt' : decide (z < low) = false := decide_eq_false hlo
            clear HSTEP HEND2
            go_wp2
            have y1 := grow_cell x1
            have y2 := grow_cell x2
            have y3 := grow_cell s1
            have X1 := hide x1
            have X2 := hide x2
            have S1 := hide s1
            clear x1 x2 s1
            have hneu := grow_some W
            refine wp_region_grow (by kernel_rfl) (by kernel_rfl) ?_
            repeat (go_big_quiet_step (fail))
            refine wpQuiet_nil ?_
            intro _ hw'
            obtain ⟨u, hw''⟩ := hw'
            subst hw''
            go_wp2
            have t1 := grow_cell (y1 u)
            have t2 := grow_cell (y2 u)
            have t3 := grow_cell (y3 u)
            clear y1 y2 y3
            have hneu2 := grow_some u.val
            refine wp_region_grow (by kernel_rfl) (by kernel_rfl) ?_
            repeat (go_big_quiet_step (fail))
            refine wpQuiet_nil ?_
            intro _ hw'
            obtain ⟨u2, hw''⟩ := hw'
            subst hw''
            go_wp2
            go_roundw
            case rel => exact ⟨k + 1, low, (z + v.2.1 + v.2.2), by omega, by go_num, rfl, rfl, by omega, by omega, by omega, by omega, HN.out, below_two (below_two (below_two HB.out hWb) u.below) u2.below⟩
            case measure => simp [RowKit.intOf]; omega
          · have HN := hide (HSTEP.out low high (by omega) (by omega) (fun _ => ⟨by omega, by rw [HEND2.out]; omega⟩))
            have hlt' : decide (z < low) = false := decide_eq_false hlo
            have hgt' : decide (high < z + v.2.1 + v.2.2) = false := decide_eq_false hhi
            clear HSTEP HEND2
            go_wp2
            have y1 := grow_cell x1
            have y2 := grow_cell x2
            have y3 := grow_cell s1
            have X1 := hide x1
            have X2 := hide x2
            have S1 := hide s1
            clear x1 x2 s1
            have hneu := grow_some W
            refine wp_region_grow (by kernel_rfl) (by kernel_rfl) ?_
            repeat (go_big_quiet_step (fail))
            refine wpQuiet_nil ?_
            intro _ hw'
            obtain ⟨u, hw''⟩ := hw'
            subst hw''
            go_wp2
            go_roundw
            case rel => exact ⟨k + 1, low, high, by omega, by go_num, rfl, rfl, by omega, by omega, by omega, by omega, HN.out, below_two (below_two HB.out hWb) u.below⟩
            case measure => simp [RowKit.intOf]; omega
    · go_wp2
      go_ret2
      have : k = fs.length := by omega
      subst this
      exact ⟨⟨low, high, rfl, hl0, hl1, hh0, hh1, HE.out⟩, HB.out⟩

end Go.Proofs.Ytciacofibljmoaa
