/- A region that draws its order, whose own operations only read, and whose callees may make memory: one walk in the order of the text. -/
import Derived.Test.YtciacofibljmoaaGreatVisImpl
namespace Go.Proofs.YtciacofibljmoaaGreat
open Go.RowKit

/-- A world that has grown out of W: what was there is as it was. -/
structure Grow (W : World) where
  val : World
  below : Below W.heap.size W val

theorem grow_some (W : World) : Nonempty (Grow W) := ⟨⟨W, Below.refl _ _⟩⟩
theorem wp_region_grow {P : Program} {id : Nat} {Q : Exit → Act → World → Prop} {a : Act} {w : World} {l : List Oper} (hm : P.follows .mixedOrders = true) (hB : Region.lexB .any l.toArray = true)
    (h : wpQuiet P l.toArray (fun w' => ∃ u : Grow w, w' = u.val) (fun a' => ∀ w', (∃ u : Grow w, w' = u.val) → Q .normal a' w') l a) : (Code.region id l.toArray true).wp P Q a w :=
  wp_region_quiet (C := fun w' => ∃ u : Grow w, w' = u.val) hm hB ⟨⟨w.drew, (Below.refl _ _).drew⟩, rfl⟩ (by simpa using h)
theorem grow_of {P : Program} {f : FuncId} {args : Array Value} {W : World} {u : Grow W} {v : Value} (h : Calls P f args u.val fun e w' => e = .returned v ∧ Below u.val.heap.size u.val w') :
    Calls P f args u.val fun e w'' => e = .returned v ∧ ∃ u' : Grow W, w'' = u'.val := h.mono fun _ w1 ⟨he, hb⟩ => ⟨he, ⟨w1, below_two u.below hb⟩, rfl⟩
theorem grow_same {P : Program} {f : FuncId} {args : Array Value} {W : World} {u : Grow W} {v : Value} (h : Calls P f args u.val fun e w' => e = .returned v ∧ w' = u.val) :
    Calls P f args u.val fun e w'' => e = .returned v ∧ ∃ u' : Grow W, w'' = u'.val := h.mono fun _ _ ⟨he, hb⟩ => ⟨he, u, hb⟩
theorem grow_cell {W : World} {a : Addr} {v : Value} (h : W.cell? a = some v) (u : Grow W) : u.val.cell? a = some v := cell_later u.below h

theorem alloc4 (wr : World) (a b c d : Value) (t : TypeId) : ∃ W, wr.alloc (.cells #[a, b, c, d] t) = W ∧ W.cell? ⟨wr.heap.size, 0, none⟩ = some a ∧ W.cell? ⟨wr.heap.size, 1, none⟩ = some b ∧ W.cell? ⟨wr.heap.size, 2, none⟩ = some c ∧ W.cell? ⟨wr.heap.size, 3, none⟩ = some d ∧ Below wr.heap.size wr W :=
  ⟨_, rfl, by simp, by simp, by simp, by simp, (Below.refl _ _).alloc (Nat.le_refl _) _⟩

/-- A flight at a place is ok, and behind the one ahead of it. -/
def fliOkAt (fs : List Fli) (i : Nat) : Bool :=
  nameB (fs.getD i (ByteArray.empty, 0, 0, [])).1 && (decide (i = 0) || ahead (fs.getD (i - 1) (ByteArray.empty, 0, 0, [])).1 (fs.getD i (ByteArray.empty, 0, 0, [])).1) &&
    inB (fs.getD i (ByteArray.empty, 0, 0, [])).2.1 0 10000 && inB (fs.getD i (ByteArray.empty, 0, 0, [])).2.2.1 0 60 && visB (fs.getD i (ByteArray.empty, 0, 0, [])).2.2.2
def flisTo (fs : List Fli) (k : Nat) : Bool := (List.range k).all (fliOkAt fs)
def flisB (fs : List Fli) : Bool := decide (fs.length ≤ 8) && flisTo fs fs.length

theorem l1VisitsOk_val (a : Option Addr) (cap : Nat) (vs : List Vis) (q : Bool) (h : visB vs = q) (w : World) (hc : VisitsIn w a vs) (hl : vs.length ≤ 1048576) (hs : ∀ v ∈ vs, v.1.size ≤ maxLen) :
    Calls Tryz.prog 49 #[.slice a vs.length cap] w fun e w' => e = .returned (.bool q) ∧ Below w.heap.size w w' := by rw [← h]; exact l1VisitsOk_any a cap vs w hc hl hs

set_option maxRecDepth 100000 in
set_option maxHeartbeats 3200000 in
theorem specFlightsOk_any (a : Option Addr) (cap : Nat) (fs : List Fli) (w : World) (hc : FlightsIn w a fs) (hl : fs.length ≤ 1048576) (hvl : ∀ f ∈ fs, f.2.2.2.length ≤ 1048576) (hs : ∀ f ∈ fs, SizesOk f) :
    Calls Tryz.prog 14 #[.slice a fs.length cap] w fun e w' => e = .returned (.bool (flisB fs)) ∧ Below w.heap.size w w' := by
  by_cases h8 : (8 : Int) < (fs.length : Int)
  · go_enter Tryz.func14, Tryz.ntmps14
    go_wp2
    go_ret
    have : decide (fs.length ≤ 8) = false := decide_eq_false (by omega)
    exact ⟨by simp [flisB, this], Below.refl _ _⟩
  · have d8 : decide (fs.length ≤ 8) = true := decide_eq_true (by omega)
    have D : Hid (flisB fs = flisTo fs fs.length) := by show _ = _; simp [flisB, d8]
    clear d8
    go_enter Tryz.func14, Tryz.ntmps14
    go_wp2
    go_loopw [3] (fun i wr => ∃ (k : Nat), k ≤ fs.length ∧ i = .int .i64 k ∧ Hid (flisTo fs k = true) ∧ Below w.heap.size w wr) (fun i _ => fs.length - (intOf i).toNat)
    case atStart => exact ⟨0, Nat.zero_le _, rfl, rfl, Below.refl _ _⟩
    case round =>
      obtain ⟨k, hk, rfl, HK, hbw⟩ := hrel
      by_cases hlt : k < fs.length
      · obtain ⟨b, off, rfl, hblt, e0, e1, e2, av, cv, e3, hv⟩ := hc.later hbw k hlt
        obtain ⟨hsz, _, hvs⟩ := hs _ (List.getElem_mem hlt)
        have hvk := hvl _ (List.getElem_mem hlt)
        have k0 : (0 : Int) ≤ (k : Int) := by omega
        have k1 : (k : Int) < (fs.length : Int) := by omega
        have HC := hide hc
        have HA : Hid (fliOkAt fs k = (nameB fs[k].1 && (decide (k = 0) || ahead (fs.getD (k - 1) (ByteArray.empty, 0, 0, [])).1 fs[k].1) && inB fs[k].2.1 0 10000 && inB fs[k].2.2.1 0 60 && visB fs[k].2.2.2)) := by
          show _ = _
          unfold fliOkAt
          rw [getD_at fs k _ hlt]
        clear hc hs hvl
        have HV := hide hv
        have HVS := hide hvs
        clear hv hvs
        generalize fs[k] = c at e0 e1 e2 e3 hsz HV HVS hvk HA
        cases hn : nameB c.1
        · have HN := hide hn
          have HF : Hid (fliOkAt fs k = false) := by show _ = _; rw [HA.out, hn]; rfl
          clear hn
          go_wp2
          obtain ⟨W, hW, x0, x1, x2, x3, hWb⟩ := alloc4 wr (.string c.1) (.int .i64 c.2.1) (.int .i64 c.2.2.1) (.slice av c.2.2.2.length cv) 36
          rw [hW]
          have y0 := grow_cell x0
          have y1 := grow_cell x1
          have y2 := grow_cell x2
          have y3 := grow_cell x3
          have hne := grow_some W
          clear hW x0 x1 x2 x3
          refine wp_region_grow (by kernel_rfl) (by kernel_rfl) ?_
          repeat (go_big_quiet_step (((go_at_call 47; exact grow_same (l1NameOk_val _ _ HN.out hsz _)))))
          refine wpQuiet_nil ?_
          intro _ hw'
          obtain ⟨u, hw''⟩ := hw'
          subst hw''
          go_wp2
          go_ret
          exact ⟨by rw [D.out]; exact congrArg (fun b => Ending.returned (.bool b)) (all_bad hlt HF.out).symm, below_two (below_two hbw hWb) u.below⟩
        have HN := hide hn
        rw [hn] at HA
        clear hn
        cases k with
        | zero =>
          simp only [Nat.zero_mul, Nat.add_zero] at e0 e1 e2 e3
          cases hp : inB c.2.1 0 10000
          · have HP := hide hp
            have HF : Hid (fliOkAt fs 0 = false) := by show _ = _; rw [HA.out, hp]; simp
            clear hp
            go_wp2
            obtain ⟨W, hW, x0, x1, x2, x3, hWb⟩ := alloc4 wr (.string c.1) (.int .i64 c.2.1) (.int .i64 c.2.2.1) (.slice av c.2.2.2.length cv) 36
            rw [hW]
            have y0 := grow_cell x0
            have y1 := grow_cell x1
            have y2 := grow_cell x2
            have y3 := grow_cell x3
            have hne := grow_some W
            clear hW x0 x1 x2 x3
            refine wp_region_grow (by kernel_rfl) (by kernel_rfl) ?_
            repeat (go_big_quiet_step ((first | (go_at_call 47; exact grow_same (l1NameOk_val _ _ HN.out hsz _)) | (go_at_call_of 48 (Value.int .i64 10000); exact grow_same (l1In_val _ _ _ _ HP.out _)))))
            refine wpQuiet_nil ?_
            intro _ hw'
            obtain ⟨u, hw''⟩ := hw'
            subst hw''
            go_wp2
            go_ret
            exact ⟨by rw [D.out]; exact congrArg (fun b => Ending.returned (.bool b)) (all_bad hlt HF.out).symm, below_two (below_two hbw hWb) u.below⟩
          cases hq : inB c.2.2.1 0 60
          · have HP := hide hp
            have HL := hide hq
            have HF : Hid (fliOkAt fs 0 = false) := by show _ = _; rw [HA.out, hq]; simp
            clear hp hq
            go_wp2
            obtain ⟨W, hW, x0, x1, x2, x3, hWb⟩ := alloc4 wr (.string c.1) (.int .i64 c.2.1) (.int .i64 c.2.2.1) (.slice av c.2.2.2.length cv) 36
            rw [hW]
            have y0 := grow_cell x0
            have y1 := grow_cell x1
            have y2 := grow_cell x2
            have y3 := grow_cell x3
            have hne := grow_some W
            clear hW x0 x1 x2 x3
            refine wp_region_grow (by kernel_rfl) (by kernel_rfl) ?_
            repeat (go_big_quiet_step ((first | (go_at_call 47; exact grow_same (l1NameOk_val _ _ HN.out hsz _)) | (go_at_call_of 48 (Value.int .i64 10000); exact grow_same (l1In_val _ _ _ _ HP.out _)) | (go_at_call_of 48 (Value.int .i64 60); exact grow_same (l1In_val _ _ _ _ HL.out _)))))
            refine wpQuiet_nil ?_
            intro _ hw'
            obtain ⟨u, hw''⟩ := hw'
            subst hw''
            go_wp2
            go_ret
            exact ⟨by rw [D.out]; exact congrArg (fun b => Ending.returned (.bool b)) (all_bad hlt HF.out).symm, below_two (below_two hbw hWb) u.below⟩
          cases hb : visB c.2.2.2
          · have HP := hide hp
            have HL := hide hq
            have HB := hide hb
            have HF : Hid (fliOkAt fs 0 = false) := by show _ = _; rw [HA.out, hb]; simp
            clear hp hq hb
            go_wp2
            obtain ⟨W, hW, x0, x1, x2, x3, hWb⟩ := alloc4 wr (.string c.1) (.int .i64 c.2.1) (.int .i64 c.2.2.1) (.slice av c.2.2.2.length cv) 36
            rw [hW]
            have y0 := grow_cell x0
            have y1 := grow_cell x1
            have y2 := grow_cell x2
            have y3 := grow_cell x3
            have hne := grow_some W
            clear hW x0 x1 x2 x3
            refine wp_region_grow (by kernel_rfl) (by kernel_rfl) ?_
            repeat (go_big_quiet_step ((first | (go_at_call 47; exact grow_same (l1NameOk_val _ _ HN.out hsz _)) | (go_at_call_of 48 (Value.int .i64 10000); exact grow_same (l1In_val _ _ _ _ HP.out _)) | (go_at_call_of 48 (Value.int .i64 60); exact grow_same (l1In_val _ _ _ _ HL.out _)) | (go_at_call 49; exact grow_of (l1VisitsOk_val _ _ _ _ HB.out _ ((HV.out.later hWb).later (Grow.below _)) hvk HVS.out)))))
            refine wpQuiet_nil ?_
            intro _ hw'
            obtain ⟨u, hw''⟩ := hw'
            subst hw''
            go_wp2
            go_ret
            exact ⟨by rw [D.out]; exact congrArg (fun b => Ending.returned (.bool b)) (all_bad hlt HF.out).symm, below_two (below_two hbw hWb) u.below⟩
          have HP := hide hp
          have HL := hide hq
          have HB := hide hb
          have HT : Hid (fliOkAt fs 0 = true) := by show _ = _; rw [HA.out, hp, hq, hb]; rfl
          clear hp hq hb
          go_wp2
          obtain ⟨W, hW, x0, x1, x2, x3, hWb⟩ := alloc4 wr (.string c.1) (.int .i64 c.2.1) (.int .i64 c.2.2.1) (.slice av c.2.2.2.length cv) 36
          rw [hW]
          have y0 := grow_cell x0
          have y1 := grow_cell x1
          have y2 := grow_cell x2
          have y3 := grow_cell x3
          have hne := grow_some W
          clear hW x0 x1 x2 x3
          refine wp_region_grow (by kernel_rfl) (by kernel_rfl) ?_
          repeat (go_big_quiet_step ((first | (go_at_call 47; exact grow_same (l1NameOk_val _ _ HN.out hsz _)) | (go_at_call_of 48 (Value.int .i64 10000); exact grow_same (l1In_val _ _ _ _ HP.out _)) | (go_at_call_of 48 (Value.int .i64 60); exact grow_same (l1In_val _ _ _ _ HL.out _)) | (go_at_call 49; exact grow_of (l1VisitsOk_val _ _ _ _ HB.out _ ((HV.out.later hWb).later (Grow.below _)) hvk HVS.out)))))
          refine wpQuiet_nil ?_
          intro _ hw'
          obtain ⟨u, hw''⟩ := hw'
          subst hw''
          go_wp2
          go_roundw
          case rel => exact ⟨_ + 1, by omega, by go_num, all_succ HK.out HT.out, below_two (below_two hbw hWb) u.below⟩
          case measure => simp [intOf]; omega
        | succ j =>
          obtain ⟨b', off', hsame, _, g0, _⟩ := HC.out.later hbw j (by omega)
          obtain ⟨rfl, rfl⟩ : b = b' ∧ off = off' := by simpa using hsame
          rw [show j + 1 - 1 = j from rfl, getD_at fs j _ (by omega)] at HA
          generalize fs[j] = p at g0 HA
          clear hsame
          have j0 : (0 : Int) ≤ (j : Int) := by omega
          have j1 : (j : Int) < (fs.length : Int) := by omega
          cases ht : ahead p.1 c.1
          · have ht' : Op.bytesLess p.1.toList c.1.toList = false := ht
            have HF : Hid (fliOkAt fs (j + 1) = false) := by show _ = _; rw [HA.out, ht]; simp
            clear ht
            go_wp2
            obtain ⟨W, hW, x0, x1, x2, x3, hWb⟩ := alloc4 wr (.string c.1) (.int .i64 c.2.1) (.int .i64 c.2.2.1) (.slice av c.2.2.2.length cv) 36
            rw [hW]
            have y0 := grow_cell x0
            have y1 := grow_cell x1
            have y2 := grow_cell x2
            have y3 := grow_cell x3
            have y9 := grow_cell (cell_later hWb g0)
            have hne := grow_some W
            clear hW x0 x1 x2 x3 g0
            refine wp_region_grow (by kernel_rfl) (by kernel_rfl) ?_
            repeat (go_big_quiet_step (((go_at_call 47; exact grow_same (l1NameOk_val _ _ HN.out hsz _)))))
            refine wpQuiet_nil ?_
            intro _ hw'
            obtain ⟨u, hw''⟩ := hw'
            subst hw''
            go_wp2
            go_ret
            exact ⟨by rw [D.out]; exact congrArg (fun b => Ending.returned (.bool b)) (all_bad hlt HF.out).symm, below_two (below_two hbw hWb) u.below⟩
          have ht' : Op.bytesLess p.1.toList c.1.toList = true := ht
          rw [ht] at HA
          clear ht
          cases hp : inB c.2.1 0 10000
          · have HP := hide hp
            have HF : Hid (fliOkAt fs (j + 1) = false) := by show _ = _; rw [HA.out, hp]; simp
            clear hp
            go_wp2
            obtain ⟨W, hW, x0, x1, x2, x3, hWb⟩ := alloc4 wr (.string c.1) (.int .i64 c.2.1) (.int .i64 c.2.2.1) (.slice av c.2.2.2.length cv) 36
            rw [hW]
            have y0 := grow_cell x0
            have y1 := grow_cell x1
            have y2 := grow_cell x2
            have y3 := grow_cell x3
            have y9 := grow_cell (cell_later hWb g0)
            have hne := grow_some W
            clear hW x0 x1 x2 x3 g0
            refine wp_region_grow (by kernel_rfl) (by kernel_rfl) ?_
            repeat (go_big_quiet_step ((first | (go_at_call 47; exact grow_same (l1NameOk_val _ _ HN.out hsz _)) | (go_at_call_of 48 (Value.int .i64 10000); exact grow_same (l1In_val _ _ _ _ HP.out _)))))
            refine wpQuiet_nil ?_
            intro _ hw'
            obtain ⟨u, hw''⟩ := hw'
            subst hw''
            go_wp2
            go_ret
            exact ⟨by rw [D.out]; exact congrArg (fun b => Ending.returned (.bool b)) (all_bad hlt HF.out).symm, below_two (below_two hbw hWb) u.below⟩
          cases hq : inB c.2.2.1 0 60
          · have HP := hide hp
            have HL := hide hq
            have HF : Hid (fliOkAt fs (j + 1) = false) := by show _ = _; rw [HA.out, hq]; simp
            clear hp hq
            go_wp2
            obtain ⟨W, hW, x0, x1, x2, x3, hWb⟩ := alloc4 wr (.string c.1) (.int .i64 c.2.1) (.int .i64 c.2.2.1) (.slice av c.2.2.2.length cv) 36
            rw [hW]
            have y0 := grow_cell x0
            have y1 := grow_cell x1
            have y2 := grow_cell x2
            have y3 := grow_cell x3
            have y9 := grow_cell (cell_later hWb g0)
            have hne := grow_some W
            clear hW x0 x1 x2 x3 g0
            refine wp_region_grow (by kernel_rfl) (by kernel_rfl) ?_
            repeat (go_big_quiet_step ((first | (go_at_call 47; exact grow_same (l1NameOk_val _ _ HN.out hsz _)) | (go_at_call_of 48 (Value.int .i64 10000); exact grow_same (l1In_val _ _ _ _ HP.out _)) | (go_at_call_of 48 (Value.int .i64 60); exact grow_same (l1In_val _ _ _ _ HL.out _)))))
            refine wpQuiet_nil ?_
            intro _ hw'
            obtain ⟨u, hw''⟩ := hw'
            subst hw''
            go_wp2
            go_ret
            exact ⟨by rw [D.out]; exact congrArg (fun b => Ending.returned (.bool b)) (all_bad hlt HF.out).symm, below_two (below_two hbw hWb) u.below⟩
          cases hb : visB c.2.2.2
          · have HP := hide hp
            have HL := hide hq
            have HB := hide hb
            have HF : Hid (fliOkAt fs (j + 1) = false) := by show _ = _; rw [HA.out, hb]; simp
            clear hp hq hb
            go_wp2
            obtain ⟨W, hW, x0, x1, x2, x3, hWb⟩ := alloc4 wr (.string c.1) (.int .i64 c.2.1) (.int .i64 c.2.2.1) (.slice av c.2.2.2.length cv) 36
            rw [hW]
            have y0 := grow_cell x0
            have y1 := grow_cell x1
            have y2 := grow_cell x2
            have y3 := grow_cell x3
            have y9 := grow_cell (cell_later hWb g0)
            have hne := grow_some W
            clear hW x0 x1 x2 x3 g0
            refine wp_region_grow (by kernel_rfl) (by kernel_rfl) ?_
            repeat (go_big_quiet_step ((first | (go_at_call 47; exact grow_same (l1NameOk_val _ _ HN.out hsz _)) | (go_at_call_of 48 (Value.int .i64 10000); exact grow_same (l1In_val _ _ _ _ HP.out _)) | (go_at_call_of 48 (Value.int .i64 60); exact grow_same (l1In_val _ _ _ _ HL.out _)) | (go_at_call 49; exact grow_of (l1VisitsOk_val _ _ _ _ HB.out _ ((HV.out.later hWb).later (Grow.below _)) hvk HVS.out)))))
            refine wpQuiet_nil ?_
            intro _ hw'
            obtain ⟨u, hw''⟩ := hw'
            subst hw''
            go_wp2
            go_ret
            exact ⟨by rw [D.out]; exact congrArg (fun b => Ending.returned (.bool b)) (all_bad hlt HF.out).symm, below_two (below_two hbw hWb) u.below⟩
          have HP := hide hp
          have HL := hide hq
          have HB := hide hb
          have HT : Hid (fliOkAt fs (j + 1) = true) := by show _ = _; rw [HA.out, hp, hq, hb]; rfl
          clear hp hq hb
          go_wp2
          obtain ⟨W, hW, x0, x1, x2, x3, hWb⟩ := alloc4 wr (.string c.1) (.int .i64 c.2.1) (.int .i64 c.2.2.1) (.slice av c.2.2.2.length cv) 36
          rw [hW]
          have y0 := grow_cell x0
          have y1 := grow_cell x1
          have y2 := grow_cell x2
          have y3 := grow_cell x3
          have y9 := grow_cell (cell_later hWb g0)
          have hne := grow_some W
          clear hW x0 x1 x2 x3 g0
          refine wp_region_grow (by kernel_rfl) (by kernel_rfl) ?_
          repeat (go_big_quiet_step ((first | (go_at_call 47; exact grow_same (l1NameOk_val _ _ HN.out hsz _)) | (go_at_call_of 48 (Value.int .i64 10000); exact grow_same (l1In_val _ _ _ _ HP.out _)) | (go_at_call_of 48 (Value.int .i64 60); exact grow_same (l1In_val _ _ _ _ HL.out _)) | (go_at_call 49; exact grow_of (l1VisitsOk_val _ _ _ _ HB.out _ ((HV.out.later hWb).later (Grow.below _)) hvk HVS.out)))))
          refine wpQuiet_nil ?_
          intro _ hw'
          obtain ⟨u, hw''⟩ := hw'
          subst hw''
          go_wp2
          go_roundw
          case rel => exact ⟨_ + 1, by omega, by go_num, all_succ HK.out HT.out, below_two (below_two hbw hWb) u.below⟩
          case measure => simp [intOf]; omega
      · go_wp2
        go_ret
        have : k = fs.length := by omega
        subst this
        exact ⟨by rw [D.out, HK.out]; rfl, hbw⟩

end Go.Proofs.YtciacofibljmoaaGreat
