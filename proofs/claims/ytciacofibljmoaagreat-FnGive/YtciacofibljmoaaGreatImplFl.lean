/- The program's check of flights, walked. -/
import Derived.Test.YtciacofibljmoaaGreatGrow
namespace Go.Proofs.YtciacofibljmoaaGreat
open Go.RowKit

set_option maxHeartbeats 400000 in
theorem fliName_any (f : Fli) (av : Option Addr) (cv : Nat) (w : World) :
    Calls Tryz.prog 198 #[.agg #[.string f.1, .int .i64 f.2.1, .int .i64 f.2.2.1, .slice av f.2.2.2.length cv]] w fun e w' => e = .returned (.string f.1) ∧ Below w.heap.size w w' := by
  go_enter Tryz.func198, Tryz.ntmps198
  go_wp2
  go_ret
  exact ⟨rfl, (Below.refl _ _).alloc (Nat.le_refl _) _⟩

/-- What a flight's own parts ask. -/
def partsB (f : Fli) : Bool := inB f.2.1 0 10000 && inB f.2.2.1 0 60 && visB f.2.2.2
theorem visitsOk_val (a : Option Addr) (cap : Nat) (vs : List Vis) (q : Bool) (h : visB vs = q) (w : World) (hc : VisitsIn w a vs) (hl : vs.length ≤ 1048576) (hs : ∀ v ∈ vs, v.1.size ≤ maxLen) :
    Calls Tryz.prog 200 #[.slice a vs.length cap] w fun e w' => e = .returned (.bool q) ∧ Below w.heap.size w w' := by rw [← h]; exact visitsOk_any a cap vs w hc hl hs

set_option maxHeartbeats 800000 in
theorem fliParts_any (f : Fli) (av : Option Addr) (cv : Nat) (w : World) (hv : VisitsIn w av f.2.2.2) (hl : f.2.2.2.length ≤ 1048576) (hs : ∀ v ∈ f.2.2.2, v.1.size ≤ maxLen) :
    Calls Tryz.prog 199 #[.agg #[.string f.1, .int .i64 f.2.1, .int .i64 f.2.2.1, .slice av f.2.2.2.length cv]] w fun e w' => e = .returned (.bool (partsB f)) ∧ Below w.heap.size w w' := by
  have hb0 : ∀ o, Below w.heap.size w (w.alloc o) := fun o => (Below.refl _ _).alloc (Nat.le_refl _) _
  have HV := hide hv
  have HS := hide hs
  clear hv hs
  cases hp : inB f.2.1 0 10000
  · have HP := hide hp
    have HR : Hid (partsB f = false) := by show _ = _; unfold partsB; rw [hp]; rfl
    clear hp
    go_enter Tryz.func199, Tryz.ntmps199
    go_wp2_with (go_at_call_of 64 (Value.int .i64 10000); refine (within_val _ _ _ _ HP.out _).mono ?_; rintro e w1 ⟨rfl, rfl⟩)
    go_ret
    exact ⟨by rw [HR.out]; rfl, hb0 _⟩
  cases hq : inB f.2.2.1 0 60
  · have HP := hide hp
    have HQ := hide hq
    have HR : Hid (partsB f = false) := by show _ = _; unfold partsB; rw [hp, hq]; rfl
    clear hp hq
    go_enter Tryz.func199, Tryz.ntmps199
    go_wp2_with (first | (go_at_call_of 64 (Value.int .i64 10000); refine (within_val _ _ _ _ HP.out _).mono ?_; rintro e w1 ⟨rfl, rfl⟩) | (go_at_call_of 64 (Value.int .i64 60); refine (within_val _ _ _ _ HQ.out _).mono ?_; rintro e w1 ⟨rfl, rfl⟩))
    go_ret
    exact ⟨by rw [HR.out]; rfl, hb0 _⟩
  have HP := hide hp
  have HQ := hide hq
  have HR : Hid (partsB f = visB f.2.2.2) := by show _ = _; unfold partsB; rw [hp, hq]; rfl
  clear hp hq
  go_enter Tryz.func199, Tryz.ntmps199
  go_wp2_with (first | (go_at_call_of 64 (Value.int .i64 10000); refine (within_val _ _ _ _ HP.out _).mono ?_; rintro e w1 ⟨rfl, rfl⟩) | (go_at_call_of 64 (Value.int .i64 60); refine (within_val _ _ _ _ HQ.out _).mono ?_; rintro e w1 ⟨rfl, rfl⟩) | (go_at_call 200; refine (visitsOk_any _ _ _ _ (HV.out.later (hb0 _)) hl HS.out).mono ?_; rintro e w2 ⟨rfl, hb2⟩))
  go_ret
  exact ⟨by rw [HR.out]; rfl, below_two (hb0 _) hb2⟩
theorem fliParts_val (f : Fli) (av : Option Addr) (cv : Nat) (q : Bool) (h : partsB f = q) (w : World) (hv : VisitsIn w av f.2.2.2) (hl : f.2.2.2.length ≤ 1048576) (hs : ∀ v ∈ f.2.2.2, v.1.size ≤ maxLen) :
    Calls Tryz.prog 199 #[.agg #[.string f.1, .int .i64 f.2.1, .int .i64 f.2.2.1, .slice av f.2.2.2.length cv]] w fun e w' => e = .returned (.bool q) ∧ Below w.heap.size w w' := by
  rw [← h]; exact fliParts_any f av cv w hv hl hs

theorem fli_method_name (f : Nat) (x : Value) (w : World) : (method (f + 1) 36 x "loop.example/lapflow/impl.name").run Tryz.prog w = .ok (198, x) w := by kernel_rfl
theorem fli_method_parts (f : Nat) (x : Value) (w : World) : (method (f + 1) 36 x "loop.example/lapflow/impl.partsOk").run Tryz.prog w = .ok (199, x) w := by kernel_rfl

theorem new4 {wr w1 : World} {u v x y : Value} {t : TypeId} (h : Below (wr.alloc (.cells #[u, v, x, y] t)).heap.size (wr.alloc (.cells #[u, v, x, y] t)) w1) :
    Below (wr.heap.size + 1) (wr.alloc (.cells #[u, v, x, y] t)) w1 ∧ wr.heap.size + 1 ≤ w1.heap.size ∧ w1.cell? ⟨wr.heap.size, 0, none⟩ = some u ∧ w1.cell? ⟨wr.heap.size, 1, none⟩ = some v ∧ w1.cell? ⟨wr.heap.size, 2, none⟩ = some x ∧ w1.cell? ⟨wr.heap.size, 3, none⟩ = some y := by
  have hB : Below (wr.heap.size + 1) (wr.alloc (.cells #[u, v, x, y] t)) w1 := h.mono (by simp)
  exact ⟨hB, by simpa using hB.size, by rw [hB.cell (p := ⟨wr.heap.size, 0, none⟩) (by simp)]; simp, by rw [hB.cell (p := ⟨wr.heap.size, 1, none⟩) (by simp)]; simp, by rw [hB.cell (p := ⟨wr.heap.size, 2, none⟩) (by simp)]; simp, by rw [hB.cell (p := ⟨wr.heap.size, 3, none⟩) (by simp)]; simp⟩

set_option maxRecDepth 100000 in
set_option maxHeartbeats 3200000 in
theorem namedFlights_any (a : Option Addr) (cap : Nat) (fs : List Fli) (w : World) (hc : FlightsIn w a fs) (hl : fs.length ≤ 1048576) (hvl : ∀ f ∈ fs, f.2.2.2.length ≤ 1048576) (hs : ∀ f ∈ fs, SizesOk f) :
    Calls Tryz.prog 84 #[.slice a fs.length cap, .int .i64 8] w fun e w' => e = .returned (.bool (flisB fs)) ∧ Below w.heap.size w w' := by
  by_cases h8 : (8 : Int) < (fs.length : Int)
  · go_enter Tryz.func84, Tryz.ntmps84
    go_wp2
    go_ret
    have : decide (fs.length ≤ 8) = false := decide_eq_false (by omega)
    exact ⟨by simp [flisB, this], Below.refl _ _⟩
  · have d8 : decide (fs.length ≤ 8) = true := decide_eq_true (by omega)
    have D : Hid (flisB fs = flisTo fs fs.length) := by show _ = _; simp [flisB, d8]
    clear d8
    go_enter Tryz.func84, Tryz.ntmps84
    go_wp2
    go_loopw [13] (fun i wr => ∃ (k : Nat), k ≤ fs.length ∧ i = .int .i64 k ∧ Hid (flisTo fs k = true) ∧ Below w.heap.size w wr) (fun i _ => fs.length - (intOf i).toNat)
    case atStart => exact ⟨0, Nat.zero_le _, rfl, rfl, Below.refl _ _⟩
    case round =>
      obtain ⟨k, hk, rfl, HK, hbw⟩ := hrel
      by_cases hlt : k < fs.length
      · obtain ⟨b, off, rfl, hblt, e0, e1, e2, av, cv, e3, hv⟩ := hc.later hbw k hlt
        obtain ⟨hsz, _, hvs⟩ := hs _ (List.getElem_mem hlt)
        have hvk := hvl _ (List.getElem_mem hlt)
        have k0 : (0 : Int) ≤ (k : Int) := by omega
        have k1 : (k : Int) < (fs.length : Int) := by omega
        have HC := hide hc
        have HA : Hid (fliOkAt fs k = (nameB fs[k].1 && (decide (k = 0) || ahead (fs.getD (k - 1) (ByteArray.empty, 0, 0, [])).1 fs[k].1) && partsB fs[k])) := by
          show _ = _
          unfold fliOkAt partsB
          rw [getD_at fs k _ hlt, Bool.and_assoc, Bool.and_assoc, Bool.and_assoc, Bool.and_assoc, Bool.and_assoc]
        clear hc hs hvl
        have HV := hide hv
        have HVS := hide hvs
        clear hv hvs
        generalize fs[k] = c at e0 e1 e2 e3 hsz HV HVS hvk HA
        have hm1 := fli_method_name
        have hm2 := fli_method_parts
        cases hn : nameB c.1
        · have HN := hide hn
          have HF : Hid (fliOkAt fs k = false) := by show _ = _; rw [HA.out, hn]; rfl
          clear hn
          go_wp2_with (first
            | (go_at_call 198; refine (fliName_any c av cv _).mono ?_; rintro e w1 ⟨rfl, hb1⟩; obtain ⟨B1, hz1, x0, x1, x2, x3⟩ := new4 hb1; clear hb1)
            | (go_at_call 90; refine (nameOk_val _ _ HN.out hsz _).mono ?_; rintro e w2 ⟨rfl, hb2⟩; have y0 := cell_later hb2 x0; have y1 := cell_later hb2 x1; have y2 := cell_later hb2 x2; have y3 := cell_later hb2 x3; have B2 := below_next B1 hz1 hb2; have hz2 := Nat.le_trans hz1 hb2.size; clear hb2))
          go_ret
          exact ⟨by rw [D.out]; exact congrArg (fun b => Ending.returned (.bool b)) (all_bad hlt HF.out).symm, below_old hbw B2⟩
        cases hp : partsB c
        · have HN := hide hn
          have HP := hide hp
          have HF : Hid (fliOkAt fs k = false) := by show _ = _; rw [HA.out, hp]; simp
          clear hn hp
          go_wp2_with (first
            | (go_at_call 198; refine (fliName_any c av cv _).mono ?_; rintro e w1 ⟨rfl, hb1⟩; obtain ⟨B1, hz1, x0, x1, x2, x3⟩ := new4 hb1; clear hb1)
            | (go_at_call 90; refine (nameOk_val _ _ HN.out hsz _).mono ?_; rintro e w2 ⟨rfl, hb2⟩; have y0 := cell_later hb2 x0; have y1 := cell_later hb2 x1; have y2 := cell_later hb2 x2; have y3 := cell_later hb2 x3; have B2 := below_next B1 hz1 hb2; have hz2 := Nat.le_trans hz1 hb2.size; clear hb2)
            | (go_at_call 199; refine (fliParts_val c av cv _ HP.out _ (HV.out.later (below_old (Below.refl _ _) B2)) hvk HVS.out).mono ?_; rintro e w3 ⟨rfl, hb3⟩; have t0 := cell_later hb3 y0; have t1 := cell_later hb3 y1; have t2 := cell_later hb3 y2; have t3 := cell_later hb3 y3; have B3 := below_next B2 hz2 hb3; clear hb3))
          go_ret
          exact ⟨by rw [D.out]; exact congrArg (fun b => Ending.returned (.bool b)) (all_bad hlt HF.out).symm, below_old hbw B3⟩
        have HN := hide hn
        have HP := hide hp
        rw [hn, hp] at HA
        clear hn hp
        cases k with
        | zero =>
          have HT : Hid (fliOkAt fs 0 = true) := by show _ = _; rw [HA.out]; rfl
          simp only [Nat.zero_mul, Nat.add_zero] at e0 e1 e2 e3
          go_wp2_with (first
            | (go_at_call 198; refine (fliName_any c av cv _).mono ?_; rintro e w1 ⟨rfl, hb1⟩; obtain ⟨B1, hz1, x0, x1, x2, x3⟩ := new4 hb1; clear hb1)
            | (go_at_call 90; refine (nameOk_val _ _ HN.out hsz _).mono ?_; rintro e w2 ⟨rfl, hb2⟩; have y0 := cell_later hb2 x0; have y1 := cell_later hb2 x1; have y2 := cell_later hb2 x2; have y3 := cell_later hb2 x3; have B2 := below_next B1 hz1 hb2; have hz2 := Nat.le_trans hz1 hb2.size; clear hb2)
            | (go_at_call 199; refine (fliParts_val c av cv _ HP.out _ (HV.out.later (below_old (Below.refl _ _) B2)) hvk HVS.out).mono ?_; rintro e w3 ⟨rfl, hb3⟩; have t0 := cell_later hb3 y0; have t1 := cell_later hb3 y1; have t2 := cell_later hb3 y2; have t3 := cell_later hb3 y3; have B3 := below_next B2 hz2 hb3; clear hb3))
          have hBW := below_old hbw B3
          have hne := grow_some w3
          refine wp_region_grow (by kernel_rfl) (by kernel_rfl) ?_
          repeat (go_big_quiet_step (fail))
          refine wpQuiet_nil ?_
          intro _ hw'
          obtain ⟨u, hw''⟩ := hw'
          subst hw''
          go_wp2
          go_roundw
          case rel => exact ⟨_ + 1, by omega, by go_num, all_succ HK.out HT.out, below_two hBW u.below⟩
          case measure => simp [intOf]; omega
        | succ j =>
          obtain ⟨b', off', hsame, _, g0, g1, g2, av', cv', g3, _⟩ := HC.out.later hbw j (by omega)
          obtain ⟨rfl, rfl⟩ : b = b' ∧ off = off' := by simpa using hsame
          rw [show j + 1 - 1 = j from rfl, getD_at fs j _ (by omega)] at HA
          generalize fs[j] = p at g0 g1 g2 g3 HA
          clear hsame
          have j0 : (0 : Int) ≤ (j : Int) := by omega
          have j1 : (j : Int) < (fs.length : Int) := by omega
          cases ht : ahead p.1 c.1
          · have ht' : Op.bytesLess p.1.toList c.1.toList = false := ht
            have HF : Hid (fliOkAt fs (j + 1) = false) := by show _ = _; rw [HA.out, ht]; simp
            clear ht
            go_wp2_with (first
              | (go_at_call 198; refine (fliName_any c av cv _).mono ?_; rintro e w1 ⟨rfl, hb1⟩; obtain ⟨B1, hz1, x0, x1, x2, x3⟩ := new4 hb1; clear hb1)
              | (go_at_call 90; refine (nameOk_val _ _ HN.out hsz _).mono ?_; rintro e w2 ⟨rfl, hb2⟩; have y0 := cell_later hb2 x0; have y1 := cell_later hb2 x1; have y2 := cell_later hb2 x2; have y3 := cell_later hb2 x3; have B2 := below_next B1 hz1 hb2; have hz2 := Nat.le_trans hz1 hb2.size; clear hb2)
              | (go_at_call 199; refine (fliParts_val c av cv _ HP.out _ (HV.out.later (below_old (Below.refl _ _) B2)) hvk HVS.out).mono ?_; rintro e w3 ⟨rfl, hb3⟩; have t0 := cell_later hb3 y0; have t1 := cell_later hb3 y1; have t2 := cell_later hb3 y2; have t3 := cell_later hb3 y3; have B3 := below_next B2 hz2 hb3; clear hb3))
            have hBW := below_old hbw B3
            have r0 := grow_cell t0
            have r1 := grow_cell t1
            have r2 := grow_cell t2
            have r3 := grow_cell t3
            have l0 := grow_cell (cell_far hbw B3 g0)
            have l1 := grow_cell (cell_far hbw B3 g1)
            have l2 := grow_cell (cell_far hbw B3 g2)
            have l3 := grow_cell (cell_far hbw B3 g3)
            have hne := grow_some w3
            refine wp_region_grow (by kernel_rfl) (by kernel_rfl) ?_
            repeat (go_big_quiet_step ((first | (go_at_call_of 198 (Value.string p.1); exact grow_of (fliName_any p _ _ _)) | (go_at_call_of 198 (Value.string c.1); exact grow_of (fliName_any c _ _ _)))))
            refine wpQuiet_nil ?_
            intro _ hw'
            obtain ⟨u, hw''⟩ := hw'
            subst hw''
            go_wp2
            go_ret
            exact ⟨by rw [D.out]; exact congrArg (fun b => Ending.returned (.bool b)) (all_bad hlt HF.out).symm, below_two hBW u.below⟩
          have ht' : Op.bytesLess p.1.toList c.1.toList = true := ht
          have HT : Hid (fliOkAt fs (j + 1) = true) := by show _ = _; rw [HA.out, ht]; simp
          clear ht
          go_wp2_with (first
            | (go_at_call 198; refine (fliName_any c av cv _).mono ?_; rintro e w1 ⟨rfl, hb1⟩; obtain ⟨B1, hz1, x0, x1, x2, x3⟩ := new4 hb1; clear hb1)
            | (go_at_call 90; refine (nameOk_val _ _ HN.out hsz _).mono ?_; rintro e w2 ⟨rfl, hb2⟩; have y0 := cell_later hb2 x0; have y1 := cell_later hb2 x1; have y2 := cell_later hb2 x2; have y3 := cell_later hb2 x3; have B2 := below_next B1 hz1 hb2; have hz2 := Nat.le_trans hz1 hb2.size; clear hb2)
            | (go_at_call 199; refine (fliParts_val c av cv _ HP.out _ (HV.out.later (below_old (Below.refl _ _) B2)) hvk HVS.out).mono ?_; rintro e w3 ⟨rfl, hb3⟩; have t0 := cell_later hb3 y0; have t1 := cell_later hb3 y1; have t2 := cell_later hb3 y2; have t3 := cell_later hb3 y3; have B3 := below_next B2 hz2 hb3; clear hb3))
          have hBW := below_old hbw B3
          have r0 := grow_cell t0
          have r1 := grow_cell t1
          have r2 := grow_cell t2
          have r3 := grow_cell t3
          have l0 := grow_cell (cell_far hbw B3 g0)
          have l1 := grow_cell (cell_far hbw B3 g1)
          have l2 := grow_cell (cell_far hbw B3 g2)
          have l3 := grow_cell (cell_far hbw B3 g3)
          have hne := grow_some w3
          refine wp_region_grow (by kernel_rfl) (by kernel_rfl) ?_
          repeat (go_big_quiet_step ((first | (go_at_call_of 198 (Value.string p.1); exact grow_of (fliName_any p _ _ _)) | (go_at_call_of 198 (Value.string c.1); exact grow_of (fliName_any c _ _ _)))))
          refine wpQuiet_nil ?_
          intro _ hw'
          obtain ⟨u, hw''⟩ := hw'
          subst hw''
          go_wp2
          go_roundw
          case rel => exact ⟨_ + 1, by omega, by go_num, all_succ HK.out HT.out, below_two hBW u.below⟩
          case measure => simp [intOf]; omega
      · go_wp2
        go_ret
        have : k = fs.length := by omega
        subst this
        exact ⟨by rw [D.out, HK.out]; rfl, hbw⟩

set_option maxHeartbeats 400000 in
theorem implFlightsOk_any (a : Option Addr) (cap : Nat) (fs : List Fli) (w : World) (hc : FlightsIn w a fs) (hl : fs.length ≤ 1048576) (hvl : ∀ f ∈ fs, f.2.2.2.length ≤ 1048576) (hs : ∀ f ∈ fs, SizesOk f) :
    Calls Tryz.prog 37 #[.slice a fs.length cap] w fun e w' => e = .returned (.bool (flisB fs)) ∧ Below w.heap.size w w' := by
  go_enter Tryz.func37, Tryz.ntmps37
  go_wp2_with (go_at_call 84; refine (namedFlights_any _ _ _ _ hc hl hvl hs).mono ?_; rintro e w' ⟨rfl, hb⟩)
  go_ret
  exact ⟨rfl, hb⟩

end Go.Proofs.YtciacofibljmoaaGreat
