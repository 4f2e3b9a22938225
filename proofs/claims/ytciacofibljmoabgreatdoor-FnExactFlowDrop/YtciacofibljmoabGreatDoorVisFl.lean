/- Visits in memory: the walks over slices of them that the law itself makes, measures and compares. -/
import Derived.Test.YtciacofibljmoabGreatDoorImplCaps
namespace Go.Proofs.YtciacofibljmoabGreatDoor
open Go.RowKit

/-- Element i of a slice of visits. -/
def visitAt (w : World) (b off i : Nat) (v : ByteArray × Int × Int) : Prop :=
  w.cell? ⟨b, off + i * 3, none⟩ = some (.string v.1) ∧ w.cell? ⟨b, off + i * 3 + 1, none⟩ = some (.int .i64 v.2.1) ∧ w.cell? ⟨b, off + i * 3 + 2, none⟩ = some (.int .i64 v.2.2)
/-- A slice's address leads to these visits. -/
def VisitsIn (w : World) (a : Option Addr) (vs : List (ByteArray × Int × Int)) : Prop :=
  ∀ i (hi : i < vs.length), ∃ b off, a = some ⟨b, off, none⟩ ∧ b < w.heap.size ∧ visitAt w b off i vs[i]
theorem VisitsIn.later {w w' : World} {a : Option Addr} {vs : List (ByteArray × Int × Int)} (h : VisitsIn w a vs) (hb : Below w.heap.size w w') : VisitsIn w' a vs := fun i hi => by
  obtain ⟨b, off, ha, hlt, h0, h1, h2⟩ := h i hi
  exact ⟨b, off, ha, Nat.lt_of_lt_of_le hlt hb.size, cell_later hb h0, cell_later hb h1, cell_later hb h2⟩

set_option maxHeartbeats 400000 in
theorem szFlowVisit_any (s : ByteArray) (n m left : Int) (w : World) (hs : s.size ≤ maxLen) (h0 : 0 ≤ left) (h1 : left ≤ 1048576) :
    Calls Tryz.prog 46 #[.agg #[.string s, .int .i64 n, .int .i64 m], .int .i64 left] w fun e w' => e = .returned (.int .i64 (if left < s.size then -1 else left - s.size)) ∧ Below w.heap.size w w' := by
  unfold maxLen at hs
  by_cases h : left < s.size
  · go_enter Tryz.func46, Tryz.ntmps46
    go_wp2
    go_ret
    exact ⟨by simp, (Below.refl _ _).alloc (Nat.le_refl _) _⟩
  · go_enter Tryz.func46, Tryz.ntmps46
    go_wp2
    go_ret
    exact ⟨by simp, (Below.refl _ _).alloc (Nat.le_refl _) _⟩

set_option maxHeartbeats 400000 in
theorem toFlowVisit_any (s : ByteArray) (n m : Int) (w : World) :
    Calls Tryz.prog 53 #[.agg #[.string s, .int .i64 n, .int .i64 m]] w fun e w' => e = .returned (.agg #[.string s, .int .i64 n, .int .i64 m]) ∧ Below w.heap.size w w' := by
  go_enter Tryz.func53, Tryz.ntmps53
  go_wp2
  exact bodyPost_ret (v := .agg #[.string s, .int .i64 n, .int .i64 m]) (by simp [results, Tryz.results53, go_sem]) rfl ⟨rfl, by repeat (first | exact Below.refl _ _ | (refine Below.alloc ?_ (by simp <;> omega) _) | (refine Below.setCell ?_ (by simp <;> omega) _))⟩

set_option maxHeartbeats 400000 in
theorem eqFlowVisit_same (s : ByteArray) (n m : Int) (w : World) :
    Calls Tryz.prog 57 #[.agg #[.string s, .int .i64 n, .int .i64 m], .agg #[.string s, .int .i64 n, .int .i64 m]] w fun e w' => e = .returned (.bool true) ∧ Below w.heap.size w w' := by
  go_enter Tryz.func57, Tryz.ntmps57
  go_wp2
  go_ret
  exact ⟨rfl, ((Below.refl _ _).alloc (Nat.le_refl _) _).alloc (by simp) _⟩

set_option maxHeartbeats 400000 in
theorem szFlowVisitS_any (a : Option Addr) (cap : Nat) (vs : List (ByteArray × Int × Int)) (left : Int) (w : World) (hc : VisitsIn w a vs) (hs : ∀ c ∈ vs, c.1.size ≤ maxLen) (hl : vs.length ≤ maxLen) (h0 : 0 ≤ left) (h1 : left ≤ 1048576) :
    Calls Tryz.prog 21 #[.slice a vs.length cap, .int .i64 left] w fun e w' => (∃ r : Int, e = .returned (.int .i64 r) ∧ (r = -1 ∨ (0 ≤ r ∧ r + vs.length ≤ left))) ∧ Below w.heap.size w w' := by
  unfold maxLen at hl
  by_cases h : left < vs.length
  · go_enter Tryz.func21, Tryz.ntmps21
    go_wp2
    go_ret
    exact ⟨⟨-1, rfl, .inl (by omega)⟩, Below.refl _ _⟩
  · go_enter Tryz.func21, Tryz.ntmps21
    go_wp2
    go_loopw [1, 5] (fun l i wr => ∃ (k : Nat) (r : Int), k ≤ vs.length ∧ i = .int .i64 k ∧ l = .int .i64 r ∧ 0 ≤ r ∧ r + vs.length ≤ left ∧ Below w.heap.size w wr) (fun _ i _ => vs.length - (intOf i).toNat)
    case atStart => exact ⟨0, _, Nat.zero_le _, rfl, rfl, by omega, by omega, Below.refl _ _⟩
    case round =>
      obtain ⟨k, r, hk, rfl, rfl, hr0, hr1, hbw⟩ := hrel
      by_cases hlt : k < vs.length
      · obtain ⟨b, off, rfl, hblt, e0, e1, e2⟩ := hc.later hbw k hlt
        have hsz := hs _ (List.getElem_mem hlt)
        generalize vs[k] = c at e0 e1 e2 hsz
        by_cases hx : r < c.1.size
        · go_wp2_with (go_at_call 46; refine (szFlowVisit_any _ _ _ _ _ hsz hr0 (by omega)).mono ?_; rw [if_pos hx]; rintro e w' ⟨rfl, hb'⟩)
          go_ret
          exact ⟨⟨-1, rfl, .inl (by omega)⟩, hbw.trans (hb'.mono hbw.size)⟩
        · go_wp2_with (go_at_call 46; refine (szFlowVisit_any _ _ _ _ _ hsz hr0 (by omega)).mono ?_; rw [if_neg hx]; rintro e w' ⟨rfl, hb'⟩)
          go_roundw
          case rel => exact ⟨k + 1, _, by omega, by go_num, rfl, by omega, by omega, hbw.trans (hb'.mono hbw.size)⟩
          case measure => simp [intOf]; omega
      · go_wp2
        go_ret
        exact ⟨⟨r, rfl, .inr ⟨hr0, hr1⟩⟩, hbw⟩

theorem info_visit : (Tryz.prog.info? 89).map (fun i => (i.zero, i.size, i.bytes)) = some (some (.agg #[.string ⟨#[]⟩, .int .i64 0, .int .i64 0]), 3, 32) := by kernel_rfl

/-- What the cells of a row of visits hold. -/
def visitCell (vs : List (ByteArray × Int × Int)) (j : Nat) : Value :=
  if j % 3 = 0 then .string (vs.getD (j / 3) (ByteArray.empty, 0, 0)).1 else if j % 3 = 1 then .int .i64 (vs.getD (j / 3) (ByteArray.empty, 0, 0)).2.1 else .int .i64 (vs.getD (j / 3) (ByteArray.empty, 0, 0)).2.2
theorem visitCell_0 (vs : List (ByteArray × Int × Int)) (k : Nat) (h : k < vs.length) : visitCell vs (k * 3) = .string vs[k].1 := by
  unfold visitCell
  rw [if_pos (by omega), show k * 3 / 3 = k by omega, getD_at vs k _ h]
theorem visitCell_1 (vs : List (ByteArray × Int × Int)) (k : Nat) (h : k < vs.length) : visitCell vs (k * 3 + 1) = .int .i64 vs[k].2.1 := by
  unfold visitCell
  rw [if_neg (by omega), if_pos (by omega), show (k * 3 + 1) / 3 = k by omega, getD_at vs k _ h]
theorem visitCell_2 (vs : List (ByteArray × Int × Int)) (k : Nat) (h : k < vs.length) : visitCell vs (k * 3 + 2) = .int .i64 vs[k].2.2 := by
  unfold visitCell
  rw [if_neg (by omega), if_neg (by omega), show (k * 3 + 2) / 3 = k by omega, getD_at vs k _ h]
theorem VisitsIn.ofRow {w : World} {g : Nat} {t : TypeId} {vs : List (ByteArray × Int × Int)} (h : w.rowIs g t (vs.length * 3) (visitCell vs)) : VisitsIn w (some ⟨g, 0, none⟩) vs := fun i hi =>
  ⟨g, 0, rfl, h.lt, by rw [Nat.zero_add, h.cell (by omega), visitCell_0 _ _ hi], by rw [Nat.zero_add, h.cell (by omega), visitCell_1 _ _ hi], by rw [Nat.zero_add, h.cell (by omega), visitCell_2 _ _ hi]⟩

theorem run_make_visits (n : Nat) (hn : n ≤ 1048576) (u : World) : (Instr.makeSlice 39 (.int .i64 (n : Int)) (.int .i64 (n : Int))).run Tryz.prog u =
      .ok (.slice (some ⟨u.heap.size, 0, none⟩) n n) (u.alloc (.cells (madeCells #[.string ⟨#[]⟩, .int .i64 0, .int .i64 0] (n * 3)) 89)) := by
  obtain ⟨i0, hi, hz0, hz1, hz2⟩ := info_parts info_visit
  have h := run_make (P := Tryz.prog) u 39 89 i0 (.agg #[.string ⟨#[]⟩, .int .i64 0, .int .i64 0]) Tryz.underlying39 hi hz0 .i64 .i64 (n : Int) (n : Int) (by omega) (Int.le_refl _) (by rw [hz2]; omega) (by omega)
  simpa [hz1, Value.cells] using h

set_option maxHeartbeats 400000 in
theorem toFlowVisitS_any (a : Option Addr) (cap : Nat) (vs : List (ByteArray × Int × Int)) (w : World) (hc : VisitsIn w a vs) (hl : vs.length ≤ 1048576) :
    Calls Tryz.prog 31 #[.slice a vs.length cap] w fun e w' => e = .returned (.slice (some ⟨w.heap.size, 0, none⟩) vs.length vs.length) ∧ w'.rowIs w.heap.size 89 (vs.length * 3) (visitCell vs) ∧ Below w.heap.size w w' := by
  have hmk := run_make_visits vs.length hl
  obtain ⟨f0, hf0⟩ := rowIs_made' w #[.string ⟨#[]⟩, .int .i64 0, .int .i64 0] (vs.length * 3) 89
  have hb0 : Below w.heap.size w (w.alloc (.cells (madeCells #[.string ⟨#[]⟩, .int .i64 0, .int .i64 0] (vs.length * 3)) 89)) := (Below.refl _ _).alloc (Nat.le_refl _) _
  go_enter Tryz.func31, Tryz.ntmps31
  go_wp2
  go_loopw [4] (fun i wr => ∃ (k : Nat) (f : Nat → Value), k ≤ vs.length ∧ i = .int .i64 k ∧ wr.rowIs w.heap.size 89 (vs.length * 3) f ∧ (∀ j, j < k * 3 → f j = visitCell vs j) ∧ Below w.heap.size w wr) (fun i _ => vs.length - (intOf i).toNat)
  case atStart => exact ⟨0, f0, Nat.zero_le _, rfl, hf0, fun j hj => by omega, hb0⟩
  case round =>
    obtain ⟨k, f, hk, rfl, hrow, hf, hbw⟩ := hrel
    by_cases hlt : k < vs.length
    · obtain ⟨b, off, rfl, hblt, e0, e1, e2⟩ := hc.later hbw k hlt
      have q0 := visitCell_0 vs k hlt
      have q1 := visitCell_1 vs k hlt
      have q2 := visitCell_2 vs k hlt
      have hf' : Hid (∀ j, j < k * 3 → f j = visitCell vs j) := hf
      have hc' : Hid (VisitsIn w (some ⟨b, off, none⟩) vs) := hc
      have hrow' : Hid (wr.rowIs w.heap.size 89 (vs.length * 3) f) := hrow
      clear hf hc hmk hrow hf0 hb0
      generalize vs[k] = c at e0 e1 e2 q0 q1 q2
      have Q0 := hide q0
      have Q1 := hide q1
      have Q2 := hide q2
      clear q0 q1 q2
      go_wp2_with (go_at_call 53; refine (toFlowVisit_any _ _ _ _).mono ?_; rintro e w1 ⟨rfl, hb'⟩
                   have R1 : Hid (w1.rowIs w.heap.size 89 (vs.length * 3) f) := hrow'.out.of_block (hb'.block _ hrow'.out.lt)
                   have c0 := R1.out.cell (i := k * 3) (by omega)
                   have c1 := R1.out.cell (i := k * 3 + 1) (by omega)
                   have c2 := R1.out.cell (i := k * 3 + 2) (by omega)
                   have z0 := R1.out.frozen (k * 3)
                   have z1 := R1.out.frozen (k * 3 + 1)
                   have z2 := R1.out.frozen (k * 3 + 2))
      go_roundw
      case rel =>
        refine ⟨k + 1, _, by omega, by go_num, ((R1.out.set (k * 3) (.string c.1)).set (k * 3 + 1) (.int .i64 c.2.1)).set (k * 3 + 2) (.int .i64 c.2.2), fun j hj => ?_, ((((hbw.trans (hb'.mono hbw.size)).setCell (Nat.le_refl _) _).setCell (Nat.le_refl _) _).setCell (Nat.le_refl _) _)⟩
        by_cases j2 : j = k * 3 + 2
        · rw [if_pos j2, j2, Q2.out]
        rw [if_neg j2]
        by_cases j1 : j = k * 3 + 1
        · rw [if_pos j1, j1, Q1.out]
        rw [if_neg j1]
        by_cases j0 : j = k * 3
        · rw [if_pos j0, j0, Q0.out]
        rw [if_neg j0]
        exact hf'.out j (by omega)
      case measure => simp [intOf]; omega
    · go_wp2
      go_ret
      have : k = vs.length := by omega
      subst this
      exact ⟨rfl, hrow.congr (fun i hi => hf i hi), hbw⟩

set_option maxHeartbeats 800000 in
theorem eqFlowVisitS_same (a a' : Option Addr) (cap cap' : Nat) (vs : List (ByteArray × Int × Int)) (w : World) (hc : VisitsIn w a vs) (hc' : VisitsIn w a' vs) (hl : vs.length ≤ 1048576) :
    Calls Tryz.prog 36 #[.slice a vs.length cap, .slice a' vs.length cap'] w fun e w' => e = .returned (.bool true) ∧ Below w.heap.size w w' := by
  go_enter Tryz.func36, Tryz.ntmps36
  go_wp2
  go_loopw [5] (fun i wr => ∃ (k : Nat), k ≤ vs.length ∧ i = .int .i64 k ∧ Below w.heap.size w wr) (fun i _ => vs.length - (intOf i).toNat)
  case atStart => exact ⟨0, Nat.zero_le _, rfl, Below.refl _ _⟩
  case round =>
    obtain ⟨k, hk, rfl, hbw⟩ := hrel
    by_cases hlt : k < vs.length
    · obtain ⟨b, off, rfl, hblt, e0, e1, e2⟩ := hc.later hbw k hlt
      obtain ⟨b', off', rfl, hblt', e0', e1', e2'⟩ := hc'.later hbw k hlt
      clear hc hc'
      generalize vs[k] = c at e0 e1 e2 e0' e1' e2'
      have k0 : (0 : Int) ≤ (k : Int) := by omega
      have k1 : (k : Int) < (vs.length : Int) := by omega
      go_wp2
      go_region_held3 (fun w' => w'.cell? ⟨b, off + k * 3, none⟩ = some (.string c.1) ∧ w'.cell? ⟨b, off + k * 3 + 1, none⟩ = some (.int .i64 c.2.1) ∧ w'.cell? ⟨b, off + k * 3 + 2, none⟩ = some (.int .i64 c.2.2) ∧ w'.cell? ⟨b', off' + k * 3, none⟩ = some (.string c.1) ∧ w'.cell? ⟨b', off' + k * 3 + 1, none⟩ = some (.int .i64 c.2.1) ∧ w'.cell? ⟨b', off' + k * 3 + 2, none⟩ = some (.int .i64 c.2.2) ∧ Below wr.heap.size wr w')
        (first | exact ⟨e0, e1, e2, e0', e1', e2', (Below.refl _ _).drew⟩ | exact ⟨cell_later hb' e0, cell_later hb' e1, cell_later hb' e2, cell_later hb' e0', cell_later hb' e1', cell_later hb' e2', (Below.refl _ _).drew.trans hb'⟩)
        (first | (go_at_call 57; refine (eqFlowVisit_same _ _ _ _).mono ?_; rintro e w1 ⟨rfl, hb'⟩))
      go_wp2
      go_roundw
      case rel => exact ⟨k + 1, by omega, by go_num, hbw.trans (((Below.refl _ _).drew.trans hb').mono hbw.size)⟩
      case measure => simp [intOf]; omega
    · go_wp2
      go_ret
      exact ⟨rfl, hbw⟩

end Go.Proofs.YtciacofibljmoabGreatDoor

/- Flights in memory: the walks over slices of them that the law itself makes, measures and compares. -/
namespace Go.Proofs.YtciacofibljmoabGreatDoor
open Go.RowKit

abbrev Vis := ByteArray × Int × Int
abbrev Fli := ByteArray × Int × Int × List (ByteArray × Int × Int)

/-- Element i of a slice of flights. -/
def flightAt (w : World) (b off i : Nat) (f : Fli) : Prop :=
  w.cell? ⟨b, off + i * 4, none⟩ = some (.string f.1) ∧ w.cell? ⟨b, off + i * 4 + 1, none⟩ = some (.int .i64 f.2.1) ∧ w.cell? ⟨b, off + i * 4 + 2, none⟩ = some (.int .i64 f.2.2.1) ∧
    ∃ av cv, w.cell? ⟨b, off + i * 4 + 3, none⟩ = some (.slice av f.2.2.2.length cv) ∧ VisitsIn w av f.2.2.2
/-- A slice's address leads to these flights. -/
def FlightsIn (w : World) (a : Option Addr) (fs : List Fli) : Prop :=
  ∀ i (hi : i < fs.length), ∃ b off, a = some ⟨b, off, none⟩ ∧ b < w.heap.size ∧ flightAt w b off i fs[i]
theorem FlightsIn.later {w w' : World} {a : Option Addr} {fs : List Fli} (h : FlightsIn w a fs) (hb : Below w.heap.size w w') : FlightsIn w' a fs := fun i hi => by
  obtain ⟨b, off, ha, hlt, h0, h1, h2, av, cv, h3, hv⟩ := h i hi
  exact ⟨b, off, ha, Nat.lt_of_lt_of_le hlt hb.size, cell_later hb h0, cell_later hb h1, cell_later hb h2, av, cv, cell_later hb h3, hv.later hb⟩

/-- What is asked of the sizes of flights that come in. -/
def SizesOk (f : Fli) : Prop := f.1.size ≤ maxLen ∧ f.2.2.2.length ≤ maxLen ∧ ∀ v ∈ f.2.2.2, v.1.size ≤ maxLen

set_option maxHeartbeats 400000 in
theorem szFlowFlight_any (f : Fli) (av : Option Addr) (cv : Nat) (left : Int) (w : World) (hv : VisitsIn w av f.2.2.2) (hs : SizesOk f) (h0 : 0 ≤ left) (h1 : left ≤ 1048576) :
    Calls Tryz.prog 6 #[.agg #[.string f.1, .int .i64 f.2.1, .int .i64 f.2.2.1, .slice av f.2.2.2.length cv], .int .i64 left] w fun e w' => (∃ r : Int, e = .returned (.int .i64 r) ∧ (r = -1 ∨ (0 ≤ r ∧ r ≤ left ∧ f.2.2.2.length ≤ left))) ∧ Below w.heap.size w w' := by
  obtain ⟨s, n, m, vs⟩ := f
  obtain ⟨hs1, hs2, hs3⟩ := hs
  simp only at hv hs1 hs2 hs3 ⊢
  have hb0 : ∀ o, Below w.heap.size w (w.alloc o) := fun o => (Below.refl _ _).alloc (Nat.le_refl _) _
  have HV := hide hv
  have H3 := hide hs3
  have H2 := hide hs2
  unfold maxLen at hs1
  clear hv hs2 hs3
  by_cases h : left < s.size
  · go_enter Tryz.func6, Tryz.ntmps6
    go_wp2
    go_ret
    exact ⟨⟨-1, rfl, .inl rfl⟩, hb0 _⟩
  · go_enter Tryz.func6, Tryz.ntmps6
    go_wp2_with fail
    refine (szFlowVisitS_any av cv vs (left - s.size) _ (HV.out.later (hb0 _)) H3.out H2.out (by omega) (by omega)).mono ?_
    rintro e w1 ⟨⟨r, rfl, hr⟩, hb1⟩
    have hB := hide (below_two (hb0 _) hb1)
    clear hb1 hb0
    rcases hr with rfl | ⟨hr, hr2⟩
    · go_wp2
      go_ret
      exact ⟨⟨-1, rfl, .inl rfl⟩, hB.out⟩
    · go_wp2
      go_ret
      exact ⟨⟨r, rfl, .inr ⟨hr, by omega, by omega⟩⟩, hB.out⟩

set_option maxHeartbeats 400000 in
theorem szFlowFlightS_any (a : Option Addr) (cap : Nat) (fs : List Fli) (left : Int) (w : World) (hc : FlightsIn w a fs) (hs : ∀ f ∈ fs, SizesOk f) (hl : fs.length ≤ maxLen) (h0 : 0 ≤ left) (h1 : left ≤ 1048576) :
    Calls Tryz.prog 19 #[.slice a fs.length cap, .int .i64 left] w fun e w' => (∃ r : Int, e = .returned (.int .i64 r) ∧ (r = -1 ∨ (0 ≤ r ∧ r ≤ left ∧ (fs.length : Int) ≤ left ∧ ∀ f ∈ fs, (f.2.2.2.length : Int) ≤ left))) ∧ Below w.heap.size w w' := by
  unfold maxLen at hl
  by_cases h : left < fs.length
  · go_enter Tryz.func19, Tryz.ntmps19
    go_wp2
    go_ret
    exact ⟨⟨-1, rfl, .inl (by omega)⟩, Below.refl _ _⟩
  · go_enter Tryz.func19, Tryz.ntmps19
    go_wp2
    go_loopw [1, 5] (fun l i wr => ∃ (k : Nat) (r : Int), k ≤ fs.length ∧ i = .int .i64 k ∧ l = .int .i64 r ∧ 0 ≤ r ∧ r ≤ left ∧ Hid (∀ j (hj : j < fs.length), j < k → (fs[j].2.2.2.length : Int) ≤ left) ∧ Below w.heap.size w wr) (fun _ i _ => fs.length - (intOf i).toNat)
    case atStart => exact ⟨0, _, Nat.zero_le _, rfl, rfl, by omega, by omega, fun j _ hj => by omega, Below.refl _ _⟩
    case round =>
      obtain ⟨k, r, hk, rfl, rfl, hr0, hr1, HL, hbw⟩ := hrel
      by_cases hlt : k < fs.length
      · obtain ⟨b, off, rfl, hblt, e0, e1, e2, av, cv, e3, hv⟩ := hc.later hbw k hlt
        have hsz := hide (hs _ (List.getElem_mem hlt))
        have HL' : Hid ((fs[k].2.2.2.length : Int) ≤ left → ∀ j (hj : j < fs.length), j < k + 1 → (fs[j].2.2.2.length : Int) ≤ left) := fun hq j hj hjk => by
          by_cases ej : j = k
          · subst ej; exact hq
          · exact HL.out j hj (by omega)
        clear HL
        have HC := hide hc
        have HS := hide hs
        clear hc hs
        generalize fs[k] = c at e0 e1 e2 e3 hv hsz HL'
        have HV := hide hv
        clear hv
        go_wp2_with fail
        refine (szFlowFlight_any c av cv r wr HV.out hsz.out hr0 (by omega)).mono ?_
        rintro e w1 ⟨⟨r', rfl, hr'⟩, hb1⟩
        have hB := hide (below_two hbw hb1)
        clear hb1
        rcases hr' with rfl | ⟨hr', hr2, hr3⟩
        · go_wp2
          go_ret
          exact ⟨⟨-1, rfl, .inl (by omega)⟩, hB.out⟩
        · have HL2 := hide (HL'.out (by omega))
          go_wp2
          go_roundw
          case rel => exact ⟨k + 1, _, by omega, by go_num, rfl, by omega, by omega, HL2, hB.out⟩
          case measure => simp [intOf]; omega
      · go_wp2
        go_ret
        exact ⟨⟨r, rfl, .inr ⟨hr0, hr1, by omega, fun f hf => by
          obtain ⟨j, hj, rfl⟩ := List.getElem_of_mem hf
          exact HL.out j hj (by omega)⟩⟩, hbw⟩

theorem rows_new (w : World) (o : Obj) (c2 c3 : Array Value) (t : TypeId) :
    (((w.alloc o).alloc (.cells c2 t)).alloc (.cells c3 t)).rowIs (w.heap.size + 1) t c2.size (fun i => c2.getD i undef) ∧ (((w.alloc o).alloc (.cells c2 t)).alloc (.cells c3 t)).rowIs (w.heap.size + 1 + 1) t c3.size (fun i => c3.getD i undef) := by
  have h2 := World.rowIs_alloc (w.alloc o) c2 t (fun i => c2.getD i undef) (fun i hi => by simp [hi])
  have h3 := World.rowIs_alloc ((w.alloc o).alloc (.cells c2 t)) c3 t (fun i => c3.getD i undef) (fun i hi => by simp [hi])
  simp only [Deep.nblk_alloc] at h2 h3
  exact ⟨h2.alloc _, h3⟩

set_option maxHeartbeats 400000 in
theorem toFlowFlight_any (f : Fli) (av : Option Addr) (cv : Nat) (w : World) (hv : VisitsIn w av f.2.2.2) (hl : f.2.2.2.length ≤ 1048576) :
    Calls Tryz.prog 9 #[.agg #[.string f.1, .int .i64 f.2.1, .int .i64 f.2.2.1, .slice av f.2.2.2.length cv]] w fun e w' => ∃ g, e = .returned (.agg #[.string f.1, .int .i64 f.2.1, .int .i64 f.2.2.1, .slice (some ⟨g, 0, none⟩) f.2.2.2.length f.2.2.2.length]) ∧
      w.heap.size ≤ g ∧ w'.rowIs g 89 (f.2.2.2.length * 3) (visitCell f.2.2.2) ∧ Below w.heap.size w w' := by
  obtain ⟨s, n, m, vs⟩ := f
  simp only at hv hl ⊢
  have HV := hide hv
  clear hv
  go_enter Tryz.func9, Tryz.ntmps9
  go_wp2_with fail
  have hb0 : ∀ o1 o2 o3, Below w.heap.size w (((w.alloc o1).alloc o2).alloc o3) := fun _ _ _ => (((Below.refl _ _).alloc (Nat.le_refl _) _).alloc (by simp) _).alloc (by simp; omega) _
  refine (toFlowVisitS_any av cv vs _ (HV.out.later (hb0 _ _ _)) hl).mono ?_
  rintro e w1 ⟨rfl, hrow, hb1⟩
  obtain ⟨r1, r2⟩ := rows_new w (.cells #[.string s, .int .i64 n, .int .i64 m, .slice av vs.length cv] 29) #[.string ⟨#[]⟩, .int .i64 0, .int .i64 0, .slice none 0 0] #[.string s, .int .i64 n, .int .i64 m, .slice none 0 0] 41
  have q1 := r1.of_block (hb1.block _ r1.lt)
  have q2 := r2.of_block (hb1.block _ r2.lt)
  have x0 : w1.cell? ⟨w.heap.size + 1 + 1, 0, none⟩ = some (.string s) := q2.cell (i := 0) (by simp)
  have y0 : w1.cell? ⟨w.heap.size + 1, 0, none⟩ = some (.string ⟨#[]⟩) := q1.cell (i := 0) (by simp)
  have z0 := q1.frozen 0
  have x1 : w1.cell? ⟨w.heap.size + 1 + 1, 1, none⟩ = some (.int .i64 n) := q2.cell (i := 1) (by simp)
  have y1 : w1.cell? ⟨w.heap.size + 1, 1, none⟩ = some (.int .i64 0) := q1.cell (i := 1) (by simp)
  have z1 := q1.frozen 1
  have x2 : w1.cell? ⟨w.heap.size + 1 + 1, 2, none⟩ = some (.int .i64 m) := q2.cell (i := 2) (by simp)
  have y2 : w1.cell? ⟨w.heap.size + 1, 2, none⟩ = some (.int .i64 0) := q1.cell (i := 2) (by simp)
  have z2 := q1.frozen 2
  have x3 : w1.cell? ⟨w.heap.size + 1 + 1, 3, none⟩ = some (.slice none 0 0) := q2.cell (i := 3) (by simp)
  have y3 : w1.cell? ⟨w.heap.size + 1, 3, none⟩ = some (.slice none 0 0) := q1.cell (i := 3) (by simp)
  have z3 := q1.frozen 3
  have z9 := q2.frozen 3
  have q1' := hide q1
  have q2' := hide q2
  clear r1 r2 q1 q2
  have hB := hide (below_two (hb0 _ _ _) hb1)
  have hsz : w.heap.size + 1 + 1 + 1 ≤ w1.heap.size := by simpa using hb1.size
  have hR := hide hrow
  clear hrow hb1 hb0
  go_wp2
  refine bodyPost_ret (v := .agg #[.string s, .int .i64 n, .int .i64 m, .slice (some ⟨w.heap.size + 1 + 1 + 1, 0, none⟩) vs.length vs.length]) ?_ rfl ⟨w.heap.size + 1 + 1 + 1, rfl, by omega, ?_, ?_⟩
  · simp [results, Tryz.results9, go_sem, *]
  · have := hR.out
    simp only [Deep.nblk_alloc] at this
    repeat (refine World.rowIs.setOther ?_ (by first | (simp; done) | (simp; omega)) _)
    exact this
  · repeat (refine Below.setCell ?_ (by first | (simp; done) | (simp; omega)) _)
    exact hB.out

/-- Element i of a row of flights of the call's own, its visits in a row of their own, all from block lo on. -/
def rowFlight (lo : Nat) (w : World) (g : Nat) (f : Nat → Value) (i : Nat) (c : Fli) : Prop :=
  f (i * 4) = .string c.1 ∧ f (i * 4 + 1) = .int .i64 c.2.1 ∧ f (i * 4 + 2) = .int .i64 c.2.2.1 ∧
    ∃ gv, f (i * 4 + 3) = .slice (some ⟨gv, 0, none⟩) c.2.2.2.length c.2.2.2.length ∧ lo ≤ gv ∧ gv ≠ g ∧ w.rowIs gv 89 (c.2.2.2.length * 3) (visitCell c.2.2.2)
def FlightsOwn (lo : Nat) (w : World) (g : Nat) (fs : List Fli) : Prop :=
  lo ≤ g ∧ ∃ f, w.rowIs g 41 (fs.length * 4) f ∧ ∀ i (hi : i < fs.length), rowFlight lo w g f i fs[i]
theorem FlightsIn.ofOwn {lo : Nat} {w : World} {g : Nat} {fs : List Fli} (h : FlightsOwn lo w g fs) : FlightsIn w (some ⟨g, 0, none⟩) fs := fun i hi => by
  obtain ⟨_, f, hrow, hf⟩ := h
  obtain ⟨h0, h1, h2, gv, h3, _, _, hv⟩ := hf i hi
  exact ⟨g, 0, rfl, hrow.lt, by rw [Nat.zero_add, hrow.cell (by omega), h0], by rw [Nat.zero_add, hrow.cell (by omega), h1], by rw [Nat.zero_add, hrow.cell (by omega), h2],
    some ⟨gv, 0, none⟩, _, by rw [Nat.zero_add, hrow.cell (by omega), h3], VisitsIn.ofRow hv⟩
theorem FlightsOwn.later {lo : Nat} {w w' : World} {g : Nat} {fs : List Fli} (h : FlightsOwn lo w g fs) (hb : Below w.heap.size w w') : FlightsOwn lo w' g fs := by
  obtain ⟨hlo, f, hrow, hf⟩ := h
  refine ⟨hlo, f, hrow.of_block (hb.block _ hrow.lt), fun i hi => ?_⟩
  obtain ⟨h0, h1, h2, gv, h3, hl, hne, hv⟩ := hf i hi
  exact ⟨h0, h1, h2, gv, h3, hl, hne, hv.of_block (hb.block _ hv.lt)⟩

theorem info_flight : (Tryz.prog.info? 41).map (fun i => (i.zero, i.size, i.bytes)) = some (some (.agg #[.string ⟨#[]⟩, .int .i64 0, .int .i64 0, .slice none 0 0]), 4, 56) := by kernel_rfl
theorem run_make_flights (n : Nat) (hn : n ≤ 1048576) (u : World) : (Instr.makeSlice 33 (.int .i64 (n : Int)) (.int .i64 (n : Int))).run Tryz.prog u =
      .ok (.slice (some ⟨u.heap.size, 0, none⟩) n n) (u.alloc (.cells (madeCells #[.string ⟨#[]⟩, .int .i64 0, .int .i64 0, .slice none 0 0] (n * 4)) 41)) := by
  obtain ⟨i0, hi, hz0, hz1, hz2⟩ := info_parts info_flight
  have h := run_make (P := Tryz.prog) u 33 41 i0 (.agg #[.string ⟨#[]⟩, .int .i64 0, .int .i64 0, .slice none 0 0]) Tryz.underlying33 hi hz0 .i64 .i64 (n : Int) (n : Int) (by omega) (Int.le_refl _) (by rw [hz2]; omega) (by omega)
  simpa [hz1, Value.cells] using h

/-- What a round of toFlowFlightS has made. -/
def madeTo (B : Nat) (wr : World) (fs : List Fli) (k : Nat) : Prop :=
  ∃ f, wr.rowIs B 41 (fs.length * 4) f ∧ ∀ i (hi : i < fs.length), i < k → rowFlight B wr B f i fs[i]
theorem madeTo_step {B : Nat} {wr w1 : World} {fs : List Fli} {k : Nat} (hlt : k < fs.length) (h : madeTo B wr fs k) (hb : Below wr.heap.size wr w1) {gv : Nat} (hgv : wr.heap.size ≤ gv)
    (hv : w1.rowIs gv 89 (fs[k].2.2.2.length * 3) (visitCell fs[k].2.2.2)) :
    madeTo B ((((w1.setCell ⟨B, k * 4, none⟩ (.string fs[k].1)).setCell ⟨B, k * 4 + 1, none⟩ (.int .i64 fs[k].2.1)).setCell ⟨B, k * 4 + 2, none⟩ (.int .i64 fs[k].2.2.1)).setCell ⟨B, k * 4 + 3, none⟩ (.slice (some ⟨gv, 0, none⟩) fs[k].2.2.2.length fs[k].2.2.2.length)) fs (k + 1) := by
  obtain ⟨f, hrow, hf⟩ := h
  have hBlt := hrow.lt
  have hrow1 := hrow.of_block (hb.block _ hBlt)
  refine ⟨_, (((hrow1.set (k * 4) _).set (k * 4 + 1) _).set (k * 4 + 2) _).set (k * 4 + 3) _, fun i hi hik => ?_⟩
  have other : ∀ (g' t n : Nat) (F : Nat → Value) (u : World), g' ≠ B → u.rowIs g' t n F → ∀ (o : Nat) (v : Value), (u.setCell ⟨B, o, none⟩ v).rowIs g' t n F := fun g' t n F u hne hr o v => hr.setOther hne v
  by_cases e : i = k
  · subst e
    refine ⟨?_, ?_, ?_, gv, ?_, by omega, by omega, ?_⟩
    · dsimp only; rw [if_neg (by omega), if_neg (by omega), if_neg (by omega), if_pos rfl]
    · dsimp only; rw [if_neg (by omega), if_neg (by omega), if_pos rfl]
    · dsimp only; rw [if_neg (by omega), if_pos rfl]
    · dsimp only; rw [if_pos rfl]
    · exact other _ _ _ _ _ (by omega) (other _ _ _ _ _ (by omega) (other _ _ _ _ _ (by omega) (other _ _ _ _ _ (by omega) hv _ _) _ _) _ _) _ _
  · obtain ⟨h0, h1, h2, gv', h3, hl, hne, hv'⟩ := hf i hi (by omega)
    have hv1 := hv'.of_block (hb.block _ hv'.lt)
    refine ⟨?_, ?_, ?_, gv', ?_, hl, hne, ?_⟩
    · dsimp only; rw [if_neg (by omega), if_neg (by omega), if_neg (by omega), if_neg (by omega), h0]
    · dsimp only; rw [if_neg (by omega), if_neg (by omega), if_neg (by omega), if_neg (by omega), h1]
    · dsimp only; rw [if_neg (by omega), if_neg (by omega), if_neg (by omega), if_neg (by omega), h2]
    · dsimp only; rw [if_neg (by omega), if_neg (by omega), if_neg (by omega), if_neg (by omega), h3]
    · exact other _ _ _ _ _ hne (other _ _ _ _ _ hne (other _ _ _ _ _ hne (other _ _ _ _ _ hne hv1 _ _) _ _) _ _) _ _

set_option maxHeartbeats 400000 in
theorem toFlowFlightS_any (a : Option Addr) (cap : Nat) (fs : List Fli) (w : World) (hc : FlightsIn w a fs) (hl : fs.length ≤ 1048576) (hvl : ∀ f ∈ fs, f.2.2.2.length ≤ 1048576) :
    Calls Tryz.prog 29 #[.slice a fs.length cap] w fun e w' => ∃ g, e = .returned (.slice (some ⟨g, 0, none⟩) fs.length fs.length) ∧ FlightsOwn w.heap.size w' g fs ∧ Below w.heap.size w w' := by
  have hmk := run_make_flights fs.length hl
  obtain ⟨f0, hf0⟩ := rowIs_made' w #[.string ⟨#[]⟩, .int .i64 0, .int .i64 0, .slice none 0 0] (fs.length * 4) 41
  have hb0 : Below w.heap.size w (w.alloc (.cells (madeCells #[.string ⟨#[]⟩, .int .i64 0, .int .i64 0, .slice none 0 0] (fs.length * 4)) 41)) := (Below.refl _ _).alloc (Nat.le_refl _) _
  go_enter Tryz.func29, Tryz.ntmps29
  go_wp2
  go_loopw [4] (fun i wr => ∃ (k : Nat), k ≤ fs.length ∧ i = .int .i64 k ∧ madeTo w.heap.size wr fs k ∧ Below w.heap.size w wr) (fun i _ => fs.length - (intOf i).toNat)
  case atStart => exact ⟨0, Nat.zero_le _, rfl, ⟨f0, hf0, fun i _ hj => by omega⟩, hb0⟩
  case round =>
    obtain ⟨k, hk, rfl, hmade, hbw⟩ := hrel
    by_cases hlt : k < fs.length
    · obtain ⟨b, off, rfl, hblt, e0, e1, e2, av, cv, e3, hv⟩ := hc.later hbw k hlt
      have hvk := hvl _ (List.getElem_mem hlt)
      have hstep := hide (fun (w1 : World) (hb : Below wr.heap.size wr w1) (gv : Nat) (hgv : wr.heap.size ≤ gv) => madeTo_step hlt hmade hb (gv := gv) hgv)
      have hM := hide hmade
      have HC := hide hc
      have HVL := hide hvl
      have HV := hide hv
      clear hc hmk hmade hf0 hb0 hvl hv
      generalize fs[k] = c at e0 e1 e2 e3 HV hvk hstep
      go_wp2_with (go_at_call 9; refine (toFlowFlight_any c av cv _ HV.out hvk).mono ?_; rintro e w1 ⟨gv, rfl, hgv, hrow, hb'⟩
                   have ST := hide (hstep.out w1 hb' gv hgv hrow)
                   have BW := hide (below_two hbw hb')
                   obtain ⟨f, hr0, _⟩ := hM.out
                   have hr1 := hr0.of_block (hb'.block _ hr0.lt)
                   have c0 := hr1.cell (i := k * 4) (by omega)
                   have c1 := hr1.cell (i := k * 4 + 1) (by omega)
                   have c2 := hr1.cell (i := k * 4 + 2) (by omega)
                   have c3 := hr1.cell (i := k * 4 + 3) (by omega)
                   have z0 := hr1.frozen (k * 4)
                   have z1 := hr1.frozen (k * 4 + 1)
                   have z2 := hr1.frozen (k * 4 + 2)
                   have z3 := hr1.frozen (k * 4 + 3)
                   clear hr0 hr1 hb' hrow)
      go_roundw
      case rel =>
        exact ⟨k + 1, by omega, by go_num, ST.out, ((((BW.out).setCell (Nat.le_refl _) _).setCell (Nat.le_refl _) _).setCell (Nat.le_refl _) _).setCell (Nat.le_refl _) _⟩
      case measure => simp [intOf]; omega
    · go_wp2
      go_ret
      have : k = fs.length := by omega
      subst this
      obtain ⟨f, hrow, hf⟩ := hmade
      exact ⟨_, rfl, ⟨Nat.le_refl _, f, hrow, fun i hi => hf i hi hi⟩, hbw⟩

set_option maxHeartbeats 400000 in
theorem eqFlowFlight_same (f : Fli) (av av' : Option Addr) (cv cv' : Nat) (w : World) (hv : VisitsIn w av f.2.2.2) (hv' : VisitsIn w av' f.2.2.2) (hl : f.2.2.2.length ≤ 1048576) :
    Calls Tryz.prog 12 #[.agg #[.string f.1, .int .i64 f.2.1, .int .i64 f.2.2.1, .slice av f.2.2.2.length cv], .agg #[.string f.1, .int .i64 f.2.1, .int .i64 f.2.2.1, .slice av' f.2.2.2.length cv']] w fun e w' => e = .returned (.bool true) ∧ Below w.heap.size w w' := by
  obtain ⟨s, n, m, vs⟩ := f
  simp only at hv hv' hl ⊢
  have hb0 : ∀ o1 o2, Below w.heap.size w ((w.alloc o1).alloc o2) := fun _ _ => ((Below.refl _ _).alloc (Nat.le_refl _) _).alloc (by simp) _
  have HV := hide hv
  have HV' := hide hv'
  clear hv hv'
  go_enter Tryz.func12, Tryz.ntmps12
  go_wp2_with fail
  refine (eqFlowVisitS_same av av' cv cv' vs _ (HV.out.later (hb0 _ _)) (HV'.out.later (hb0 _ _)) hl).mono ?_
  rintro e w1 ⟨rfl, hb1⟩
  have hB := hide (below_two (hb0 _ _) hb1)
  clear hb1
  go_wp2
  go_ret
  exact ⟨rfl, hB.out⟩

theorem below_dr {w w1 : World} (h : Below w.drew.heap.size w.drew w1) : Below w.heap.size w w1 := (Below.refl _ _).drew.trans h

set_option maxHeartbeats 1600000 in
theorem eqFlowFlightS_same (a a' : Option Addr) (cap cap' : Nat) (fs : List Fli) (w : World) (hc : FlightsIn w a fs) (hc' : FlightsIn w a' fs) (hl : fs.length ≤ 1048576) (hvl : ∀ f ∈ fs, f.2.2.2.length ≤ 1048576) :
    Calls Tryz.prog 34 #[.slice a fs.length cap, .slice a' fs.length cap'] w fun e w' => e = .returned (.bool true) ∧ Below w.heap.size w w' := by
  go_enter Tryz.func34, Tryz.ntmps34
  go_wp2
  go_loopw [5] (fun i wr => ∃ (k : Nat), k ≤ fs.length ∧ i = .int .i64 k ∧ Below w.heap.size w wr) (fun i _ => fs.length - (intOf i).toNat)
  case atStart => exact ⟨0, Nat.zero_le _, rfl, Below.refl _ _⟩
  case round =>
    obtain ⟨k, hk, rfl, hbw⟩ := hrel
    by_cases hlt : k < fs.length
    · obtain ⟨b, off, rfl, hblt, e0, e1, e2, av, cv, e3, hv⟩ := hc.later hbw k hlt
      obtain ⟨b', off', rfl, hblt', e0', e1', e2', av', cv', e3', hv'⟩ := hc'.later hbw k hlt
      have hvk := hvl _ (List.getElem_mem hlt)
      have hdr : Below wr.heap.size wr wr.drew := (Below.refl _ _).drew
      have HV := hide (hv.later hdr)
      have HV' := hide (hv'.later hdr)
      clear hc hc' hvl hv hv' hdr
      generalize fs[k] = c at e0 e1 e2 e3 e0' e1' e2' e3' HV HV' hvk
      have k0 : (0 : Int) ≤ (k : Int) := by omega
      have k1 : (k : Int) < (fs.length : Int) := by omega
      go_wp2
      go_region_held3 (fun w' => w'.cell? ⟨b, off + k * 4, none⟩ = some (.string c.1) ∧ w'.cell? ⟨b, off + k * 4 + 1, none⟩ = some (.int .i64 c.2.1) ∧ w'.cell? ⟨b, off + k * 4 + 2, none⟩ = some (.int .i64 c.2.2.1) ∧ w'.cell? ⟨b, off + k * 4 + 3, none⟩ = some (.slice av c.2.2.2.length cv) ∧ w'.cell? ⟨b', off' + k * 4, none⟩ = some (.string c.1) ∧ w'.cell? ⟨b', off' + k * 4 + 1, none⟩ = some (.int .i64 c.2.1) ∧ w'.cell? ⟨b', off' + k * 4 + 2, none⟩ = some (.int .i64 c.2.2.1) ∧ w'.cell? ⟨b', off' + k * 4 + 3, none⟩ = some (.slice av' c.2.2.2.length cv') ∧ Below wr.heap.size wr w')
        (first | exact ⟨e0, e1, e2, e3, e0', e1', e2', e3', (Below.refl _ _).drew⟩ | exact ⟨cell_later hb' e0, cell_later hb' e1, cell_later hb' e2, cell_later hb' e3, cell_later hb' e0', cell_later hb' e1', cell_later hb' e2', cell_later hb' e3', below_dr hb'⟩)
        (first | (go_at_call 12; refine (eqFlowFlight_same c av av' cv cv' _ HV.out HV'.out hvk).mono ?_; rintro e w1 ⟨rfl, hb'⟩))
      go_wp2
      go_roundw
      case rel => exact ⟨k + 1, by omega, by go_num, below_two hbw (below_dr hb')⟩
      case measure => simp [intOf]; omega
    · go_wp2
      go_ret
      exact ⟨rfl, hbw⟩

end Go.Proofs.YtciacofibljmoabGreatDoor
