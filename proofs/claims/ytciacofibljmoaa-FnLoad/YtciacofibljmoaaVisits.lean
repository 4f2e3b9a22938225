/- Visits in memory: the walks over slices of them that the law itself makes, measures and compares. -/
import Derived.Test.YtciacofibljmoaaImplCaps
namespace Go.Proofs.Ytciacofibljmoaa
open Go.RowKit

/-- Element i of a slice of visits. -/
def visitAt (w : World) (b off i : Nat) (v : ByteArray × Int × Int) : Prop :=
  w.cell? ⟨b, off + i * 3, none⟩ = some (.string v.1) ∧ w.cell? ⟨b, off + i * 3 + 1, none⟩ = some (.int .i64 v.2.1) ∧ w.cell? ⟨b, off + i * 3 + 2, none⟩ = some (.int .i64 v.2.2)
/-- A slice's address leads to these visits. -/
def VisitsIn (w : World) (a : Option Addr) (vs : List (ByteArray × Int × Int)) : Prop :=
  ∀ i (hi : i < vs.length), ∃ b off, a = some ⟨b, off, none⟩ ∧ b < w.heap.size ∧ visitAt w b off i vs[i]
theorem VisitsIn.later {w w' : World} {a : Option Addr} {vs : List (ByteArray × Int × Int)} (h : VisitsIn w a vs) (hb : Below w.heap.size w w') : VisitsIn w' a vs := fun i hi => by
  obtain ⟨b, off, ha, hlt, h0, h1, h2⟩ := h i hi
  exact ⟨b, off, ha, Nat.lt_of_lt_of_le hlt hb.size, cell_later hb h0, cell_later hb h1, cell_later hb h2⟩

set_option maxHeartbeats 400000 in
theorem szFlowVisit_any (s : ByteArray) (n m left : Int) (w : World) (hs : s.size ≤ maxLen) (h0 : 0 ≤ left) (h1 : left ≤ 1048576) :
    Calls Try.prog 90 #[.agg #[.string s, .int .i64 n, .int .i64 m], .int .i64 left] w fun e w' => e = .returned (.int .i64 (if left < s.size then -1 else left - s.size)) ∧ Below w.heap.size w w' := by
  unfold maxLen at hs
  by_cases h : left < s.size
  · go_enter Try.func90, Try.ntmps90
    go_wp2
    go_ret
    exact ⟨by simp, (Below.refl _ _).alloc (Nat.le_refl _) _⟩
  · go_enter Try.func90, Try.ntmps90
    go_wp2
    go_ret
    exact ⟨by simp, (Below.refl _ _).alloc (Nat.le_refl _) _⟩

set_option maxHeartbeats 400000 in
theorem toFlowVisit_any (s : ByteArray) (n m : Int) (w : World) :
    Calls Try.prog 91 #[.agg #[.string s, .int .i64 n, .int .i64 m]] w fun e w' => e = .returned (.agg #[.string s, .int .i64 n, .int .i64 m]) ∧ Below w.heap.size w w' := by
  go_enter Try.func91, Try.ntmps91
  go_wp2
  exact bodyPost_ret (v := .agg #[.string s, .int .i64 n, .int .i64 m]) (by simp [results, Try.results91, go_sem]) rfl ⟨rfl, by repeat (first | exact Below.refl _ _ | (refine Below.alloc ?_ (by simp <;> omega) _) | (refine Below.setCell ?_ (by simp <;> omega) _))⟩

set_option maxHeartbeats 400000 in
theorem eqFlowVisit_same (s : ByteArray) (n m : Int) (w : World) :
    Calls Try.prog 93 #[.agg #[.string s, .int .i64 n, .int .i64 m], .agg #[.string s, .int .i64 n, .int .i64 m]] w fun e w' => e = .returned (.bool true) ∧ Below w.heap.size w w' := by
  go_enter Try.func93, Try.ntmps93
  go_wp2
  go_ret
  exact ⟨rfl, ((Below.refl _ _).alloc (Nat.le_refl _) _).alloc (by simp) _⟩

set_option maxHeartbeats 400000 in
theorem szFlowVisitS_any (a : Option Addr) (cap : Nat) (vs : List (ByteArray × Int × Int)) (left : Int) (w : World) (hc : VisitsIn w a vs) (hs : ∀ c ∈ vs, c.1.size ≤ maxLen) (hl : vs.length ≤ maxLen) (h0 : 0 ≤ left) (h1 : left ≤ 1048576) :
    Calls Try.prog 76 #[.slice a vs.length cap, .int .i64 left] w fun e w' => (∃ r : Int, e = .returned (.int .i64 r) ∧ (r = -1 ∨ (0 ≤ r ∧ r + vs.length ≤ left))) ∧ Below w.heap.size w w' := by
  unfold maxLen at hl
  by_cases h : left < vs.length
  · go_enter Try.func76, Try.ntmps76
    go_wp2
    go_ret
    exact ⟨⟨-1, rfl, .inl (by omega)⟩, Below.refl _ _⟩
  · go_enter Try.func76, Try.ntmps76
    go_wp2
    go_loopw [1, 5] (fun l i wr => ∃ (k : Nat) (r : Int), k ≤ vs.length ∧ i = .int .i64 k ∧ l = .int .i64 r ∧ 0 ≤ r ∧ r + vs.length ≤ left ∧ Below w.heap.size w wr) (fun _ i _ => vs.length - (intOf i).toNat)
    case atStart => exact ⟨0, _, Nat.zero_le _, rfl, rfl, by omega, by omega, Below.refl _ _⟩
    case round =>
      obtain ⟨k, r, hk, rfl, rfl, hr0, hr1, hbw⟩ := hrel
      by_cases hlt : k < vs.length
      · obtain ⟨b, off, rfl, hblt, e0, e1, e2⟩ := hc.later hbw k hlt
        have hsz := hs _ (List.getElem_mem hlt)
        generalize vs[k] = c at e0 e1 e2 hsz
        by_cases hx : r < c.1.size
        · go_wp2_with (go_at_call 90; refine (szFlowVisit_any _ _ _ _ _ hsz hr0 (by omega)).mono ?_; rw [if_pos hx]; rintro e w' ⟨rfl, hb'⟩)
          go_ret
          exact ⟨⟨-1, rfl, .inl (by omega)⟩, hbw.trans (hb'.mono hbw.size)⟩
        · go_wp2_with (go_at_call 90; refine (szFlowVisit_any _ _ _ _ _ hsz hr0 (by omega)).mono ?_; rw [if_neg hx]; rintro e w' ⟨rfl, hb'⟩)
          go_roundw
          case rel => exact ⟨k + 1, _, by omega, by go_num, rfl, by omega, by omega, hbw.trans (hb'.mono hbw.size)⟩
          case measure => simp [intOf]; omega
      · go_wp2
        go_ret
        exact ⟨⟨r, rfl, .inr ⟨hr0, hr1⟩⟩, hbw⟩

theorem info_visit : (Try.prog.info? 110).map (fun i => (i.zero, i.size, i.bytes)) = some (some (.agg #[.string ⟨#[]⟩, .int .i64 0, .int .i64 0]), 3, 32) := by kernel_rfl

/-- What the cells of a row of visits hold. -/
def visitCell (vs : List (ByteArray × Int × Int)) (j : Nat) : Value :=
  if j % 3 = 0 then .string (vs.getD (j / 3) (ByteArray.empty, 0, 0)).1 else if j % 3 = 1 then .int .i64 (vs.getD (j / 3) (ByteArray.empty, 0, 0)).2.1 else .int .i64 (vs.getD (j / 3) (ByteArray.empty, 0, 0)).2.2
theorem visitCell_0 (vs : List (ByteArray × Int × Int)) (k : Nat) (h : k < vs.length) : visitCell vs (k * 3) = .string vs[k].1 := by
  unfold visitCell
  rw [if_pos (by omega), show k * 3 / 3 = k by omega, getD_at vs k _ h]
theorem visitCell_1 (vs : List (ByteArray × Int × Int)) (k : Nat) (h : k < vs.length) : visitCell vs (k * 3 + 1) = .int .i64 vs[k].2.1 := by
  unfold visitCell
  rw [if_neg (by omega), if_pos (by omega), show (k * 3 + 1) / 3 = k by omega, getD_at vs k _ h]
theorem visitCell_2 (vs : List (ByteArray × Int × Int)) (k : Nat) (h : k < vs.length) : visitCell vs (k * 3 + 2) = .int .i64 vs[k].2.2 := by
  unfold visitCell
  rw [if_neg (by omega), if_neg (by omega), show (k * 3 + 2) / 3 = k by omega, getD_at vs k _ h]
theorem VisitsIn.ofRow {w : World} {g : Nat} {t : TypeId} {vs : List (ByteArray × Int × Int)} (h : w.rowIs g t (vs.length * 3) (visitCell vs)) : VisitsIn w (some ⟨g, 0, none⟩) vs := fun i hi =>
  ⟨g, 0, rfl, h.lt, by rw [Nat.zero_add, h.cell (by omega), visitCell_0 _ _ hi], by rw [Nat.zero_add, h.cell (by omega), visitCell_1 _ _ hi], by rw [Nat.zero_add, h.cell (by omega), visitCell_2 _ _ hi]⟩

theorem run_make_visits (n : Nat) (hn : n ≤ 1048576) (u : World) : (Instr.makeSlice 72 (.int .i64 (n : Int)) (.int .i64 (n : Int))).run Try.prog u =
      .ok (.slice (some ⟨u.heap.size, 0, none⟩) n n) (u.alloc (.cells (madeCells #[.string ⟨#[]⟩, .int .i64 0, .int .i64 0] (n * 3)) 110)) := by
  obtain ⟨i0, hi, hz0, hz1, hz2⟩ := info_parts info_visit
  have h := run_make (P := Try.prog) u 72 110 i0 (.agg #[.string ⟨#[]⟩, .int .i64 0, .int .i64 0]) Try.underlying72 hi hz0 .i64 .i64 (n : Int) (n : Int) (by omega) (Int.le_refl _) (by rw [hz2]; omega) (by omega)
  simpa [hz1, Value.cells] using h

set_option maxHeartbeats 400000 in
theorem toFlowVisitS_any (a : Option Addr) (cap : Nat) (vs : List (ByteArray × Int × Int)) (w : World) (hc : VisitsIn w a vs) (hl : vs.length ≤ 1048576) :
    Calls Try.prog 77 #[.slice a vs.length cap] w fun e w' => e = .returned (.slice (some ⟨w.heap.size, 0, none⟩) vs.length vs.length) ∧ w'.rowIs w.heap.size 110 (vs.length * 3) (visitCell vs) ∧ Below w.heap.size w w' := by
  have hmk := run_make_visits vs.length hl
  obtain ⟨f0, hf0⟩ := rowIs_made' w #[.string ⟨#[]⟩, .int .i64 0, .int .i64 0] (vs.length * 3) 110
  have hb0 : Below w.heap.size w (w.alloc (.cells (madeCells #[.string ⟨#[]⟩, .int .i64 0, .int .i64 0] (vs.length * 3)) 110)) := (Below.refl _ _).alloc (Nat.le_refl _) _
  go_enter Try.func77, Try.ntmps77
  go_wp2
  go_loopw [4] (fun i wr => ∃ (k : Nat) (f : Nat → Value), k ≤ vs.length ∧ i = .int .i64 k ∧ wr.rowIs w.heap.size 110 (vs.length * 3) f ∧ (∀ j, j < k * 3 → f j = visitCell vs j) ∧ Below w.heap.size w wr) (fun i _ => vs.length - (intOf i).toNat)
  case atStart => exact ⟨0, f0, Nat.zero_le _, rfl, hf0, fun j hj => by omega, hb0⟩
  case round =>
    obtain ⟨k, f, hk, rfl, hrow, hf, hbw⟩ := hrel
    by_cases hlt : k < vs.length
    · obtain ⟨b, off, rfl, hblt, e0, e1, e2⟩ := hc.later hbw k hlt
      have q0 := visitCell_0 vs k hlt
      have q1 := visitCell_1 vs k hlt
      have q2 := visitCell_2 vs k hlt
      have hf' : Hid (∀ j, j < k * 3 → f j = visitCell vs j) := hf
      have hc' : Hid (VisitsIn w (some ⟨b, off, none⟩) vs) := hc
      have hrow' : Hid (wr.rowIs w.heap.size 110 (vs.length * 3) f) := hrow
      clear hf hc hmk hrow hf0 hb0
      generalize vs[k] = c at e0 e1 e2 q0 q1 q2
      have Q0 := hide q0
      have Q1 := hide q1
      have Q2 := hide q2
      clear q0 q1 q2
      go_wp2_with (go_at_call 91; refine (toFlowVisit_any _ _ _ _).mono ?_; rintro e w1 ⟨rfl, hb'⟩
                   have R1 : Hid (w1.rowIs w.heap.size 110 (vs.length * 3) f) := hrow'.out.of_block (hb'.block _ hrow'.out.lt)
                   have c0 := R1.out.cell (i := k * 3) (by omega)
                   have c1 := R1.out.cell (i := k * 3 + 1) (by omega)
                   have c2 := R1.out.cell (i := k * 3 + 2) (by omega)
                   have z0 := R1.out.frozen (k * 3)
                   have z1 := R1.out.frozen (k * 3 + 1)
                   have z2 := R1.out.frozen (k * 3 + 2))
      go_roundw
      case rel =>
        refine ⟨k + 1, _, by omega, by go_num, ((R1.out.set (k * 3) (.string c.1)).set (k * 3 + 1) (.int .i64 c.2.1)).set (k * 3 + 2) (.int .i64 c.2.2), fun j hj => ?_, ((((hbw.trans (hb'.mono hbw.size)).setCell (Nat.le_refl _) _).setCell (Nat.le_refl _) _).setCell (Nat.le_refl _) _)⟩
        by_cases j2 : j = k * 3 + 2
        · rw [if_pos j2, j2, Q2.out]
        rw [if_neg j2]
        by_cases j1 : j = k * 3 + 1
        · rw [if_pos j1, j1, Q1.out]
        rw [if_neg j1]
        by_cases j0 : j = k * 3
        · rw [if_pos j0, j0, Q0.out]
        rw [if_neg j0]
        exact hf'.out j (by omega)
      case measure => simp [intOf]; omega
    · go_wp2
      go_ret
      have : k = vs.length := by omega
      subst this
      exact ⟨rfl, hrow.congr (fun i hi => hf i hi), hbw⟩

set_option maxHeartbeats 800000 in
theorem eqFlowVisitS_same (a a' : Option Addr) (cap cap' : Nat) (vs : List (ByteArray × Int × Int)) (w : World) (hc : VisitsIn w a vs) (hc' : VisitsIn w a' vs) (hl : vs.length ≤ 1048576) :
    Calls Try.prog 79 #[.slice a vs.length cap, .slice a' vs.length cap'] w fun e w' => e = .returned (.bool true) ∧ Below w.heap.size w w' := by
  go_enter Try.func79, Try.ntmps79
  go_wp2
  go_loopw [5] (fun i wr => ∃ (k : Nat), k ≤ vs.length ∧ i = .int .i64 k ∧ Below w.heap.size w wr) (fun i _ => vs.length - (intOf i).toNat)
  case atStart => exact ⟨0, Nat.zero_le _, rfl, Below.refl _ _⟩
  case round =>
    obtain ⟨k, hk, rfl, hbw⟩ := hrel
    by_cases hlt : k < vs.length
    · obtain ⟨b, off, rfl, hblt, e0, e1, e2⟩ := hc.later hbw k hlt
      obtain ⟨b', off', rfl, hblt', e0', e1', e2'⟩ := hc'.later hbw k hlt
      clear hc hc'
      generalize vs[k] = c at e0 e1 e2 e0' e1' e2'
      have k0 : (0 : Int) ≤ (k : Int) := by omega
      have k1 : (k : Int) < (vs.length : Int) := by omega
      go_wp2
      go_region_held3 (fun w' => w'.cell? ⟨b, off + k * 3, none⟩ = some (.string c.1) ∧ w'.cell? ⟨b, off + k * 3 + 1, none⟩ = some (.int .i64 c.2.1) ∧ w'.cell? ⟨b, off + k * 3 + 2, none⟩ = some (.int .i64 c.2.2) ∧ w'.cell? ⟨b', off' + k * 3, none⟩ = some (.string c.1) ∧ w'.cell? ⟨b', off' + k * 3 + 1, none⟩ = some (.int .i64 c.2.1) ∧ w'.cell? ⟨b', off' + k * 3 + 2, none⟩ = some (.int .i64 c.2.2) ∧ Below wr.heap.size wr w')
        (first | exact ⟨e0, e1, e2, e0', e1', e2', (Below.refl _ _).drew⟩ | exact ⟨cell_later hb' e0, cell_later hb' e1, cell_later hb' e2, cell_later hb' e0', cell_later hb' e1', cell_later hb' e2', (Below.refl _ _).drew.trans hb'⟩)
        (first | (go_at_call 93; refine (eqFlowVisit_same _ _ _ _).mono ?_; rintro e w1 ⟨rfl, hb'⟩))
      go_wp2
      go_roundw
      case rel => exact ⟨k + 1, by omega, by go_num, hbw.trans (((Below.refl _ _).drew.trans hb').mono hbw.size)⟩
      case measure => simp [intOf]; omega
    · go_wp2
      go_ret
      exact ⟨rfl, hbw⟩

end Go.Proofs.Ytciacofibljmoaa
