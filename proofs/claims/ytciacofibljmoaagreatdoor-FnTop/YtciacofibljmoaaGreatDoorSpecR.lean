/- The document's runs, tick by tick, walked. -/
import Derived.Test.YtciacofibljmoaaGreatDoorFitsAll
namespace Go.Proofs.YtciacofibljmoaaGreatDoor
open Go.RowKit

/-- Ticks without a load may be left out. -/
theorem foldS_skip (n : Int → Int) : ∀ (l : List Int) (out : List Run), l.foldl (stepS n) out = (l.filter fun t => decide (n t ≠ 0)).foldl (stepS n) out
  | [], _ => rfl
  | t :: l, out => by
    by_cases h : n t = 0
    · rw [List.foldl_cons, List.filter_cons_of_neg (by simpa using h), foldS_skip n l]
      have : stepS n out t = out := by unfold stepS; rw [if_pos h]
      rw [this]
    · rw [List.foldl_cons, List.filter_cons_of_pos (by simpa using h), List.foldl_cons, foldS_skip n l]
theorem ticksS_do (n : Int → Int) (low low' : Int) (m m' : Nat) (h1 : ∀ x, n x ≠ 0 → low ≤ x ∧ x < low + m) (h2 : ∀ x, n x ≠ 0 → low' ≤ x ∧ x < low' + m') (out : List Run) : (ticks low m).foldl (stepS n) out = (ticks low' m').foldl (stepS n) out := by
  rw [foldS_skip n (ticks low m), foldS_skip n (ticks low' m')]
  congr 1
  refine asc_eq ((ticks_asc low m).filter _) ((ticks_asc low' m').filter _) fun x => ?_
  simp only [List.mem_filter, decide_eq_true_eq]
  constructor
  · rintro ⟨_, hx⟩; exact ⟨(mem_ticks _ _ x).2 (h2 x hx), hx⟩
  · rintro ⟨_, hx⟩; exact ⟨(mem_ticks _ _ x).2 (h1 x hx), hx⟩

theorem free_le {vs : List Vis} (hv : visTo vs vs.length = true) : ∀ (d j : Nat), j + d = vs.length → freeAt vs j ≤ freeAt vs vs.length
  | 0, j, h => by rw [show j = vs.length by omega]; exact Int.le_refl _
  | d + 1, j, h => by
    have h1 := free_mono hv (show j < vs.length by omega)
    have h2 := free_le hv d (j + 1) (by omega)
    omega
/-- When a flight is nowhere any more. -/
def endOf (f : Fli) (slot : Int) : Int := slot + freeAt f.2.2.2 f.2.2.2.length
/-- What the ends of all that fly are good for. -/
def Ends (fs : List Fli) (ss : List Int) (k : Nat) (low high : Int) : Prop := ∀ i (hi : i < fs.length) (hi' : i < ss.length), i < k → 0 ≤ ss[i] → low ≤ ss[i] ∧ endOf fs[i] ss[i] ≤ high
theorem ends_load {fs : List Fli} {ss : List Int} (h : slotsB fs ss = true) {low high : Int} (he : Ends fs ss fs.length low high) {sec : ByteArray} {t : Int} (hl : loadTo fs ss sec t fs.length ≠ 0) : low ≤ t ∧ t < high := by
  obtain ⟨hln, _, hsb, hfb⟩ := slots_bd h
  have hv := slots_vis h
  have hpos : 0 < loadTo fs ss sec t fs.length := by omega
  unfold loadTo at hpos
  obtain ⟨i, hi⟩ := List.exists_mem_of_length_pos hpos
  obtain ⟨hi1, hi2⟩ := List.mem_filter.1 hi
  have hil := List.mem_range.1 hi1
  unfold flyAt at hi2
  rw [getD_at fs i _ hil, getD_at ss i _ (by omega)] at hi2
  simp only [Bool.and_eq_true, decide_eq_true_eq] at hi2
  obtain ⟨j, hj, hh⟩ := has_at hi2.2
  unfold hasAt at hh
  rw [getD_at _ j _ hj] at hh
  simp only [Bool.and_eq_true] at hh
  have hin := inB_iff.1 hh.2
  have hb := vis_at (hv i hil) hj
  have hf0 := freeAt_bd (vs := fs[i].2.2.2) (k := j) (by
    have := hv i hil
    unfold visTo at this ⊢
    rw [List.all_eq_true] at this ⊢
    intro q hq
    exact this q (List.mem_range.2 (by have := List.mem_range.1 hq; omega))) (by omega)
  have hfj := free_le (hv i hil) (fs[i].2.2.2.length - (j + 1)) (j + 1) (by omega)
  rw [freeAt_succ _ j hj] at hfj
  have := he i hil (by omega) hil hi2.1
  unfold endOf at this
  omega

theorem alloc3d (wr : World) (a b c : Value) (t : TypeId) : ∃ W, (wr.alloc (.cells #[a, b, c] t)).drew = W ∧ W.cell? ⟨wr.heap.size, 1, none⟩ = some b ∧ W.cell? ⟨wr.heap.size, 2, none⟩ = some c ∧ Below wr.heap.size wr W :=
  ⟨_, rfl, by show (wr.alloc _).cell? _ = _; simp, by show (wr.alloc _).cell? _ = _; simp, ((Below.refl _ _).alloc (Nat.le_refl _) _).drew⟩
theorem endOf_last (f : Fli) (slot : Int) (n : Nat) (h : f.2.2.2.length = n + 1) : endOf f slot = slot + (f.2.2.2[n]'(by omega)).2.1 + (f.2.2.2[n]'(by omega)).2.2 := by
  unfold endOf
  have h1 : freeAt f.2.2.2 f.2.2.2.length = freeAt f.2.2.2 (n + 1) := congrArg _ h
  rw [h1, freeAt_succ f.2.2.2 n (by omega)]
  omega

end Go.Proofs.YtciacofibljmoaaGreatDoor

/- The document's runs, whole, walked. -/
namespace Go.Proofs.YtciacofibljmoaaGreatDoor
open Go.RowKit

theorem own_later {w w' : World} {base : Nat} {v : Value} {rs : List Run} (h : OwnRuns w base v rs) (hb : Below w.heap.size w w') : OwnRuns w' base v rs := by
  obtain ⟨h1, h2⟩ := h
  refine ⟨h1, ?_⟩
  rcases h2 with h2 | ⟨g, cap, cur, e1, e2, e3, e4⟩
  · exact .inl h2
  · exact .inr ⟨g, cap, cur, e1, e2, (hb.block g (Array.getElem?_eq_some_iff.1 e3).1).trans e3, e4⟩
theorem own_form {w : World} {base : Nat} {v : Value} {pre : List Run} {r : Run} (h : OwnRuns w base v (pre ++ [r])) :
    ∃ g cp, v = .slice (some ⟨g, 0, none⟩) (pre.length + 1) cp ∧ base ≤ g ∧ g < w.heap.size ∧ w.cell? ⟨g, pre.length * 3 + 1, none⟩ = some (.int .i64 r.2.1) ∧ w.cell? ⟨g, pre.length * 3 + 2, none⟩ = some (.int .i64 r.2.2) ∧ w.frozen? ⟨g, pre.length * 3 + 1, none⟩ = false := by
  unfold OwnRuns at h
  have hat := runCells_at (pre ++ [r]) pre.length (by simp)
  rcases h.2 with ⟨_, h0⟩ | ⟨g, cap, cur, rfl, hg, hh, h1, h2, h3, h4⟩
  · simp at h0
  · refine ⟨g, cap, by simp, hg, (Array.getElem?_eq_some_iff.1 hh).1, ?_, ?_, h.frozenAt _⟩
    · rw [h.cellAt _ (by simp; omega), hat.2.1]; simp
    · rw [h.cellAt _ (by simp; omega), hat.2.2]; simp
theorem own_set {w : World} {base g cp : Nat} {pre : List Run} {r : Run} (h : OwnRuns w base (.slice (some ⟨g, 0, none⟩) (pre.length + 1) cp) (pre ++ [r])) (t : Int) :
    OwnRuns (w.setCell ⟨g, pre.length * 3 + 1, none⟩ (.int .i64 t)) base (.slice (some ⟨g, 0, none⟩) (pre.length + 1) cp) (pre ++ [(r.1, t, r.2.2)]) := by
  unfold OwnRuns at *
  have e : (pre ++ [r]).length = pre.length + 1 := by simp
  have e' : (pre ++ [(r.1, t, r.2.2)]).length = pre.length + 1 := by simp
  rw [e] at h
  rw [e']
  have hs := (h.stored (pre.length * 3 + 1) (.int .i64 t)).1
  have ec : (runCells (pre ++ [r])).set (pre.length * 3 + 1) (.int .i64 t) = runCells (pre ++ [(r.1, t, r.2.2)]) := by
    rw [runCells_snoc, runCells_snoc, ← runCells_len pre, List.set_append_right _ _ (by omega)]
    simp
  rw [ec] at hs
  exact hs

theorem own_empty (w : World) : OwnRuns (w.alloc (.cells #[] 105)) w.heap.size (.slice (some ⟨w.heap.size, 0, none⟩) 0 0) [] := World.ownsRow_made w #[] 0 (Nat.le_refl _) (Nat.zero_le _) (by simp)
theorem snoc_cases (rs : List Run) : rs = [] ∨ ∃ pre r, rs = pre ++ [r] := by
  by_cases h : rs = []
  · exact .inl h
  · exact .inr ⟨rs.dropLast, rs.getLast h, (List.dropLast_concat_getLast h).symm⟩
theorem own_len0 {w : World} {base : Nat} {v : Value} (h : OwnRuns w base v []) : ∃ (a : Option Addr) (cp : Nat), v = .slice a 0 cp := by
  obtain ⟨a, cp, e, _⟩ := own_runs h
  exact ⟨a, cp, e⟩

end Go.Proofs.YtciacofibljmoaaGreatDoor
