/- The document's runs, tick by tick, walked. -/
import Derived.Test.YtciacofibljmoaaGreatFits3
namespace Go.Proofs.YtciacofibljmoaaGreat
open Go.RowKit

/-- Ticks without a load may be left out. -/
theorem foldS_skip (n : Int → Int) : ∀ (l : List Int) (out : List Run), l.foldl (stepS n) out = (l.filter fun t => decide (n t ≠ 0)).foldl (stepS n) out
  | [], _ => rfl
  | t :: l, out => by
    by_cases h : n t = 0
    · rw [List.foldl_cons, List.filter_cons_of_neg (by simpa using h), foldS_skip n l]
      have : stepS n out t = out := by unfold stepS; rw [if_pos h]
      rw [this]
    · rw [List.foldl_cons, List.filter_cons_of_pos (by simpa using h), List.foldl_cons, foldS_skip n l]
theorem ticksS_do (n : Int → Int) (low low' : Int) (m m' : Nat) (h1 : ∀ x, n x ≠ 0 → low ≤ x ∧ x < low + m) (h2 : ∀ x, n x ≠ 0 → low' ≤ x ∧ x < low' + m') (out : List Run) : (ticks low m).foldl (stepS n) out = (ticks low' m').foldl (stepS n) out := by
  rw [foldS_skip n (ticks low m), foldS_skip n (ticks low' m')]
  congr 1
  refine asc_eq ((ticks_asc low m).filter _) ((ticks_asc low' m').filter _) fun x => ?_
  simp only [List.mem_filter, decide_eq_true_eq]
  constructor
  · rintro ⟨_, hx⟩; exact ⟨(mem_ticks _ _ x).2 (h2 x hx), hx⟩
  · rintro ⟨_, hx⟩; exact ⟨(mem_ticks _ _ x).2 (h1 x hx), hx⟩

theorem free_le {vs : List Vis} (hv : visTo vs vs.length = true) : ∀ (d j : Nat), j + d = vs.length → freeAt vs j ≤ freeAt vs vs.length
  | 0, j, h => by rw [show j = vs.length by omega]; exact Int.le_refl _
  | d + 1, j, h => by
    have h1 := free_mono hv (show j < vs.length by omega)
    have h2 := free_le hv d (j + 1) (by omega)
    omega
/-- When a flight is nowhere any more. -/
def endOf (f : Fli) (slot : Int) : Int := slot + freeAt f.2.2.2 f.2.2.2.length
/-- What the ends of all that fly are good for. -/
def Ends (fs : List Fli) (ss : List Int) (k : Nat) (low high : Int) : Prop := ∀ i (hi : i < fs.length) (hi' : i < ss.length), i < k → 0 ≤ ss[i] → low ≤ ss[i] ∧ endOf fs[i] ss[i] ≤ high
theorem ends_load {fs : List Fli} {ss : List Int} (h : slotsB fs ss = true) {low high : Int} (he : Ends fs ss fs.length low high) {sec : ByteArray} {t : Int} (hl : loadTo fs ss sec t fs.length ≠ 0) : low ≤ t ∧ t < high := by
  obtain ⟨hln, _, hsb, hfb⟩ := slots_bd h
  have hv := slots_vis h
  have hpos : 0 < loadTo fs ss sec t fs.length := by omega
  unfold loadTo at hpos
  obtain ⟨i, hi⟩ := List.exists_mem_of_length_pos hpos
  obtain ⟨hi1, hi2⟩ := List.mem_filter.1 hi
  have hil := List.mem_range.1 hi1
  unfold flyAt at hi2
  rw [getD_at fs i _ hil, getD_at ss i _ (by omega)] at hi2
  simp only [Bool.and_eq_true, decide_eq_true_eq] at hi2
  obtain ⟨j, hj, hh⟩ := has_at hi2.2
  unfold hasAt at hh
  rw [getD_at _ j _ hj] at hh
  simp only [Bool.and_eq_true] at hh
  have hin := inB_iff.1 hh.2
  have hb := vis_at (hv i hil) hj
  have hf0 := freeAt_bd (vs := fs[i].2.2.2) (k := j) (by
    have := hv i hil
    unfold visTo at this ⊢
    rw [List.all_eq_true] at this ⊢
    intro q hq
    exact this q (List.mem_range.2 (by have := List.mem_range.1 hq; omega))) (by omega)
  have hfj := free_le (hv i hil) (fs[i].2.2.2.length - (j + 1)) (j + 1) (by omega)
  rw [freeAt_succ _ j hj] at hfj
  have := he i hil (by omega) hil hi2.1
  unfold endOf at this
  omega

theorem alloc3d (wr : World) (a b c : Value) (t : TypeId) : ∃ W, (wr.alloc (.cells #[a, b, c] t)).drew = W ∧ W.cell? ⟨wr.heap.size, 1, none⟩ = some b ∧ W.cell? ⟨wr.heap.size, 2, none⟩ = some c ∧ Below wr.heap.size wr W :=
  ⟨_, rfl, by show (wr.alloc _).cell? _ = _; simp, by show (wr.alloc _).cell? _ = _; simp, ((Below.refl _ _).alloc (Nat.le_refl _) _).drew⟩
theorem endOf_last (f : Fli) (slot : Int) (n : Nat) (h : f.2.2.2.length = n + 1) : endOf f slot = slot + (f.2.2.2[n]'(by omega)).2.1 + (f.2.2.2[n]'(by omega)).2.2 := by
  unfold endOf
  have h1 : freeAt f.2.2.2 f.2.2.2.length = freeAt f.2.2.2 (n + 1) := congrArg _ h
  rw [h1, freeAt_succ f.2.2.2 n (by omega)]
  omega

end Go.Proofs.YtciacofibljmoaaGreat
