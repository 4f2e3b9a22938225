/- The document's runs, whole, walked. -/
import Derived.Test.YtciacofibljmoaaGreatSpecRuns
namespace Go.Proofs.YtciacofibljmoaaGreat
open Go.RowKit

theorem own_later {w w' : World} {base : Nat} {v : Value} {rs : List Run} (h : OwnRuns w base v rs) (hb : Below w.heap.size w w') : OwnRuns w' base v rs := by
  obtain ⟨h1, h2⟩ := h
  refine ⟨h1, ?_⟩
  rcases h2 with h2 | ⟨g, cap, cur, e1, e2, e3, e4⟩
  · exact .inl h2
  · exact .inr ⟨g, cap, cur, e1, e2, (hb.block g (Array.getElem?_eq_some_iff.1 e3).1).trans e3, e4⟩
theorem own_form {w : World} {base : Nat} {v : Value} {pre : List Run} {r : Run} (h : OwnRuns w base v (pre ++ [r])) :
    ∃ g cp, v = .slice (some ⟨g, 0, none⟩) (pre.length + 1) cp ∧ base ≤ g ∧ g < w.heap.size ∧ w.cell? ⟨g, pre.length * 3 + 1, none⟩ = some (.int .i64 r.2.1) ∧ w.cell? ⟨g, pre.length * 3 + 2, none⟩ = some (.int .i64 r.2.2) ∧ w.frozen? ⟨g, pre.length * 3 + 1, none⟩ = false := by
  unfold OwnRuns at h
  have hat := runCells_at (pre ++ [r]) pre.length (by simp)
  rcases h.2 with ⟨_, h0⟩ | ⟨g, cap, cur, rfl, hg, hh, h1, h2, h3, h4⟩
  · simp at h0
  · refine ⟨g, cap, by simp, hg, (Array.getElem?_eq_some_iff.1 hh).1, ?_, ?_, h.frozenAt _⟩
    · rw [h.cellAt _ (by simp; omega), hat.2.1]; simp
    · rw [h.cellAt _ (by simp; omega), hat.2.2]; simp
theorem own_set {w : World} {base g cp : Nat} {pre : List Run} {r : Run} (h : OwnRuns w base (.slice (some ⟨g, 0, none⟩) (pre.length + 1) cp) (pre ++ [r])) (t : Int) :
    OwnRuns (w.setCell ⟨g, pre.length * 3 + 1, none⟩ (.int .i64 t)) base (.slice (some ⟨g, 0, none⟩) (pre.length + 1) cp) (pre ++ [(r.1, t, r.2.2)]) := by
  unfold OwnRuns at *
  have e : (pre ++ [r]).length = pre.length + 1 := by simp
  have e' : (pre ++ [(r.1, t, r.2.2)]).length = pre.length + 1 := by simp
  rw [e] at h
  rw [e']
  have hs := (h.stored (pre.length * 3 + 1) (.int .i64 t)).1
  have ec : (runCells (pre ++ [r])).set (pre.length * 3 + 1) (.int .i64 t) = runCells (pre ++ [(r.1, t, r.2.2)]) := by
    rw [runCells_snoc, runCells_snoc, ← runCells_len pre, List.set_append_right _ _ (by omega)]
    simp
  rw [ec] at hs
  exact hs

theorem own_empty (w : World) : OwnRuns (w.alloc (.cells #[] 76)) w.heap.size (.slice (some ⟨w.heap.size, 0, none⟩) 0 0) [] := World.ownsRow_made w #[] 0 (Nat.le_refl _) (Nat.zero_le _) (by simp)
theorem snoc_cases (rs : List Run) : rs = [] ∨ ∃ pre r, rs = pre ++ [r] := by
  by_cases h : rs = []
  · exact .inl h
  · exact .inr ⟨rs.dropLast, rs.getLast h, (List.dropLast_concat_getLast h).symm⟩
theorem own_len0 {w : World} {base : Nat} {v : Value} (h : OwnRuns w base v []) : ∃ (a : Option Addr) (cp : Nat), v = .slice a 0 cp := by
  obtain ⟨a, cp, e, _⟩ := own_runs h
  exact ⟨a, cp, e⟩

end Go.Proofs.YtciacofibljmoaaGreat
