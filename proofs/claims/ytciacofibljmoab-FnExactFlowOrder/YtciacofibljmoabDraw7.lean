/- A flight is spoilt. -/
import Derived.Test.YtciacofibljmoabDraw6
import Derived.Deep.RegionWith
namespace Go.Proofs.Ytciacofibljmoab
open Go.RowKit

attribute [local go_sem ↓] Go.wp_at_zero Go.wp_at_succ

theorem visVals_set1 : ∀ (vs : List Vis) (k : Nat) (hk : k < vs.length) (z : Int), (visVals vs).set (k * 3 + 1) (.int .i64 z) = visVals (vs.set k (vs[k].1, z, vs[k].2.2))
  | [], k, hk, _ => by simp at hk
  | c :: cs, 0, _, z => by simp [visVals]
  | c :: cs, k + 1, hk, z => by
    have ih := visVals_set1 cs k (by simpa using hk) z
    rw [show (k + 1) * 3 + 1 = k * 3 + 1 + 1 + 1 + 1 by omega]
    simpa [visVals] using ih
theorem visVals_set2 : ∀ (vs : List Vis) (k : Nat) (hk : k < vs.length) (z : Int), (visVals vs).set (k * 3 + 2) (.int .i64 z) = visVals (vs.set k (vs[k].1, vs[k].2.1, z))
  | [], k, hk, _ => by simp at hk
  | c :: cs, 0, _, z => by simp [visVals]
  | c :: cs, k + 1, hk, z => by
    have ih := visVals_set2 cs k (by simpa using hk) z
    rw [show (k + 1) * 3 + 2 = k * 3 + 2 + 1 + 1 + 1 by omega]
    simpa [visVals] using ih
theorem own_set1 {w : World} {base g cp : Nat} {vs : List Vis} (h : OwnV w base (.slice (some ⟨g, 0, none⟩) vs.length cp) vs) {k : Nat} (hk : k < vs.length) (z : Int) :
    OwnV (w.setCell ⟨g, k * 3 + 1, none⟩ (.int .i64 z)) base (.slice (some ⟨g, 0, none⟩) vs.length cp) (vs.set k (vs[k].1, z, vs[k].2.2)) := by
  have hs := (World.ownsRow.stored h (k * 3 + 1) (.int .i64 z)).1
  rw [visVals_set1 vs k hk z] at hs
  unfold OwnV
  rw [List.length_set]
  exact hs
theorem own_set2 {w : World} {base g cp : Nat} {vs : List Vis} (h : OwnV w base (.slice (some ⟨g, 0, none⟩) vs.length cp) vs) {k : Nat} (hk : k < vs.length) (z : Int) :
    OwnV (w.setCell ⟨g, k * 3 + 2, none⟩ (.int .i64 z)) base (.slice (some ⟨g, 0, none⟩) vs.length cp) (vs.set k (vs[k].1, vs[k].2.1, z)) := by
  have hs := (World.ownsRow.stored h (k * 3 + 2) (.int .i64 z)).1
  rw [visVals_set2 vs k hk z] at hs
  unfold OwnV
  rw [List.length_set]
  exact hs
theorem VisSm.set {m : Nat} {vs : List Vis} (h : VisSm m vs) {k : Nat} (hk : k < vs.length) (a b : Int) : VisSm m (vs.set k (vs[k].1, a, b)) := by
  obtain ⟨h1, h2⟩ := h
  refine ⟨by simpa using h1, fun v hv => ?_⟩
  rcases List.mem_or_eq_of_mem_set hv with hv | rfl
  · exact h2 v hv
  · exact h2 vs[k] (List.getElem_mem hk)
theorem VisSm.mono {m n : Nat} {vs : List Vis} (h : VisSm m vs) (hn : m ≤ n) : VisSm n vs := ⟨Nat.le_trans h.1 hn, h.2⟩
/-- A number of a list that was just laid. -/
theorem ints_new (w : World) (t : TypeId) (zs : List Int) (c : Array Value) (hc : c = (zs.map (Value.int .i64)).toArray) (j : Nat) (hj : j < zs.length) : (w.alloc (.cells c t)).cell? ⟨w.heap.size, j, none⟩ = some (.int .i64 zs[j]) := by
  subst hc
  simp [hj]
theorem ints_ex (w : World) (t : TypeId) (zs : List Int) (c : Array Value) (hc : c = (zs.map (Value.int .i64)).toArray) (j : Nat) (hj : j < zs.length) : ∃ z : Int, (w.alloc (.cells c t)).cell? ⟨w.heap.size, j, none⟩ = some (.int .i64 z) := ⟨_, ints_new w t zs c hc j hj⟩
theorem OwnV.visits {w : World} {base : Nat} {a : Option Addr} {n c : Nat} {vs : List Vis} (h : OwnV w base (.slice a n c) vs) : VisitsIn w a vs ∧ ∀ p, a = some p → base ≤ p.block := by
  obtain ⟨a', c', e, _, _, h1, h2⟩ := OwnV.form h
  simp at e
  obtain ⟨rfl, _, _⟩ := e
  exact ⟨h1, fun p hp => (h2 p hp).2.1⟩
theorem own_cell {w : World} {base g n c : Nat} {vs : List Vis} (h : OwnV w base (.slice (some ⟨g, 0, none⟩) n c) vs) {k : Nat} (hk : k < vs.length) :
    (w.cell? ⟨g, k * 3 + 1, none⟩ = some (.int .i64 vs[k].2.1) ∧ w.frozen? ⟨g, k * 3 + 1, none⟩ = false) ∧ (w.cell? ⟨g, k * 3 + 2, none⟩ = some (.int .i64 vs[k].2.2) ∧ w.frozen? ⟨g, k * 3 + 2, none⟩ = false) := by
  obtain ⟨a', c', e, _, _, _, hc⟩ := owns_slice h
  simp at e
  obtain ⟨rfl, _, _⟩ := e
  obtain ⟨_, q1, q2⟩ := visVals_at vs k hk
  obtain ⟨g1, e1, _, _, r1, s1⟩ := hc _ _ q1
  obtain ⟨g2, e2, _, _, r2, s2⟩ := hc _ _ q2
  simp at e1 e2
  subst e1
  subst e2
  exact ⟨⟨r1, s1⟩, r2, s2⟩
theorem cell_other {w : World} {F g i j : Nat} {v u : Value} (hne : F ≠ g) (h : w.cell? ⟨F, i, none⟩ = some v) : (w.setCell ⟨g, j, none⟩ u).cell? ⟨F, i, none⟩ = some v :=
  (World.cell?_of_block (w := w) (a := ⟨F, i, none⟩) (Below.heap_setCell w ⟨g, j, none⟩ u F hne)).trans h
def spoilNams : List ByteArray := [⟨#[]⟩, ⟨#[65]⟩, ⟨#[122, 122]⟩, ⟨#[97, 49]⟩]
theorem spoilNams_size : ∀ s ∈ spoilNams, s.size ≤ 8 := by decide
theorem late_bd : ∀ z ∈ ([-1, 60, 61] : List Int), -1 ≤ z ∧ z ≤ 61 := by decide
theorem vis_take {w : World} {a : Option Addr} {vs : List Vis} (h : VisitsIn w a vs) (k : Nat) : VisitsIn w a (vs.take k) := fun i hi => by
  have hi' : i < vs.length := by simp at hi; omega
  obtain ⟨b, off, e, h1, h2⟩ := h i hi'
  refine ⟨b, off, e, h1, ?_⟩
  rw [List.getElem_take]
  exact h2

end Go.Proofs.Ytciacofibljmoab
