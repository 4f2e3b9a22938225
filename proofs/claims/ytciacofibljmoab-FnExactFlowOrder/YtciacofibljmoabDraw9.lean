/- Any flights are drawn. -/
import Derived.Test.YtciacofibljmoabDraw8
namespace Go.Proofs.Ytciacofibljmoab
open Go.RowKit

theorem flVals_set : ∀ (gs : List FlV) (k : Nat) (_ : k < gs.length) (x : FlV), ((((flVals gs).set (k * 4) (.string x.1.1)).set (k * 4 + 1) (.int .i64 x.1.2.1)).set (k * 4 + 2) (.int .i64 x.1.2.2.1)).set (k * 4 + 3) (.slice x.2.1 x.1.2.2.2.length x.2.2) = flVals (gs.set k x)
  | [], k, hk, _ => by simp at hk
  | c :: cs, 0, _, z => by simp [flVals]
  | c :: cs, k + 1, hk, z => by
    have ih := flVals_set cs k (by simpa using hk) z
    rw [show (k + 1) * 4 = k * 4 + 1 + 1 + 1 + 1 by omega, show k * 4 + 1 + 1 + 1 + 1 + 1 = k * 4 + 1 + 1 + 1 + 1 + 1 by omega, show k * 4 + 1 + 1 + 1 + 1 + 2 = k * 4 + 2 + 1 + 1 + 1 + 1 by omega, show k * 4 + 1 + 1 + 1 + 1 + 3 = k * 4 + 3 + 1 + 1 + 1 + 1 by omega]
    simpa [flVals] using ih
theorem owns_set4 {w : World} {base g cp : Nat} {gs : List FlV} (h : World.ownsRow w base 60 4 (.slice (some ⟨g, 0, none⟩) gs.length cp) gs.length (flVals gs)) {k : Nat} (hk : k < gs.length) (x : FlV) :
    World.ownsRow ((((w.setCell ⟨g, k * 4, none⟩ (.string x.1.1)).setCell ⟨g, k * 4 + 1, none⟩ (.int .i64 x.1.2.1)).setCell ⟨g, k * 4 + 2, none⟩ (.int .i64 x.1.2.2.1)).setCell ⟨g, k * 4 + 3, none⟩ (.slice x.2.1 x.1.2.2.2.length x.2.2)) base 60 4 (.slice (some ⟨g, 0, none⟩) gs.length cp) gs.length (flVals (gs.set k x)) := by
  have h1 := (World.ownsRow.stored h (k * 4) (.string x.1.1)).1
  have h2 := (World.ownsRow.stored h1 (k * 4 + 1) (.int .i64 x.1.2.1)).1
  have h3 := (World.ownsRow.stored h2 (k * 4 + 2) (.int .i64 x.1.2.2.1)).1
  have h4 := (World.ownsRow.stored h3 (k * 4 + 3) (.slice x.2.1 x.1.2.2.2.length x.2.2)).1
  rw [flVals_set gs k hk x] at h4
  exact h4
theorem own_cells4 {w : World} {base g n c : Nat} {gs : List FlV} (h : World.ownsRow w base 60 4 (.slice (some ⟨g, 0, none⟩) n c) n (flVals gs)) {k : Nat} (hk : k < gs.length) :
    (w.cell? ⟨g, k * 4, none⟩ = some (.string gs[k].1.1) ∧ w.frozen? ⟨g, k * 4, none⟩ = false) ∧ (w.cell? ⟨g, k * 4 + 1, none⟩ = some (.int .i64 gs[k].1.2.1) ∧ w.frozen? ⟨g, k * 4 + 1, none⟩ = false) ∧ (w.cell? ⟨g, k * 4 + 2, none⟩ = some (.int .i64 gs[k].1.2.2.1) ∧ w.frozen? ⟨g, k * 4 + 2, none⟩ = false) ∧ (w.cell? ⟨g, k * 4 + 3, none⟩ = some (.slice gs[k].2.1 gs[k].1.2.2.2.length gs[k].2.2) ∧ w.frozen? ⟨g, k * 4 + 3, none⟩ = false) := by
  obtain ⟨a', c', e, _, _, _, hc⟩ := owns_slice h
  simp at e
  obtain ⟨rfl, _⟩ := e
  obtain ⟨q0, q1, q2, q3⟩ := flVals_at gs k hk
  obtain ⟨g0, e0, _, _, r0, s0⟩ := hc _ _ q0
  obtain ⟨g1, e1, _, _, r1, s1⟩ := hc _ _ q1
  obtain ⟨g2, e2, _, _, r2, s2⟩ := hc _ _ q2
  obtain ⟨g3, e3, _, _, r3, s3⟩ := hc _ _ q3
  simp at e0 e1 e2 e3
  subst e0
  subst e1
  subst e2
  subst e3
  exact ⟨⟨r0, s0⟩, ⟨r1, s1⟩, ⟨r2, s2⟩, r3, s3⟩
theorem FlSm.mono {m n : Nat} {f : Fli} (h : FlSm m f) (hn : m ≤ n) : FlSm n f := ⟨h.1, h.2.1, h.2.2.1, h.2.2.2.mono hn⟩

end Go.Proofs.Ytciacofibljmoab
