/- A flight is copied. -/
import Derived.Test.YtciacofibljmoabDraw5
namespace Go.Proofs.Ytciacofibljmoab
open Go.RowKit

theorem vis_news {w : World} {a : Option Addr} {vs : List Vis} (h : VisitsIn w a vs) (h1 : 1 ≤ vs.length) : ∃ b off, a = some ⟨b, off, none⟩ ∧ ∀ j u, (visVals vs)[j]? = some u → w.cell? ((⟨b, off, none⟩ : Addr).add j) = some u := by
  obtain ⟨b, off, e, hb, _⟩ := h 0 (by omega)
  refine ⟨b, off, e, fun j u hj => ?_⟩
  have hlt : j < (visVals vs).length := by
    rcases Nat.lt_or_ge j (visVals vs).length with hh | hh
    · exact hh
    · rw [List.getElem?_eq_none hh] at hj; simp at hj
  rw [visVals_len] at hlt
  have hi : j / 3 < vs.length := by omega
  obtain ⟨b', off', e', _, c0, c1, c2⟩ := h (j / 3) hi
  rw [e] at e'
  simp at e'
  obtain ⟨rfl, rfl⟩ := e'
  obtain ⟨q0, q1, q2⟩ := visVals_at vs (j / 3) hi
  have ha : (⟨b, off, none⟩ : Addr).add j = ⟨b, off + j, none⟩ := by
    by_cases hz : j = 0
    · subst hz; rfl
    · simp [Addr.add, hz]
  rw [ha]
  have hm : j % 3 = 0 ∨ j % 3 = 1 ∨ j % 3 = 2 := by omega
  rcases hm with hm | hm | hm
  · rw [show j / 3 * 3 = j by omega] at q0 c0
    rw [hj] at q0
    rw [c0, ← q0]
  · rw [show j / 3 * 3 + 1 = j by omega] at q1
    rw [show off + j / 3 * 3 + 1 = off + j by omega] at c1
    rw [hj] at q1
    rw [c1, ← q1]
  · rw [show j / 3 * 3 + 2 = j by omega] at q2
    rw [show off + j / 3 * 3 + 2 = off + j by omega] at c2
    rw [hj] at q2
    rw [c2, ← q2]
theorem visVals_one (vs : List Vis) : ∀ u ∈ visVals vs, u.oneCell' = true := fun u hu => by
  unfold visVals at hu
  obtain ⟨v, _, hv⟩ := List.mem_flatMap.1 hu
  simp at hv
  rcases hv with rfl | rfl | rfl <;> rfl
theorem FlAt.newAt (w : World) (B : Nat) (hB : w.heap.size = B) (nm : ByteArray) (p l : Int) (v : Value) : FlAt (w.alloc (.cells #[.string nm, .int .i64 p, .int .i64 l, v] 60)) B nm p l v := by
  subst hB; exact FlAt.new w nm p l v
theorem own_emptyV (w : World) : OwnV (w.alloc (.cells #[] 114)) w.heap.size (.slice (some ⟨w.heap.size, 0, none⟩) 0 0) [] := World.ownsRow_made w #[] 0 (Nat.le_refl _) (Nat.zero_le _) (by simp)

end Go.Proofs.Ytciacofibljmoab
