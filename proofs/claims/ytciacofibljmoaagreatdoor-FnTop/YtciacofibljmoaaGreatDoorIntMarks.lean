/- Marks in an answer of numbers: it owns its memory. -/
import Derived.Test.YtciacofibljmoaaGreatDoorMarks
import Derived.Test.YtciacofibljmoaaGreatDoorDrawsB
namespace Go.Proofs.YtciacofibljmoaaGreatDoor
open Go.RowKit

/-- Numbers of a call's own, in a block from lo to just below hi. -/
def OwnInI (lo hi : Nat) (w : World) (v : Value) (zs : List Int) : Prop := OwnI w lo v zs ∧ ∀ g, v.ownBlock = some g → g < hi
theorem ownInI_of {w : World} {base : Nat} {v : Value} {zs : List Int} (h : OwnI w base v zs) : OwnInI base w.heap.size w v zs := ⟨h, fun g hg => (World.ownsRow.lt h g hg).2⟩
theorem ownInI_keep {lo hi : Nat} {w w' : World} {v : Value} {zs : List Int} (h : OwnInI lo hi w v zs) (hk : ∀ k, k < w.heap.size → lo ≤ k → k < hi → w'.heap[k]? = w.heap[k]?) : OwnInI lo hi w' v zs := by
  obtain ⟨h0, hb⟩ := h
  obtain ⟨h1, h2⟩ := h0
  refine ⟨⟨h1, ?_⟩, hb⟩
  rcases h2 with h2 | ⟨g, cap, cur, rfl, e2, e3, e4⟩
  · exact .inl h2
  · exact .inr ⟨g, cap, cur, rfl, e2, (hk g (Array.getElem?_eq_some_iff.1 e3).1 e2 (hb g rfl)).trans e3, e4⟩
theorem ownInI_later {lo hi : Nat} {w w' : World} {v : Value} {zs : List Int} (h : OwnInI lo hi w v zs) (hb : Below w.heap.size w w') : OwnInI lo hi w' v zs := ownInI_keep h fun k hk _ _ => hb.block k hk
theorem ownInI_touch {lo hi lo' hi' : Nat} {w w' : World} {v : Value} {zs : List Int} (h : OwnInI lo hi w v zs) (ht : Touch lo' hi' w w') (ho : hi ≤ lo' ∨ hi' ≤ lo) : OwnInI lo hi w' v zs := ownInI_keep h fun k hk h1 h2 => ht.block k hk (by omega)
theorem ownI_slice {w : World} {base : Nat} {v : Value} {zs : List Int} (h : OwnI w base v zs) : ∃ a cap, v = .slice a zs.length cap ∧ IntsIn w a zs := by
  obtain ⟨a', c', e, _, _, hin, hp⟩ := OwnI.form h
  exact ⟨a', c', e, hin⟩
theorem row_of_ownI {w : World} {base g n cap : Nat} {zs : List Int} (h : OwnI w base (.slice (some ⟨g, 0, none⟩) n cap) zs) : n = zs.length ∧ base ≤ g ∧ ∃ f, w.rowIs g 3 cap f ∧ n ≤ cap := by
  unfold OwnI at h
  rcases h.2 with ⟨h0, _⟩ | ⟨g', cap', cur, e, hg, hh, h1, h2, h3, h4⟩
  · simp at h0
  · simp at e
    obtain ⟨rfl, rfl, rfl⟩ := e
    rw [Nat.mul_one] at h3
    exact ⟨rfl, hg, fun i => cur.getD i undef, ⟨cur, hh, h3, fun i hi => by simp [hi, h3]⟩, h1⟩
theorem own_splitI {w : World} {base : Nat} {a : Option Addr} {cap : Nat} {zs : List Int} (h : OwnI w base (.slice a zs.length cap) zs) :
    (a = none ∧ zs = [] ∧ cap = 0) ∨ ∃ g, a = some ⟨g, 0, none⟩ ∧ base ≤ g ∧ ∃ f, w.rowIs g 3 cap f ∧ zs.length ≤ cap := by
  have hh := h
  unfold OwnI at h
  rcases h.2 with ⟨h0, h1⟩ | ⟨g', cap', cur, e, hg, _⟩
  · simp at h0
    exact .inl ⟨h0.1, h0.2.1, h0.2.2⟩
  · simp at e
    obtain ⟨rfl, rfl⟩ := e
    obtain ⟨_, h1, f, h2, h3⟩ := row_of_ownI hh
    exact .inr ⟨g', rfl, h1, f, h2, h3⟩

end Go.Proofs.YtciacofibljmoaaGreatDoor
