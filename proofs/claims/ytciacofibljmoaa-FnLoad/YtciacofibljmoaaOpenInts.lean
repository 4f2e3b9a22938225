/- How slots that come in lie in memory. -/
import Derived.Test.YtciacofibljmoaaInts
import Derived.Test.YtciacofibljmoaaOpenCaps
namespace Go.Proofs.Ytciacofibljmoaa
open Go.RowKit

theorem openInts {H : Type} {enc : TypeId × Value → H} {W : World} {fuel : Nat} {a : Option Addr} {len cap : Nat} {x : DataW H × List MemPlace}
    (h : DataW.trod enc Try.prog W 0 (fun _ => true) true fuel 24 [.slice a len cap] = some x) :
    ∃ zs : List Int, zs.length = len ∧ IntsIn W a zs ∧ len ≤ maxLen := by
  rcases Deep.open_slice1 Try.underlying24 cells_int h with ⟨hcs, _⟩ | ⟨a', len', cap', m, n, V, D, Pl, hcs, _, hl, hm, hmm, _, hx⟩
  · simp at hcs
    obtain ⟨rfl, rfl, rfl⟩ := hcs
    exact ⟨[], rfl, fun i hi => by simp at hi, Nat.zero_le _⟩
  · simp at hcs
    obtain ⟨rfl, rfl, rfl⟩ := hcs
    have each : ∀ i, i < len → ∃ z : Int, a' = ⟨a'.block, a'.off, none⟩ ∧ a'.block < W.heap.size ∧ W.cell? ⟨a'.block, a'.off + i, none⟩ = some (.int .i64 z) := fun i hi => by
      obtain ⟨q0, _⟩ := hx 0 (by rw [hmm]; simp; omega)
      have hsp := World.cell?_spot q0
      have ha : a' = ⟨a'.block, a'.off, none⟩ := by
        cases a' with
        | mk b o s => simp [Addr.add] at hsp; subst hsp; rfl
      obtain ⟨q1, g1⟩ := hx i (by rw [hmm]; simp; omega)
      obtain ⟨z, e1, _, _⟩ := DataW.trod_int Try.underlying3 g1
      simp at e1
      rw [e1, ha, add_plain] at q1
      exact ⟨z, ha, World.block_lt_of_cell? W ⟨a'.block, a'.off + i, none⟩ q1, q1⟩
    obtain ⟨f, hf⟩ := Deep.choose_lt each
    refine ⟨(List.range len).map f, by simp, fun i hi => ?_, by omega⟩
    have hi' : i < len := by simpa using hi
    obtain ⟨ha, hlt, hc⟩ := hf i hi'
    exact ⟨a'.block, a'.off, by rw [← ha], hlt, by simpa using hc⟩

end Go.Proofs.Ytciacofibljmoaa
