/- How caps that come in lie in memory. -/
import Derived.Test.YtciacofibljmoaaGreatDoorLeafEq
import Derived.Deep.Slices
import Derived.ChangeArms
import Derived.Test.YtciacofibljmoaaGreatDoorDraws
namespace Go.Proofs.YtciacofibljmoaaGreatDoor
open Go.RowKit

theorem cells_str : Tryz.prog.cellsOf 9 = 1 := by kernel_rfl
theorem cells_int : Tryz.prog.cellsOf 3 = 1 := by kernel_rfl

/-- The address of what is read cell by cell bears no spot. -/
theorem addr_plain {w : World} {a : Addr} {n : Nat} {cs : List Value} (h : w.cells? 0 (a.add 0) n = some cs) (hn : 0 < n) : a = ⟨a.block, a.off, none⟩ := by
  obtain ⟨_, hlen, hcell⟩ := World.cells?_some h
  have q0 := hcell 0 hn
  rw [List.getElem?_eq_getElem (show 0 < cs.length by omega)] at q0
  have q := World.cell?_spot q0
  cases a with
  | mk b o s => simp [Addr.add] at q; subst q; rfl

theorem add_plain (b o k : Nat) : (⟨b, o, none⟩ : Addr).add k = ⟨b, o + k, none⟩ := by
  unfold Addr.add
  split
  · rename_i h; subst h; rfl
  · rfl

end Go.Proofs.YtciacofibljmoaaGreatDoor

/- How bytes that come in lie in memory. -/
namespace Go.Proofs.YtciacofibljmoaaGreatDoor
open Go.RowKit

theorem cells_u8 : Tryz.prog.cellsOf 5 = 1 := by kernel_rfl
theorem openBytes {H : Type} {enc : TypeId × Value → H} {W : World} {fuel : Nat} {a : Option Addr} {len cap : Nat} {x : DataW H × List MemPlace}
    (h : DataW.trod enc Tryz.prog W 0 (fun _ => true) true fuel 22 [.slice a len cap] = some x) :
    BytesIn W.heap.size W a len ∧ len ≤ cap ∧ cap ≤ maxLen := by
  rcases Deep.open_slice1 Tryz.underlying22 cells_u8 h with ⟨hcs, _⟩ | ⟨a', len', cap', m, n, V, D, Pl, hcs, _, hl, hm, hmm, _, hx⟩
  · simp at hcs
    obtain ⟨rfl, rfl, rfl⟩ := hcs
    exact ⟨fun i hi => by omega, Nat.le_refl _, Nat.zero_le _⟩
  · simp at hcs
    obtain ⟨rfl, rfl, rfl⟩ := hcs
    refine ⟨fun i hi => ?_, hl, hm⟩
    obtain ⟨q0, _⟩ := hx 0 (by rw [hmm]; simp; omega)
    have hsp := World.cell?_spot q0
    have ha : a' = ⟨a'.block, a'.off, none⟩ := by
      cases a' with
      | mk b o s => simp [Addr.add] at hsp; subst hsp; rfl
    obtain ⟨q1, g1⟩ := hx i (by rw [hmm]; simp; omega)
    obtain ⟨z, e1, _, hw⟩ := DataW.trod_int Tryz.underlying5 g1
    simp at e1
    rw [e1, ha, add_plain] at q1
    have hz : 0 ≤ z ∧ z ≤ 255 := by
      simp only [Lit.wf, Bool.and_eq_true, decide_eq_true_eq] at hw
      have h1 : IntKind.u8.min = 0 := by decide
      have h2 : IntKind.u8.max = 255 := by decide
      rw [h1, h2] at hw
      exact hw
    exact ⟨a'.block, a'.off, z, by rw [← ha], World.block_lt_of_cell? W ⟨a'.block, a'.off + i, none⟩ q1, hz.1, hz.2, q1⟩
theorem BytesIn.later {w w' : World} {a : Option Addr} {n : Nat} (h : BytesIn w.heap.size w a n) (hb : Below w.heap.size w w') : BytesIn w'.heap.size w' a n := fun i hi => by
  obtain ⟨b, off, z, e, hlt, z0, z1, hc⟩ := h i hi
  exact ⟨b, off, z, e, Nat.lt_of_lt_of_le hlt hb.size, z0, z1, cell_later hb hc⟩

end Go.Proofs.YtciacofibljmoaaGreatDoor
