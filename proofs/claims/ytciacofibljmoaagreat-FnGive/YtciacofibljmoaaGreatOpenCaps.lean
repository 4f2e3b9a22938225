/- How caps that come in lie in memory. -/
import Derived.Test.YtciacofibljmoaaGreatLeaf
import Derived.Deep.Slices
import Derived.ChangeArms
namespace Go.Proofs.YtciacofibljmoaaGreat
open Go.RowKit

theorem cells_str : Tryz.prog.cellsOf 9 = 1 := by kernel_rfl
theorem cells_int : Tryz.prog.cellsOf 3 = 1 := by kernel_rfl

/-- The address of what is read cell by cell bears no spot. -/
theorem addr_plain {w : World} {a : Addr} {n : Nat} {cs : List Value} (h : w.cells? 0 (a.add 0) n = some cs) (hn : 0 < n) : a = ⟨a.block, a.off, none⟩ := by
  obtain ⟨_, hlen, hcell⟩ := World.cells?_some h
  have q0 := hcell 0 hn
  rw [List.getElem?_eq_getElem (show 0 < cs.length by omega)] at q0
  have q := World.cell?_spot q0
  cases a with
  | mk b o s => simp [Addr.add] at q; subst q; rfl

theorem add_plain (b o k : Nat) : (⟨b, o, none⟩ : Addr).add k = ⟨b, o + k, none⟩ := by
  unfold Addr.add
  split
  · rename_i h; subst h; rfl
  · rfl

end Go.Proofs.YtciacofibljmoaaGreat
