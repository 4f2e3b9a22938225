/- Caps are drawn. -/
import Derived.Test.YtciacofibljmoabDraw3
namespace Go.Proofs.Ytciacofibljmoab
open Go.RowKit

attribute [local go_sem ↓] Go.wp_at_zero Go.wp_at_succ

def capNams : List ByteArray := [⟨#[101]⟩, ⟨#[110, 45, 49]⟩, ⟨#[119]⟩]
theorem capNams_size : ∀ s ∈ capNams, s.size ≤ 8 := by decide
/-- Caps that are no longer, and no longer of name, than drawn ones. -/
def CapsSm (m : Nat) (cs : List (ByteArray × Int)) : Prop := cs.length ≤ m ∧ ∀ c ∈ cs, c.1.size ≤ 8
theorem cell_two_new (w : World) (a b : Value) (t : TypeId) : ∀ j u, [a, b][j]? = some u → (w.alloc (.cells #[a, b] t)).cell? ((⟨w.heap.size, 0, none⟩ : Addr).add j) = some u := by
  intro j u hj
  rw [plain_add]
  match j, hj with
  | 0, hj => simp at hj; subst hj; simp
  | 1, hj => simp at hj; subst hj; simp
theorem capVals_snoc (cs : List (ByteArray × Int)) (c : ByteArray × Int) : capVals (cs ++ [c]) = capVals cs ++ [.string c.1, .int .i64 c.2] := by simp [capVals]

theorem StrsIn.grown {r : Nat} {w w' : World} {a : Option Addr} {ss : List ByteArray} {row : Option Nat} (h : StrsIn r w a ss) (hg : w.grownBy w' row) (hne : ∀ p, a = some p → row ≠ some p.block) : StrsIn r w' a ss := fun i hi' => by
  obtain ⟨b, off, e, hb', hc⟩ := h i hi'
  exact ⟨b, off, e, hb', World.grownBy.cell hg hc (fun hh => hne _ e hh.symm)⟩
theorem below_grow {a w w' : World} {o : Obj} {row : Option Nat} (ha : a.heap.size ≤ w.heap.size) (hg : (w.alloc o).grownBy w' row) (hr : ∀ k, row = some k → a.heap.size ≤ k) : Below a.heap.size w w' :=
  Below.grown ((Below.refl _ _).alloc ha _) hg (by simp; omega) hr

end Go.Proofs.Ytciacofibljmoab
