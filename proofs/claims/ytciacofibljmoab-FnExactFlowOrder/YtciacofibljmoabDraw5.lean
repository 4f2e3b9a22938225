/- A flight is drawn. -/
import Derived.Test.YtciacofibljmoabDraw4
import Derived.Deep.Cut
import Derived.Deep.CutRange
namespace Go.Proofs.Ytciacofibljmoab
open Go.RowKit

attribute [local go_sem ↓] Go.wp_at_zero Go.wp_at_succ

/-- Visits, as a row's cells. -/
def visVals (vs : List Vis) : List Value := vs.flatMap fun v => [.string v.1, .int .i64 v.2.1, .int .i64 v.2.2]
def OwnV (w : World) (base : Nat) (v : Value) (vs : List Vis) : Prop := w.ownsRow base 114 3 v vs.length (visVals vs)
theorem visVals_at : ∀ (vs : List Vis) (i : Nat) (hi : i < vs.length), (visVals vs)[i * 3]? = some (.string vs[i].1) ∧ (visVals vs)[i * 3 + 1]? = some (.int .i64 vs[i].2.1) ∧ (visVals vs)[i * 3 + 2]? = some (.int .i64 vs[i].2.2)
  | [], i, hi => by simp at hi
  | c :: cs, 0, _ => by simp [visVals]
  | c :: cs, i + 1, hi => by
    have ih := visVals_at cs i (by simpa using hi)
    rw [show (i + 1) * 3 = i * 3 + 1 + 1 + 1 by omega]
    simpa [visVals] using ih
theorem visVals_len (vs : List Vis) : (visVals vs).length = vs.length * 3 := by
  induction vs with
  | nil => rfl
  | cons r l ih => simp only [visVals, List.flatMap_cons, List.length_append, List.length_cons, List.length_nil] at *; omega
theorem visVals_snoc (vs : List Vis) (v : Vis) : visVals (vs ++ [v]) = visVals vs ++ [.string v.1, .int .i64 v.2.1, .int .i64 v.2.2] := by simp [visVals]
theorem OwnV.form {w : World} {base : Nat} {v : Value} {vs : List Vis} (h : OwnV w base v vs) : ∃ a cap, v = .slice a vs.length cap ∧ vs.length ≤ cap ∧ cap ≤ maxLen ∧ VisitsIn w a vs ∧ (∀ p, a = some p → p = ⟨p.block, 0, none⟩ ∧ base ≤ p.block ∧ p.block < w.heap.size) := by
  obtain ⟨a, cap, h1, h2, h3, h4, h5⟩ := owns_slice h
  refine ⟨a, cap, h1, h2, h3, fun i hi => ?_, h4⟩
  obtain ⟨q0, q1, q2⟩ := visVals_at vs i hi
  obtain ⟨g, e1, e2, e3, e4, _⟩ := h5 _ _ q0
  obtain ⟨g', e1', _, _, e4', _⟩ := h5 _ _ q1
  obtain ⟨g'', e1'', _, _, e4'', _⟩ := h5 _ _ q2
  rw [e1] at e1' e1''
  simp at e1' e1''
  subst e1'
  subst e1''
  exact ⟨g, 0, e1, e3, by rw [Nat.zero_add]; exact e4, by rw [Nat.zero_add]; exact e4', by rw [Nat.zero_add]; exact e4''⟩
/-- Visits whose sectors are short, m of them at most. -/
def VisSm (m : Nat) (vs : List Vis) : Prop := vs.length ≤ m ∧ ∀ v ∈ vs, v.1.size ≤ 8

/-- Four cells of a flight in a block. -/
def FlAt (w : World) (F : Nat) (nm : ByteArray) (p l : Int) (v : Value) : Prop :=
  ∃ f, w.rowIs F 60 4 f ∧ f 0 = .string nm ∧ f 1 = .int .i64 p ∧ f 2 = .int .i64 l ∧ f 3 = v
theorem FlAt.cells {w : World} {F : Nat} {nm : ByteArray} {p l : Int} {v : Value} (h : FlAt w F nm p l v) :
    w.cell? ⟨F, 0, none⟩ = some (.string nm) ∧ w.cell? ⟨F, 1, none⟩ = some (.int .i64 p) ∧ w.cell? ⟨F, 2, none⟩ = some (.int .i64 l) ∧ w.cell? ⟨F, 3, none⟩ = some v ∧
      w.frozen? ⟨F, 0, none⟩ = false ∧ w.frozen? ⟨F, 1, none⟩ = false ∧ w.frozen? ⟨F, 2, none⟩ = false ∧ w.frozen? ⟨F, 3, none⟩ = false := by
  obtain ⟨f, h0, h1, h2, h3, h4⟩ := h
  exact ⟨h1 ▸ h0.cell (by omega), h2 ▸ h0.cell (by omega), h3 ▸ h0.cell (by omega), h4 ▸ h0.cell (by omega), h0.frozen _, h0.frozen _, h0.frozen _, h0.frozen _⟩
theorem FlAt.keep {w w' : World} {F : Nat} {nm : ByteArray} {p l : Int} {v : Value} (h : FlAt w F nm p l v) (hk : w'.heap[F]? = w.heap[F]?) : FlAt w' F nm p l v := by
  obtain ⟨f, h0, h1⟩ := h
  exact ⟨f, h0.of_block hk, h1⟩
theorem FlAt.lt {w : World} {F : Nat} {nm : ByteArray} {p l : Int} {v : Value} (h : FlAt w F nm p l v) : F < w.heap.size := by
  obtain ⟨f, h0, h1⟩ := h
  exact h0.lt
theorem FlAt.touch {w w' : World} {F lo hi : Nat} {nm : ByteArray} {p l : Int} {v : Value} (h : FlAt w F nm p l v) (ht : Touch lo hi w w') (ho : hi ≤ F) : FlAt w' F nm p l v := h.keep (ht.block F h.lt (.inr ho))
theorem FlAt.later {w w' : World} {F : Nat} {nm : ByteArray} {p l : Int} {v : Value} (h : FlAt w F nm p l v) (hb : Below w.heap.size w w') : FlAt w' F nm p l v := h.keep (hb.block F h.lt)
theorem FlAt.new (w : World) (nm : ByteArray) (p l : Int) (v : Value) : FlAt (w.alloc (.cells #[.string nm, .int .i64 p, .int .i64 l, v] 60)) w.heap.size nm p l v :=
  ⟨fun i => (#[.string nm, .int .i64 p, .int .i64 l, v] : Array Value).getD i undef, World.rowIs_alloc w _ _ _ (fun i hi => by simp at hi; match i, hi with | 0, _ => rfl | 1, _ => rfl | 2, _ => rfl | 3, _ => rfl), rfl, rfl, rfl, rfl⟩
theorem FlAt.setPlan {w : World} {F : Nat} {nm : ByteArray} {p l : Int} {v : Value} (h : FlAt w F nm p l v) (p' : Int) : FlAt (w.setCell ⟨F, 1, none⟩ (.int .i64 p')) F nm p' l v := by
  obtain ⟨f, h0, h1, h2, h3, h4⟩ := h
  exact ⟨_, h0.set 1 _, by simp [h1], by simp, by simp [h3], by simp [h4]⟩
theorem FlAt.setLate {w : World} {F : Nat} {nm : ByteArray} {p l : Int} {v : Value} (h : FlAt w F nm p l v) (l' : Int) : FlAt (w.setCell ⟨F, 2, none⟩ (.int .i64 l')) F nm p l' v := by
  obtain ⟨f, h0, h1, h2, h3, h4⟩ := h
  exact ⟨_, h0.set 2 _, by simp [h1], by simp [h2], by simp, by simp [h4]⟩
theorem FlAt.setVis {w : World} {F : Nat} {nm : ByteArray} {p l : Int} {v : Value} (h : FlAt w F nm p l v) (v' : Value) : FlAt (w.setCell ⟨F, 3, none⟩ v') F nm p l v' := by
  obtain ⟨f, h0, h1, h2, h3, h4⟩ := h
  exact ⟨_, h0.set 3 _, by simp [h1], by simp [h2], by simp [h3], by simp⟩
theorem FlAt.setName {w : World} {F : Nat} {nm : ByteArray} {p l : Int} {v : Value} (h : FlAt w F nm p l v) (nm' : ByteArray) : FlAt (w.setCell ⟨F, 0, none⟩ (.string nm')) F nm' p l v := by
  obtain ⟨f, h0, h1, h2, h3, h4⟩ := h
  exact ⟨_, h0.set 0 _, by simp, by simp [h2], by simp [h3], by simp [h4]⟩
theorem VisitsIn.keep {w w' : World} {a : Option Addr} {vs : List Vis} (h : VisitsIn w a vs) (hk : ∀ p, a = some p → w'.heap[p.block]? = w.heap[p.block]?) (hs : w.heap.size ≤ w'.heap.size) : VisitsIn w' a vs := fun i hi => by
  obtain ⟨b, off, e, hlt, h0, h1, h2⟩ := h i hi
  have hb := hk _ e
  exact ⟨b, off, e, Nat.lt_of_lt_of_le hlt hs, (World.cell?_of_block (w := w) (a := ⟨b, off + i * 3, none⟩) hb).trans h0, (World.cell?_of_block (w := w) (a := ⟨b, off + i * 3 + 1, none⟩) hb).trans h1, (World.cell?_of_block (w := w) (a := ⟨b, off + i * 3 + 2, none⟩) hb).trans h2⟩
theorem FlAt.grown {w w' : World} {o : Obj} {row : Option Nat} {F : Nat} {nm : ByteArray} {p l : Int} {v : Value} (h : FlAt w F nm p l v) (hg : (w.alloc o).grownBy w' row) (hne : row ≠ some F) : FlAt w' F nm p l v :=
  (h.later ((Below.refl _ _).alloc (Nat.le_refl _) o)).keep (hg.block F (by have := h.lt; simp; omega) (fun hh => hne hh.symm))
theorem below_set {w w' : World} {B : Nat} (h : Below B w w') (b i : Nat) (ha : B ≤ b) (v : Value) : Below B w (w'.setCell ⟨b, i, none⟩ v) := h.setCell ha v

end Go.Proofs.Ytciacofibljmoab
