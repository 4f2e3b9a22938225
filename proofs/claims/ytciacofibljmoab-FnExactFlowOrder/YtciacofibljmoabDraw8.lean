/- Flights are drawn. -/
import Derived.Test.YtciacofibljmoabDraw7
namespace Go.Proofs.Ytciacofibljmoab
open Go.RowKit

/-- A flight and where its visits lie. -/
abbrev FlV := Fli × Option Addr × Nat
def flVals (gs : List FlV) : List Value := gs.flatMap fun x => [.string x.1.1, .int .i64 x.1.2.1, .int .i64 x.1.2.2.1, .slice x.2.1 x.1.2.2.2.length x.2.2]
theorem flVals_snoc (gs : List FlV) (x : FlV) : flVals (gs ++ [x]) = flVals gs ++ [.string x.1.1, .int .i64 x.1.2.1, .int .i64 x.1.2.2.1, .slice x.2.1 x.1.2.2.2.length x.2.2] := by simp [flVals]
theorem flVals_at : ∀ (gs : List FlV) (i : Nat) (hi : i < gs.length), (flVals gs)[i * 4]? = some (.string gs[i].1.1) ∧ (flVals gs)[i * 4 + 1]? = some (.int .i64 gs[i].1.2.1) ∧ (flVals gs)[i * 4 + 2]? = some (.int .i64 gs[i].1.2.2.1) ∧ (flVals gs)[i * 4 + 3]? = some (.slice gs[i].2.1 gs[i].1.2.2.2.length gs[i].2.2)
  | [], i, hi => by simp at hi
  | c :: cs, 0, _ => by simp [flVals]
  | c :: cs, i + 1, hi => by
    have ih := flVals_at cs i (by simpa using hi)
    rw [show (i + 1) * 4 = i * 4 + 1 + 1 + 1 + 1 by omega]
    simpa [flVals] using ih
/-- The visits of a flight, apart from the row that bears it. -/
def FlOk (w : World) (base : Nat) (v : Value) (x : FlV) : Prop := VisitsIn w x.2.1 x.1.2.2.2 ∧ ∀ p, x.2.1 = some p → base ≤ p.block ∧ v.ownBlock ≠ some p.block
def OwnF (w : World) (base : Nat) (v : Value) (gs : List FlV) : Prop := w.ownsRow base 60 4 v gs.length (flVals gs) ∧ ∀ x ∈ gs, FlOk w base v x
/-- How great a drawn flight may be. -/
def FlSm (m : Nat) (f : Fli) : Prop := f.1.size ≤ 8 ∧ -1 ≤ f.2.2.1 ∧ f.2.2.1 ≤ 61 ∧ VisSm m f.2.2.2
theorem VisitsIn.touch {w w' : World} {a : Option Addr} {vs : List Vis} {lo hi : Nat} (h : VisitsIn w a vs) (ht : Touch lo hi w w') (ho : ∀ p, a = some p → hi ≤ p.block) : VisitsIn w' a vs := fun i hi' => by
  obtain ⟨b, off, e, hlt, h0, h1, h2⟩ := h i hi'
  have hb := ho _ e
  exact ⟨b, off, e, Nat.lt_of_lt_of_le hlt ht.size, cell_touch ht h0 (.inr hb), cell_touch ht h1 (.inr hb), cell_touch ht h2 (.inr hb)⟩
theorem OwnF.touch {w w' : World} {base lo hi : Nat} {v : Value} {gs : List FlV} (h : OwnF w base v gs) (ht : Touch lo hi w w') (hb : hi ≤ base) : OwnF w' base v gs :=
  ⟨owns_touch h.1 ht hb, fun x hx => ⟨(h.2 x hx).1.touch ht (fun p hp => Nat.le_trans hb ((h.2 x hx).2 p hp).1), (h.2 x hx).2⟩⟩
theorem OwnF.later {w w' : World} {base : Nat} {v : Value} {gs : List FlV} (h : OwnF w base v gs) (hb : Below w.heap.size w w') : OwnF w' base v gs :=
  ⟨owns_later h.1 hb, fun x hx => ⟨(h.2 x hx).1.later hb, (h.2 x hx).2⟩⟩
theorem OwnF.base {w : World} {base base' : Nat} {v : Value} {gs : List FlV} (h : OwnF w base v gs) (hb : base' ≤ base) : OwnF w base' v gs :=
  ⟨owns_base h.1 hb, fun x hx => ⟨(h.2 x hx).1, fun p hp => ⟨Nat.le_trans hb ((h.2 x hx).2 p hp).1, ((h.2 x hx).2 p hp).2⟩⟩⟩
theorem OwnF.form {w : World} {base : Nat} {v : Value} {gs : List FlV} (h : OwnF w base v gs) : ∃ a cap, v = .slice a (gs.map Prod.fst).length cap ∧ gs.length ≤ cap ∧ FlightsIn w a (gs.map Prod.fst) ∧ (∀ p, a = some p → p = ⟨p.block, 0, none⟩ ∧ base ≤ p.block ∧ p.block < w.heap.size) := by
  obtain ⟨a, cap, h1, h2, h3, h4, h5⟩ := owns_slice h.1
  refine ⟨a, cap, by rw [List.length_map]; exact h1, h2, fun i hi => ?_, h4⟩
  have hi' : i < gs.length := by simpa using hi
  obtain ⟨q0, q1, q2, q3⟩ := flVals_at gs i hi'
  obtain ⟨g, e1, e2, e3, e4, _⟩ := h5 _ _ q0
  obtain ⟨g', e1', _, _, e4', _⟩ := h5 _ _ q1
  obtain ⟨g'', e1'', _, _, e4'', _⟩ := h5 _ _ q2
  obtain ⟨g3, e13, _, _, e43, _⟩ := h5 _ _ q3
  rw [e1] at e1' e1'' e13
  simp at e1' e1'' e13
  subst e1'
  subst e1''
  subst e13
  have hm := (h.2 _ (List.getElem_mem hi')).1
  refine ⟨g, 0, e1, e3, ?_⟩
  rw [List.getElem_map]
  exact ⟨by rw [Nat.zero_add]; exact e4, by rw [Nat.zero_add]; exact e4', by rw [Nat.zero_add]; exact e4'', _, _, by rw [Nat.zero_add]; exact e43, hm⟩
theorem VisitsIn.grown {w w' : World} {o : Obj} {row : Option Nat} {a : Option Addr} {vs : List Vis} (h : VisitsIn w a vs) (hg : (w.alloc o).grownBy w' row) (hne : ∀ p, a = some p → row ≠ some p.block) : VisitsIn w' a vs := fun i hi => by
  obtain ⟨b, off, e, hlt, h0, h1, h2⟩ := (h.later ((Below.refl _ _).alloc (Nat.le_refl _) o)) i hi
  have hb := hne _ e
  exact ⟨b, off, e, Nat.lt_of_lt_of_le hlt hg.size, World.grownBy.cell hg h0 (fun hh => hb hh.symm), World.grownBy.cell hg h1 (fun hh => hb hh.symm), World.grownBy.cell hg h2 (fun hh => hb hh.symm)⟩
theorem vis_lt {w : World} {a : Option Addr} {vs : List Vis} (h : VisitsIn w a vs) (h1 : 1 ≤ vs.length) {p : Addr} (hp : a = some p) : p.block < w.heap.size := by
  obtain ⟨b, off, e, hlt, _⟩ := h 0 (by omega)
  rw [hp] at e
  simp at e
  rw [e]
  exact hlt
theorem cell_four_new (w : World) (a b c d : Value) (t : TypeId) : ∀ j u, [a, b, c, d][j]? = some u → (w.alloc (.cells #[a, b, c, d] t)).cell? ((⟨w.heap.size, 0, none⟩ : Addr).add j) = some u := by
  intro j u hj
  rw [plain_add]
  match j, hj with
  | 0, hj => simp at hj; subst hj; simp
  | 1, hj => simp at hj; subst hj; simp
  | 2, hj => simp at hj; subst hj; simp
  | 3, hj => simp at hj; subst hj; simp
theorem own_emptyF (w : World) : World.ownsRow (w.alloc (.cells #[] 60)) w.heap.size 60 4 (.slice (some ⟨w.heap.size, 0, none⟩) 0 0) 0 [] := World.ownsRow_made w #[] 0 (Nat.le_refl _) (Nat.zero_le _) (by simp)

end Go.Proofs.Ytciacofibljmoab
