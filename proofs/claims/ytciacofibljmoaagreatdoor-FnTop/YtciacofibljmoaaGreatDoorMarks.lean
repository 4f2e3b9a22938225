/- The marks that the law writes into the arguments and answers of a call, walked; what they touch and what they leave alone. -/
import Derived.Test.YtciacofibljmoaaGreatDoorSpecR
import Derived.Test.YtciacofibljmoaaGreatDoorMarkText
namespace Go.Proofs.YtciacofibljmoaaGreatDoor
open Go.RowKit

/-- Of what was there, only blocks from lo to just below hi may have turned. -/
structure Touch (lo hi : Nat) (w w' : World) : Prop where
  os : w'.os = w.os
  tape : w'.tape = w.tape
  output : w'.output = w.output
  size : w.heap.size ≤ w'.heap.size
  block : ∀ k, k < w.heap.size → (k < lo ∨ hi ≤ k) → w'.heap[k]? = w.heap[k]?
theorem touch_refl (lo hi : Nat) (w : World) : Touch lo hi w w := ⟨rfl, rfl, rfl, Nat.le_refl _, fun _ _ _ => rfl⟩
theorem touch_trans {lo hi : Nat} {a b c : World} (h : Touch lo hi a b) (k : Touch lo hi b c) : Touch lo hi a c :=
  ⟨k.os.trans h.os, k.tape.trans h.tape, k.output.trans h.output, Nat.le_trans h.size k.size, fun i hi ho => (k.block i (Nat.lt_of_lt_of_le hi h.size) ho).trans (h.block i hi ho)⟩
theorem touch_below {lo hi : Nat} {w w' : World} (h : Below w.heap.size w w') : Touch lo hi w w' := ⟨h.os, h.tape, h.output, h.size, fun k hk _ => h.block k hk⟩
theorem touch_wide {lo hi lo' hi' : Nat} {w w' : World} (h : Touch lo hi w w') (h1 : lo' ≤ lo) (h2 : hi ≤ hi') : Touch lo' hi' w w' := ⟨h.os, h.tape, h.output, h.size, fun k hk ho => h.block k hk (by omega)⟩
theorem touch_set {lo hi : Nat} {a w : World} (h : Touch lo hi a w) {p : Addr} (h1 : lo ≤ p.block) (h2 : p.block < hi) (u : Value) : Touch lo hi a (w.setCell p u) :=
  touch_trans h ⟨rfl, rfl, rfl, by simp [World.setCell], fun k _ ho => Below.heap_setCell _ _ _ _ (by omega)⟩
theorem below_touch {lo hi : Nat} {w w' : World} (h : Touch lo hi w w') (hl : lo ≤ w.heap.size) : Below lo w w' := ⟨h.os, h.tape, h.output, h.size, fun k hk => h.block k (Nat.lt_of_lt_of_le hk hl) (.inl hk)⟩
theorem row_touch {lo hi g : Nat} {w w' : World} {t : TypeId} {n : Nat} {f : Nat → Value} (h : w.rowIs g t n f) (ht : Touch lo hi w w') (ho : g < lo ∨ hi ≤ g) : w'.rowIs g t n f := h.of_block (ht.block g h.lt ho)

/-- Runs of a call's own, in a block from lo to just below hi. -/
def OwnIn (lo hi : Nat) (w : World) (v : Value) (rs : List Run) : Prop := OwnRuns w lo v rs ∧ ∀ g, v.ownBlock = some g → g < hi
theorem ownIn_of {w : World} {base : Nat} {v : Value} {rs : List Run} (h : OwnRuns w base v rs) : OwnIn base w.heap.size w v rs := ⟨h, fun g hg => (World.ownsRow.lt h g hg).2⟩
theorem ownIn_keep {lo hi : Nat} {w w' : World} {v : Value} {rs : List Run} (h : OwnIn lo hi w v rs) (hk : ∀ k, k < w.heap.size → lo ≤ k → k < hi → w'.heap[k]? = w.heap[k]?) : OwnIn lo hi w' v rs := by
  obtain ⟨h0, hb⟩ := h
  obtain ⟨h1, h2⟩ := h0
  refine ⟨⟨h1, ?_⟩, hb⟩
  rcases h2 with h2 | ⟨g, cap, cur, rfl, e2, e3, e4⟩
  · exact .inl h2
  · exact .inr ⟨g, cap, cur, rfl, e2, (hk g (Array.getElem?_eq_some_iff.1 e3).1 e2 (hb g rfl)).trans e3, e4⟩
theorem ownIn_later {lo hi : Nat} {w w' : World} {v : Value} {rs : List Run} (h : OwnIn lo hi w v rs) (hb : Below w.heap.size w w') : OwnIn lo hi w' v rs := ownIn_keep h fun k hk _ _ => hb.block k hk
theorem ownIn_touch {lo hi lo' hi' : Nat} {w w' : World} {v : Value} {rs : List Run} (h : OwnIn lo hi w v rs) (ht : Touch lo' hi' w w') (ho : hi ≤ lo' ∨ hi' ≤ lo) : OwnIn lo hi w' v rs := ownIn_keep h fun k hk h1 h2 => ht.block k hk (by omega)

/-- A row of flights of the call's own, whatever it holds, each with a row of visits. -/
def ShapeFl (lo hi : Nat) (w : World) (g n : Nat) (gv m : Nat → Nat) : Prop :=
  (lo ≤ g ∧ g < hi) ∧ ∃ f, w.rowIs g 32 (n * 4) f ∧ ∀ i, i < n → f (i * 4 + 3) = .slice (some ⟨gv i, 0, none⟩) (m i) (m i) ∧ m i ≤ 1048576 ∧ (lo ≤ gv i ∧ gv i < hi ∧ gv i ≠ g) ∧ ∃ f', w.rowIs (gv i) 76 (m i * 3) f'
theorem shape_of {lo : Nat} {w : World} {g : Nat} {fs : List Fli} (h : FlightsOwn lo w g fs) (hvl : ∀ f ∈ fs, f.2.2.2.length ≤ 1048576) : ∃ gv m, ShapeFl lo w.heap.size w g fs.length gv m := by
  obtain ⟨hlo, f, hrow, hf⟩ := h
  have each : ∀ i, i < fs.length → ∃ q : Nat × Nat, f (i * 4 + 3) = .slice (some ⟨q.1, 0, none⟩) q.2 q.2 ∧ q.2 ≤ 1048576 ∧ (lo ≤ q.1 ∧ q.1 < w.heap.size ∧ q.1 ≠ g) ∧ ∃ f', w.rowIs q.1 76 (q.2 * 3) f' := fun i hi => by
    obtain ⟨_, _, _, gv, h3, h4, h5, h6⟩ := hf i hi
    exact ⟨(gv, fs[i].2.2.2.length), h3, hvl _ (List.getElem_mem hi), ⟨h4, h6.lt, h5⟩, _, h6⟩
  obtain ⟨F, hF⟩ := Deep.choose_lt each
  exact ⟨fun i => (F i).1, fun i => (F i).2, ⟨hlo, hrow.lt⟩, f, hrow, hF⟩
theorem shape_later {lo hi : Nat} {w w' : World} {g n : Nat} {gv m : Nat → Nat} (h : ShapeFl lo hi w g n gv m) (hb : Below w.heap.size w w') : ShapeFl lo hi w' g n gv m := by
  obtain ⟨h0, f, hr, hf⟩ := h
  refine ⟨h0, f, hr.of_block (hb.block _ hr.lt), fun i hi => ?_⟩
  obtain ⟨a, b, c, f', d⟩ := hf i hi
  exact ⟨a, b, c, f', d.of_block (hb.block _ d.lt)⟩
theorem shape_set {lo hi : Nat} {w : World} {g n : Nat} {gv m : Nat → Nat} (h : ShapeFl lo hi w g n gv m) (j q : Nat) (hq : q < 3) (u : Value) : ShapeFl lo hi (w.setCell ⟨g, j * 4 + q, none⟩ u) g n gv m := by
  obtain ⟨h0, f, hr, hf⟩ := h
  refine ⟨h0, _, hr.set (j * 4 + q) u, fun i hi => ?_⟩
  obtain ⟨a, b, c, f', d⟩ := hf i hi
  exact ⟨(if_neg (show ¬ i * 4 + 3 = j * 4 + q by omega)).trans a, b, c, f', d.setOther c.2.2 u⟩
theorem shape_vis {lo hi : Nat} {w w' : World} {g n : Nat} {gv m : Nat → Nat} (h : ShapeFl lo hi w g n gv m) {j : Nat} (hj : j < n) (ht : Touch (gv j) (gv j + 1) w w') (hr' : ∃ f', w'.rowIs (gv j) 76 (m j * 3) f') : ShapeFl lo hi w' g n gv m := by
  obtain ⟨h0, f, hr, hf⟩ := h
  have hjj := (hf j hj).2.2.1.2.2
  refine ⟨h0, f, row_touch hr ht (by omega), fun i hi => ?_⟩
  obtain ⟨a, b, c, f', d⟩ := hf i hi
  refine ⟨a, b, c, ?_⟩
  by_cases e : gv i = gv j
  · obtain ⟨_, _, _, f2, d2⟩ := hf j hj
    obtain ⟨f3, d3⟩ := hr'
    have em : m i * 3 = m j * 3 := by
      obtain ⟨c1, e1, s1, _⟩ := d
      obtain ⟨c2, e2, s2, _⟩ := d2
      rw [e, e2] at e1
      simp at e1
      subst e1
      omega
    rw [e, em]
    exact ⟨f3, d3⟩
  · exact ⟨f', row_touch d ht (by omega)⟩

/-- The marks in a row of runs. -/
theorem row_of_own {w : World} {base g n cap : Nat} {rs : List Run} (h : OwnRuns w base (.slice (some ⟨g, 0, none⟩) n cap) rs) : n = rs.length ∧ base ≤ g ∧ ∃ f, w.rowIs g 105 (cap * 3) f ∧ n ≤ cap := by
  unfold OwnRuns at h
  rcases h.2 with ⟨h0, _⟩ | ⟨g', cap', cur, e, hg, hh, h1, h2, h3, h4⟩
  · simp at h0
  · simp at e
    obtain ⟨rfl, rfl, rfl⟩ := e
    exact ⟨rfl, hg, fun i => cur.getD i undef, ⟨cur, hh, h3, fun i hi => by simp [hi, h3]⟩, h1⟩

end Go.Proofs.YtciacofibljmoaaGreatDoor
