/- A book copied, the program's way: each slice in memory of its own. -/
import Derived.Test.YtmmpopnglbjieabGreatClones
import Derived.Test.YtmmpopnglbjieabGreatBookMarks
import Derived.Test.YtmmpopnglbjieabGreatBook
namespace Go.Proofs.YtmmpopnglbjieabGreat
open Go.RowKit

/-- A box that holds a book. -/
def BkAt (w : World) (F : Nat) (v0 v1 v2 : Value) : Prop := ∃ f, w.rowIs F 43 3 f ∧ f 0 = v0 ∧ f 1 = v1 ∧ f 2 = v2
theorem BkAt.cells {w : World} {F : Nat} {v0 v1 v2 : Value} (h : BkAt w F v0 v1 v2) :
    w.cell? ⟨F, 0, none⟩ = some v0 ∧ w.cell? ⟨F, 1, none⟩ = some v1 ∧ w.cell? ⟨F, 2, none⟩ = some v2 ∧ w.frozen? ⟨F, 0, none⟩ = false ∧ w.frozen? ⟨F, 1, none⟩ = false ∧ w.frozen? ⟨F, 2, none⟩ = false := by
  obtain ⟨f, h0, h1, h2, h3⟩ := h
  exact ⟨h1 ▸ h0.cell (by omega), h2 ▸ h0.cell (by omega), h3 ▸ h0.cell (by omega), h0.frozen _, h0.frozen _, h0.frozen _⟩
theorem BkAt.keep {w w' : World} {F : Nat} {v0 v1 v2 : Value} (h : BkAt w F v0 v1 v2) (hk : w'.heap[F]? = w.heap[F]?) : BkAt w' F v0 v1 v2 := by
  obtain ⟨f, h0, h1⟩ := h
  exact ⟨f, h0.of_block hk, h1⟩
theorem BkAt.lt {w : World} {F : Nat} {v0 v1 v2 : Value} (h : BkAt w F v0 v1 v2) : F < w.heap.size := by
  obtain ⟨f, h0, h1⟩ := h
  exact h0.lt
theorem BkAt.later {w w' : World} {F : Nat} {v0 v1 v2 : Value} (h : BkAt w F v0 v1 v2) (hb : Below w.heap.size w w') : BkAt w' F v0 v1 v2 := h.keep (hb.block F h.lt)
theorem BkAt.touchS {S : Nat → Prop} {w w' : World} {F : Nat} {v0 v1 v2 : Value} (h : BkAt w F v0 v1 v2) (ht : TouchS S w w') (ho : ¬ S F) : BkAt w' F v0 v1 v2 := h.keep (ht.block F h.lt ho)
theorem BkAt.newAt (w : World) (B : Nat) (hB : w.heap.size = B) (v0 v1 v2 : Value) : BkAt (w.alloc (.cells #[v0, v1, v2] 43)) B v0 v1 v2 := by
  subst hB
  exact ⟨fun i => (#[v0, v1, v2] : Array Value).getD i undef, World.rowIs_alloc w _ _ _ (fun i hi => by simp at hi; match i, hi with | 0, _ => rfl | 1, _ => rfl | 2, _ => rfl), rfl, rfl, rfl⟩
theorem BkAt.set3 {w : World} {F : Nat} {v0 v1 v2 : Value} (h : BkAt w F v0 v1 v2) (u0 u1 u2 : Value) : BkAt (((w.setCell ⟨F, 0, none⟩ u0).setCell ⟨F, 1, none⟩ u1).setCell ⟨F, 2, none⟩ u2) F u0 u1 u2 := by
  obtain ⟨f, h0, h1, h2, h3⟩ := h
  exact ⟨_, ((h0.set 0 _).set 1 _).set 2 _, by simp, by simp, by simp⟩
/-- The param's box and the result's, of a function from book to book. -/
theorem bk_boxes (w : World) (v0 v1 v2 : Value) : ∃ W, (w.alloc (.cells #[v0, v1, v2] 43)).alloc (.cells #[.slice none 0 0, .slice none 0 0, .slice none 0 0] 43) = W ∧ W.heap.size = w.heap.size + 2 ∧
    BkAt W w.heap.size v0 v1 v2 ∧ BkAt W (w.heap.size + 1) (.slice none 0 0) (.slice none 0 0) (.slice none 0 0) ∧ Below w.heap.size w W := by
  refine ⟨_, rfl, by simp, (BkAt.newAt w _ rfl v0 v1 v2).later ((Below.refl _ _).alloc (Nat.le_refl _) _), BkAt.newAt _ _ (by simp) _ _ _, ((Below.refl _ _).alloc (Nat.le_refl _) _).alloc (by simp) _⟩
theorem touch1_set {F : Nat} {a w : World} (h : TouchS (fun k => k = F) a w) (i : Nat) (u : Value) : TouchS (fun k => k = F) a (w.setCell ⟨F, i, none⟩ u) := touchS_set h (p := ⟨F, i, none⟩) rfl u
theorem set3_touch (w : World) (F : Nat) (u0 u1 u2 : Value) : TouchS (fun k => k = F) w (((w.setCell ⟨F, 0, none⟩ u0).setCell ⟨F, 1, none⟩ u1).setCell ⟨F, 2, none⟩ u2) :=
  touch1_set (touch1_set (touch1_set (touchS_refl _ _) 0 u0) 1 u1) 2 u2
theorem set4_touch (w : World) (F i : Nat) (u0 u1 u2 u3 : Value) : TouchS (fun k => k = F) w ((((w.setCell ⟨F, i, none⟩ u0).setCell ⟨F, i + 1, none⟩ u1).setCell ⟨F, i + 2, none⟩ u2).setCell ⟨F, i + 3, none⟩ u3) :=
  touch1_set (touch1_set (touch1_set (touch1_set (touchS_refl _ _) i u0) (i + 1) u1) (i + 2) u2) (i + 3) u3
theorem below_ofS {S : Nat → Prop} {B : Nat} {w w' : World} (h : TouchS S w w') (hB : B ≤ w.heap.size) (hs : ∀ k, S k → B ≤ k) : Below B w w' :=
  ⟨h.os, h.tape, h.output, h.size, fun k hk => h.block k (Nat.lt_of_lt_of_le hk hB) fun hh => by have := hs k hh; omega⟩

theorem rowW_of_owns {w : World} {base : Nat} {t : TypeId} {sz : Nat} {a : Option Addr} {n c : Nat} {xs : List Value} (h : w.ownsRow base t sz (.slice a n c) n xs) : RowW w t sz a n c := by
  rcases h.2 with ⟨h0, _⟩ | ⟨g, cap, cur, e, hg, hh, h1, h2, h3, _⟩
  · simp at h0
    exact .inl h0.2.1
  · simp at e
    obtain ⟨rfl, rfl⟩ := e
    exact .inr ⟨g, fun i => cur.getD i undef, rfl, ⟨cur, hh, h3, fun i hi => by simp [hi, h3]⟩, h1⟩
theorem owns_in {w : World} {base : Nat} {t : TypeId} {sz : Nat} {a : Option Addr} {n c : Nat} {xs : List Value} (h : w.ownsRow base t sz (.slice a n c) n xs) {k : Nat} (hk : InA a k) : base ≤ k ∧ k < w.heap.size := by
  obtain ⟨p, rfl, rfl⟩ := hk
  obtain ⟨a', cap', e, _, _, h4, _⟩ := owns_slice h
  simp at e
  obtain ⟨e1, _⟩ := e
  exact ⟨(h4 p e1.symm).2.1, (h4 p e1.symm).2.2⟩

set_option maxRecDepth 100000 in
set_option maxHeartbeats 1600000 in
theorem copyFlight_any (nm : ByteArray) (p l : Int) (vs : List Vis) (av : Option Addr) (cv : Nat) (w : World) (hv : VisitsIn w av vs) (hl : vs.length ≤ 1048576) :
    Calls Tryz.prog 76 #[.agg #[.string nm, .int .i64 p, .int .i64 l, .slice av vs.length cv]] w fun e w' =>
      ∃ a2 c2, e = .returned (.agg #[.string nm, .int .i64 p, .int .i64 l, .slice a2 vs.length c2]) ∧ OwnV w' w.heap.size (.slice a2 vs.length c2) vs ∧ Below w.heap.size w w' := by
  have HV := hide hv
  clear hv
  obtain ⟨W, hW, hWs, F0, R0, B0⟩ : ∃ W, (w.alloc (.cells #[.string nm, .int .i64 p, .int .i64 l, .slice av vs.length cv] 65)).alloc (.cells #[.string ⟨#[]⟩, .int .i64 0, .int .i64 0, .slice none 0 0] 65) = W ∧ W.heap.size = w.heap.size + 2 ∧ Hid (FlAt W w.heap.size nm p l (.slice av vs.length cv)) ∧ Hid (FlAt W (w.heap.size + 1) ⟨#[]⟩ 0 0 (.slice none 0 0)) ∧ Hid (Below w.heap.size w W) :=
    ⟨_, rfl, by simp, (FlAt.new w nm p l (.slice av vs.length cv)).later ((Below.refl _ _).alloc (Nat.le_refl _) _), FlAt.newAt _ (w.heap.size + 1) (by simp) ⟨#[]⟩ 0 0 (.slice none 0 0), ((Below.refl _ _).alloc (Nat.le_refl _) _).alloc (by simp) _⟩
  have HW := hide hW
  clear hW
  go_enter Tryz.func76, Tryz.ntmps76
  go_wp2_with fail
  rw [HW.out]
  refine (cloneV_any av cv vs W (HV.out.later B0.out) hl).mono ?_
  rintro e w1 ⟨v, rfl, hown, hb1⟩
  obtain ⟨a2, c2, rfl, _⟩ := owns_slice hown
  have F1 := hide (F0.out.later hb1)
  have R1 := hide (R0.out.later hb1)
  have O1 := hide hown
  have B1 := hide (below_two B0.out hb1)
  have hs1 := hb1.size
  obtain ⟨c0, c1, c2', c3, _, _, _, z3⟩ := F1.out.cells
  obtain ⟨k0, k1, k2, k3, g0, g1, g2, g3⟩ := R1.out.cells
  have FX := hide (F1.out.setVis (.slice a2 vs.length c2))
  have RX := hide (R1.out.keep (w' := w1.setCell ⟨w.heap.size, 3, none⟩ (.slice a2 vs.length c2)) (Below.heap_setCell _ _ _ _ (by show w.heap.size + 1 ≠ w.heap.size; omega)))
  have Y9 := (((RX.out.setName nm).setPlan p).setLate l).setVis (.slice a2 vs.length c2)
  have T9 : Hid (TouchS (fun k => k = w.heap.size ∨ k = w.heap.size + 1) w1 ((((((w1.setCell ⟨w.heap.size, 3, none⟩ (.slice a2 vs.length c2))).setCell ⟨w.heap.size + 1, 0, none⟩ (.string nm)).setCell ⟨w.heap.size + 1, 1, none⟩ (.int .i64 p)).setCell ⟨w.heap.size + 1, 2, none⟩ (.int .i64 l)).setCell ⟨w.heap.size + 1, 3, none⟩ (.slice a2 vs.length c2))) :=
    touchS_set (touchS_set (touchS_set (touchS_set (touchS_set (touchS_refl _ _) (p := ⟨w.heap.size, 3, none⟩) (.inl rfl) _) (p := ⟨w.heap.size + 1, 0, none⟩) (.inr rfl) _) (p := ⟨w.heap.size + 1, 1, none⟩) (.inr rfl) _) (p := ⟨w.heap.size + 1, 2, none⟩) (.inr rfl) _) (p := ⟨w.heap.size + 1, 3, none⟩) (.inr rfl) _
  have Z0 := hide Y9.cells.1
  have Z1 := hide Y9.cells.2.1
  have Z2 := hide Y9.cells.2.2.1
  have Z3 := hide Y9.cells.2.2.2.1
  clear Y9 hown hb1 FX RX F0 R0
  go_wp2
  generalize ((((((w1.setCell ⟨w.heap.size, 3, none⟩ (.slice a2 vs.length c2))).setCell ⟨w.heap.size + 1, 0, none⟩ (.string nm)).setCell ⟨w.heap.size + 1, 1, none⟩ (.int .i64 p)).setCell ⟨w.heap.size + 1, 2, none⟩ (.int .i64 l)).setCell ⟨w.heap.size + 1, 3, none⟩ (.slice a2 vs.length c2)) = Y at *
  have y0 := Z0.out
  have y1 := Z1.out
  have y2 := Z2.out
  have y3 := Z3.out
  refine bodyPost_ret (v := .agg #[.string nm, .int .i64 p, .int .i64 l, .slice a2 vs.length c2]) (by simp [results, Tryz.results76, go_sem, y0, y1, y2, y3]) rfl ⟨a2, c2, rfl, ?_, ?_⟩
  · refine owns_base (owns_keep O1.out fun q hq => T9.out.block q (World.ownsRow.lt O1.out q hq).2 ?_) (by omega)
    have := (World.ownsRow.lt O1.out q hq).1
    omega
  · exact B1.out.trans (below_ofS T9.out (by omega) (fun k hk => by omega))

def visV (x : FlV) : Value := .slice x.2.1 x.1.2.2.2.length x.2.2
/-- The first k flights of a row have visits of their own, each made behind the one ahead. -/
def AscTo (w : World) (lo g0 : Nat) (gs : List FlV) (k : Nat) : Prop :=
  ∀ i (hi : i < gs.length), i < k → OwnV w lo (visV gs[i]) gs[i].1.2.2.2 ∧ ∃ g, gs[i].2.1 = some ⟨g, 0, none⟩ ∧ g0 < g ∧ ∀ j (hj : j < gs.length), j < i → ∀ g', gs[j].2.1 = some ⟨g', 0, none⟩ → g' < g
theorem owns_some {w : World} {base : Nat} {t : TypeId} {sz : Nat} {a : Option Addr} {n c : Nat} {xs : List Value} (h : w.ownsRow base t sz (.slice a n c) n xs) (h1 : 1 ≤ n) : ∃ g, a = some ⟨g, 0, none⟩ ∧ base ≤ g ∧ g < w.heap.size := by
  rcases h.2 with ⟨h0, _⟩ | ⟨g, cap, cur, e, hg, hh, _⟩
  · simp at h0; omega
  · simp at e
    obtain ⟨rfl, rfl⟩ := e
    exact ⟨g, rfl, hg, (Array.getElem?_eq_some_iff.1 hh).1⟩
theorem own_cell4 {w : World} {base g cp : Nat} {gs : List FlV} (h : World.ownsRow w base 65 4 (.slice (some ⟨g, 0, none⟩) gs.length cp) gs.length (flVals gs)) {k : Nat} (hk : k < gs.length) :
    (w.cell? ⟨g, k * 4, none⟩ = some (.string gs[k].1.1) ∧ w.cell? ⟨g, k * 4 + 1, none⟩ = some (.int .i64 gs[k].1.2.1) ∧ w.cell? ⟨g, k * 4 + 2, none⟩ = some (.int .i64 gs[k].1.2.2.1) ∧ w.cell? ⟨g, k * 4 + 3, none⟩ = some (visV gs[k])) ∧
      w.frozen? ⟨g, k * 4, none⟩ = false ∧ w.frozen? ⟨g, k * 4 + 1, none⟩ = false ∧ w.frozen? ⟨g, k * 4 + 2, none⟩ = false ∧ w.frozen? ⟨g, k * 4 + 3, none⟩ = false := by
  obtain ⟨a, cap, e, _, _, _, h5⟩ := owns_slice h
  obtain ⟨q0, q1, q2, q3⟩ := flVals_at gs k hk
  simp at e
  obtain ⟨rfl, rfl⟩ := e
  obtain ⟨x0, e0, _, _, c0, z0⟩ := h5 _ _ q0
  obtain ⟨x1, e1, _, _, c1, z1⟩ := h5 _ _ q1
  obtain ⟨x2, e2, _, _, c2, z2⟩ := h5 _ _ q2
  obtain ⟨x3, e3, _, _, c3, z3⟩ := h5 _ _ q3
  simp at e0 e1 e2 e3
  subst e0 e1 e2 e3
  exact ⟨⟨c0, c1, c2, c3⟩, z0, z1, z2, z3⟩
theorem asc_keep {w w' : World} {lo g0 : Nat} {gs : List FlV} {k : Nat} (h : AscTo w lo g0 gs k) {S : Nat → Prop} (ht : TouchS S w w') (hs : ∀ q, S q → q ≤ g0) : AscTo w' lo g0 gs k := fun i hi hik => by
  obtain ⟨h1, g, h2, h3, h4⟩ := h i hi hik
  refine ⟨owns_keep h1 fun q hq => ht.block q (World.ownsRow.lt h1 q hq).2 fun hh => ?_, g, h2, h3, h4⟩
  unfold visV at hq
  rw [h2] at hq
  simp [Value.ownBlock] at hq
  have := hs q hh
  omega
/-- One more flight has visits of its own. -/
theorem asc_succ {w w' : World} {lo g0 : Nat} {gs : List FlV} {k : Nat} (h : AscTo w lo g0 gs k) (hk : k < gs.length) {S : Nat → Prop} (ht : TouchS S w w') (hs : ∀ q, S q → q ≤ g0) (x : FlV) (hx : OwnV w' lo (visV x) x.1.2.2.2) {g : Nat} (hg : x.2.1 = some ⟨g, 0, none⟩) (hg0 : g0 < g) (hB : w.heap.size ≤ g) :
    AscTo w' lo g0 (gs.set k x) (k + 1) := fun i hi hik => by
  have hi' : i < gs.length := by simpa using hi
  by_cases e : i = k
  · subst e
    rw [List.getElem_set_self]
    refine ⟨hx, g, hg, hg0, fun j hj hji g' hg' => ?_⟩
    have hj' : j < gs.length := by simpa using hj
    rw [List.getElem_set_ne (by omega)] at hg'
    obtain ⟨h1, g2, h2, h3, h4⟩ := h j hj' (by omega)
    rw [h2] at hg'
    simp at hg'
    subst hg'
    have := (World.ownsRow.lt h1 g2 (by unfold visV; rw [h2]; rfl)).2
    omega
  · rw [List.getElem_set_ne (fun hh => e hh.symm)]
    obtain ⟨h1, g2, h2, h3, h4⟩ := asc_keep h ht hs i hi' (by omega)
    refine ⟨h1, g2, h2, h3, fun j hj hji g' hg' => ?_⟩
    have hj' : j < gs.length := by simpa using hj
    rw [List.getElem_set_ne (by omega)] at hg'
    exact h4 j hj' hji g' hg'

/-- A book in memory of its own, from block lo on: each row apart from the others. -/
structure OwnBk (lo : Nat) (w : World) (ac a a' : Option Addr) (capc cap cap' : Nat) (cs : List (ByteArray × Int)) (fs : List Fli) (ss : List Int) : Prop where
  book : BookIn w ac a a' cs fs ss
  rows : ∃ va : List VisAt, BkW w ac a a' cs.length capc cap ss.length cap' va ∧ va.length = fs.length ∧ (∀ i (h1 : i < va.length) (h2 : i < fs.length), va[i].2.1 = fs[i].2.2.2.length) ∧ ∀ k, InB ac a a' cs.length ss.length va k → lo ≤ k ∧ k < w.heap.size

theorem caps_of {w : World} {base : Nat} {a : Option Addr} {c : Nat} {cs : List (ByteArray × Int)} (h : OwnC w base (.slice a cs.length c) cs) : CapsIn w a cs := by
  obtain ⟨a', c', e, _, _, h4, _⟩ := OwnC.form h
  simp at e
  obtain ⟨rfl, rfl⟩ := e
  exact h4
theorem vis_of {w : World} {base : Nat} {a : Option Addr} {c : Nat} {vs : List Vis} (h : OwnV w base (.slice a vs.length c) vs) : VisitsIn w a vs := (OwnV.visits h).1
/-- What a row of flights with visits of their own reads as. -/
theorem fls_of {w : World} {base lo g0 : Nat} {a1 : Option Addr} {c1 : Nat} {gs : List FlV} (h : World.ownsRow w base 65 4 (.slice a1 gs.length c1) gs.length (flVals gs)) (ha : AscTo w lo g0 gs gs.length) : FlightsIn w a1 (gs.map Prod.fst) := fun i hi => by
  have hi' : i < gs.length := by simpa using hi
  obtain ⟨g, rfl, hg, hlt⟩ := owns_some h (by omega)
  obtain ⟨⟨c0, c1', c2, c3⟩, _⟩ := own_cell4 h hi'
  have hv := vis_of (ha i hi' hi').1
  refine ⟨g, 0, rfl, hlt, ?_⟩
  rw [List.getElem_map]
  exact ⟨by rw [Nat.zero_add]; exact c0, by rw [Nat.zero_add]; exact c1', by rw [Nat.zero_add]; exact c2, _, _, by rw [Nat.zero_add]; exact c3, hv⟩
/-- The rows of flights with visits of their own can be written, each apart from the others. -/
theorem flW_of {w : World} {base lo g0 : Nat} {a1 : Option Addr} {c1 : Nat} {gs : List FlV} (h : World.ownsRow w base 65 4 (.slice a1 gs.length c1) gs.length (flVals gs)) (ha : AscTo w lo g0 gs gs.length) (hg0 : 1 ≤ gs.length → a1 = some ⟨g0, 0, none⟩) :
    FlW w a1 c1 (gs.map fun x => (x.2.1, x.1.2.2.2.length, x.2.2)) ∧ ApartF a1 (gs.map fun x => (x.2.1, x.1.2.2.2.length, x.2.2)) := by
  by_cases hn : gs.length = 0
  · obtain rfl := List.length_eq_zero_iff.1 hn
    exact ⟨.inl rfl, by simp, List.Pairwise.nil⟩
  obtain rfl := hg0 (by omega)
  constructor
  · rcases rowW_of_owns h with h0 | ⟨g, f, e, hr, hc⟩
    · exact absurd h0 hn
    · simp at e
      subst e
      refine .inr ⟨g0, f, rfl, hr, by simpa using hc, fun j hj => ?_, fun x hx => ?_⟩
      · have hj' : j < gs.length := by simpa using hj
        have q := hr.cell (i := j * 4 + 3) (by omega)
        rw [(own_cell4 h hj').1.2.2.2] at q
        simp only [List.getElem_map]
        exact (Option.some.inj q).symm
      · obtain ⟨y, hy, rfl⟩ := List.mem_map.1 hx
        obtain ⟨i, hi, rfl⟩ := List.getElem_of_mem hy
        exact rowW_of_owns (ha i hi hi).1
  · constructor
    · intro x hx k hk hk2
      obtain ⟨y, hy, rfl⟩ := List.mem_map.1 hx
      obtain ⟨i, hi, rfl⟩ := List.getElem_of_mem hy
      obtain ⟨_, g, hg, hgg, _⟩ := ha i hi hi
      obtain ⟨p, hp, rfl⟩ := hk
      obtain ⟨_, q, hq, e⟩ := hk2
      simp at hp
      subst hp
      rw [hg] at hq
      simp at hq
      subst hq
      simp at e
      omega
    · rw [List.pairwise_map, List.pairwise_iff_getElem]
      intro i j hi hj hij k hk hk2
      obtain ⟨_, g, hg, _, _⟩ := ha i hi hi
      obtain ⟨_, g2, hg2, _, hlt⟩ := ha j hj hj
      obtain ⟨_, p, hp, rfl⟩ := hk
      obtain ⟨_, q, hq, e⟩ := hk2
      have := hlt i hi hij g hg
      simp only at hp hq
      rw [hg] at hp
      rw [hg2] at hq
      simp at hp hq
      subst hp hq
      simp at e
      omega
/-- Where those rows lie. -/
theorem inF_of {w : World} {base lo g0 : Nat} {a1 : Option Addr} {c1 : Nat} {gs : List FlV} (h : World.ownsRow w base 65 4 (.slice a1 gs.length c1) gs.length (flVals gs)) (ha : AscTo w lo g0 gs gs.length) {k : Nat} (hk : InF a1 (gs.map fun x => (x.2.1, x.1.2.2.2.length, x.2.2)) k) : min base lo ≤ k ∧ k < w.heap.size := by
  rcases hk with ⟨_, hk⟩ | ⟨x, hx, _, hk⟩
  · have := owns_in h hk
    omega
  · obtain ⟨y, hy, rfl⟩ := List.mem_map.1 hx
    obtain ⟨i, hi, rfl⟩ := List.getElem_of_mem hy
    have := owns_in (ha i hi hi).1 hk
    omega

end Go.Proofs.YtmmpopnglbjieabGreat
