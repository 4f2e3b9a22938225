/- A flight is spoilt. -/
import Derived.Test.YtciacofibljmoaaDraw6
import Derived.Deep.RegionWith
namespace Go.Proofs.Ytciacofibljmoaa
open Go.RowKit

attribute [local go_sem ↓] Go.wp_at_zero Go.wp_at_succ

theorem visVals_set1 : ∀ (vs : List Vis) (k : Nat) (hk : k < vs.length) (z : Int), (visVals vs).set (k * 3 + 1) (.int .i64 z) = visVals (vs.set k (vs[k].1, z, vs[k].2.2))
  | [], k, hk, _ => by simp at hk
  | c :: cs, 0, _, z => by simp [visVals]
  | c :: cs, k + 1, hk, z => by
    have ih := visVals_set1 cs k (by simpa using hk) z
    rw [show (k + 1) * 3 + 1 = k * 3 + 1 + 1 + 1 + 1 by omega]
    simpa [visVals] using ih
theorem visVals_set2 : ∀ (vs : List Vis) (k : Nat) (hk : k < vs.length) (z : Int), (visVals vs).set (k * 3 + 2) (.int .i64 z) = visVals (vs.set k (vs[k].1, vs[k].2.1, z))
  | [], k, hk, _ => by simp at hk
  | c :: cs, 0, _, z => by simp [visVals]
  | c :: cs, k + 1, hk, z => by
    have ih := visVals_set2 cs k (by simpa using hk) z
    rw [show (k + 1) * 3 + 2 = k * 3 + 2 + 1 + 1 + 1 by omega]
    simpa [visVals] using ih
theorem own_set1 {w : World} {base g cp : Nat} {vs : List Vis} (h : OwnV w base (.slice (some ⟨g, 0, none⟩) vs.length cp) vs) {k : Nat} (hk : k < vs.length) (z : Int) :
    OwnV (w.setCell ⟨g, k * 3 + 1, none⟩ (.int .i64 z)) base (.slice (some ⟨g, 0, none⟩) vs.length cp) (vs.set k (vs[k].1, z, vs[k].2.2)) := by
  have hs := (World.ownsRow.stored h (k * 3 + 1) (.int .i64 z)).1
  rw [visVals_set1 vs k hk z] at hs
  unfold OwnV
  rw [List.length_set]
  exact hs
theorem own_set2 {w : World} {base g cp : Nat} {vs : List Vis} (h : OwnV w base (.slice (some ⟨g, 0, none⟩) vs.length cp) vs) {k : Nat} (hk : k < vs.length) (z : Int) :
    OwnV (w.setCell ⟨g, k * 3 + 2, none⟩ (.int .i64 z)) base (.slice (some ⟨g, 0, none⟩) vs.length cp) (vs.set k (vs[k].1, vs[k].2.1, z)) := by
  have hs := (World.ownsRow.stored h (k * 3 + 2) (.int .i64 z)).1
  rw [visVals_set2 vs k hk z] at hs
  unfold OwnV
  rw [List.length_set]
  exact hs
theorem VisSm.set {m : Nat} {vs : List Vis} (h : VisSm m vs) {k : Nat} (hk : k < vs.length) (a b : Int) : VisSm m (vs.set k (vs[k].1, a, b)) := by
  obtain ⟨h1, h2⟩ := h
  refine ⟨by simpa using h1, fun v hv => ?_⟩
  rcases List.mem_or_eq_of_mem_set hv with hv | rfl
  · exact h2 v hv
  · exact h2 vs[k] (List.getElem_mem hk)
theorem VisSm.mono {m n : Nat} {vs : List Vis} (h : VisSm m vs) (hn : m ≤ n) : VisSm n vs := ⟨Nat.le_trans h.1 hn, h.2⟩
/-- A number of a list that was just laid. -/
theorem ints_new (w : World) (t : TypeId) (zs : List Int) (c : Array Value) (hc : c = (zs.map (Value.int .i64)).toArray) (j : Nat) (hj : j < zs.length) : (w.alloc (.cells c t)).cell? ⟨w.heap.size, j, none⟩ = some (.int .i64 zs[j]) := by
  subst hc
  simp [hj]
theorem ints_ex (w : World) (t : TypeId) (zs : List Int) (c : Array Value) (hc : c = (zs.map (Value.int .i64)).toArray) (j : Nat) (hj : j < zs.length) : ∃ z : Int, (w.alloc (.cells c t)).cell? ⟨w.heap.size, j, none⟩ = some (.int .i64 z) := ⟨_, ints_new w t zs c hc j hj⟩
theorem OwnV.visits {w : World} {base : Nat} {a : Option Addr} {n c : Nat} {vs : List Vis} (h : OwnV w base (.slice a n c) vs) : VisitsIn w a vs ∧ ∀ p, a = some p → base ≤ p.block := by
  obtain ⟨a', c', e, _, _, h1, h2⟩ := OwnV.form h
  simp at e
  obtain ⟨rfl, _, _⟩ := e
  exact ⟨h1, fun p hp => (h2 p hp).2.1⟩
theorem own_cell {w : World} {base g n c : Nat} {vs : List Vis} (h : OwnV w base (.slice (some ⟨g, 0, none⟩) n c) vs) {k : Nat} (hk : k < vs.length) :
    (w.cell? ⟨g, k * 3 + 1, none⟩ = some (.int .i64 vs[k].2.1) ∧ w.frozen? ⟨g, k * 3 + 1, none⟩ = false) ∧ (w.cell? ⟨g, k * 3 + 2, none⟩ = some (.int .i64 vs[k].2.2) ∧ w.frozen? ⟨g, k * 3 + 2, none⟩ = false) := by
  obtain ⟨a', c', e, _, _, _, hc⟩ := owns_slice h
  simp at e
  obtain ⟨rfl, _, _⟩ := e
  obtain ⟨_, q1, q2⟩ := visVals_at vs k hk
  obtain ⟨g1, e1, _, _, r1, s1⟩ := hc _ _ q1
  obtain ⟨g2, e2, _, _, r2, s2⟩ := hc _ _ q2
  simp at e1 e2
  subst e1
  subst e2
  exact ⟨⟨r1, s1⟩, r2, s2⟩
theorem cell_other {w : World} {F g i j : Nat} {v u : Value} (hne : F ≠ g) (h : w.cell? ⟨F, i, none⟩ = some v) : (w.setCell ⟨g, j, none⟩ u).cell? ⟨F, i, none⟩ = some v :=
  (World.cell?_of_block (w := w) (a := ⟨F, i, none⟩) (Below.heap_setCell w ⟨g, j, none⟩ u F hne)).trans h
theorem pick_sp0 {W : World} (r M F R m base : Nat) (nm : ByteArray) (p l : Int) (vs : List Vis) (v : Value) (hR : Rd W r M) (hF : FlAt W F nm p l v) (hRr : FlAt W R ⟨#[]⟩ 0 0 (.slice none 0 0)) (hO : World.ownsRow W base 110 3 v vs.length (visVals vs)) (h1 : r + 1 ≤ F) (h2 : r + 1 ≤ R) (h3 : r + 1 ≤ base) (hM : M ≤ 1000000) (hm : 1 ≤ m) :
    Calls Try.prog 40 #[.pointer (some ⟨r, 0, none⟩), .int .i64 (m : Nat)] W fun e w' => ∃ (j : Nat), e = .returned (.int .i64 (j : Nat)) ∧ j < m ∧ FlAt w' F nm p l v ∧ FlAt w' R ⟨#[]⟩ 0 0 (.slice none 0 0) ∧ World.ownsRow w' base 110 3 v vs.length (visVals vs) ∧ Rd w' r (M + 1) ∧ Touch r (r + 1) W w' := by
  refine (pick_any r M _ W hR hM (by omega)).mono ?_
  rintro e w' ⟨⟨q, rfl, hq0, hq1⟩, hr, ht⟩
  obtain ⟨j, rfl⟩ := Int.eq_ofNat_of_zero_le hq0
  exact ⟨j, rfl, by omega, hF.touch ht h1, hRr.touch ht h2, owns_touch hO ht h3, hr, ht⟩
theorem pick_sp {W : World} (r M F R B m base : Nat) (nm : ByteArray) (p l : Int) (vs : List Vis) (v : Value) (hR : Rd W r M) (hF : FlAt W F nm p l v) (hRr : FlAt W R ⟨#[]⟩ 0 0 (.slice none 0 0)) (hO : World.ownsRow W base 110 3 v vs.length (visVals vs)) (h1 : r + 1 ≤ F) (h2 : r + 1 ≤ R) (h3 : r + 1 ≤ base) (hM : M ≤ 1000000) (hm : 1 ≤ m) (hB : r + 1 ≤ B) (hz : ∀ j, j < m → ∃ z : Int, W.cell? ⟨B, j, none⟩ = some (.int .i64 z)) :
    Calls Try.prog 40 #[.pointer (some ⟨r, 0, none⟩), .int .i64 (m : Nat)] W fun e w' => ∃ (j : Nat) (z : Int), e = .returned (.int .i64 (j : Nat)) ∧ j < m ∧ w'.cell? ⟨B, j, none⟩ = some (.int .i64 z) ∧ FlAt w' F nm p l v ∧ FlAt w' R ⟨#[]⟩ 0 0 (.slice none 0 0) ∧ World.ownsRow w' base 110 3 v vs.length (visVals vs) ∧ Rd w' r (M + 1) ∧ Touch r (r + 1) W w' := by
  refine (pick_sp0 r M F R m base nm p l vs v hR hF hRr hO h1 h2 h3 hM hm).mono ?_
  rintro e w' ⟨j, rfl, hj, q1, q2, q3, q4, ht⟩
  obtain ⟨z, hzz⟩ := hz j hj
  exact ⟨j, z, rfl, hj, cell_touch ht hzz (.inr hB), q1, q2, q3, q4, ht⟩
def spoilNams : List ByteArray := [⟨#[]⟩, ⟨#[65]⟩, ⟨#[122, 122]⟩, ⟨#[97, 49]⟩]
theorem spoilNams_size : ∀ s ∈ spoilNams, s.size ≤ 8 := by decide
theorem late_bd : ∀ z ∈ ([-1, 60, 61] : List Int), -1 ≤ z ∧ z ≤ 61 := by decide
theorem vis_take {w : World} {a : Option Addr} {vs : List Vis} (h : VisitsIn w a vs) (k : Nat) : VisitsIn w a (vs.take k) := fun i hi => by
  have hi' : i < vs.length := by simp at hi; omega
  obtain ⟨b, off, e, h1, h2⟩ := h i hi'
  refine ⟨b, off, e, h1, ?_⟩
  rw [List.getElem_take]
  exact h2

set_option maxRecDepth 100000 in
set_option maxHeartbeats 25600000 in
theorem l6SpoilFlight_any (r N : Nat) (nm : ByteArray) (p l : Int) (vs : List Vis) (av : Option Addr) (cv : Nat) (w : World) (h : Rd w r N) (hN : N ≤ 900000) (hv : VisitsIn w av vs) (h1 : 1 ≤ vs.length) (hsm : VisSm 3 vs) (hnm : nm.size ≤ 8) (hl0 : -1 ≤ l) (hl1 : l ≤ 61) :
    Calls Try.prog 67 #[.pointer (some ⟨r, 0, none⟩), .agg #[.string nm, .int .i64 p, .int .i64 l, .slice av vs.length cv]] w fun e w' =>
      (∃ (nm' : ByteArray) (p' l' : Int) (vs' : List Vis) (a : Option Addr) (c : Nat), e = .returned (.agg #[.string nm', .int .i64 p', .int .i64 l', .slice a vs'.length c]) ∧ nm'.size ≤ 8 ∧ -1 ≤ l' ∧ l' ≤ 61 ∧ VisSm 6 vs' ∧ VisitsIn w' a vs' ∧ ∀ q, a = some q → w.heap.size ≤ q.block) ∧ Rd w' r (N + 3) ∧ Touch r (r + 1) w w' := by
  obtain ⟨i0, hi, iz0, iz1, iz2⟩ := info_parts info_visit
  have hrl := h.lt
  have HR := hide h
  have HV := hide hv
  have HSM := hide hsm
  have hn3 := hsm.1
  clear h hv hsm
  go_enter Try.func67, Try.ntmps67
  go_upto_region 1 with fail
  have F0 := hide ((FlAt.new w nm p l (.slice av vs.length cv)).later ((Below.refl _ _).alloc (Nat.le_refl _) (.cells #[.string ⟨#[]⟩, .int .i64 0, .int .i64 0, .slice none 0 0] 74)))
  have R0 := hide (FlAt.newAt (w.alloc (.cells #[.string nm, .int .i64 p, .int .i64 l, .slice av vs.length cv] 74)) (w.heap.size + 1) (by simp) ⟨#[]⟩ 0 0 (.slice none 0 0))
  have B0 := hide (((Below.refl w.heap.size w).alloc (Nat.le_refl _) (.cells #[.string nm, .int .i64 p, .int .i64 l, .slice av vs.length cv] 74)).alloc (by simp) (.cells #[.string ⟨#[]⟩, .int .i64 0, .int .i64 0, .slice none 0 0] 74))
  generalize (w.alloc (.cells #[.string nm, .int .i64 p, .int .i64 l, .slice av vs.length cv] 74)).alloc (.cells #[.string ⟨#[]⟩, .int .i64 0, .int .i64 0, .slice none 0 0] 74) = W at *
  have hRW := R0.out.lt
  obtain ⟨c0, c1, c2, c3, _⟩ := F0.out.cells
  go_wp2_with fail
  refine (l1Flight_any nm p l vs av cv W (HV.out.later B0.out) h1 (by omega)).mono ?_
  rintro e w1 ⟨g, cp, rfl, hown, hb1⟩
  have hgl := (World.ownsRow.lt hown g rfl)
  have hgb : W.heap.size ≤ g := hgl.1
  have hgt : g < w1.heap.size := hgl.2
  go_upto_region 2 with fail
  have FX := hide (FlAt.new w1 nm p l (.slice (some ⟨g, 0, none⟩) vs.length cp))
  have Ba := hide ((Below.refl w1.heap.size w1).alloc (Nat.le_refl _) (.cells #[.string nm, .int .i64 p, .int .i64 l, .slice (some ⟨g, 0, none⟩) vs.length cp] 74))
  have RX := hide ((R0.out.later hb1).later Ba.out)
  have OX := hide (owns_later hown Ba.out)
  have BX := hide (below_two (below_two B0.out hb1) Ba.out)
  have hs1 := (below_two B0.out hb1).size
  clear hown hb1 Ba F0 R0 c0 c1 c2 c3 hgl
  generalize w1.alloc (.cells #[.string nm, .int .i64 p, .int .i64 l, .slice (some ⟨g, 0, none⟩) vs.length cp] 74) = X at *
  generalize w1.heap.size = F at *
  have hs0 := B0.out.size
  have x3 := FX.out.cells.2.2.2.1
  go_wp2_with fail
  refine (pick_any r N _ X (HR.out.later BX.out) (by omega) (by omega)).mono ?_
  rintro e w2 ⟨⟨k', rfl, hk0, hk1⟩, hr2, ht2⟩
  obtain ⟨k, rfl⟩ := Int.eq_ofNat_of_zero_le hk0
  have hk : k < vs.length := by omega
  go_wp2_with fail
  refine (pick_any r _ _ w2 hr2 (by omega) (by omega)).mono ?_
  rintro e w3 ⟨⟨q, rfl, hq0, hq1⟩, hr3, ht3⟩
  have T3 := hide (touch_trans (touch_trans (touch_below BX.out) ht2) ht3)
  have F3 := hide ((FX.out.touch ht2 (by omega)).touch ht3 (by omega))
  have R3 := hide ((RX.out.touch ht2 (by omega)).touch ht3 (by omega))
  have O3 := hide (owns_touch (owns_touch OX.out ht2 (by omega)) ht3 (by omega))
  have HR3 := hide hr3
  have hF3 := F3.out.lt
  clear hr2 ht2 hr3 ht3 FX RX OX BX x3 HR HV
  have hq : q = 0 ∨ q = 1 ∨ q = 2 ∨ q = 3 ∨ q = 4 ∨ q = 5 ∨ q = 6 := by omega
  rcases hq with rfl | rfl | rfl | rfl | rfl | rfl | rfl
  · go_wp2_with fail
    have Ba := hide ((Below.refl w3.heap.size w3).alloc (Nat.le_refl _) (.cells (spoilNams.map Value.string).toArray 9))
    refine (of_any r _ _ 4 spoilNams _ (HR3.out.later Ba.out) (by omega) (strs_alloc (r := r) (by omega) 9 _ spoilNams rfl) (by decide)).mono ?_
    rintro e w4 ⟨⟨s, hs, rfl⟩, hr4, ht4⟩
    have hss := spoilNams_size s hs
    have F4 := hide ((F3.out.later Ba.out).touch ht4 (by omega))
    have R4 := hide ((R3.out.later Ba.out).touch ht4 (by omega))
    have O4 := hide (owns_touch (owns_later O3.out Ba.out) ht4 (by omega))
    have T4 := hide (touch_trans (touch_then T3.out (Ba.out.mono (by omega))) ht4)
    have HR4 := hide hr4
    have c0 := F4.out.cells.1
    have z0 := F4.out.cells.2.2.2.2.1
    clear hr4 ht4 F3 R3 O3 T3 HR3 hs
    go_upto_region 21 with fail
    have FX := hide (F4.out.setName s)
    have RX := hide (R4.out.keep (w' := w4.setCell ⟨F, 0, none⟩ (.string s)) (Below.heap_setCell _ _ _ _ (by show w.heap.size + 1 ≠ F; omega)))
    have OX := hide (owns_keep (w' := w4.setCell ⟨F, 0, none⟩ (.string s)) O4.out (fun q hq => Below.heap_setCell _ _ _ _ (by simp [Value.ownBlock] at hq; show q ≠ F; omega)))
    have BX := hide (below_set (Below.refl w.heap.size w4) F 0 (by omega) (.string s))
    have HRX := hide (HR4.out.below BX.out hrl)
    have TX := hide (touch_then T4.out BX.out)
    have VX : Hid (VisitsIn (w4.setCell ⟨F, 0, none⟩ (.string s)) (some ⟨g, 0, none⟩) vs ∧ (∀ q, (some ⟨g, 0, none⟩ : Option Addr) = some q → w.heap.size ≤ q.block) ∧ (∀ q, (some ⟨g, 0, none⟩ : Option Addr) = some q → q.block ≠ w.heap.size + 1)) :=
      ⟨(OwnV.visits OX.out).1, fun q hq => by simp at hq; subst hq; show w.heap.size ≤ g; omega, fun q hq => by simp at hq; subst hq; show g ≠ w.heap.size + 1; omega⟩
    clear F4 R4 O4 T4 HR4 c0 z0 BX OX
    generalize w4.setCell ⟨F, 0, none⟩ (.string s) = X at *
    obtain ⟨fk0, fk1, fk2, fk3, _⟩ := FX.out.cells
    obtain ⟨rk0, rk1, rk2, rk3, rz0, rz1, rz2, rz3⟩ := RX.out.cells
    have B9 := hide (below_set (below_set (below_set (below_set (Below.refl w.heap.size X) (w.heap.size + 1) 0 (by omega) (.string s)) (w.heap.size + 1) 1 (by omega) (.int .i64 p)) (w.heap.size + 1) 2 (by omega) (.int .i64 l)) (w.heap.size + 1) 3 (by omega) (.slice (some ⟨g, 0, none⟩) vs.length cp))
    have KP : Hid (∀ q, q ≠ w.heap.size + 1 → (((((X).setCell ⟨w.heap.size + 1, 0, none⟩ (.string s)).setCell ⟨w.heap.size + 1, 1, none⟩ (.int .i64 p)).setCell ⟨w.heap.size + 1, 2, none⟩ (.int .i64 l)).setCell ⟨w.heap.size + 1, 3, none⟩ (.slice (some ⟨g, 0, none⟩) vs.length cp)).heap[q]? = (X).heap[q]?) := fun q hq => by
      rw [Below.heap_setCell _ _ _ _ (by exact hq), Below.heap_setCell _ _ _ _ (by exact hq), Below.heap_setCell _ _ _ _ (by exact hq), Below.heap_setCell _ _ _ _ (by exact hq)]
    have Y9 := (((RX.out.setName s).setPlan p).setLate l).setVis (.slice (some ⟨g, 0, none⟩) vs.length cp)
    have Zy0 := hide Y9.cells.1
    have Zy1 := hide Y9.cells.2.1
    have Zy2 := hide Y9.cells.2.2.1
    have Zy3 := hide Y9.cells.2.2.2.1
    clear Y9
    go_wp2
    generalize ((((X).setCell ⟨w.heap.size + 1, 0, none⟩ (.string s)).setCell ⟨w.heap.size + 1, 1, none⟩ (.int .i64 p)).setCell ⟨w.heap.size + 1, 2, none⟩ (.int .i64 l)).setCell ⟨w.heap.size + 1, 3, none⟩ (.slice (some ⟨g, 0, none⟩) vs.length cp) = Y at *
    have y0 := Zy0.out
    have y1 := Zy1.out
    have y2 := Zy2.out
    have y3 := Zy3.out
    exact bodyPost_ret (v := .agg #[.string s, .int .i64 p, .int .i64 l, .slice (some ⟨g, 0, none⟩) vs.length cp]) (by simp [results, Try.results67, go_sem, y0, y1, y2, y3]) rfl ⟨⟨_, _, _, _, _, _, rfl, hss, hl0, hl1, HSM.out.mono (by omega), VX.out.1.keep (fun q hq => KP.out _ (VX.out.2.2 q hq)) B9.out.size, fun q hq => VX.out.2.1 q hq⟩, (HRX.out.below B9.out hrl).mono (by omega), touch_then TX.out B9.out⟩
  · go_wp2_with fail
    have Ba := hide ((Below.refl w3.heap.size w3).alloc (Nat.le_refl _) (.cells #[.int .i64 (-1), .int .i64 10000, .int .i64 10001] 3))
    refine (pick_any r _ _ _ (HR3.out.later Ba.out) (by omega) (by omega)).mono ?_
    rintro e w4 ⟨⟨j', rfl, hj0, hj1⟩, hr4, ht4⟩
    obtain ⟨j, rfl⟩ := Int.eq_ofNat_of_zero_le hj0
    have hz := cell_touch ht4 (ints_new w3 3 [-1, 10000, 10001] _ rfl j (by simp; omega)) (.inr (by show r + 1 ≤ w3.heap.size; omega))
    have hzb : ([-1, 10000, 10001] : List Int)[j]'(by simp; omega) ∈ ([-1, 10000, 10001] : List Int) := List.getElem_mem _
    generalize ([-1, 10000, 10001] : List Int)[j]'(by simp; omega) = z at hz hzb
    have F4 := hide ((F3.out.later Ba.out).touch ht4 (by omega))
    have R4 := hide ((R3.out.later Ba.out).touch ht4 (by omega))
    have O4 := hide (owns_touch (owns_later O3.out Ba.out) ht4 (by omega))
    have T4 := hide (touch_trans (touch_then T3.out (Ba.out.mono (by omega))) ht4)
    have HR4 := hide hr4
    have c0 := F4.out.cells.2.1
    have z0 := F4.out.cells.2.2.2.2.2.1
    clear hr4 ht4 F3 R3 O3 T3 HR3
    go_upto_region 21 with fail
    have FX := hide (F4.out.setPlan z)
    have RX := hide (R4.out.keep (w' := w4.setCell ⟨F, 1, none⟩ (.int .i64 z)) (Below.heap_setCell _ _ _ _ (by show w.heap.size + 1 ≠ F; omega)))
    have OX := hide (owns_keep (w' := w4.setCell ⟨F, 1, none⟩ (.int .i64 z)) O4.out (fun q hq => Below.heap_setCell _ _ _ _ (by simp [Value.ownBlock] at hq; show q ≠ F; omega)))
    have BX := hide (below_set (Below.refl w.heap.size w4) F 1 (by omega) (.int .i64 z))
    have HRX := hide (HR4.out.below BX.out hrl)
    have TX := hide (touch_then T4.out BX.out)
    have VX : Hid (VisitsIn (w4.setCell ⟨F, 1, none⟩ (.int .i64 z)) (some ⟨g, 0, none⟩) vs ∧ (∀ q, (some ⟨g, 0, none⟩ : Option Addr) = some q → w.heap.size ≤ q.block) ∧ (∀ q, (some ⟨g, 0, none⟩ : Option Addr) = some q → q.block ≠ w.heap.size + 1)) :=
      ⟨(OwnV.visits OX.out).1, fun q hq => by simp at hq; subst hq; show w.heap.size ≤ g; omega, fun q hq => by simp at hq; subst hq; show g ≠ w.heap.size + 1; omega⟩
    clear F4 R4 O4 T4 HR4 c0 z0 hz BX OX
    generalize w4.setCell ⟨F, 1, none⟩ (.int .i64 z) = X at *
    obtain ⟨fk0, fk1, fk2, fk3, _⟩ := FX.out.cells
    obtain ⟨rk0, rk1, rk2, rk3, rz0, rz1, rz2, rz3⟩ := RX.out.cells
    have B9 := hide (below_set (below_set (below_set (below_set (Below.refl w.heap.size X) (w.heap.size + 1) 0 (by omega) (.string nm)) (w.heap.size + 1) 1 (by omega) (.int .i64 z)) (w.heap.size + 1) 2 (by omega) (.int .i64 l)) (w.heap.size + 1) 3 (by omega) (.slice (some ⟨g, 0, none⟩) vs.length cp))
    have KP : Hid (∀ q, q ≠ w.heap.size + 1 → (((((X).setCell ⟨w.heap.size + 1, 0, none⟩ (.string nm)).setCell ⟨w.heap.size + 1, 1, none⟩ (.int .i64 z)).setCell ⟨w.heap.size + 1, 2, none⟩ (.int .i64 l)).setCell ⟨w.heap.size + 1, 3, none⟩ (.slice (some ⟨g, 0, none⟩) vs.length cp)).heap[q]? = (X).heap[q]?) := fun q hq => by
      rw [Below.heap_setCell _ _ _ _ (by exact hq), Below.heap_setCell _ _ _ _ (by exact hq), Below.heap_setCell _ _ _ _ (by exact hq), Below.heap_setCell _ _ _ _ (by exact hq)]
    have Y9 := (((RX.out.setName nm).setPlan z).setLate l).setVis (.slice (some ⟨g, 0, none⟩) vs.length cp)
    have Zy0 := hide Y9.cells.1
    have Zy1 := hide Y9.cells.2.1
    have Zy2 := hide Y9.cells.2.2.1
    have Zy3 := hide Y9.cells.2.2.2.1
    clear Y9
    go_wp2
    generalize ((((X).setCell ⟨w.heap.size + 1, 0, none⟩ (.string nm)).setCell ⟨w.heap.size + 1, 1, none⟩ (.int .i64 z)).setCell ⟨w.heap.size + 1, 2, none⟩ (.int .i64 l)).setCell ⟨w.heap.size + 1, 3, none⟩ (.slice (some ⟨g, 0, none⟩) vs.length cp) = Y at *
    have y0 := Zy0.out
    have y1 := Zy1.out
    have y2 := Zy2.out
    have y3 := Zy3.out
    exact bodyPost_ret (v := .agg #[.string nm, .int .i64 z, .int .i64 l, .slice (some ⟨g, 0, none⟩) vs.length cp]) (by simp [results, Try.results67, go_sem, y0, y1, y2, y3]) rfl ⟨⟨_, _, _, _, _, _, rfl, hnm, hl0, hl1, HSM.out.mono (by omega), VX.out.1.keep (fun q hq => KP.out _ (VX.out.2.2 q hq)) B9.out.size, fun q hq => VX.out.2.1 q hq⟩, (HRX.out.below B9.out hrl).mono (by omega), touch_then TX.out B9.out⟩
  · go_wp2_with fail
    have Ba := hide ((Below.refl w3.heap.size w3).alloc (Nat.le_refl _) (.cells #[.int .i64 (-1), .int .i64 60, .int .i64 61] 3))
    refine (pick_any r _ _ _ (HR3.out.later Ba.out) (by omega) (by omega)).mono ?_
    rintro e w4 ⟨⟨j', rfl, hj0, hj1⟩, hr4, ht4⟩
    obtain ⟨j, rfl⟩ := Int.eq_ofNat_of_zero_le hj0
    have hz := cell_touch ht4 (ints_new w3 3 [-1, 60, 61] _ rfl j (by simp; omega)) (.inr (by show r + 1 ≤ w3.heap.size; omega))
    have hzb : ([-1, 60, 61] : List Int)[j]'(by simp; omega) ∈ ([-1, 60, 61] : List Int) := List.getElem_mem _
    generalize ([-1, 60, 61] : List Int)[j]'(by simp; omega) = z at hz hzb
    have F4 := hide ((F3.out.later Ba.out).touch ht4 (by omega))
    have R4 := hide ((R3.out.later Ba.out).touch ht4 (by omega))
    have O4 := hide (owns_touch (owns_later O3.out Ba.out) ht4 (by omega))
    have T4 := hide (touch_trans (touch_then T3.out (Ba.out.mono (by omega))) ht4)
    have HR4 := hide hr4
    have c0 := F4.out.cells.2.2.1
    have z0 := F4.out.cells.2.2.2.2.2.2.1
    clear hr4 ht4 F3 R3 O3 T3 HR3
    go_upto_region 21 with fail
    have FX := hide (F4.out.setLate z)
    have RX := hide (R4.out.keep (w' := w4.setCell ⟨F, 2, none⟩ (.int .i64 z)) (Below.heap_setCell _ _ _ _ (by show w.heap.size + 1 ≠ F; omega)))
    have OX := hide (owns_keep (w' := w4.setCell ⟨F, 2, none⟩ (.int .i64 z)) O4.out (fun q hq => Below.heap_setCell _ _ _ _ (by simp [Value.ownBlock] at hq; show q ≠ F; omega)))
    have BX := hide (below_set (Below.refl w.heap.size w4) F 2 (by omega) (.int .i64 z))
    have HRX := hide (HR4.out.below BX.out hrl)
    have TX := hide (touch_then T4.out BX.out)
    have VX : Hid (VisitsIn (w4.setCell ⟨F, 2, none⟩ (.int .i64 z)) (some ⟨g, 0, none⟩) vs ∧ (∀ q, (some ⟨g, 0, none⟩ : Option Addr) = some q → w.heap.size ≤ q.block) ∧ (∀ q, (some ⟨g, 0, none⟩ : Option Addr) = some q → q.block ≠ w.heap.size + 1)) :=
      ⟨(OwnV.visits OX.out).1, fun q hq => by simp at hq; subst hq; show w.heap.size ≤ g; omega, fun q hq => by simp at hq; subst hq; show g ≠ w.heap.size + 1; omega⟩
    clear F4 R4 O4 T4 HR4 c0 z0 hz BX OX
    generalize w4.setCell ⟨F, 2, none⟩ (.int .i64 z) = X at *
    obtain ⟨fk0, fk1, fk2, fk3, _⟩ := FX.out.cells
    obtain ⟨rk0, rk1, rk2, rk3, rz0, rz1, rz2, rz3⟩ := RX.out.cells
    have B9 := hide (below_set (below_set (below_set (below_set (Below.refl w.heap.size X) (w.heap.size + 1) 0 (by omega) (.string nm)) (w.heap.size + 1) 1 (by omega) (.int .i64 p)) (w.heap.size + 1) 2 (by omega) (.int .i64 z)) (w.heap.size + 1) 3 (by omega) (.slice (some ⟨g, 0, none⟩) vs.length cp))
    have KP : Hid (∀ q, q ≠ w.heap.size + 1 → (((((X).setCell ⟨w.heap.size + 1, 0, none⟩ (.string nm)).setCell ⟨w.heap.size + 1, 1, none⟩ (.int .i64 p)).setCell ⟨w.heap.size + 1, 2, none⟩ (.int .i64 z)).setCell ⟨w.heap.size + 1, 3, none⟩ (.slice (some ⟨g, 0, none⟩) vs.length cp)).heap[q]? = (X).heap[q]?) := fun q hq => by
      rw [Below.heap_setCell _ _ _ _ (by exact hq), Below.heap_setCell _ _ _ _ (by exact hq), Below.heap_setCell _ _ _ _ (by exact hq), Below.heap_setCell _ _ _ _ (by exact hq)]
    have Y9 := (((RX.out.setName nm).setPlan p).setLate z).setVis (.slice (some ⟨g, 0, none⟩) vs.length cp)
    have Zy0 := hide Y9.cells.1
    have Zy1 := hide Y9.cells.2.1
    have Zy2 := hide Y9.cells.2.2.1
    have Zy3 := hide Y9.cells.2.2.2.1
    clear Y9
    go_wp2
    generalize ((((X).setCell ⟨w.heap.size + 1, 0, none⟩ (.string nm)).setCell ⟨w.heap.size + 1, 1, none⟩ (.int .i64 p)).setCell ⟨w.heap.size + 1, 2, none⟩ (.int .i64 z)).setCell ⟨w.heap.size + 1, 3, none⟩ (.slice (some ⟨g, 0, none⟩) vs.length cp) = Y at *
    have y0 := Zy0.out
    have y1 := Zy1.out
    have y2 := Zy2.out
    have y3 := Zy3.out
    exact bodyPost_ret (v := .agg #[.string nm, .int .i64 p, .int .i64 z, .slice (some ⟨g, 0, none⟩) vs.length cp]) (by simp [results, Try.results67, go_sem, y0, y1, y2, y3]) rfl ⟨⟨_, _, _, _, _, _, rfl, hnm, (late_bd z hzb).1, (late_bd z hzb).2, HSM.out.mono (by omega), VX.out.1.keep (fun q hq => KP.out _ (VX.out.2.2 q hq)) B9.out.size, fun q hq => VX.out.2.1 q hq⟩, (HRX.out.below B9.out hrl).mono (by omega), touch_then TX.out B9.out⟩
  · have c3 := F3.out.cells.2.2.2.1
    have Ba := hide ((Below.refl w3.heap.size w3).alloc (Nat.le_refl _) (.cells #[.int .i64 (-1), .int .i64 (200), .int .i64 (201), .int .i64 (0)] 3)).drew
    have hk0' : (0 : Int) ≤ (k : Int) := by omega
    have hk1' : (k : Int) < (vs.length : Int) := by omega
    have hr3w : r + 1 ≤ w3.heap.size := by omega
    have HFg : F ≠ g := by omega
    have PA := hide (pick_sp (W := (w3.alloc (.cells #[.int .i64 (-1), .int .i64 (200), .int .i64 (201), .int .i64 (0)] 3)).drew) r _ F (w.heap.size + 1) w3.heap.size 4 W.heap.size nm p l vs _ (HR3.out.later Ba.out) (F3.out.later Ba.out) (R3.out.later Ba.out) (owns_later O3.out Ba.out) (by omega) (by omega) (by omega) (by omega) (by omega) (by omega) (fun j hj => ints_ex w3 3 [-1, 200, 201, 0] #[.int .i64 (-1), .int .i64 (200), .int .i64 (201), .int .i64 (0)] rfl j hj))
    have PB := hide (pick_sp0 (W := w3.drew) r _ F (w.heap.size + 1) 4 W.heap.size nm p l vs _ HR3.out.drew (show FlAt w3.drew _ _ _ _ _ from F3.out) (show FlAt w3.drew _ _ _ _ _ from R3.out) (show World.ownsRow w3.drew _ _ _ _ _ _ from O3.out) (by omega) (by omega) (by omega) (by omega) (by omega))
    go_upto_region 16 with fail
    have cL := cell_later Ba.out c3
    go_region_with (first
        | (go_at_call 40; refine PA.out.mono ?_; rintro e wA ⟨j, z, rfl, hj, hz, F4, R4, O4, hr4, ht4⟩; have hj0 : (0 : Int) ≤ (j : Int) := Int.natCast_nonneg j; have hj1 : (j : Int) < 4 := Int.ofNat_lt.2 hj; have cA := F4.cells.2.2.2.1; have sc := (own_cell O4 hk).1.1; have sf := (own_cell O4 hk).1.2)
        | (go_at_call 40; refine PB.out.mono ?_; rintro e wB ⟨j, rfl, hj, F4, R4, O4, hr4, ht4⟩; have hj0 : (0 : Int) ≤ (j : Int) := Int.natCast_nonneg j; have hj1 : (j : Int) < 4 := Int.ofNat_lt.2 hj; obtain ⟨z, hz⟩ := ints_ex wB 3 [-1, 200, 201, 0] #[.int .i64 (-1), .int .i64 (200), .int .i64 (201), .int .i64 (0)] rfl j hj; have cB := F4.cells.2.2.2.1; have O5 := owns_later O4 ((Below.refl _ _).alloc (Nat.le_refl _) (.cells #[.int .i64 (-1), .int .i64 (200), .int .i64 (201), .int .i64 (0)] 3)); have sc := (own_cell O5 hk).1.1; have sf := (own_cell O5 hk).1.2; have cBL := cell_later ((Below.refl _ _).alloc (Nat.le_refl _) (.cells #[.int .i64 (-1), .int .i64 (200), .int .i64 (201), .int .i64 (0)] 3)) cB)
        | (fail))
    all_goals first
      | (have T4 := hide (touch_trans (touch_then T3.out (Ba.out.mono (by omega))) ht4)
         have FX := hide (FlAt.keep (w' := (wA).setCell ⟨g, k * 3 + 1, none⟩ (.int .i64 z)) F4 (Below.heap_setCell _ _ _ _ (by show F ≠ g; omega)))
         have RX := hide (FlAt.keep (w' := (wA).setCell ⟨g, k * 3 + 1, none⟩ (.int .i64 z)) R4 (Below.heap_setCell _ _ _ _ (by show w.heap.size + 1 ≠ g; omega)))
         have OX := own_set1 (base := W.heap.size) (g := g) (cp := cp) O4 hk z
         have BX := hide (below_set (Below.refl w.heap.size (wA)) g (k * 3 + 1) (by omega) (.int .i64 z))
         have HRX := hide (Rd.below hr4 BX.out hrl)
         have TX := hide (touch_then T4.out BX.out)
         have VX : Hid (VisitsIn ((wA).setCell ⟨g, k * 3 + 1, none⟩ (.int .i64 z)) (some ⟨g, 0, none⟩) (vs.set k (vs[k].1, z, vs[k].2.2)) ∧ (∀ q, (some ⟨g, 0, none⟩ : Option Addr) = some q → w.heap.size ≤ q.block) ∧ (∀ q, (some ⟨g, 0, none⟩ : Option Addr) = some q → q.block ≠ w.heap.size + 1)) :=
           ⟨(OwnV.visits OX).1, fun q hq => by simp at hq; subst hq; show w.heap.size ≤ g; omega, fun q hq => by simp at hq; subst hq; show g ≠ w.heap.size + 1; omega⟩
         clear F4 R4 O4 T4 hr4 ht4 sc sf hz BX OX F3 R3 O3 T3 HR3 Ba PA PB
         go_upto_region 21 with fail
         generalize (wA).setCell ⟨g, k * 3 + 1, none⟩ (.int .i64 z) = X at *
         obtain ⟨fk0, fk1, fk2, fk3, _⟩ := FX.out.cells
         obtain ⟨rk0, rk1, rk2, rk3, rz0, rz1, rz2, rz3⟩ := RX.out.cells
         have B9 := hide (below_set (below_set (below_set (below_set (Below.refl w.heap.size X) (w.heap.size + 1) 0 (by omega) (.string nm)) (w.heap.size + 1) 1 (by omega) (.int .i64 p)) (w.heap.size + 1) 2 (by omega) (.int .i64 l)) (w.heap.size + 1) 3 (by omega) (.slice (some ⟨g, 0, none⟩) vs.length cp))
         have KP : Hid (∀ q, q ≠ w.heap.size + 1 → (((((X).setCell ⟨w.heap.size + 1, 0, none⟩ (.string nm)).setCell ⟨w.heap.size + 1, 1, none⟩ (.int .i64 p)).setCell ⟨w.heap.size + 1, 2, none⟩ (.int .i64 l)).setCell ⟨w.heap.size + 1, 3, none⟩ (.slice (some ⟨g, 0, none⟩) vs.length cp)).heap[q]? = (X).heap[q]?) := fun q hq => by
           rw [Below.heap_setCell _ _ _ _ (by exact hq), Below.heap_setCell _ _ _ _ (by exact hq), Below.heap_setCell _ _ _ _ (by exact hq), Below.heap_setCell _ _ _ _ (by exact hq)]
         have Y9 := (((RX.out.setName nm).setPlan p).setLate l).setVis (.slice (some ⟨g, 0, none⟩) vs.length cp)
         have Zy0 := hide Y9.cells.1
         have Zy1 := hide Y9.cells.2.1
         have Zy2 := hide Y9.cells.2.2.1
         have Zy3 := hide Y9.cells.2.2.2.1
         clear Y9
         go_wp2
         generalize ((((X).setCell ⟨w.heap.size + 1, 0, none⟩ (.string nm)).setCell ⟨w.heap.size + 1, 1, none⟩ (.int .i64 p)).setCell ⟨w.heap.size + 1, 2, none⟩ (.int .i64 l)).setCell ⟨w.heap.size + 1, 3, none⟩ (.slice (some ⟨g, 0, none⟩) vs.length cp) = Y at *
         have y0 := Zy0.out
         have y1 := Zy1.out
         have y2 := Zy2.out
         have y3 := Zy3.out
         exact bodyPost_ret (v := .agg #[.string nm, .int .i64 p, .int .i64 l, .slice (some ⟨g, 0, none⟩) vs.length cp]) (by simp [results, Try.results67, go_sem, y0, y1, y2, y3]) rfl ⟨⟨nm, p, l, (vs.set k (vs[k].1, z, vs[k].2.2)), some ⟨g, 0, none⟩, cp, by rw [List.length_set], hnm, hl0, hl1, (HSM.out.set hk _ _).mono (by omega), VX.out.1.keep (fun q hq => KP.out _ (VX.out.2.2 q hq)) B9.out.size, fun q hq => VX.out.2.1 q hq⟩, (HRX.out.below B9.out hrl).mono (by omega), touch_then TX.out B9.out⟩)
      | (have T4 := hide (touch_then (touch_trans (touch_drew T3.out) ht4) (((Below.refl _ _).alloc (Nat.le_refl _) (.cells #[.int .i64 (-1), .int .i64 (200), .int .i64 (201), .int .i64 (0)] 3)).mono (by have := ht4.size; have : w3.drew.heap.size = w3.heap.size := rfl; have := T3.out.size; omega)))
         have FX := hide (FlAt.keep (w' := (wB.alloc (.cells #[.int .i64 (-1), .int .i64 (200), .int .i64 (201), .int .i64 (0)] 3)).setCell ⟨g, k * 3 + 1, none⟩ (.int .i64 z)) (F4.later ((Below.refl _ _).alloc (Nat.le_refl _) (.cells #[.int .i64 (-1), .int .i64 (200), .int .i64 (201), .int .i64 (0)] 3))) (Below.heap_setCell _ _ _ _ (by show F ≠ g; omega)))
         have RX := hide (FlAt.keep (w' := (wB.alloc (.cells #[.int .i64 (-1), .int .i64 (200), .int .i64 (201), .int .i64 (0)] 3)).setCell ⟨g, k * 3 + 1, none⟩ (.int .i64 z)) (R4.later ((Below.refl _ _).alloc (Nat.le_refl _) (.cells #[.int .i64 (-1), .int .i64 (200), .int .i64 (201), .int .i64 (0)] 3))) (Below.heap_setCell _ _ _ _ (by show w.heap.size + 1 ≠ g; omega)))
         have OX := own_set1 (base := W.heap.size) (g := g) (cp := cp) O5 hk z
         have BX := hide (below_set (Below.refl w.heap.size (wB.alloc (.cells #[.int .i64 (-1), .int .i64 (200), .int .i64 (201), .int .i64 (0)] 3))) g (k * 3 + 1) (by omega) (.int .i64 z))
         have HRX := hide (Rd.below (hr4.later ((Below.refl _ _).alloc (Nat.le_refl _) (.cells #[.int .i64 (-1), .int .i64 (200), .int .i64 (201), .int .i64 (0)] 3))) BX.out hrl)
         have TX := hide (touch_then T4.out BX.out)
         have VX : Hid (VisitsIn ((wB.alloc (.cells #[.int .i64 (-1), .int .i64 (200), .int .i64 (201), .int .i64 (0)] 3)).setCell ⟨g, k * 3 + 1, none⟩ (.int .i64 z)) (some ⟨g, 0, none⟩) (vs.set k (vs[k].1, z, vs[k].2.2)) ∧ (∀ q, (some ⟨g, 0, none⟩ : Option Addr) = some q → w.heap.size ≤ q.block) ∧ (∀ q, (some ⟨g, 0, none⟩ : Option Addr) = some q → q.block ≠ w.heap.size + 1)) :=
           ⟨(OwnV.visits OX).1, fun q hq => by simp at hq; subst hq; show w.heap.size ≤ g; omega, fun q hq => by simp at hq; subst hq; show g ≠ w.heap.size + 1; omega⟩
         clear F4 R4 O4 O5 T4 hr4 ht4 sc sf hz BX OX F3 R3 O3 T3 HR3 Ba PA PB
         go_upto_region 21 with fail
         generalize (wB.alloc (.cells #[.int .i64 (-1), .int .i64 (200), .int .i64 (201), .int .i64 (0)] 3)).setCell ⟨g, k * 3 + 1, none⟩ (.int .i64 z) = X at *
         obtain ⟨fk0, fk1, fk2, fk3, _⟩ := FX.out.cells
         obtain ⟨rk0, rk1, rk2, rk3, rz0, rz1, rz2, rz3⟩ := RX.out.cells
         have B9 := hide (below_set (below_set (below_set (below_set (Below.refl w.heap.size X) (w.heap.size + 1) 0 (by omega) (.string nm)) (w.heap.size + 1) 1 (by omega) (.int .i64 p)) (w.heap.size + 1) 2 (by omega) (.int .i64 l)) (w.heap.size + 1) 3 (by omega) (.slice (some ⟨g, 0, none⟩) vs.length cp))
         have KP : Hid (∀ q, q ≠ w.heap.size + 1 → (((((X).setCell ⟨w.heap.size + 1, 0, none⟩ (.string nm)).setCell ⟨w.heap.size + 1, 1, none⟩ (.int .i64 p)).setCell ⟨w.heap.size + 1, 2, none⟩ (.int .i64 l)).setCell ⟨w.heap.size + 1, 3, none⟩ (.slice (some ⟨g, 0, none⟩) vs.length cp)).heap[q]? = (X).heap[q]?) := fun q hq => by
           rw [Below.heap_setCell _ _ _ _ (by exact hq), Below.heap_setCell _ _ _ _ (by exact hq), Below.heap_setCell _ _ _ _ (by exact hq), Below.heap_setCell _ _ _ _ (by exact hq)]
         have Y9 := (((RX.out.setName nm).setPlan p).setLate l).setVis (.slice (some ⟨g, 0, none⟩) vs.length cp)
         have Zy0 := hide Y9.cells.1
         have Zy1 := hide Y9.cells.2.1
         have Zy2 := hide Y9.cells.2.2.1
         have Zy3 := hide Y9.cells.2.2.2.1
         clear Y9
         go_wp2
         generalize ((((X).setCell ⟨w.heap.size + 1, 0, none⟩ (.string nm)).setCell ⟨w.heap.size + 1, 1, none⟩ (.int .i64 p)).setCell ⟨w.heap.size + 1, 2, none⟩ (.int .i64 l)).setCell ⟨w.heap.size + 1, 3, none⟩ (.slice (some ⟨g, 0, none⟩) vs.length cp) = Y at *
         have y0 := Zy0.out
         have y1 := Zy1.out
         have y2 := Zy2.out
         have y3 := Zy3.out
         exact bodyPost_ret (v := .agg #[.string nm, .int .i64 p, .int .i64 l, .slice (some ⟨g, 0, none⟩) vs.length cp]) (by simp [results, Try.results67, go_sem, y0, y1, y2, y3]) rfl ⟨⟨nm, p, l, (vs.set k (vs[k].1, z, vs[k].2.2)), some ⟨g, 0, none⟩, cp, by rw [List.length_set], hnm, hl0, hl1, (HSM.out.set hk _ _).mono (by omega), VX.out.1.keep (fun q hq => KP.out _ (VX.out.2.2 q hq)) B9.out.size, fun q hq => VX.out.2.1 q hq⟩, (HRX.out.below B9.out hrl).mono (by omega), touch_then TX.out B9.out⟩)
  · have c3 := F3.out.cells.2.2.2.1
    have Ba := hide ((Below.refl w3.heap.size w3).alloc (Nat.le_refl _) (.cells #[.int .i64 (0), .int .i64 (30), .int .i64 (31), .int .i64 (20)] 3)).drew
    have hk0' : (0 : Int) ≤ (k : Int) := by omega
    have hk1' : (k : Int) < (vs.length : Int) := by omega
    have hr3w : r + 1 ≤ w3.heap.size := by omega
    have HFg : F ≠ g := by omega
    have PA := hide (pick_sp (W := (w3.alloc (.cells #[.int .i64 (0), .int .i64 (30), .int .i64 (31), .int .i64 (20)] 3)).drew) r _ F (w.heap.size + 1) w3.heap.size 4 W.heap.size nm p l vs _ (HR3.out.later Ba.out) (F3.out.later Ba.out) (R3.out.later Ba.out) (owns_later O3.out Ba.out) (by omega) (by omega) (by omega) (by omega) (by omega) (by omega) (fun j hj => ints_ex w3 3 [0, 30, 31, 20] #[.int .i64 (0), .int .i64 (30), .int .i64 (31), .int .i64 (20)] rfl j hj))
    have PB := hide (pick_sp0 (W := w3.drew) r _ F (w.heap.size + 1) 4 W.heap.size nm p l vs _ HR3.out.drew (show FlAt w3.drew _ _ _ _ _ from F3.out) (show FlAt w3.drew _ _ _ _ _ from R3.out) (show World.ownsRow w3.drew _ _ _ _ _ _ from O3.out) (by omega) (by omega) (by omega) (by omega) (by omega))
    go_upto_region 18 with fail
    have cL := cell_later Ba.out c3
    go_region_with (first
        | (go_at_call 40; refine PA.out.mono ?_; rintro e wA ⟨j, z, rfl, hj, hz, F4, R4, O4, hr4, ht4⟩; have hj0 : (0 : Int) ≤ (j : Int) := Int.natCast_nonneg j; have hj1 : (j : Int) < 4 := Int.ofNat_lt.2 hj; have cA := F4.cells.2.2.2.1; have sc := (own_cell O4 hk).2.1; have sf := (own_cell O4 hk).2.2)
        | (go_at_call 40; refine PB.out.mono ?_; rintro e wB ⟨j, rfl, hj, F4, R4, O4, hr4, ht4⟩; have hj0 : (0 : Int) ≤ (j : Int) := Int.natCast_nonneg j; have hj1 : (j : Int) < 4 := Int.ofNat_lt.2 hj; obtain ⟨z, hz⟩ := ints_ex wB 3 [0, 30, 31, 20] #[.int .i64 (0), .int .i64 (30), .int .i64 (31), .int .i64 (20)] rfl j hj; have cB := F4.cells.2.2.2.1; have O5 := owns_later O4 ((Below.refl _ _).alloc (Nat.le_refl _) (.cells #[.int .i64 (0), .int .i64 (30), .int .i64 (31), .int .i64 (20)] 3)); have sc := (own_cell O5 hk).2.1; have sf := (own_cell O5 hk).2.2; have cBL := cell_later ((Below.refl _ _).alloc (Nat.le_refl _) (.cells #[.int .i64 (0), .int .i64 (30), .int .i64 (31), .int .i64 (20)] 3)) cB)
        | (fail))
    all_goals first
      | (have T4 := hide (touch_trans (touch_then T3.out (Ba.out.mono (by omega))) ht4)
         have FX := hide (FlAt.keep (w' := (wA).setCell ⟨g, k * 3 + 2, none⟩ (.int .i64 z)) F4 (Below.heap_setCell _ _ _ _ (by show F ≠ g; omega)))
         have RX := hide (FlAt.keep (w' := (wA).setCell ⟨g, k * 3 + 2, none⟩ (.int .i64 z)) R4 (Below.heap_setCell _ _ _ _ (by show w.heap.size + 1 ≠ g; omega)))
         have OX := own_set2 (base := W.heap.size) (g := g) (cp := cp) O4 hk z
         have BX := hide (below_set (Below.refl w.heap.size (wA)) g (k * 3 + 2) (by omega) (.int .i64 z))
         have HRX := hide (Rd.below hr4 BX.out hrl)
         have TX := hide (touch_then T4.out BX.out)
         have VX : Hid (VisitsIn ((wA).setCell ⟨g, k * 3 + 2, none⟩ (.int .i64 z)) (some ⟨g, 0, none⟩) (vs.set k (vs[k].1, vs[k].2.1, z)) ∧ (∀ q, (some ⟨g, 0, none⟩ : Option Addr) = some q → w.heap.size ≤ q.block) ∧ (∀ q, (some ⟨g, 0, none⟩ : Option Addr) = some q → q.block ≠ w.heap.size + 1)) :=
           ⟨(OwnV.visits OX).1, fun q hq => by simp at hq; subst hq; show w.heap.size ≤ g; omega, fun q hq => by simp at hq; subst hq; show g ≠ w.heap.size + 1; omega⟩
         clear F4 R4 O4 T4 hr4 ht4 sc sf hz BX OX F3 R3 O3 T3 HR3 Ba PA PB
         go_upto_region 21 with fail
         generalize (wA).setCell ⟨g, k * 3 + 2, none⟩ (.int .i64 z) = X at *
         obtain ⟨fk0, fk1, fk2, fk3, _⟩ := FX.out.cells
         obtain ⟨rk0, rk1, rk2, rk3, rz0, rz1, rz2, rz3⟩ := RX.out.cells
         have B9 := hide (below_set (below_set (below_set (below_set (Below.refl w.heap.size X) (w.heap.size + 1) 0 (by omega) (.string nm)) (w.heap.size + 1) 1 (by omega) (.int .i64 p)) (w.heap.size + 1) 2 (by omega) (.int .i64 l)) (w.heap.size + 1) 3 (by omega) (.slice (some ⟨g, 0, none⟩) vs.length cp))
         have KP : Hid (∀ q, q ≠ w.heap.size + 1 → (((((X).setCell ⟨w.heap.size + 1, 0, none⟩ (.string nm)).setCell ⟨w.heap.size + 1, 1, none⟩ (.int .i64 p)).setCell ⟨w.heap.size + 1, 2, none⟩ (.int .i64 l)).setCell ⟨w.heap.size + 1, 3, none⟩ (.slice (some ⟨g, 0, none⟩) vs.length cp)).heap[q]? = (X).heap[q]?) := fun q hq => by
           rw [Below.heap_setCell _ _ _ _ (by exact hq), Below.heap_setCell _ _ _ _ (by exact hq), Below.heap_setCell _ _ _ _ (by exact hq), Below.heap_setCell _ _ _ _ (by exact hq)]
         have Y9 := (((RX.out.setName nm).setPlan p).setLate l).setVis (.slice (some ⟨g, 0, none⟩) vs.length cp)
         have Zy0 := hide Y9.cells.1
         have Zy1 := hide Y9.cells.2.1
         have Zy2 := hide Y9.cells.2.2.1
         have Zy3 := hide Y9.cells.2.2.2.1
         clear Y9
         go_wp2
         generalize ((((X).setCell ⟨w.heap.size + 1, 0, none⟩ (.string nm)).setCell ⟨w.heap.size + 1, 1, none⟩ (.int .i64 p)).setCell ⟨w.heap.size + 1, 2, none⟩ (.int .i64 l)).setCell ⟨w.heap.size + 1, 3, none⟩ (.slice (some ⟨g, 0, none⟩) vs.length cp) = Y at *
         have y0 := Zy0.out
         have y1 := Zy1.out
         have y2 := Zy2.out
         have y3 := Zy3.out
         exact bodyPost_ret (v := .agg #[.string nm, .int .i64 p, .int .i64 l, .slice (some ⟨g, 0, none⟩) vs.length cp]) (by simp [results, Try.results67, go_sem, y0, y1, y2, y3]) rfl ⟨⟨nm, p, l, (vs.set k (vs[k].1, vs[k].2.1, z)), some ⟨g, 0, none⟩, cp, by rw [List.length_set], hnm, hl0, hl1, (HSM.out.set hk _ _).mono (by omega), VX.out.1.keep (fun q hq => KP.out _ (VX.out.2.2 q hq)) B9.out.size, fun q hq => VX.out.2.1 q hq⟩, (HRX.out.below B9.out hrl).mono (by omega), touch_then TX.out B9.out⟩)
      | (have T4 := hide (touch_then (touch_trans (touch_drew T3.out) ht4) (((Below.refl _ _).alloc (Nat.le_refl _) (.cells #[.int .i64 (0), .int .i64 (30), .int .i64 (31), .int .i64 (20)] 3)).mono (by have := ht4.size; have : w3.drew.heap.size = w3.heap.size := rfl; have := T3.out.size; omega)))
         have FX := hide (FlAt.keep (w' := (wB.alloc (.cells #[.int .i64 (0), .int .i64 (30), .int .i64 (31), .int .i64 (20)] 3)).setCell ⟨g, k * 3 + 2, none⟩ (.int .i64 z)) (F4.later ((Below.refl _ _).alloc (Nat.le_refl _) (.cells #[.int .i64 (0), .int .i64 (30), .int .i64 (31), .int .i64 (20)] 3))) (Below.heap_setCell _ _ _ _ (by show F ≠ g; omega)))
         have RX := hide (FlAt.keep (w' := (wB.alloc (.cells #[.int .i64 (0), .int .i64 (30), .int .i64 (31), .int .i64 (20)] 3)).setCell ⟨g, k * 3 + 2, none⟩ (.int .i64 z)) (R4.later ((Below.refl _ _).alloc (Nat.le_refl _) (.cells #[.int .i64 (0), .int .i64 (30), .int .i64 (31), .int .i64 (20)] 3))) (Below.heap_setCell _ _ _ _ (by show w.heap.size + 1 ≠ g; omega)))
         have OX := own_set2 (base := W.heap.size) (g := g) (cp := cp) O5 hk z
         have BX := hide (below_set (Below.refl w.heap.size (wB.alloc (.cells #[.int .i64 (0), .int .i64 (30), .int .i64 (31), .int .i64 (20)] 3))) g (k * 3 + 2) (by omega) (.int .i64 z))
         have HRX := hide (Rd.below (hr4.later ((Below.refl _ _).alloc (Nat.le_refl _) (.cells #[.int .i64 (0), .int .i64 (30), .int .i64 (31), .int .i64 (20)] 3))) BX.out hrl)
         have TX := hide (touch_then T4.out BX.out)
         have VX : Hid (VisitsIn ((wB.alloc (.cells #[.int .i64 (0), .int .i64 (30), .int .i64 (31), .int .i64 (20)] 3)).setCell ⟨g, k * 3 + 2, none⟩ (.int .i64 z)) (some ⟨g, 0, none⟩) (vs.set k (vs[k].1, vs[k].2.1, z)) ∧ (∀ q, (some ⟨g, 0, none⟩ : Option Addr) = some q → w.heap.size ≤ q.block) ∧ (∀ q, (some ⟨g, 0, none⟩ : Option Addr) = some q → q.block ≠ w.heap.size + 1)) :=
           ⟨(OwnV.visits OX).1, fun q hq => by simp at hq; subst hq; show w.heap.size ≤ g; omega, fun q hq => by simp at hq; subst hq; show g ≠ w.heap.size + 1; omega⟩
         clear F4 R4 O4 O5 T4 hr4 ht4 sc sf hz BX OX F3 R3 O3 T3 HR3 Ba PA PB
         go_upto_region 21 with fail
         generalize (wB.alloc (.cells #[.int .i64 (0), .int .i64 (30), .int .i64 (31), .int .i64 (20)] 3)).setCell ⟨g, k * 3 + 2, none⟩ (.int .i64 z) = X at *
         obtain ⟨fk0, fk1, fk2, fk3, _⟩ := FX.out.cells
         obtain ⟨rk0, rk1, rk2, rk3, rz0, rz1, rz2, rz3⟩ := RX.out.cells
         have B9 := hide (below_set (below_set (below_set (below_set (Below.refl w.heap.size X) (w.heap.size + 1) 0 (by omega) (.string nm)) (w.heap.size + 1) 1 (by omega) (.int .i64 p)) (w.heap.size + 1) 2 (by omega) (.int .i64 l)) (w.heap.size + 1) 3 (by omega) (.slice (some ⟨g, 0, none⟩) vs.length cp))
         have KP : Hid (∀ q, q ≠ w.heap.size + 1 → (((((X).setCell ⟨w.heap.size + 1, 0, none⟩ (.string nm)).setCell ⟨w.heap.size + 1, 1, none⟩ (.int .i64 p)).setCell ⟨w.heap.size + 1, 2, none⟩ (.int .i64 l)).setCell ⟨w.heap.size + 1, 3, none⟩ (.slice (some ⟨g, 0, none⟩) vs.length cp)).heap[q]? = (X).heap[q]?) := fun q hq => by
           rw [Below.heap_setCell _ _ _ _ (by exact hq), Below.heap_setCell _ _ _ _ (by exact hq), Below.heap_setCell _ _ _ _ (by exact hq), Below.heap_setCell _ _ _ _ (by exact hq)]
         have Y9 := (((RX.out.setName nm).setPlan p).setLate l).setVis (.slice (some ⟨g, 0, none⟩) vs.length cp)
         have Zy0 := hide Y9.cells.1
         have Zy1 := hide Y9.cells.2.1
         have Zy2 := hide Y9.cells.2.2.1
         have Zy3 := hide Y9.cells.2.2.2.1
         clear Y9
         go_wp2
         generalize ((((X).setCell ⟨w.heap.size + 1, 0, none⟩ (.string nm)).setCell ⟨w.heap.size + 1, 1, none⟩ (.int .i64 p)).setCell ⟨w.heap.size + 1, 2, none⟩ (.int .i64 l)).setCell ⟨w.heap.size + 1, 3, none⟩ (.slice (some ⟨g, 0, none⟩) vs.length cp) = Y at *
         have y0 := Zy0.out
         have y1 := Zy1.out
         have y2 := Zy2.out
         have y3 := Zy3.out
         exact bodyPost_ret (v := .agg #[.string nm, .int .i64 p, .int .i64 l, .slice (some ⟨g, 0, none⟩) vs.length cp]) (by simp [results, Try.results67, go_sem, y0, y1, y2, y3]) rfl ⟨⟨nm, p, l, (vs.set k (vs[k].1, vs[k].2.1, z)), some ⟨g, 0, none⟩, cp, by rw [List.length_set], hnm, hl0, hl1, (HSM.out.set hk _ _).mono (by omega), VX.out.1.keep (fun q hq => KP.out _ (VX.out.2.2 q hq)) B9.out.size, fun q hq => VX.out.2.1 q hq⟩, (HRX.out.below B9.out hrl).mono (by omega), touch_then TX.out B9.out⟩)
  · have c0 := F3.out.cells.2.2.2.1
    have z0 := F3.out.cells.2.2.2.2.2.2.2
    have hkc : k ≤ cp := by
      obtain ⟨a', c', e', q1, _⟩ := owns_slice O3.out
      simp at e'
      omega
    have FX := hide (F3.out.setVis (.slice (some ⟨g, 0, none⟩) k cp))
    have RX := hide (FlAt.keep (w' := w3.setCell ⟨F, 3, none⟩ (.slice (some ⟨g, 0, none⟩) k cp)) R3.out (Below.heap_setCell _ _ _ _ (by show w.heap.size + 1 ≠ F; omega)))
    have OX := owns_keep (w' := w3.setCell ⟨F, 3, none⟩ (.slice (some ⟨g, 0, none⟩) k cp)) O3.out (fun q hq => Below.heap_setCell _ _ _ _ (by simp [Value.ownBlock] at hq; show q ≠ F; omega))
    have BX := hide (below_set (Below.refl w.heap.size w3) F 3 (by omega) (.slice (some ⟨g, 0, none⟩) k cp))
    have HRX := hide (HR3.out.below BX.out hrl)
    have TX := hide (touch_then T3.out BX.out)
    have VX : Hid (VisitsIn (w3.setCell ⟨F, 3, none⟩ (.slice (some ⟨g, 0, none⟩) k cp)) (some ⟨g, 0, none⟩) (vs.take k) ∧ (∀ q, (some ⟨g, 0, none⟩ : Option Addr) = some q → w.heap.size ≤ q.block) ∧ (∀ q, (some ⟨g, 0, none⟩ : Option Addr) = some q → q.block ≠ w.heap.size + 1)) :=
      ⟨vis_take (OwnV.visits OX).1 k, fun q hq => by simp at hq; subst hq; show w.heap.size ≤ g; omega, fun q hq => by simp at hq; subst hq; show g ≠ w.heap.size + 1; omega⟩
    have hlen : (vs.take k).length = k := by rw [List.length_take]; omega
    have HST : Hid (VisSm 6 (vs.take k)) := ⟨by rw [hlen]; omega, fun v hv => HSM.out.2 v (List.mem_of_mem_take hv)⟩
    clear OX BX F3 R3 O3 T3 HR3
    go_upto_region 21 with fail
    generalize w3.setCell ⟨F, 3, none⟩ (.slice (some ⟨g, 0, none⟩) k cp) = X at *
    obtain ⟨fk0, fk1, fk2, fk3, _⟩ := FX.out.cells
    obtain ⟨rk0, rk1, rk2, rk3, rz0, rz1, rz2, rz3⟩ := RX.out.cells
    have B9 := hide (below_set (below_set (below_set (below_set (Below.refl w.heap.size X) (w.heap.size + 1) 0 (by omega) (.string nm)) (w.heap.size + 1) 1 (by omega) (.int .i64 p)) (w.heap.size + 1) 2 (by omega) (.int .i64 l)) (w.heap.size + 1) 3 (by omega) (.slice (some ⟨g, 0, none⟩) k cp))
    have KP : Hid (∀ q, q ≠ w.heap.size + 1 → (((((X).setCell ⟨w.heap.size + 1, 0, none⟩ (.string nm)).setCell ⟨w.heap.size + 1, 1, none⟩ (.int .i64 p)).setCell ⟨w.heap.size + 1, 2, none⟩ (.int .i64 l)).setCell ⟨w.heap.size + 1, 3, none⟩ (.slice (some ⟨g, 0, none⟩) k cp)).heap[q]? = (X).heap[q]?) := fun q hq => by
      rw [Below.heap_setCell _ _ _ _ (by exact hq), Below.heap_setCell _ _ _ _ (by exact hq), Below.heap_setCell _ _ _ _ (by exact hq), Below.heap_setCell _ _ _ _ (by exact hq)]
    have Y9 := (((RX.out.setName nm).setPlan p).setLate l).setVis (.slice (some ⟨g, 0, none⟩) k cp)
    have Zy0 := hide Y9.cells.1
    have Zy1 := hide Y9.cells.2.1
    have Zy2 := hide Y9.cells.2.2.1
    have Zy3 := hide Y9.cells.2.2.2.1
    clear Y9
    go_wp2
    generalize ((((X).setCell ⟨w.heap.size + 1, 0, none⟩ (.string nm)).setCell ⟨w.heap.size + 1, 1, none⟩ (.int .i64 p)).setCell ⟨w.heap.size + 1, 2, none⟩ (.int .i64 l)).setCell ⟨w.heap.size + 1, 3, none⟩ (.slice (some ⟨g, 0, none⟩) k cp) = Y at *
    have y0 := Zy0.out
    have y1 := Zy1.out
    have y2 := Zy2.out
    have y3 := Zy3.out
    exact bodyPost_ret (v := .agg #[.string nm, .int .i64 p, .int .i64 l, .slice (some ⟨g, 0, none⟩) k cp]) (by simp [results, Try.results67, go_sem, y0, y1, y2, y3]) rfl ⟨⟨nm, p, l, vs.take k, some ⟨g, 0, none⟩, cp, by rw [hlen], hnm, hl0, hl1, HST.out, VX.out.1.keep (fun q hq => KP.out _ (VX.out.2.2 q hq)) B9.out.size, fun q hq => VX.out.2.1 q hq⟩, (HRX.out.below B9.out hrl).mono (by omega), touch_then TX.out B9.out⟩
  · go_wp2_with fail
    refine (pick_any r _ _ _ HR3.out (by omega) (by omega)).mono ?_
    rintro e w4 ⟨⟨q8, rfl, hq80, hq81⟩, hr4, ht4⟩
    have F4 := hide (F3.out.touch ht4 (by omega))
    have R4 := hide (R3.out.touch ht4 (by omega))
    have O4 := hide (owns_touch O3.out ht4 (by omega))
    have T4 := hide (touch_trans T3.out ht4)
    have HR4 := hide hr4
    have hF4 := F4.out.lt
    clear hr4 ht4 F3 R3 O3 T3 HR3
    obtain ⟨q9, rfl⟩ := Int.eq_ofNat_of_zero_le hq80
    go_wp2_with fail
    go_loopw [8] (fun _ wr => ∃ (m2 g2 cp2 : Nat) (vs2 : List Vis), vs2.length = m2 + 1 ∧ m2 + 1 ≤ 5 + q9 ∧ g2 ≠ F ∧ g2 ≠ w.heap.size + 1 ∧ w.heap.size ≤ g2 ∧ F < wr.heap.size ∧ Hid (FlAt wr F nm p l (.slice (some ⟨g2, 0, none⟩) (m2 + 1) cp2)) ∧ Hid (FlAt wr (w.heap.size + 1) ⟨#[]⟩ 0 0 (.slice none 0 0)) ∧ Hid (OwnV wr w.heap.size (.slice (some ⟨g2, 0, none⟩) (m2 + 1) cp2) vs2) ∧ Hid (VisSm 6 vs2) ∧ Hid (Rd wr r (N + 3)) ∧ Hid (Touch r (r + 1) w wr)) (fun _ wr => match wr.cell? ⟨F, 3, none⟩ with | some (.slice _ n _) => 10 - n | _ => 0)
    case atStart => exact ⟨vs.length - 1, g, cp, vs, by omega, by omega, by omega, by omega, by omega, hF4, by show FlAt _ _ _ _ _ _; rw [show vs.length - 1 + 1 = vs.length by omega]; exact F4.out, R4.out, by show OwnV _ _ _ _; rw [show vs.length - 1 + 1 = vs.length by omega]; exact owns_base O4.out (by omega), HSM.out.mono (by omega), HR4.out, T4.out⟩
    case round =>
      obtain ⟨m2, g2, cp2, vs2, hm2, hm5, hgF, hgR, hgw, hFw, FR, RR, OR, SMR, HRR, TR⟩ := hrel
      clear F4 R4 O4 T4 HR4
      have c3 := FR.out.cells.2.2.2.1
      by_cases hlt : m2 + 1 < 5 + q9
      · have hlt' : ((m2 + 1 : Nat) : Int) < 5 + (q9 : Int) := by omega
        have hlt2 : (m2 : Int) + 1 < 5 + (q9 : Int) := by omega
        obtain ⟨hvi, _⟩ := OwnV.visits OR.out
        obtain ⟨b, off, hbe, hb, v0, v1, v2⟩ := hvi m2 (by omega)
        simp at hbe
        obtain ⟨rfl, rfl⟩ := hbe
        rw [Nat.zero_add] at v0 v1 v2
        have hv8 := SMR.out.2 _ (List.getElem_mem (show m2 < vs2.length by omega))
        generalize vs2[m2]'(by omega) = lv at v0 v1 v2 hv8
        clear hvi
        go_upto_region 8 with fail
        generalize wrap64 (lv.2.1 + lv.2.2) = ta
        obtain ⟨W8, hW, x0, x1, x2, hWb⟩ := alloc3 wr (.string lv.1) (.int .i64 ta) (.int .i64 lv.2.2) 110
        rw [hW]
        have hWs : wr.heap.size + 1 = W8.heap.size := by rw [← hW]; simp
        have FW := hide (FR.out.later hWb)
        have RW := hide (RR.out.later hWb)
        have OW : Hid (World.ownsRow W8 w.heap.size 110 3 (.slice (some ⟨g2, 0, none⟩) (m2 + 1) cp2) (m2 + 1) (visVals vs2)) := by have h9 := owns_later OR.out hWb; rw [hm2] at h9; exact h9
        have HRW := hide (HRR.out.later hWb)
        have hTs := TR.out.size
        have TW := hide (touch_then TR.out (hWb.mono (by omega)))
        have cR := hide c3
        clear hW OR FR RR HRR TR hWb c3
        have c3 := FW.out.cells.2.2.2.1
        generalize wr.heap.size = V at *
        have hneF : ¬ (some g2 = some F) := by simp; omega
        have hneR : ¬ (some g2 = some (w.heap.size + 1)) := by simp; omega
        go_wp2_with (first
          | (at_builtin; refine wpList_append_lies _ rfl _ _ 72 rfl w.heap.size 110 i0 (.agg #[.string ⟨#[]⟩, .int .i64 0, .int .i64 0]) 3 32 Try.underlying72 hi iz0 iz1 iz2 rfl (by decide) _ _ _ rfl (World.ownsRow.alloc OW.out _) ⟨W8.heap.size, 0, none⟩ 1 1 [.string lv.1, .int .i64 ta, .int .i64 lv.2.2] rfl rfl (cell_three_new _ _ _ _ _) (fun x hx => by simp at hx; rcases hx with rfl | rfl | rfl <;> rfl) (by decide) (by unfold maxLen; omega) (by omega) (by simp; omega) (W8.heap.size + 1) (by simp) ?_; intro g3 cp3 wE hownE hgrowE hatE hltE; have FE := hide (FW.out.grown hgrowE (fun hh => hneF hh)); have RE := hide (RW.out.grown hgrowE (fun hh => hneR hh)); have c3E := FE.out.cells.2.2.2.1; have z3E := FE.out.cells.2.2.2.2.2.2.2))
        have hg3F : g3 ≠ F := by
          rcases hatE with he | he
          · have he2 : some g2 = some g3 := he
            simp at he2; omega
          · omega
        have hg3R : g3 ≠ w.heap.size + 1 := by
          rcases hatE with he | he
          · have he2 : some g2 = some g3 := he
            simp at he2; omega
          · omega
        have hg3w : w.heap.size ≤ g3 := (hownE.lt g3 rfl).1
        have FX := hide (FE.out.setVis (.slice (some ⟨g3, 0, none⟩) (m2 + 1 + 1) cp3))
        have RX := hide (FlAt.keep (w' := wE.setCell ⟨F, 3, none⟩ (.slice (some ⟨g3, 0, none⟩) (m2 + 1 + 1) cp3)) RE.out (Below.heap_setCell _ _ _ _ (by show w.heap.size + 1 ≠ F; omega)))
        have OX : Hid (OwnV (wE.setCell ⟨F, 3, none⟩ (.slice (some ⟨g3, 0, none⟩) (m2 + 1 + 1) cp3)) w.heap.size (.slice (some ⟨g3, 0, none⟩) (m2 + 1 + 1) cp3) (vs2 ++ [(lv.1, ta, lv.2.2)])) := by
          show World.ownsRow _ _ _ _ _ _ _
          rw [visVals_snoc, List.length_append, hm2]
          exact owns_keep hownE (fun q hq => Below.heap_setCell _ _ _ _ (by simp [Value.ownBlock] at hq; show q ≠ F; omega))
        have BX := hide (below_set (below_grow (a := w) (w := W8) (by omega) hgrowE (fun q hq => (World.ownsRow.lt OW.out q hq).1)) F 3 (by omega) (.slice (some ⟨g3, 0, none⟩) (m2 + 1 + 1) cp3))
        have HRX := hide (HRW.out.below BX.out hrl)
        have TX := hide (touch_then TW.out BX.out)
        have SM2 : Hid (VisSm 6 (vs2 ++ [(lv.1, ta, lv.2.2)])) := by
          obtain ⟨g1, g2⟩ := SMR.out
          refine ⟨by simp; omega, fun c hc => ?_⟩
          rcases List.mem_append.1 hc with hc | hc
          · exact g2 c hc
          · simp at hc; subst hc; exact hv8
        have cX := FX.out.cells.2.2.2.1
        have cW := hide c3
        go_roundw
        case rel => exact ⟨m2 + 1, g3, cp3, vs2 ++ [(lv.1, ta, lv.2.2)], by simp [hm2], by omega, hg3F, hg3R, hg3w, FX.out.lt, FX.out, RX.out, OX.out, SM2.out, HRX.out, TX.out⟩
        case measure =>
          have cR' := cR.out
          rw [cX, cR']
          show 10 - (m2 + 1 + 1) < 10 - (m2 + 1)
          omega
      · have FX := FR
        have RX := RR
        have HRX := HRR
        have TX := TR
        have VX : Hid (VisitsIn wr (some ⟨g2, 0, none⟩) vs2 ∧ (∀ q, (some ⟨g2, 0, none⟩ : Option Addr) = some q → w.heap.size ≤ q.block) ∧ (∀ q, (some ⟨g2, 0, none⟩ : Option Addr) = some q → q.block ≠ w.heap.size + 1)) :=
          ⟨(OwnV.visits OR.out).1, fun q hq => by simp at hq; subst hq; exact hgw, fun q hq => by simp at hq; subst hq; exact hgR⟩
        have hlt' : ¬ ((m2 + 1 : Nat) : Int) < 5 + (q9 : Int) := by omega
        have hlt2 : ¬ (m2 : Int) + 1 < 5 + (q9 : Int) := by omega
        go_upto_region 21 with fail
        obtain ⟨fk0, fk1, fk2, fk3, _⟩ := FX.out.cells
        obtain ⟨rk0, rk1, rk2, rk3, rz0, rz1, rz2, rz3⟩ := RX.out.cells
        have B9 := hide (below_set (below_set (below_set (below_set (Below.refl w.heap.size wr) (w.heap.size + 1) 0 (by omega) (.string nm)) (w.heap.size + 1) 1 (by omega) (.int .i64 p)) (w.heap.size + 1) 2 (by omega) (.int .i64 l)) (w.heap.size + 1) 3 (by omega) (.slice (some ⟨g2, 0, none⟩) (m2 + 1) cp2))
        have KP : Hid (∀ q, q ≠ w.heap.size + 1 → (((((wr).setCell ⟨w.heap.size + 1, 0, none⟩ (.string nm)).setCell ⟨w.heap.size + 1, 1, none⟩ (.int .i64 p)).setCell ⟨w.heap.size + 1, 2, none⟩ (.int .i64 l)).setCell ⟨w.heap.size + 1, 3, none⟩ (.slice (some ⟨g2, 0, none⟩) (m2 + 1) cp2)).heap[q]? = (wr).heap[q]?) := fun q hq => by
          rw [Below.heap_setCell _ _ _ _ (by exact hq), Below.heap_setCell _ _ _ _ (by exact hq), Below.heap_setCell _ _ _ _ (by exact hq), Below.heap_setCell _ _ _ _ (by exact hq)]
        have Y9 := (((RX.out.setName nm).setPlan p).setLate l).setVis (.slice (some ⟨g2, 0, none⟩) (m2 + 1) cp2)
        have Zy0 := hide Y9.cells.1
        have Zy1 := hide Y9.cells.2.1
        have Zy2 := hide Y9.cells.2.2.1
        have Zy3 := hide Y9.cells.2.2.2.1
        clear Y9
        go_wp2
        generalize ((((wr).setCell ⟨w.heap.size + 1, 0, none⟩ (.string nm)).setCell ⟨w.heap.size + 1, 1, none⟩ (.int .i64 p)).setCell ⟨w.heap.size + 1, 2, none⟩ (.int .i64 l)).setCell ⟨w.heap.size + 1, 3, none⟩ (.slice (some ⟨g2, 0, none⟩) (m2 + 1) cp2) = Y at *
        have y0 := Zy0.out
        have y1 := Zy1.out
        have y2 := Zy2.out
        have y3 := Zy3.out
        exact bodyPost_ret (v := .agg #[.string nm, .int .i64 p, .int .i64 l, .slice (some ⟨g2, 0, none⟩) (m2 + 1) cp2]) (by simp [results, Try.results67, go_sem, y0, y1, y2, y3]) rfl ⟨⟨nm, p, l, vs2, some ⟨g2, 0, none⟩, ⟨cp2, by rw [hm2]⟩, hnm, hl0, hl1, SMR.out, VX.out.1.keep (fun q hq => KP.out _ (VX.out.2.2 q hq)) B9.out.size, fun q hq => VX.out.2.1 q hq⟩, (HRX.out.below B9.out hrl).mono (by omega), touch_then TX.out B9.out⟩

end Go.Proofs.Ytciacofibljmoaa
