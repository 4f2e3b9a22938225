/- A flight is copied. -/
import Derived.Test.YtciacofibljmoaaDraw5
namespace Go.Proofs.Ytciacofibljmoaa
open Go.RowKit

theorem vis_news {w : World} {a : Option Addr} {vs : List Vis} (h : VisitsIn w a vs) (h1 : 1 ≤ vs.length) : ∃ b off, a = some ⟨b, off, none⟩ ∧ ∀ j u, (visVals vs)[j]? = some u → w.cell? ((⟨b, off, none⟩ : Addr).add j) = some u := by
  obtain ⟨b, off, e, hb, _⟩ := h 0 (by omega)
  refine ⟨b, off, e, fun j u hj => ?_⟩
  have hlt : j < (visVals vs).length := by
    rcases Nat.lt_or_ge j (visVals vs).length with hh | hh
    · exact hh
    · rw [List.getElem?_eq_none hh] at hj; simp at hj
  rw [visVals_len] at hlt
  have hi : j / 3 < vs.length := by omega
  obtain ⟨b', off', e', _, c0, c1, c2⟩ := h (j / 3) hi
  rw [e] at e'
  simp at e'
  obtain ⟨rfl, rfl⟩ := e'
  obtain ⟨q0, q1, q2⟩ := visVals_at vs (j / 3) hi
  have ha : (⟨b, off, none⟩ : Addr).add j = ⟨b, off + j, none⟩ := by
    by_cases hz : j = 0
    · subst hz; rfl
    · simp [Addr.add, hz]
  rw [ha]
  have hm : j % 3 = 0 ∨ j % 3 = 1 ∨ j % 3 = 2 := by omega
  rcases hm with hm | hm | hm
  · rw [show j / 3 * 3 = j by omega] at q0 c0
    rw [hj] at q0
    rw [c0, ← q0]
  · rw [show j / 3 * 3 + 1 = j by omega] at q1
    rw [show off + j / 3 * 3 + 1 = off + j by omega] at c1
    rw [hj] at q1
    rw [c1, ← q1]
  · rw [show j / 3 * 3 + 2 = j by omega] at q2
    rw [show off + j / 3 * 3 + 2 = off + j by omega] at c2
    rw [hj] at q2
    rw [c2, ← q2]
theorem visVals_one (vs : List Vis) : ∀ u ∈ visVals vs, u.oneCell' = true := fun u hu => by
  unfold visVals at hu
  obtain ⟨v, _, hv⟩ := List.mem_flatMap.1 hu
  simp at hv
  rcases hv with rfl | rfl | rfl <;> rfl
theorem FlAt.newAt (w : World) (B : Nat) (hB : w.heap.size = B) (nm : ByteArray) (p l : Int) (v : Value) : FlAt (w.alloc (.cells #[.string nm, .int .i64 p, .int .i64 l, v] 74)) B nm p l v := by
  subst hB; exact FlAt.new w nm p l v
theorem own_emptyV (w : World) : OwnV (w.alloc (.cells #[] 110)) w.heap.size (.slice (some ⟨w.heap.size, 0, none⟩) 0 0) [] := World.ownsRow_made w #[] 0 (Nat.le_refl _) (Nat.zero_le _) (by simp)

set_option maxRecDepth 100000 in
set_option maxHeartbeats 3200000 in
theorem l1Flight_any (nm : ByteArray) (p l : Int) (vs : List Vis) (av : Option Addr) (cv : Nat) (w : World) (hv : VisitsIn w av vs) (h1 : 1 ≤ vs.length) (h2 : vs.length ≤ 1000) :
    Calls Try.prog 82 #[.agg #[.string nm, .int .i64 p, .int .i64 l, .slice av vs.length cv]] w fun e w' =>
      ∃ g cp, e = .returned (.agg #[.string nm, .int .i64 p, .int .i64 l, .slice (some ⟨g, 0, none⟩) vs.length cp]) ∧ OwnV w' w.heap.size (.slice (some ⟨g, 0, none⟩) vs.length cp) vs ∧ Below w.heap.size w w' := by
  obtain ⟨i0, hi, iz0, iz1, iz2⟩ := info_parts info_visit
  have HV := hide hv
  clear hv
  go_enter Try.func82, Try.ntmps82
  go_upto_region 1 with fail
  have F0 := hide ((FlAt.new w nm p l (.slice av vs.length cv)).later ((Below.refl _ _).alloc (Nat.le_refl _) (.cells #[.string ⟨#[]⟩, .int .i64 0, .int .i64 0, .slice none 0 0] 74)))
  have R0 := hide (FlAt.newAt (w.alloc (.cells #[.string nm, .int .i64 p, .int .i64 l, .slice av vs.length cv] 74)) (w.heap.size + 1) (by simp) ⟨#[]⟩ 0 0 (.slice none 0 0))
  have B0 := hide (((Below.refl w.heap.size w).alloc (Nat.le_refl _) (.cells #[.string nm, .int .i64 p, .int .i64 l, .slice av vs.length cv] 74)).alloc (by simp) (.cells #[.string ⟨#[]⟩, .int .i64 0, .int .i64 0, .slice none 0 0] 74))
  generalize (w.alloc (.cells #[.string nm, .int .i64 p, .int .i64 l, .slice av vs.length cv] 74)).alloc (.cells #[.string ⟨#[]⟩, .int .i64 0, .int .i64 0, .slice none 0 0] 74) = W at *
  obtain ⟨b, off, rfl, hnews⟩ := vis_news (HV.out.later B0.out) h1
  have HN := hide hnews
  have hRW := R0.out.lt
  clear hnews
  obtain ⟨c0, c1, c2, c3, z0, z1, z2, z3⟩ := F0.out.cells
  have e3 : (W.alloc (.cells #[] 110)).cell? ⟨w.heap.size, 3, none⟩ = some (.slice (some ⟨b, off, none⟩) vs.length cv) := cell_later ((Below.refl _ _).alloc (Nat.le_refl _) _) c3
  have n3 : ¬ w.heap.size = W.heap.size := by omega
  have hnF : ¬ (some W.heap.size = some w.heap.size) := by simp; omega
  have hnR : ¬ (some W.heap.size = some (w.heap.size + 1)) := by simp; omega
  have n4 : ¬ W.heap.size = w.heap.size := by omega
  go_upto_region 2 with (first
    | (at_builtin; refine wpList_append_lies _ rfl _ _ 72 rfl W.heap.size 110 i0 (.agg #[.string ⟨#[]⟩, .int .i64 0, .int .i64 0]) 3 32 Try.underlying72 hi iz0 iz1 iz2 rfl (by decide) _ 0 [] rfl (own_emptyV W) ⟨b, off, none⟩ vs.length cv (visVals vs) rfl (visVals_len vs) (fun j u hj => cell_later ((Below.refl _ _).alloc (Nat.le_refl _) _) (HN.out j u hj)) (visVals_one vs) (by omega) (by unfold maxLen; omega) (by omega) (by simp) (W.heap.size + 1) (by simp) ?_; intro g cp wE hownE hgrowE hatE hltE; have FE := hide (F0.out.grown hgrowE (fun hh => hnF (show some W.heap.size = some w.heap.size from hh))); have RE := hide (R0.out.grown hgrowE (fun hh => hnR (show some W.heap.size = some (w.heap.size + 1) from hh))); have d0 := FE.out.cells.1; have d1 := FE.out.cells.2.1; have d2 := FE.out.cells.2.2.1; have d3 := FE.out.cells.2.2.2.1; have y3 := FE.out.cells.2.2.2.2.2.2.2))
  have hgF : g ≠ w.heap.size := by
    rcases hatE with he | he
    · have he2 : some W.heap.size = some g := he
      simp at he2; omega
    · omega
  have hgR : g ≠ w.heap.size + 1 := by
    rcases hatE with he | he
    · have he2 : some W.heap.size = some g := he
      simp at he2; omega
    · omega
  have hgb : W.heap.size ≤ g := by
    rcases hatE with he | he
    · have he2 : some W.heap.size = some g := he
      simp at he2; omega
    · omega
  have FX := hide (FE.out.setVis (.slice (some ⟨g, 0, none⟩) vs.length cp))
  have RX := hide (RE.out.keep (w' := wE.setCell ⟨w.heap.size, 3, none⟩ (.slice (some ⟨g, 0, none⟩) vs.length cp)) (Below.heap_setCell _ _ _ _ (by show w.heap.size + 1 ≠ w.heap.size; omega)))
  have hs0 := B0.out.size
  have hown2 : World.ownsRow wE W.heap.size 110 3 (.slice (some ⟨g, 0, none⟩) vs.length cp) vs.length (visVals vs) := by simpa using hownE
  have OX := hide (owns_base (owns_keep (w' := wE.setCell ⟨w.heap.size, 3, none⟩ (.slice (some ⟨g, 0, none⟩) vs.length cp)) hown2 (fun q hq => Below.heap_setCell _ _ _ _ (by simp [Value.ownBlock] at hq; show q ≠ w.heap.size; omega))) hs0)
  have BX := hide (below_set (B0.out.trans (below_grow (a := w) (w := W) hs0 hgrowE (fun q hq => by have he2 : some W.heap.size = some q := hq; simp at he2; omega))) w.heap.size 3 (Nat.le_refl _) (.slice (some ⟨g, 0, none⟩) vs.length cp))
  clear hownE hgrowE hatE hltE FE RE d0 d1 d2 d3 y3 c0 c1 c2 c3 z0 z1 z2 z3 e3 n3 n4 hnF hnR HN F0 R0 hown2
  generalize wE.setCell ⟨w.heap.size, 3, none⟩ (.slice (some ⟨g, 0, none⟩) vs.length cp) = X at *
  obtain ⟨f0, f1, f2, f3, _⟩ := FX.out.cells
  obtain ⟨k0, k1, k2, k3, g0, g1, g2, g3⟩ := RX.out.cells
  have B9 := hide (below_set (below_set (below_set (below_set (Below.refl w.heap.size X) (w.heap.size + 1) 0 (by omega) (.string nm)) (w.heap.size + 1) 1 (by omega) (.int .i64 p)) (w.heap.size + 1) 2 (by omega) (.int .i64 l)) (w.heap.size + 1) 3 (by omega) (.slice (some ⟨g, 0, none⟩) vs.length cp))
  have KP : Hid (∀ q, q ≠ w.heap.size + 1 → (((((X).setCell ⟨w.heap.size + 1, 0, none⟩ (.string nm)).setCell ⟨w.heap.size + 1, 1, none⟩ (.int .i64 p)).setCell ⟨w.heap.size + 1, 2, none⟩ (.int .i64 l)).setCell ⟨w.heap.size + 1, 3, none⟩ (.slice (some ⟨g, 0, none⟩) vs.length cp)).heap[q]? = (X).heap[q]?) := fun q hq => by
    rw [Below.heap_setCell _ _ _ _ (by exact hq), Below.heap_setCell _ _ _ _ (by exact hq), Below.heap_setCell _ _ _ _ (by exact hq), Below.heap_setCell _ _ _ _ (by exact hq)]
  have Y9 := (((RX.out.setName nm).setPlan p).setLate l).setVis (.slice (some ⟨g, 0, none⟩) vs.length cp)
  have Z0 := hide Y9.cells.1
  have Z1 := hide Y9.cells.2.1
  have Z2 := hide Y9.cells.2.2.1
  have Z3 := hide Y9.cells.2.2.2.1
  clear Y9
  go_wp2
  generalize ((((X).setCell ⟨w.heap.size + 1, 0, none⟩ (.string nm)).setCell ⟨w.heap.size + 1, 1, none⟩ (.int .i64 p)).setCell ⟨w.heap.size + 1, 2, none⟩ (.int .i64 l)).setCell ⟨w.heap.size + 1, 3, none⟩ (.slice (some ⟨g, 0, none⟩) vs.length cp) = Y at *
  have y0 := Z0.out
  have y1 := Z1.out
  have y2 := Z2.out
  have y3 := Z3.out
  exact bodyPost_ret (v := .agg #[.string nm, .int .i64 p, .int .i64 l, .slice (some ⟨g, 0, none⟩) vs.length cp]) (by simp [results, Try.results82, go_sem, y0, y1, y2, y3]) rfl ⟨g, cp, rfl, owns_keep OX.out (fun q hq => KP.out q (by simp [Value.ownBlock] at hq; omega)), BX.out.trans B9.out⟩

end Go.Proofs.Ytciacofibljmoaa
