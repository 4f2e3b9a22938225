/- Any flights are drawn. -/
import Derived.Test.YtciacofibljmoaaDraw8
namespace Go.Proofs.Ytciacofibljmoaa
open Go.RowKit

theorem flVals_set : ∀ (gs : List FlV) (k : Nat) (_ : k < gs.length) (x : FlV), ((((flVals gs).set (k * 4) (.string x.1.1)).set (k * 4 + 1) (.int .i64 x.1.2.1)).set (k * 4 + 2) (.int .i64 x.1.2.2.1)).set (k * 4 + 3) (.slice x.2.1 x.1.2.2.2.length x.2.2) = flVals (gs.set k x)
  | [], k, hk, _ => by simp at hk
  | c :: cs, 0, _, z => by simp [flVals]
  | c :: cs, k + 1, hk, z => by
    have ih := flVals_set cs k (by simpa using hk) z
    rw [show (k + 1) * 4 = k * 4 + 1 + 1 + 1 + 1 by omega, show k * 4 + 1 + 1 + 1 + 1 + 1 = k * 4 + 1 + 1 + 1 + 1 + 1 by omega, show k * 4 + 1 + 1 + 1 + 1 + 2 = k * 4 + 2 + 1 + 1 + 1 + 1 by omega, show k * 4 + 1 + 1 + 1 + 1 + 3 = k * 4 + 3 + 1 + 1 + 1 + 1 by omega]
    simpa [flVals] using ih
theorem owns_set4 {w : World} {base g cp : Nat} {gs : List FlV} (h : World.ownsRow w base 74 4 (.slice (some ⟨g, 0, none⟩) gs.length cp) gs.length (flVals gs)) {k : Nat} (hk : k < gs.length) (x : FlV) :
    World.ownsRow ((((w.setCell ⟨g, k * 4, none⟩ (.string x.1.1)).setCell ⟨g, k * 4 + 1, none⟩ (.int .i64 x.1.2.1)).setCell ⟨g, k * 4 + 2, none⟩ (.int .i64 x.1.2.2.1)).setCell ⟨g, k * 4 + 3, none⟩ (.slice x.2.1 x.1.2.2.2.length x.2.2)) base 74 4 (.slice (some ⟨g, 0, none⟩) gs.length cp) gs.length (flVals (gs.set k x)) := by
  have h1 := (World.ownsRow.stored h (k * 4) (.string x.1.1)).1
  have h2 := (World.ownsRow.stored h1 (k * 4 + 1) (.int .i64 x.1.2.1)).1
  have h3 := (World.ownsRow.stored h2 (k * 4 + 2) (.int .i64 x.1.2.2.1)).1
  have h4 := (World.ownsRow.stored h3 (k * 4 + 3) (.slice x.2.1 x.1.2.2.2.length x.2.2)).1
  rw [flVals_set gs k hk x] at h4
  exact h4
theorem own_cells4 {w : World} {base g n c : Nat} {gs : List FlV} (h : World.ownsRow w base 74 4 (.slice (some ⟨g, 0, none⟩) n c) n (flVals gs)) {k : Nat} (hk : k < gs.length) :
    (w.cell? ⟨g, k * 4, none⟩ = some (.string gs[k].1.1) ∧ w.frozen? ⟨g, k * 4, none⟩ = false) ∧ (w.cell? ⟨g, k * 4 + 1, none⟩ = some (.int .i64 gs[k].1.2.1) ∧ w.frozen? ⟨g, k * 4 + 1, none⟩ = false) ∧ (w.cell? ⟨g, k * 4 + 2, none⟩ = some (.int .i64 gs[k].1.2.2.1) ∧ w.frozen? ⟨g, k * 4 + 2, none⟩ = false) ∧ (w.cell? ⟨g, k * 4 + 3, none⟩ = some (.slice gs[k].2.1 gs[k].1.2.2.2.length gs[k].2.2) ∧ w.frozen? ⟨g, k * 4 + 3, none⟩ = false) := by
  obtain ⟨a', c', e, _, _, _, hc⟩ := owns_slice h
  simp at e
  obtain ⟨rfl, _⟩ := e
  obtain ⟨q0, q1, q2, q3⟩ := flVals_at gs k hk
  obtain ⟨g0, e0, _, _, r0, s0⟩ := hc _ _ q0
  obtain ⟨g1, e1, _, _, r1, s1⟩ := hc _ _ q1
  obtain ⟨g2, e2, _, _, r2, s2⟩ := hc _ _ q2
  obtain ⟨g3, e3, _, _, r3, s3⟩ := hc _ _ q3
  simp at e0 e1 e2 e3
  subst e0
  subst e1
  subst e2
  subst e3
  exact ⟨⟨r0, s0⟩, ⟨r1, s1⟩, ⟨r2, s2⟩, r3, s3⟩
theorem FlSm.mono {m n : Nat} {f : Fli} (h : FlSm m f) (hn : m ≤ n) : FlSm n f := ⟨h.1, h.2.1, h.2.2.1, h.2.2.2.mono hn⟩

set_option maxRecDepth 100000 in
set_option maxHeartbeats 3200000 in
theorem l6AnyFlights_any (r N : Nat) (w : World) (h : Rd w r N) (hN : N ≤ 700000) :
    Calls Try.prog 36 #[.pointer (some ⟨r, 0, none⟩)] w fun e w' => (∃ v gs, e = .returned v ∧ OwnF w' w.heap.size v gs ∧ gs.length ≤ 8 ∧ ∀ x ∈ gs, FlSm 6 x.1) ∧ Rd w' r (N + 180) ∧ Touch r (r + 1) w w' := by
  have hrl := h.lt
  have HR := hide h
  clear h
  go_enter Try.func36, Try.ntmps36
  go_wp2_with fail
  refine (l6Flights_any r N w HR.out (by omega)).mono ?_
  rintro e w1 ⟨⟨v, gs, rfl, hof, hg8, hsm⟩, hr1, ht1⟩
  obtain ⟨av, cv, rfl, hcv, _⟩ := hof.form
  rw [List.length_map] at *
  have HOF := hide hof
  have HSM := hide hsm
  have HR1 := hide hr1
  have HT1 := hide ht1
  clear hof hsm hr1 ht1 HR
  by_cases h0 : gs.length < 1
  · have h0' := hide h0
    have hd : decide ((0 : Int) < (gs.length : Int)) = false := decide_eq_false (by omega)
    have hd2 : ¬ (0 : Int) < (gs.length : Int) := by omega
    clear h0
    go_wp2
    go_ret
    exact ⟨⟨_, gs, rfl, HOF.out, hg8, fun x hx => (HSM.out x hx).1.mono (by omega)⟩, HR1.out.mono (by omega), HT1.out⟩
  · have hd2 : (0 : Int) < (gs.length : Int) := by omega
    go_wp2_with fail
    refine (pick_any r _ _ _ HR1.out (by omega) (by omega)).mono ?_
    rintro e w2 ⟨⟨q, rfl, hq0, hq1⟩, hr2, ht2⟩
    have HR2 := hide hr2
    have HO2 := hide (HOF.out.touch ht2 (by omega))
    have HT2 := hide (touch_trans HT1.out ht2)
    clear hr2 ht2 HOF HR1 HT1
    by_cases hq : q = 0
    · subst hq
      go_wp2_with fail
      refine (pick_any r _ _ _ HR2.out (by omega) (by omega)).mono ?_
      rintro e w3 ⟨⟨k', rfl, hk0, hk1⟩, hr3, ht3⟩
      obtain ⟨k, rfl⟩ := Int.eq_ofNat_of_zero_le hk0
      have hk : k < gs.length := by omega
      have HR3 := hide hr3
      have HO3 := hide (HO2.out.touch ht3 (by omega))
      have HT3 := hide (touch_trans HT2.out ht3)
      clear hr3 ht3 HO2 HR2 HT2
      obtain ⟨a', c', e', _, _, _, hc⟩ := owns_slice HO3.out.1
      simp at e'
      obtain ⟨rfl, rfl⟩ := e'
      obtain ⟨g, rfl, hgb, hgl, hx9, hx10⟩ := hc _ _ (flVals_at gs k hk).1
      clear hc hx9 hx10
      obtain ⟨⟨c0, z0⟩, ⟨c1, z1⟩, ⟨c2, z2⟩, c3, z3⟩ := own_cells4 HO3.out.1 hk
      have hxs := HSM.out _ (List.getElem_mem hk)
      have hxo := HO3.out.2 _ (List.getElem_mem hk)
      generalize gs[k] = x at c0 c1 c2 c3 hxs hxo
      obtain ⟨⟨nm, p, l, vs⟩, xa, xc⟩ := x
      simp only at c0 c1 c2 c3
      have hx1 : VisitsIn w3 xa vs := hxo.1
      have hx2 : 1 ≤ vs.length := hxs.2
      have hx3 : VisSm 3 vs := hxs.1.2.2.2
      have hx4 : nm.size ≤ 8 := hxs.1.1
      have hx5 : -1 ≤ l := hxs.1.2.1
      have hx6 : l ≤ 61 := hxs.1.2.2.1
      have PC := hide (l6SpoilFlight_any r _ nm p l vs xa xc w3 HR3.out (by omega) hx1 hx2 hx3 hx4 hx5 hx6)
      clear hxs hxo hx1 hx2 hx3 hx4 hx5 hx6
      go_wp2_with fail
      refine PC.out.mono ?_
      rintro e w4 ⟨⟨nm', p', l', vs', a4, c4, rfl, hn4, hl40, hl41, hs4, hv4, ha4⟩, hr4, ht4⟩
      have HR4 := hide hr4
      have HO4 := hide (HO3.out.touch ht4 (by omega))
      have HT4 := hide (touch_trans HT3.out ht4)
      have HV4 := hide hv4
      have HA4 := hide ha4
      have HS4 := hide hs4
      clear hr4 ht4 HO3 HR3 HT3 hv4 ha4 hs4 c0 c1 c2 c3 z0 z1 z2 z3
      obtain ⟨⟨c0, z0⟩, ⟨c1, z1⟩, ⟨c2, z2⟩, c3, z3⟩ := own_cells4 HO4.out.1 hk
      have OX := hide (owns_set4 HO4.out.1 hk ((nm', p', l', vs'), a4, c4))
      have BX := hide (below_set (below_set (below_set (below_set (Below.refl w.heap.size w4) g (k * 4) hgb (.string nm')) g (k * 4 + 1) hgb (.int .i64 p')) g (k * 4 + 2) hgb (.int .i64 l')) g (k * 4 + 3) hgb (.slice a4 vs'.length c4))
      have KP : Hid (∀ q, q ≠ g → ((((w4.setCell ⟨g, k * 4, none⟩ (.string nm')).setCell ⟨g, k * 4 + 1, none⟩ (.int .i64 p')).setCell ⟨g, k * 4 + 2, none⟩ (.int .i64 l')).setCell ⟨g, k * 4 + 3, none⟩ (.slice a4 vs'.length c4)).heap[q]? = w4.heap[q]?) := fun q hq => by
        rw [Below.heap_setCell _ _ _ _ (by exact hq), Below.heap_setCell _ _ _ _ (by exact hq), Below.heap_setCell _ _ _ _ (by exact hq), Below.heap_setCell _ _ _ _ (by exact hq)]
      go_wp2
      go_ret
      refine ⟨⟨_, gs.set k ((nm', p', l', vs'), a4, c4), rfl, ⟨by rw [List.length_set]; exact OX.out, fun x hx => ?_⟩, by rw [List.length_set]; exact hg8, fun x hx => ?_⟩, (HR4.out.below BX.out hrl).mono (by omega), touch_then HT4.out BX.out⟩
      · rcases List.mem_or_eq_of_mem_set hx with hx | rfl
        · obtain ⟨f1, f2⟩ := HO4.out.2 x hx
          exact ⟨f1.keep (fun p hp => KP.out _ (fun hh => (f2 p hp).2 (by rw [hh]; rfl))) BX.out.size, f2⟩
        · refine ⟨HV4.out.keep (fun p hp => KP.out _ (fun hh => ?_)) BX.out.size, fun p hp => ⟨?_, ?_⟩⟩
          · have := HA4.out p hp; omega
          · have := HA4.out p hp; omega
          · have := HA4.out p hp
            simp [Value.ownBlock]; omega
      · rcases List.mem_or_eq_of_mem_set hx with hx | rfl
        · exact (HSM.out x hx).1.mono (by omega)
        · exact ⟨hn4, hl40, hl41, HS4.out⟩
    · have hq' : (q == 0) = false := beq_eq_false_iff_ne.2 hq
      go_wp2
      go_ret
      exact ⟨⟨_, gs, rfl, HO2.out, hg8, fun x hx => (HSM.out x hx).1.mono (by omega)⟩, HR2.out.mono (by omega), HT2.out⟩

end Go.Proofs.Ytciacofibljmoaa
