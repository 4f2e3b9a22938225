/- Flights are drawn. -/
import Derived.Test.YtciacofibljmoaaDraw7
namespace Go.Proofs.Ytciacofibljmoaa
open Go.RowKit

/-- A flight and where its visits lie. -/
abbrev FlV := Fli × Option Addr × Nat
def flVals (gs : List FlV) : List Value := gs.flatMap fun x => [.string x.1.1, .int .i64 x.1.2.1, .int .i64 x.1.2.2.1, .slice x.2.1 x.1.2.2.2.length x.2.2]
theorem flVals_snoc (gs : List FlV) (x : FlV) : flVals (gs ++ [x]) = flVals gs ++ [.string x.1.1, .int .i64 x.1.2.1, .int .i64 x.1.2.2.1, .slice x.2.1 x.1.2.2.2.length x.2.2] := by simp [flVals]
theorem flVals_at : ∀ (gs : List FlV) (i : Nat) (hi : i < gs.length), (flVals gs)[i * 4]? = some (.string gs[i].1.1) ∧ (flVals gs)[i * 4 + 1]? = some (.int .i64 gs[i].1.2.1) ∧ (flVals gs)[i * 4 + 2]? = some (.int .i64 gs[i].1.2.2.1) ∧ (flVals gs)[i * 4 + 3]? = some (.slice gs[i].2.1 gs[i].1.2.2.2.length gs[i].2.2)
  | [], i, hi => by simp at hi
  | c :: cs, 0, _ => by simp [flVals]
  | c :: cs, i + 1, hi => by
    have ih := flVals_at cs i (by simpa using hi)
    rw [show (i + 1) * 4 = i * 4 + 1 + 1 + 1 + 1 by omega]
    simpa [flVals] using ih
/-- The visits of a flight, apart from the row that bears it. -/
def FlOk (w : World) (base : Nat) (v : Value) (x : FlV) : Prop := VisitsIn w x.2.1 x.1.2.2.2 ∧ ∀ p, x.2.1 = some p → base ≤ p.block ∧ v.ownBlock ≠ some p.block
def OwnF (w : World) (base : Nat) (v : Value) (gs : List FlV) : Prop := w.ownsRow base 74 4 v gs.length (flVals gs) ∧ ∀ x ∈ gs, FlOk w base v x
/-- How great a drawn flight may be. -/
def FlSm (m : Nat) (f : Fli) : Prop := f.1.size ≤ 8 ∧ -1 ≤ f.2.2.1 ∧ f.2.2.1 ≤ 61 ∧ VisSm m f.2.2.2
theorem VisitsIn.touch {w w' : World} {a : Option Addr} {vs : List Vis} {lo hi : Nat} (h : VisitsIn w a vs) (ht : Touch lo hi w w') (ho : ∀ p, a = some p → hi ≤ p.block) : VisitsIn w' a vs := fun i hi' => by
  obtain ⟨b, off, e, hlt, h0, h1, h2⟩ := h i hi'
  have hb := ho _ e
  exact ⟨b, off, e, Nat.lt_of_lt_of_le hlt ht.size, cell_touch ht h0 (.inr hb), cell_touch ht h1 (.inr hb), cell_touch ht h2 (.inr hb)⟩
theorem OwnF.touch {w w' : World} {base lo hi : Nat} {v : Value} {gs : List FlV} (h : OwnF w base v gs) (ht : Touch lo hi w w') (hb : hi ≤ base) : OwnF w' base v gs :=
  ⟨owns_touch h.1 ht hb, fun x hx => ⟨(h.2 x hx).1.touch ht (fun p hp => Nat.le_trans hb ((h.2 x hx).2 p hp).1), (h.2 x hx).2⟩⟩
theorem OwnF.later {w w' : World} {base : Nat} {v : Value} {gs : List FlV} (h : OwnF w base v gs) (hb : Below w.heap.size w w') : OwnF w' base v gs :=
  ⟨owns_later h.1 hb, fun x hx => ⟨(h.2 x hx).1.later hb, (h.2 x hx).2⟩⟩
theorem OwnF.base {w : World} {base base' : Nat} {v : Value} {gs : List FlV} (h : OwnF w base v gs) (hb : base' ≤ base) : OwnF w base' v gs :=
  ⟨owns_base h.1 hb, fun x hx => ⟨(h.2 x hx).1, fun p hp => ⟨Nat.le_trans hb ((h.2 x hx).2 p hp).1, ((h.2 x hx).2 p hp).2⟩⟩⟩
theorem OwnF.form {w : World} {base : Nat} {v : Value} {gs : List FlV} (h : OwnF w base v gs) : ∃ a cap, v = .slice a (gs.map Prod.fst).length cap ∧ gs.length ≤ cap ∧ FlightsIn w a (gs.map Prod.fst) ∧ (∀ p, a = some p → p = ⟨p.block, 0, none⟩ ∧ base ≤ p.block ∧ p.block < w.heap.size) := by
  obtain ⟨a, cap, h1, h2, h3, h4, h5⟩ := owns_slice h.1
  refine ⟨a, cap, by rw [List.length_map]; exact h1, h2, fun i hi => ?_, h4⟩
  have hi' : i < gs.length := by simpa using hi
  obtain ⟨q0, q1, q2, q3⟩ := flVals_at gs i hi'
  obtain ⟨g, e1, e2, e3, e4, _⟩ := h5 _ _ q0
  obtain ⟨g', e1', _, _, e4', _⟩ := h5 _ _ q1
  obtain ⟨g'', e1'', _, _, e4'', _⟩ := h5 _ _ q2
  obtain ⟨g3, e13, _, _, e43, _⟩ := h5 _ _ q3
  rw [e1] at e1' e1'' e13
  simp at e1' e1'' e13
  subst e1'
  subst e1''
  subst e13
  have hm := (h.2 _ (List.getElem_mem hi')).1
  refine ⟨g, 0, e1, e3, ?_⟩
  rw [List.getElem_map]
  exact ⟨by rw [Nat.zero_add]; exact e4, by rw [Nat.zero_add]; exact e4', by rw [Nat.zero_add]; exact e4'', _, _, by rw [Nat.zero_add]; exact e43, hm⟩
theorem VisitsIn.grown {w w' : World} {o : Obj} {row : Option Nat} {a : Option Addr} {vs : List Vis} (h : VisitsIn w a vs) (hg : (w.alloc o).grownBy w' row) (hne : ∀ p, a = some p → row ≠ some p.block) : VisitsIn w' a vs := fun i hi => by
  obtain ⟨b, off, e, hlt, h0, h1, h2⟩ := (h.later ((Below.refl _ _).alloc (Nat.le_refl _) o)) i hi
  have hb := hne _ e
  exact ⟨b, off, e, Nat.lt_of_lt_of_le hlt hg.size, World.grownBy.cell hg h0 (fun hh => hb hh.symm), World.grownBy.cell hg h1 (fun hh => hb hh.symm), World.grownBy.cell hg h2 (fun hh => hb hh.symm)⟩
theorem vis_lt {w : World} {a : Option Addr} {vs : List Vis} (h : VisitsIn w a vs) (h1 : 1 ≤ vs.length) {p : Addr} (hp : a = some p) : p.block < w.heap.size := by
  obtain ⟨b, off, e, hlt, _⟩ := h 0 (by omega)
  rw [hp] at e
  simp at e
  rw [e]
  exact hlt
theorem cell_four_new (w : World) (a b c d : Value) (t : TypeId) : ∀ j u, [a, b, c, d][j]? = some u → (w.alloc (.cells #[a, b, c, d] t)).cell? ((⟨w.heap.size, 0, none⟩ : Addr).add j) = some u := by
  intro j u hj
  rw [plain_add]
  match j, hj with
  | 0, hj => simp at hj; subst hj; simp
  | 1, hj => simp at hj; subst hj; simp
  | 2, hj => simp at hj; subst hj; simp
  | 3, hj => simp at hj; subst hj; simp
theorem own_emptyF (w : World) : World.ownsRow (w.alloc (.cells #[] 74)) w.heap.size 74 4 (.slice (some ⟨w.heap.size, 0, none⟩) 0 0) 0 [] := World.ownsRow_made w #[] 0 (Nat.le_refl _) (Nat.zero_le _) (by simp)

set_option maxHeartbeats 800000 in
theorem l6Names_at (r B : Nat) (w : World) (hB : w.heap.size = B) (hr : r < w.heap.size) :
    Calls Try.prog 80 #[] w fun e w' => e = .returned (.slice (some ⟨B, 0, none⟩) 8 8) ∧ StrsIn r w' (some ⟨B, 0, none⟩) nams ∧ Below w.heap.size w w' := by
  subst hB
  have HR := hide hr
  clear hr
  go_enter Try.func80, Try.ntmps80
  go_wp2
  go_ret
  exact ⟨rfl, strs_alloc HR.out _ _ nams rfl, (Below.refl w.heap.size w).alloc (Nat.le_refl _) _⟩

set_option maxRecDepth 100000 in
set_option maxHeartbeats 3200000 in
theorem l6Flights_any (r N : Nat) (w : World) (h : Rd w r N) (hN : N ≤ 800000) :
    Calls Try.prog 66 #[.pointer (some ⟨r, 0, none⟩)] w fun e w' => (∃ v gs, e = .returned v ∧ OwnF w' w.heap.size v gs ∧ gs.length ≤ 8 ∧ ∀ x ∈ gs, FlSm 3 x.1 ∧ 1 ≤ x.1.2.2.2.length) ∧ Rd w' r (N + 168) ∧ Touch r (r + 1) w w' := by
  obtain ⟨i0, hi, iz0, iz1, iz2⟩ := info_parts info_flight
  have hrl := h.lt
  have HR := hide h
  clear h
  go_enter Try.func66, Try.ntmps66
  go_wp2_with fail
  have Bz := hide ((Below.refl w.heap.size w).alloc (Nat.le_refl _) (.cells #[] 74))
  have hlz : r < (w.alloc (.cells #[] 74)).heap.size := by simp; omega
  refine (l6Names_at r (w.heap.size + 1) _ (by simp) hlz).mono ?_
  rintro e w1 ⟨rfl, hs1, hb1⟩
  have HST1 := hide hs1
  have HO1 := hide (owns_later (own_emptyF w) hb1)
  have HB1 := hide (below_two Bz.out hb1)
  clear hs1 hb1 hlz Bz
  go_wp2
  go_loopw [3, 5] (fun v i wr => ∃ (k : Nat) (gs : List FlV), k ≤ 8 ∧ i = .int .i64 k ∧ gs.length ≤ k ∧ Hid (OwnF wr w.heap.size v gs) ∧ Hid (∀ x ∈ gs, FlSm 3 x.1 ∧ 1 ≤ x.1.2.2.2.length) ∧ Hid (Rd wr r (N + 21 * k)) ∧ Hid (StrsIn r wr (some ⟨w.heap.size + 1, 0, none⟩) nams) ∧ Hid (Touch r (r + 1) w wr) ∧ Hid (v.ownBlock ≠ some (w.heap.size + 1))) (fun _ i _ => 8 - (RowKit.intOf i).toNat)
  case atStart => exact ⟨0, [], Nat.zero_le _, rfl, Nat.le_refl _, ⟨HO1.out, by simp⟩, by show ∀ x ∈ ([] : List FlV), _; simp, HR.out.later HB1.out, HST1.out, touch_below HB1.out, by show _ ≠ _; simp [Value.ownBlock]⟩
  case round =>
    obtain ⟨k, gs, hk, rfl, hgk, HO, HSM, HRD, HST, HT, HNE⟩ := hrel
    clear HO1 HST1 HB1
    by_cases hlt : k < 8
    · have hlt' : (k : Int) < 8 := by omega
      go_wp2_with fail
      refine (pick_any r _ _ _ HRD.out (by omega) (by omega)).mono ?_
      rintro e w2 ⟨⟨q, rfl, hq0, hq1⟩, hr2, ht2⟩
      have HRA := hide hr2
      have HSA := hide (HST.out.touch ht2 (Nat.le_refl _))
      have HOA := hide (HO.out.touch ht2 (by omega))
      have HTA := hide (touch_trans HT.out ht2)
      clear hr2 ht2 HRD HST HO HT
      by_cases hq : 0 < q
      · obtain ⟨b, off, hbe, hb, hc⟩ := HSA.out k hlt
        simp at hbe
        obtain ⟨rfl, rfl⟩ := hbe
        rw [Nat.zero_add] at hc
        have hsz := nams_size _ (List.getElem_mem (l := nams) (n := k) hlt)
        generalize nams[k] = nm at hc hsz
        have hb1 : r + 1 ≤ w.heap.size + 1 := by omega
        have hblk : w.heap.size + 1 < w2.heap.size := World.block_lt_of_cell? w2 _ hc
        go_wp2_with fail
        refine (l6Flight_any r _ nm w2 HRA.out (by omega)).mono ?_
        rintro e w3 ⟨⟨p, l, vs, a, c, rfl, hl0, hl1, hvsm, hv1, hvi, hva⟩, hr3, ht3⟩
        have HR3 := hide hr3
        have HS3 := hide (HSA.out.touch ht3 (Nat.le_refl _))
        have HO3 := hide (HOA.out.touch ht3 (by omega))
        have HT3 := hide (touch_trans HTA.out ht3)
        have hs3 := ht3.size
        have HVI := hide hvi
        have HVA := hide hva
        have HVS := hide hvsm
        have HOB : Hid (∀ g, u3.ownBlock = some g → g < w2.heap.size) := fun g hg => (HOA.out.1.lt g hg).2
        have hsT := HT3.out.size
        clear hr3 ht3 hvi hva hvsm HRA HSA HOA HTA
        go_wp2_with (first
          | (at_builtin; refine wpList_append_lies _ rfl _ _ 23 rfl w.heap.size 74 i0 (.agg #[.string ⟨#[]⟩, .int .i64 0, .int .i64 0, .slice none 0 0]) 4 56 Try.underlying23 hi iz0 iz1 iz2 rfl (by decide) _ _ _ rfl (World.ownsRow.alloc HO3.out.1 _) ⟨w3.heap.size, 0, none⟩ 1 1 [.string nm, .int .i64 p, .int .i64 l, .slice a vs.length c] rfl rfl (cell_four_new _ _ _ _ _ _) (fun x hx => by simp at hx; rcases hx with rfl | rfl | rfl | rfl <;> rfl) (by decide) (by unfold maxLen; omega) (by omega) (by simp; omega) (w3.heap.size + 1) (by simp) ?_; intro g cp wE hownE hgrowE hatE hltE))
        have BE := hide (below_grow (a := w) (w := w3) hsT hgrowE (fun q hq => (HO3.out.1.lt _ hq).1))
        have HRE := hide (HR3.out.below BE.out hrl)
        have HTE := hide (touch_then HT3.out BE.out)
        have HSE := hide (StrsIn.grown (HS3.out.later ((Below.refl _ _).alloc (Nat.le_refl _) _)) hgrowE (fun p hp => by simp at hp; subst hp; exact HNE.out))
        have HNE2 : Hid ((Value.slice (some ⟨g, 0, none⟩) (gs.length + 1) cp).ownBlock ≠ some (w.heap.size + 1)) := by
          show _ ≠ _
          rcases hatE with he | he
          · intro hh
            exact HNE.out (he.trans hh)
          · simp [Value.ownBlock]; omega
        have HOE : Hid (OwnF wE w.heap.size (.slice (some ⟨g, 0, none⟩) (gs.length + 1) cp) (gs ++ [((nm, p, l, vs), a, c)])) := by
          refine ⟨?_, fun x hx => ?_⟩
          · rw [flVals_snoc, List.length_append]
            exact hownE
          · rcases List.mem_append.1 hx with hx | hx
            · obtain ⟨f1, f2⟩ := HO3.out.2 x hx
              refine ⟨f1.grown hgrowE (fun p hp => (f2 p hp).2), fun p hp => ⟨(f2 p hp).1, ?_⟩⟩
              rcases hatE with he | he
              · intro hh
                exact (f2 p hp).2 (he.trans hh)
              · have := vis_lt f1 (HSM.out x hx).2 hp
                simp [Value.ownBlock]; omega
            · simp at hx
              subst hx
              refine ⟨VisitsIn.grown HVI.out hgrowE (fun p hp hh => by have := HOB.out _ hh; have := HVA.out p hp; omega), fun p hp => ⟨by have := HVA.out p hp; have := HT3.out.size; omega, ?_⟩⟩
              rcases hatE with he | he
              · intro hh
                have h5 := HOB.out _ (he.trans hh)
                have h6 := HVA.out p hp
                omega
              · have := vis_lt HVI.out hv1 hp
                simp [Value.ownBlock]; omega
        have HSM2 : Hid (∀ x ∈ gs ++ [((nm, p, l, vs), a, c)], FlSm 3 x.1 ∧ 1 ≤ x.1.2.2.2.length) := fun x hx => by
          rcases List.mem_append.1 hx with hx | hx
          · exact HSM.out x hx
          · simp at hx
            subst hx
            exact ⟨⟨hsz, by show -1 ≤ l; omega, by show l ≤ 61; omega, HVS.out⟩, hv1⟩
        go_roundw
        case rel => exact ⟨k + 1, _, by omega, by go_num, by simp; omega, HOE.out, HSM2.out, HRE.out.mono (by omega), HSE.out, HTE.out, HNE2.out⟩
        case measure => simp [RowKit.intOf]; omega
      · go_wp2
        go_roundw
        case rel => exact ⟨k + 1, gs, by omega, by go_num, by omega, HOA.out, HSM.out, HRA.out.mono (by omega), HSA.out, HTA.out, HNE.out⟩
        case measure => simp [RowKit.intOf]; omega
    · go_wp2
      go_ret
      have : k = 8 := by omega
      subst this
      exact ⟨⟨_, gs, rfl, HO.out, hgk, HSM.out⟩, HRD.out, HT.out⟩

end Go.Proofs.Ytciacofibljmoaa
