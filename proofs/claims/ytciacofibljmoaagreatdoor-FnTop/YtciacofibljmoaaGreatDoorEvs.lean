/- Caps are drawn that are ok. -/
import Derived.Test.YtciacofibljmoaaGreatDoorDraws
import Derived.Test.YtciacofibljmoaaGreatDoorMathsB
import Derived.Test.YtciacofibljmoaaGreatDoorDocs
namespace Go.Proofs.YtciacofibljmoaaGreatDoor
open Go.RowKit

attribute [local go_sem ↓] Go.wp_at_zero Go.wp_at_succ

/-- Caps out of the first k names, in order, with small caps. -/
def CapsUp (k : Nat) (cs : List (ByteArray × Int)) : Prop := cs.length ≤ k ∧ (∀ c ∈ cs, (∃ j, ∃ hj : j < capNams.length, j < k ∧ c.1 = capNams[j]) ∧ 0 ≤ c.2 ∧ c.2 ≤ 20) ∧ cs.Pairwise fun c d => c.1.toList < d.1.toList
theorem capsUp_more {k : Nat} {cs : List (ByteArray × Int)} (h : CapsUp k cs) : CapsUp (k + 1) cs := ⟨Nat.le_succ_of_le h.1, fun c hc => by
  obtain ⟨⟨j, hj, h1, h2⟩, h3⟩ := h.2.1 c hc
  exact ⟨⟨j, hj, by omega, h2⟩, h3⟩, h.2.2⟩
theorem capNams_pair : capNams.Pairwise fun a b => a.toList < b.toList := by
  have h : (capNams.map fun a => a.data.toList).Pairwise fun a b => a < b := by decide
  rw [List.pairwise_map] at h
  exact h.imp fun hh => by rw [ByteArray.toList_eq, ByteArray.toList_eq]; exact hh
theorem capNams_up (i j : Nat) (hi : i < capNams.length) (hj : j < capNams.length) (h : i < j) : capNams[i].toList < capNams[j].toList := List.pairwise_iff_getElem.1 capNams_pair i j hi hj h
theorem capNams_ok : ∀ j (hj : j < capNams.length), nameB capNams[j] = true := by decide +kernel
theorem capsUp_add {k : Nat} {cs : List (ByteArray × Int)} {nm : ByteArray} {c : Int} (h : CapsUp k cs) (hk : k < capNams.length) (hn : capNams[k] = nm) (hc : 0 ≤ c ∧ c ≤ 20) : CapsUp (k + 1) (cs ++ [(nm, c)]) := by
  refine ⟨by have := h.1; simp; omega, fun d hd => ?_, ?_⟩
  · rcases List.mem_append.1 hd with hd | hd
    · exact (capsUp_more h).2.1 d hd
    · simp at hd
      subst hd
      exact ⟨⟨k, hk, by omega, hn.symm⟩, hc⟩
  · rw [List.pairwise_append]
    refine ⟨h.2.2, List.pairwise_singleton _ _, fun d hd e he => ?_⟩
    simp at he
    subst he
    obtain ⟨⟨j, hj, h1, h2⟩, _⟩ := h.2.1 d hd
    rw [h2, ← hn]
    exact capNams_up j k hj hk h1
theorem cap_val {a b c d : Int} (a0 : 0 ≤ a) (a1 : a < 3) (b0 : 0 ≤ b) (b1 : b < 2) (c0 : 0 ≤ c) (c1 : c < 2) (d0 : 0 ≤ d) (d1 : d < 2) : 0 ≤ IntKind.i64.wrap (IntKind.i64.wrap (1 + a) - IntKind.i64.wrap (IntKind.i64.wrap (b * c) * d)) ∧ IntKind.i64.wrap (IntKind.i64.wrap (1 + a) - IntKind.i64.wrap (IntKind.i64.wrap (b * c) * d)) ≤ 20 := by
  have hb : b = 0 ∨ b = 1 := by omega
  have hc : c = 0 ∨ c = 1 := by omega
  have hd : d = 0 ∨ d = 1 := by omega
  have ha : a = 0 ∨ a = 1 ∨ a = 2 := by omega
  rcases hb with rfl | rfl <;> rcases hc with rfl | rfl <;> rcases hd with rfl | rfl <;> rcases ha with rfl | rfl | rfl <;> decide
theorem capsUp_ok {cs : List (ByteArray × Int)} (h : CapsUp 3 cs) : capsB cs = true := by
  unfold capsB
  rw [Bool.and_eq_true]
  refine ⟨by have := h.1; simp; omega, List.all_eq_true.2 fun i hi => ?_⟩
  have hi' : i < cs.length := List.mem_range.1 hi
  obtain ⟨⟨j, hj, _, h2⟩, h3, h4⟩ := h.2.1 cs[i] (List.getElem_mem hi')
  unfold capOkAt
  rw [getD_at cs i _ hi']
  simp only [Bool.and_eq_true, Bool.or_eq_true, decide_eq_true_eq]
  refine ⟨⟨by rw [h2]; exact capNams_ok j hj, ?_⟩, by unfold inB; simp; omega⟩
  by_cases h0 : i = 0
  · exact .inl h0
  · refine .inr ?_
    rw [getD_at cs (i - 1) _ (by omega)]
    unfold ahead
    rw [less_eq]
    exact decide_eq_true (List.pairwise_iff_getElem.1 h.2.2 (i - 1) i (by omega) hi' (by omega))

set_option maxRecDepth 100000 in
set_option maxHeartbeats 3200000 in
theorem l6Caps_ok (r N : Nat) (w : World) (h : Rd w r N) (hN : N ≤ 900000) :
    Calls Tryz.prog 18 #[.pointer (some ⟨r, 0, none⟩)] w fun e w' => (∃ v cs, e = .returned v ∧ OwnC w' w.heap.size v cs ∧ CapsUp 3 cs) ∧ Rd w' r (N + 15) ∧ Touch r (r + 1) w w' := by
  obtain ⟨i0, hi, iz0, iz1, iz2⟩ := info_parts info_cap
  have hrl := h.lt
  have HR := hide h
  clear h
  go_enter Tryz.func18, Tryz.ntmps18
  go_wp2
  have hB1 := hide (((Below.refl w.heap.size w).alloc (Nat.le_refl _) (.cells #[] 61)).alloc (by simp) (.cells (capNams.map Value.string).toArray 9))
  have hS1 := hide (strs_alloc (r := r) (w := w.alloc (.cells #[] 61)) (by simp; omega) 9 #[.string ⟨#[101]⟩, .string ⟨#[110, 45, 49]⟩, .string ⟨#[119]⟩] capNams rfl)
  have hS1 := hide (show StrsIn r ((w.alloc (.cells #[] 61)).alloc (.cells #[.string ⟨#[101]⟩, .string ⟨#[110, 45, 49]⟩, .string ⟨#[119]⟩] 9)) (some ⟨w.heap.size + 1, 0, none⟩) capNams by have := hS1.out; rw [Deep.nblk_alloc] at this; exact this)
  have hO1 := hide (World.ownsRow.alloc (own_emptyC w) (.cells (capNams.map Value.string).toArray 9))
  go_loopw [3, 5] (fun v i wr => ∃ (k : Nat) (cs : List (ByteArray × Int)), k ≤ 3 ∧ i = .int .i64 k ∧ Hid (OwnC wr w.heap.size v cs) ∧ Hid (CapsUp k cs) ∧ Hid (Rd wr r (N + 5 * k)) ∧ Hid (StrsIn r wr (some ⟨w.heap.size + 1, 0, none⟩) capNams) ∧ Hid (Touch r (r + 1) w wr) ∧ Hid (v.ownBlock ≠ some (w.heap.size + 1))) (fun _ i _ => 3 - (RowKit.intOf i).toNat)
  case atStart => exact ⟨0, [], Nat.zero_le _, rfl, hO1.out, ⟨Nat.le_refl _, by simp, List.Pairwise.nil⟩, HR.out.later hB1.out, hS1.out, touch_below hB1.out, by show _ ≠ _; simp [Value.ownBlock]⟩
  case round =>
    obtain ⟨k, cs, hk, rfl, HO, HSM, HRD, HST, HT, HNE⟩ := hrel
    clear hB1 hS1 hO1
    by_cases hlt : k < 3
    · have hlt' : (k : Int) < 3 := by omega
      go_wp2_with fail
      refine (pick_any r _ _ _ HRD.out (by omega) (by omega)).mono ?_
      rintro e w1 ⟨⟨q, rfl, hq0, hq1⟩, hr1, ht1⟩
      have HRA := hide hr1
      have HSA := hide (HST.out.touch ht1 (Nat.le_refl _))
      have HOA := hide (owns_touch HO.out ht1 (by omega))
      have HTA := hide (touch_trans HT.out ht1)
      clear hr1 ht1 HRD HST HO HT
      by_cases hq : 0 < q
      · obtain ⟨b, off, hbe, hb, hc⟩ := HSA.out k hlt
        simp at hbe
        obtain ⟨rfl, rfl⟩ := hbe
        rw [Nat.zero_add] at hc
        have hsz := capNams_size _ (List.getElem_mem (l := capNams) (n := k) hlt)
        have hnm : ∃ hk3 : k < capNams.length, capNams[k] = capNams[k] := ⟨hlt, rfl⟩
        generalize hnk : capNams[k] = nm at hc hsz
        have HNK := hide hnk
        clear hnm hnk
        have hb1 : r + 1 ≤ w.heap.size + 1 := by omega
        have hb2 : r + 1 ≤ w.heap.size := by omega
        have tok1 : True := trivial
        have tok2 : True := trivial
        have tok3 : True := trivial
        have tok4 : True := trivial
        go_wp2
        go_region_held3 (fun w' => w'.cell? ⟨w.heap.size + 1, k, none⟩ = some (.string nm))
          (first | exact hc | exact hcA | exact hcB | exact hcC | exact hcD | exact cell_later ((Below.refl _ _).alloc (Nat.le_refl _) _) hcD | exact hcE)
          (first
            | (go_at_call 19; have _t := tok1; refine (pick_any r _ _ _ HRA.out.drew ?_ ?_).mono ?_; omega; omega; rintro e wA ⟨⟨qa, rfl, qa0, qa1⟩, hra, hta⟩; have hcA := cell_touch hta hc (.inr hb1); clear tok1)
            | (go_at_call 19; have _t := tok2; refine (pick_any r _ _ _ hra ?_ ?_).mono ?_; omega; omega; rintro e wB ⟨⟨qb, rfl, qb0, qb1⟩, hrb, htb⟩; have hcB := cell_touch htb hcA (.inr hb1); clear tok2)
            | (go_at_call 19; have _t := tok3; refine (pick_any r _ _ _ hrb ?_ ?_).mono ?_; omega; omega; rintro e wC ⟨⟨qc, rfl, qc0, qc1⟩, hrc, htc⟩; have hcC := cell_touch htc hcB (.inr hb1); clear tok3)
            | (go_at_call 19; have _t := tok4; refine (pick_any r _ _ _ hrc ?_ ?_).mono ?_; omega; omega; rintro e wD ⟨⟨qd, rfl, qd0, qd1⟩, hrd, htd⟩; have hcD := cell_touch htd hcC (.inr hb1); have TD := touch_trans (touch_trans (touch_trans hta htb) htc) htd; clear tok4)
            | (refine step_append_lies _ (by rfl) _ _ 23 (by rfl) w.heap.size 61 i0 (.agg #[.string ⟨#[]⟩, .int .i64 0]) 2 24 Tryz.underlying23 hi iz0 iz1 iz2 (by rfl) (by decide) _ _ _ (by rfl) (World.ownsRow.alloc (owns_touch (show World.ownsRow w1.drew _ _ _ _ _ _ from HOA.out) TD hb2) _) ⟨wD.heap.size, 0, none⟩ 1 1 [.string nm, .int .i64 _] (by rfl) (by rfl) (cell_two_new _ _ _ _) (fun x hx => by simp at hx; rcases hx with rfl | rfl <;> rfl) (by decide) (by have := HSM.out.1; unfold maxLen; omega) (by have := HSM.out.1; omega) (by have := TD.size; have := HTA.out.size; simp at *; omega) (wD.heap.size + 1) (by simp) ?_; intro g cp wE hownE hgrowE hatE hltE; have hcE := World.grownBy.cell hgrowE (cell_later ((Below.refl _ _).alloc (Nat.le_refl _) _) hcD) (fun hh => HNE.out hh.symm)))
        rename_i hH
        clear hH
        have hsz2 := HTA.out.size
        have hsz3 := TD.size
        have BE := hide (below_grow (a := w) (w := wD) (Nat.le_trans hsz2 (by simpa using hsz3)) hgrowE (fun q hq => (HOA.out.lt _ hq).1))
        have HRE := hide (hrd.below BE.out hrl)
        have HTE := hide (touch_then (touch_trans (touch_drew HTA.out) TD) BE.out)
        have hblk : w.heap.size + 1 < wD.heap.size := World.block_lt_of_cell? wD _ hcD
        have HSE := hide (StrsIn.grown ((StrsIn.touch (show StrsIn r w1.drew _ _ from HSA.out) TD (Nat.le_refl _)).later ((Below.refl _ _).alloc (Nat.le_refl _) _)) hgrowE (fun p hp => by simp at hp; subst hp; exact HNE.out))
        have HOE : Hid (OwnC wE w.heap.size (.slice (some ⟨g, 0, none⟩) (cs.length + 1) cp) (cs ++ [(nm, IntKind.i64.wrap (IntKind.i64.wrap (1 + qa) - IntKind.i64.wrap (IntKind.i64.wrap (qb * qc) * qd)))])) := by
          show World.ownsRow _ _ _ _ _ _ _
          rw [capVals_snoc, List.length_append]
          exact hownE
        have HNE2 : Hid ((Value.slice (some ⟨g, 0, none⟩) (cs.length + 1) cp).ownBlock ≠ some (w.heap.size + 1)) := by
          show _ ≠ _
          rcases hatE with he | he
          · intro hh
            exact HNE.out (he.trans hh)
          · simp [Value.ownBlock]; omega
        have HSM2 : Hid (CapsUp (k + 1) (cs ++ [(nm, IntKind.i64.wrap (IntKind.i64.wrap (1 + qa) - IntKind.i64.wrap (IntKind.i64.wrap (qb * qc) * qd)))])) := capsUp_add HSM.out hlt HNK.out (cap_val qa0 qa1 qb0 qb1 qc0 qc1 qd0 qd1)
        clear hta htb htc htd hra hrb hrc hrd hcA hcB hcC hcD hcE hownE hgrowE hatE hltE hc TD HSA HOA HTA HRA HNE HSM
        go_wp2
        go_roundw
        case rel => exact ⟨k + 1, _, by omega, by go_num, HOE.out, HSM2.out, HRE.out.mono (by omega), HSE.out, HTE.out, HNE2.out⟩
        case measure => simp [RowKit.intOf]; omega
      · go_wp2
        go_roundw
        case rel => exact ⟨k + 1, cs, by omega, by go_num, HOA.out, capsUp_more HSM.out, HRA.out.mono (by omega), HSA.out, HTA.out, HNE.out⟩
        case measure => simp [RowKit.intOf]; omega
    · go_wp2
      go_ret
      have : k = 3 := by omega
      subst this
      exact ⟨⟨_, _, rfl, HO.out, HSM.out⟩, HRD.out, HT.out⟩

end Go.Proofs.YtciacofibljmoaaGreatDoor

/- Flights that come and go are drawn. -/
namespace Go.Proofs.YtciacofibljmoaaGreatDoor
open Go.RowKit

/-- A drawn event: a flight that comes, or a name that goes. -/
def EvOk (x : FlV) : Prop := (FlSm 3 x.1 ∧ 1 ≤ x.1.2.2.2.length) ∨ (x.1.2.2.2 = [] ∧ x.2.1 = none ∧ x.1.1.size ≤ 8)
theorem ev_lt {w : World} {x : FlV} (h : EvOk x) (hv : VisitsIn w x.2.1 x.1.2.2.2) {p : Addr} (hp : x.2.1 = some p) : p.block < w.heap.size := by
  rcases h with h | h
  · exact vis_lt hv h.2 hp
  · rw [h.2.1] at hp
    cases hp
/-- One more flight in a row of its own. -/
theorem ownF_snoc {w3 wE : World} {base g cp : Nat} {v : Value} {gs : List FlV} {x : FlV} {o : Obj} (HO : OwnF w3 base v gs) (hev : ∀ y ∈ gs, EvOk y) (hx : EvOk x) (hxi : VisitsIn w3 x.2.1 x.1.2.2.2) (hxa : ∀ p, x.2.1 = some p → base ≤ p.block ∧ v.ownBlock ≠ some p.block)
    (hown : World.ownsRow wE base 32 4 (.slice (some ⟨g, 0, none⟩) (gs.length + 1) cp) (gs.length + 1) (flVals gs ++ [.string x.1.1, .int .i64 x.1.2.1, .int .i64 x.1.2.2.1, .slice x.2.1 x.1.2.2.2.length x.2.2])) (hgrow : (w3.alloc o).grownBy wE v.ownBlock) (hat : v.ownBlock = some g ∨ g = w3.heap.size + 1) :
    OwnF wE base (.slice (some ⟨g, 0, none⟩) (gs.length + 1) cp) (gs ++ [x]) := by
  refine ⟨?_, fun y hy => ?_⟩
  · rw [flVals_snoc, List.length_append]
    exact hown
  · have key : VisitsIn w3 y.2.1 y.1.2.2.2 ∧ EvOk y ∧ ∀ p, y.2.1 = some p → base ≤ p.block ∧ v.ownBlock ≠ some p.block := by
      rcases List.mem_append.1 hy with hy | hy
      · exact ⟨(HO.2 y hy).1, hev y hy, (HO.2 y hy).2⟩
      · simp at hy
        subst hy
        exact ⟨hxi, hx, hxa⟩
    obtain ⟨k1, k2, k3⟩ := key
    refine ⟨k1.grown hgrow (fun p hp => (k3 p hp).2), fun p hp => ⟨(k3 p hp).1, ?_⟩⟩
    rcases hat with he | he
    · intro hh
      exact (k3 p hp).2 (he.trans hh)
    · have := ev_lt k2 k1 hp
      simp [Value.ownBlock]; omega

set_option maxRecDepth 100000 in
set_option maxHeartbeats 3200000 in
theorem drawEvents_any (a : Option Addr) (n cap : Nat) (w : World) (hopen : Calls Tryz.prog 17 #[.slice a n cap] w fun e w' => e = .returned (.pointer (some ⟨w.heap.size, 0, none⟩)) ∧ Rd w' w.heap.size 0 ∧ Below w.heap.size w w') :
    Calls Tryz.prog 5 #[.slice a n cap] w fun e w' => ∃ ac capc cs b cb gs, e = .returned (.tuple #[.slice ac (List.length cs) capc, .slice b (List.length gs) cb]) ∧ CapsIn w' ac cs ∧ capsB cs = true ∧ (∀ c ∈ cs, c.1.size ≤ 8) ∧ FlightsIn w' b (gs.map Prod.fst) ∧ gs.length ≤ 13 ∧ (∀ x ∈ gs, EvOk x) ∧ Below w.heap.size w w' := by
  obtain ⟨i0, hi, iz0, iz1, iz2⟩ := info_parts info_flight
  have HOP := hide hopen
  clear hopen
  go_enter Tryz.func5, Tryz.ntmps5
  go_wp2_with fail
  refine HOP.out.mono ?_
  rintro e w1 ⟨rfl, hr1, hb1⟩
  have HR1 := hide hr1
  have B1 := hide hb1
  have hrl := hr1.lt
  obtain ⟨r, hr⟩ : ∃ r, w.heap.size = r := ⟨_, rfl⟩
  rw [hr] at HR1 hrl ⊢
  have HREQ := hide hr
  clear hr1 hb1 hr
  go_wp2_with fail
  refine (l6Caps_ok r 0 w1 HR1.out (by omega)).mono ?_
  rintro e w2 ⟨⟨v, cs, rfl, hoc, hup⟩, hr2, ht2⟩
  obtain ⟨ac, capc, rfl, hcl, hcm, -, -⟩ := OwnC.form hoc
  have OC := hide hoc
  have UP := hide hup
  have HR2 := hide hr2
  have T2 := hide ht2
  have hs2 := ht2.size
  obtain ⟨w3, hw3, hw3s, hB3⟩ : ∃ w3, w2.alloc (.cells #[] 32) = w3 ∧ w3.heap.size = w2.heap.size + 1 ∧ Below w2.heap.size w2 w3 := ⟨_, rfl, by simp, (Below.refl _ _).alloc (Nat.le_refl _) _⟩
  have HW3 := hide hw3
  have HS3 := hide hw3s
  have B3 := hide hB3
  have OF3 : Hid (World.ownsRow w3 w2.heap.size 32 4 (.slice (some ⟨w2.heap.size, 0, none⟩) 0 0) 0 []) := by rw [← hw3]; exact own_emptyF w2
  clear hoc hup hr2 ht2 hw3 hB3 hw3s
  go_wp2_with fail
  rw [HW3.out]
  refine (pick_any r _ 14 w3 (HR2.out.below B3.out (by omega)) (by omega) (by omega)).mono ?_
  rintro e w4 ⟨⟨q, rfl, hq0, hq1⟩, hr4, ht4⟩
  obtain ⟨nq, rfl⟩ : ∃ nq : Nat, q = (nq : Int) := ⟨q.toNat, by omega⟩
  have HR4 := hide hr4
  have T4 := hide ht4
  have OF4 := hide (owns_touch OF3.out ht4 (by omega))
  have hs4 := ht4.size
  clear hr4 ht4 hq0
  go_wp2
  go_loopw [6, 7] (fun v i wr => ∃ (k : Nat) (gs : List FlV), k ≤ nq ∧ i = .int .i64 k ∧ gs.length + k ≤ nq ∧ Hid (OwnF wr w2.heap.size v gs) ∧ Hid (∀ x ∈ gs, EvOk x) ∧ Hid (Rd wr r (16 + 24 * (nq - k))) ∧ Hid (Touch r (r + 1) w2 wr)) (fun _ i _ => (intOf i).toNat)
  case atStart => exact ⟨nq, [], Nat.le_refl _, rfl, by simp, ⟨OF4.out, by simp⟩, by show ∀ x ∈ ([] : List FlV), _; simp, HR4.out.mono (by omega), touch_trans (touch_below B3.out) T4.out⟩
  case round =>
    obtain ⟨k, gs, hk, rfl, hgk, HO, HEV, HRD, HT⟩ := hrel
    by_cases hlt : 0 < k
    · have hlt' : (0 : Int) < (k : Int) := by omega
      have hsT := HT.out.size
      go_wp2_with fail
      refine (pick_any r _ 4 _ HRD.out (by omega) (by omega)).mono ?_
      rintro e w5 ⟨⟨q2, rfl, hq20, hq21⟩, hr5, ht5⟩
      have HR5 := hide hr5
      have HO5 := hide (HO.out.touch ht5 (by omega))
      have T5 := hide (touch_trans HT.out ht5)
      have hs5 := ht5.size
      have hrl5 : r < w5.heap.size := hr5.lt
      clear hr5 ht5 HRD HO HT
      by_cases hq2 : q2 = 0
      · subst hq2
        go_wp2_with fail
        refine (l6Names_at r w5.heap.size w5 rfl hrl5).mono ?_
        rintro e w6 ⟨rfl, hst, hb6⟩
        have HST := hide hst
        have B6 := hide hb6
        have hs6 := hb6.size
        clear hst hb6
        go_wp2_with fail
        refine (of_any r _ (some ⟨w5.heap.size, 0, none⟩) 8 nams w6 (HR5.out.below B6.out hrl5) (by omega) HST.out (by decide)).mono ?_
        rintro e w7 ⟨⟨nm, hsm, rfl⟩, hr7, ht7⟩
        have HSZ := hide (nams_size nm hsm)
        have HR7 := hide hr7
        have HO7 := hide ((HO5.out.later B6.out).touch ht7 (by omega))
        have T7 := hide (touch_trans (touch_then T5.out (B6.out.mono (by omega))) ht7)
        have hs7 := ht7.size
        clear hr7 ht7 hsm HST
        go_wp2_with (at_builtin; refine wpList_append_lies _ rfl _ _ 24 rfl w2.heap.size 32 i0 (.agg #[.string ⟨#[]⟩, .int .i64 0, .int .i64 0, .slice none 0 0]) 4 56 Tryz.underlying24 hi iz0 iz1 iz2 rfl (by decide) _ _ _ rfl (World.ownsRow.alloc HO7.out.1 _) ⟨w7.heap.size, 0, none⟩ 1 1 [.string nm, .int .i64 0, .int .i64 0, .slice none 0 0] rfl rfl (cell_four_new _ _ _ _ _ _) (fun x hx => by simp at hx; rcases hx with rfl | rfl | rfl | rfl <;> rfl) (by decide) (by unfold maxLen; omega) (by omega) (by simp; omega) (w7.heap.size + 1) (by simp) ?_; intro g cp wE hownE hgrowE hatE hltE)
        have BE := hide (below_grow (a := w2) (w := w7) (by omega) hgrowE (fun q hq => (HO7.out.1.lt _ hq).1))
        have HRE := hide (HR7.out.below BE.out (by omega))
        have HTE := hide (touch_then T7.out BE.out)
        have HOE := hide (ownF_snoc (x := ((nm, 0, 0, []), none, 0)) HO7.out HEV.out (.inr ⟨rfl, rfl, HSZ.out⟩) (fun i hi => by simp at hi) (fun p hp => by cases hp) hownE hgrowE hatE)
        have HEV2 : Hid (∀ x ∈ gs ++ [((nm, 0, 0, []), none, 0)], EvOk x) := fun x hx => by
          rcases List.mem_append.1 hx with hx | hx
          · exact HEV.out x hx
          · simp at hx
            subst hx
            exact (.inr ⟨rfl, rfl, HSZ.out⟩)
        clear hownE hgrowE hatE hltE
        go_wp2
        go_roundw
        case rel => exact ⟨k - 1, _, by omega, by go_num, by simp; omega, HOE.out, HEV2.out, HRE.out.mono (by omega), HTE.out⟩
        case measure => simp [intOf]; omega
      · have hq2b : (q2 == 0) = false := by simpa using hq2
        go_wp2_with fail
        refine (l6Names_at r w5.heap.size w5 rfl hrl5).mono ?_
        rintro e w6 ⟨rfl, hst, hb6⟩
        have HST := hide hst
        have B6 := hide hb6
        have hs6 := hb6.size
        clear hst hb6
        go_wp2_with fail
        refine (of_any r _ (some ⟨w5.heap.size, 0, none⟩) 8 nams w6 (HR5.out.below B6.out hrl5) (by omega) HST.out (by decide)).mono ?_
        rintro e w7 ⟨⟨nm, hsm, rfl⟩, hr7, ht7⟩
        have HSZ := hide (nams_size nm hsm)
        have HR7 := hide hr7
        have HO7 := hide ((HO5.out.later B6.out).touch ht7 (by omega))
        have T7 := hide (touch_trans (touch_then T5.out (B6.out.mono (by omega))) ht7)
        have hs7 := ht7.size
        clear hr7 ht7 hsm HST
        go_wp2_with fail
        refine (l6Flight_any r _ nm w7 HR7.out (by omega)).mono ?_
        rintro e w8 ⟨⟨p, l, vs, av, c, rfl, hl0, hl1, hvsm, hv1, hvi, hva⟩, hr8, ht8⟩
        have HR8 := hide hr8
        have HO8 := hide (HO7.out.touch ht8 (by omega))
        have T8 := hide (touch_trans T7.out ht8)
        have hs8 := ht8.size
        have HVI := hide hvi
        have HVA : Hid (∀ p, av = some p → w2.heap.size ≤ p.block ∧ u6.ownBlock ≠ some p.block) := fun p hp => ⟨by have := hva p hp; omega, fun hh => by have := (HO7.out.1.lt _ hh).2; have := hva p hp; omega⟩
        have HFS : Hid (EvOk ((nm, p, l, vs), av, c)) := .inl ⟨⟨HSZ.out, by show -1 ≤ l; omega, by show l ≤ 61; omega, hvsm⟩, hv1⟩
        clear hr8 ht8 hvi hva hvsm
        go_wp2_with (at_builtin; refine wpList_append_lies _ rfl _ _ 24 rfl w2.heap.size 32 i0 (.agg #[.string ⟨#[]⟩, .int .i64 0, .int .i64 0, .slice none 0 0]) 4 56 Tryz.underlying24 hi iz0 iz1 iz2 rfl (by decide) _ _ _ rfl (World.ownsRow.alloc HO8.out.1 _) ⟨w8.heap.size, 0, none⟩ 1 1 [.string nm, .int .i64 p, .int .i64 l, .slice av vs.length c] rfl rfl (cell_four_new _ _ _ _ _ _) (fun x hx => by simp at hx; rcases hx with rfl | rfl | rfl | rfl <;> rfl) (by decide) (by unfold maxLen; omega) (by omega) (by simp; omega) (w8.heap.size + 1) (by simp) ?_; intro g cp wE hownE hgrowE hatE hltE)
        have BE := hide (below_grow (a := w2) (w := w8) (by omega) hgrowE (fun q hq => (HO8.out.1.lt _ hq).1))
        have HRE := hide (HR8.out.below BE.out (by omega))
        have HTE := hide (touch_then T8.out BE.out)
        have HOE := hide (ownF_snoc (x := ((nm, p, l, vs), av, c)) HO8.out HEV.out HFS.out HVI.out HVA.out hownE hgrowE hatE)
        have HEV2 : Hid (∀ x ∈ gs ++ [((nm, p, l, vs), av, c)], EvOk x) := fun x hx => by
          rcases List.mem_append.1 hx with hx | hx
          · exact HEV.out x hx
          · simp at hx
            subst hx
            exact HFS.out
        clear hownE hgrowE hatE hltE
        go_wp2
        go_roundw
        case rel => exact ⟨k - 1, _, by omega, by go_num, by simp; omega, HOE.out, HEV2.out, HRE.out.mono (by omega), HTE.out⟩
        case measure => simp [intOf]; omega
    · have hk0 : k = 0 := by omega
      subst hk0
      have OCE := hide (owns_touch OC.out HT.out (by omega))
      go_wp2
      obtain ⟨b, cb, hbv, -⟩ := owns_slice HO.out.1
      subst hbv
      refine bodyPost_ret (v := .tuple #[.slice ac cs.length capc, .slice b gs.length cb]) (by simp [results, Tryz.results5, go_sem]) rfl ⟨ac, capc, cs, b, cb, gs, rfl, caps_of OCE.out, capsUp_ok UP.out, fun c hc => ?_, ownF_in HO.out, by omega, HEV.out, ?_⟩
      · obtain ⟨⟨j, hj, _, h2⟩, _⟩ := UP.out.2.1 c hc
        rw [h2]
        exact capNams_size _ (List.getElem_mem hj)
      · have b0 := B1.out
        have e0 := HREQ.out
        rw [e0] at b0
        have t2 := T2.out
        have t3 := HT.out
        have z1 := b0.size
        have z2 := t2.size
        have c2 : Below r w1 _ := ⟨t2.os, t2.tape, t2.output, t2.size, fun k hk => t2.block k (by omega) (by omega)⟩
        have c3 : Below r _ _ := ⟨t3.os, t3.tape, t3.output, t3.size, fun k hk => t3.block k (by omega) (by omega)⟩
        rw [e0]
        exact (b0.trans c2).trans c3
end Go.Proofs.YtciacofibljmoaaGreatDoor
