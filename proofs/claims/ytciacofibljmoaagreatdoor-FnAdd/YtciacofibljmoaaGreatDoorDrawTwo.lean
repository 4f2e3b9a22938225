/- A book and a name are drawn. -/
import Derived.Test.YtciacofibljmoaaGreatDoorSpoils
import Derived.Test.YtciacofibljmoaaGreatDoorOpensB
namespace Go.Proofs.YtciacofibljmoaaGreatDoor
open Go.RowKit

/-- The rows of a book's flights, their names. -/
theorem fl_names {w : World} {a : Option Addr} {fs : List Fli} (h : FlightsIn w a fs) (h0 : 0 < fs.length) : ∃ g off, a = some ⟨g, off, none⟩ ∧ g < w.heap.size ∧ ∀ i (hi : i < fs.length), w.cell? ⟨g, off + i * 4, none⟩ = some (.string fs[i].1) := by
  obtain ⟨g, off, e, hlt, -⟩ := h 0 h0
  refine ⟨g, off, e, hlt, fun i hi => ?_⟩
  obtain ⟨g', off', e', _, c0, -⟩ := h i hi
  rw [e] at e'
  simp at e'
  obtain ⟨rfl, rfl⟩ := e'
  exact c0

set_option maxRecDepth 100000 in
set_option maxHeartbeats 6400000 in
theorem drawDrop_any (a0 : Option Addr) (n0 c0 : Nat) (w : World) (hb0 : BytesIn w.heap.size w a0 n0) (h0 : n0 ≤ c0) (h1 : c0 ≤ maxLen) :
    Calls Tryz.prog 16 #[.slice a0 n0 c0] w fun e w' => ∃ bc b b' cc cb cb' cs fs ss nm, e = .returned (.tuple #[bkV bc b b' cc cb cb' cs fs ss, .string nm]) ∧ BookIn w' bc b b' cs fs ss ∧ BookSm cs fs ss ∧ Below w.heap.size w w' := by
  have HB0 := hide hb0
  have H0 := hide h0
  have H1 := hide h1
  clear hb0 h0 h1
  obtain ⟨W, hW, hWs, kW, bW⟩ := bk_newT w (.slice none 0 0) (.slice none 0 0) (.slice none 0 0)
  have HW := hide hW
  have KW := hide kW
  have WB := hide bW
  clear hW kW bW
  go_enter Tryz.func16, Tryz.ntmps16
  go_wp2_with fail
  rw [HW.out]
  refine (l1Open_any a0 n0 c0 W (HB0.out.later WB.out) H0.out H1.out).mono ?_
  rintro e w1 ⟨rfl, hr1, hb1⟩
  have HR1 := hide hr1
  have B1 := hide hb1
  have hrl := hr1.lt
  have hs1 := hb1.size
  obtain ⟨r, hr⟩ : ∃ r, W.heap.size = r := ⟨_, rfl⟩
  rw [hr] at HR1 hrl ⊢
  have hrw : w.heap.size < r := by omega
  have KW1 := hide (KW.out.later B1.out)
  have D1 := hide (below_two WB.out B1.out)
  clear hr1 hb1 hr
  go_wp2_with fail
  refine (l6Any_any r 0 w1 HR1.out (by omega)).mono ?_
  rintro e w2 ⟨⟨bc, b, b', cc, cb, cb', cs, fs, ss, rfl, hfar, hsm⟩, hr2, ht2⟩
  have FB := hide hfar
  have SM := hide hsm
  have HR2 := hide hr2
  have KW2 := hide (KW1.out.keep (ht2.block _ KW1.out.lt (by omega)))
  have D2 := hide (D1.out.trans (below_touch ht2 (by omega) |>.mono (by omega)))
  have hs2 := ht2.size
  clear hfar hsm hr2 ht2
  obtain ⟨V, hV, hVs, kV, bV⟩ := bk_newT w2 (.slice bc cs.length cc) (.slice b fs.length cb) (.slice b' ss.length cb')
  have HV := hide hV
  have KV := hide kV
  have VB := hide bV
  clear hV kV bV
  go_upto_region 3 with fail
  rw [HV.out]
  have FV := hide (FB.out.later VB.out)
  have RV := hide (HR2.out.later VB.out)
  have KWV := hide (KW2.out.later VB.out)
  have DV := hide (D2.out.trans (VB.out.mono (by omega)))
  clear FB HR2 KW2 D2
  go_cut [18] from 10 to 18 (fun c wc => ∃ q : Bool, c = .bool q ∧ (q = true → 0 < fs.length) ∧ Hid (BkAt wc w2.heap.size (.slice bc cs.length cc) (.slice b fs.length cb) (.slice b' ss.length cb')) ∧ Hid (BkAt wc w.heap.size (.slice none 0 0) (.slice none 0 0) (.slice none 0 0)) ∧ Hid (FarBk (fun q => q < w1.heap.size) wc bc b b' cs fs ss) ∧ Hid (Rd wc r 1030) ∧ w2.heap.size ≤ wc.heap.size ∧ Hid (Below w.heap.size w wc))
  case first =>
    obtain ⟨x0, x1, x2, -⟩ := KV.out.cells
    by_cases hz : 0 < fs.length
    · have hz' : (0 : Int) < (fs.length : Int) := by omega
      have HZ := hide hz
      clear hz
      go_wp2_with fail
      refine (pick_any r _ 8 V RV.out (by omega) (by omega)).mono ?_
      rintro e w3 ⟨⟨q, rfl, -, -⟩, hr3, ht3⟩
      have HR3 := hide hr3
      have F3 := hide (FV.out.touch (rd_touchS ht3 (by omega)))
      have K3 := hide (KV.out.keep (ht3.block _ KV.out.lt (by omega)))
      have KW3 := hide (KWV.out.keep (ht3.block _ KWV.out.lt (by omega)))
      have D3 := hide (DV.out.trans (below_touch ht3 (by omega) |>.mono (by omega)))
      have hs3 := ht3.size
      clear hr3 ht3 x0 x1 x2
      go_wp2_with fail
      go_meet
      case rel => exact ⟨_, rfl, fun _ => HZ.out, K3.out, KW3.out, F3.out, HR3.out.mono (by omega), by omega, D3.out⟩
    · have hz' : ¬ (0 : Int) < (fs.length : Int) := by omega
      go_wp2_with fail
      go_meet
      case rel => exact ⟨_, rfl, fun h => by simp at h, KV.out, KWV.out, FV.out, RV.out.mono (by omega), by omega, DV.out⟩
  case rest =>
    obtain ⟨q, rfl, hq, K3, KW3, F3, HR3, hs3, D3⟩ := hcut
    generalize wc = w3 at *
    clear KV KWV FV RV DV
    have hr3 := HR3.out.lt
    obtain ⟨x0, x1, x2, -⟩ := K3.out.cells
    cases q with
    | true =>
      have hz : 0 < fs.length := hq rfl
      obtain ⟨g, off, rfl, hgl, hnm⟩ := fl_names F3.out.here.fl hz
      have S0 : w3.drew.cell? ⟨w2.heap.size, 0, none⟩ = some (.slice bc cs.length cc) ∧ w3.drew.cell? ⟨w2.heap.size, 1, none⟩ = some (.slice (some ⟨g, off, none⟩) fs.length cb) ∧ w3.drew.cell? ⟨w2.heap.size, 2, none⟩ = some (.slice b' ss.length cb') ∧ ∀ i (hi : i < fs.length), w3.drew.cell? ⟨g, off + i * 4, none⟩ = some (.string fs[i].1) := ⟨x0, x1, x2, hnm⟩
      clear x0 x1 x2 hnm hq
      go_upto_region 4 with fail
      refine wp_region_U (S := fun X => X.cell? ⟨w2.heap.size, 0, none⟩ = some (.slice bc cs.length cc) ∧ X.cell? ⟨w2.heap.size, 1, none⟩ = some (.slice (some ⟨g, off, none⟩) fs.length cb) ∧ X.cell? ⟨w2.heap.size, 2, none⟩ = some (.slice b' ss.length cb') ∧ ∀ i (hi : i < fs.length), X.cell? ⟨g, off + i * 4, none⟩ = some (.string fs[i].1)) (y := 12) (by kernel_rfl) ?_
      refine wpAnyU.take (i := 0) (v := ?_) rfl (by kernel_rfl) (by kernel_rfl) (by kernel_rfl) (by kernel_rfl) (by kernel_rfl) (by kernel_rfl) (fun _ _ _ h => h) (Or.inl ⟨by rfl, ?_⟩) S0 ?_
      rotate_left
      · (intro X hX; obtain ⟨u0, u1, u2, u3⟩ := hX; go_simp) <;> (with_reducible rfl)
      try simp only [Act.put, List.setIfInBounds_toArray]
      refine wpAnyU.takeP (i := 1) (v := ?_) rfl (by kernel_rfl) (by kernel_rfl) (by kernel_rfl) (by kernel_rfl) (fun _ _ _ h => h) (Or.inl ⟨by rfl, ?_⟩) (.inr S0) ?_
      rotate_left
      · (intro X hX; go_simp) <;> (with_reducible rfl)
      try simp only [Act.put]
      refine wpAnyU.take (i := 2) (v := ?_) rfl (by kernel_rfl) (by kernel_rfl) (by kernel_rfl) (by kernel_rfl) (by kernel_rfl) (by kernel_rfl) (fun _ _ _ h => h) (Or.inl ⟨by rfl, ?_⟩) S0 ?_
      rotate_left
      · (intro X hX; obtain ⟨u0, u1, u2, u3⟩ := hX; go_simp) <;> (with_reducible rfl)
      try simp only [Act.put]
      refine wpAnyU.takeP (i := 3) (v := ?_) rfl (by kernel_rfl) (by kernel_rfl) (by kernel_rfl) (by kernel_rfl) (fun _ _ _ h => h) (Or.inl ⟨by rfl, ?_⟩) (.inr S0) ?_
      rotate_left
      · (intro X hX; go_simp) <;> (with_reducible rfl)
      try simp only [Act.put]
      refine wpAnyU.takeP (i := 4) (v := ?_) rfl (by kernel_rfl) (by kernel_rfl) (by kernel_rfl) (by kernel_rfl) (fun _ _ _ h => h) (Or.inl ⟨by rfl, ?_⟩) (.inr S0) ?_
      rotate_left
      · (intro X hX; go_simp) <;> (with_reducible rfl)
      try simp only [Act.put]
      refine wpAnyU.take (i := 5) (v := ?_) rfl (by kernel_rfl) (by kernel_rfl) (by kernel_rfl) (by kernel_rfl) (by kernel_rfl) (by kernel_rfl) (fun _ _ _ h => h) (Or.inl ⟨by rfl, ?_⟩) S0 ?_
      rotate_left
      · (intro X hX; obtain ⟨u0, u1, u2, u3⟩ := hX; go_simp) <;> (with_reducible rfl)
      try simp only [Act.put]
      refine wpAnyU.takeP (i := 6) (v := ?_) rfl (by kernel_rfl) (by kernel_rfl) (by kernel_rfl) (by kernel_rfl) (fun _ _ _ h => h) (Or.inl ⟨by rfl, ?_⟩) (.inr S0) ?_
      rotate_left
      · (intro X hX; go_simp) <;> (with_reducible rfl)
      try simp only [Act.put]
      refine wpAnyU.one (i := 7) (by kernel_rfl) rfl (fun K hK => ?_)
      go_simp
      refine (pick_any r _ _ w3.drew HR3.out (by omega) (by omega)).mono ?_
      rintro e w4 ⟨⟨qk, rfl, hk0, hk1⟩, hr4, ht4⟩
      obtain ⟨k, rfl⟩ : ∃ k : Nat, qk = (k : Int) := ⟨qk.toNat, by omega⟩
      have hkl : k < fs.length := by omega
      have ht4' : Touch r (r + 1) w3 w4 := ⟨ht4.os, ht4.tape, ht4.output, ht4.size, ht4.block⟩
      have F4 := hide (F3.out.touch (rd_touchS ht4' (by omega)))
      have K4 := hide (K3.out.keep (ht4'.block _ K3.out.lt (by omega)))
      have KW4 := hide (KW3.out.keep (ht4'.block _ KW3.out.lt (by omega)))
      have D4 := hide (D3.out.trans (below_touch ht4' (by omega) |>.mono (by omega)))
      have hs4 := ht4'.size
      have S4 : w4.cell? ⟨w2.heap.size, 0, none⟩ = some (.slice bc cs.length cc) ∧ w4.cell? ⟨w2.heap.size, 1, none⟩ = some (.slice (some ⟨g, off, none⟩) fs.length cb) ∧ w4.cell? ⟨w2.heap.size, 2, none⟩ = some (.slice b' ss.length cb') ∧ ∀ i (hi : i < fs.length), w4.cell? ⟨g, off + i * 4, none⟩ = some (.string fs[i].1) := by
        obtain ⟨u0, u1, u2, -⟩ := K4.out.cells
        refine ⟨u0, u1, u2, ?_⟩
        obtain ⟨g', off', e', _, h9⟩ := fl_names F4.out.here.fl hz
        simp at e'
        obtain ⟨rfl, rfl⟩ := e'
        exact h9
      clear hr4 ht4 ht4' S0
      go_simp
      refine hK.out _ _ (.inr S4) ?_
      clear hK
      try simp only [Act.put]
      refine wpAnyU.takeP (i := 8) (v := ?_) rfl (by kernel_rfl) (by kernel_rfl) (by kernel_rfl) (by kernel_rfl) (fun _ _ _ h => h) (Or.inl ⟨by rfl, ?_⟩) (.inr S4) ?_
      rotate_left
      · (intro X hX; go_simp) <;> (with_reducible rfl)
      try simp only [Act.put]
      refine wpAnyU.takeP (i := 9) (v := ?_) rfl (by kernel_rfl) (by kernel_rfl) (by kernel_rfl) (by kernel_rfl) (fun _ _ _ h => h) (Or.inl ⟨by rfl, ?_⟩) (.inr S4) ?_
      rotate_left
      · (intro X hX; go_simp) <;> (with_reducible rfl)
      try simp only [Act.put]
      refine wpAnyU.take (i := 10) (v := ?_) rfl (by kernel_rfl) (by kernel_rfl) (by kernel_rfl) (by kernel_rfl) (by kernel_rfl) (by kernel_rfl) (fun _ _ _ h => h) (Or.inl ⟨by rfl, ?_⟩) S4 ?_
      rotate_left
      · (intro X hX; obtain ⟨u0, u1, u2, u3⟩ := hX; have u4 := u3 k hkl; go_simp) <;> (with_reducible rfl)
      try simp only [Act.put, List.setIfInBounds_toArray]
      generalize fs[k].1 = nm
      refine wpAnyU.one (i := 11) (by kernel_rfl) rfl (fun K hK => ?_)
      obtain ⟨y0, y1, y2, r0, r1, r2⟩ := KW4.out.cells
      have KX := hide (KW4.out.set3 (.slice bc cs.length cc) (.slice (some ⟨g, off, none⟩) fs.length cb) (.slice b' ss.length cb'))
      have TX := hide (set3_touch w4 w.heap.size (.slice bc cs.length cc) (.slice (some ⟨g, off, none⟩) fs.length cb) (.slice b' ss.length cb'))
      have FX := hide (F4.out.touch (touchS_mono TX.out fun q hq => by omega))
      have K5 := hide (K4.out.touchS TX.out (by omega))
      have DX := hide (D4.out.trans (below_ofS TX.out (by omega) (fun q hq => by omega)))
      go_simp
      generalize ((w4.setCell ⟨w.heap.size, 0, none⟩ (.slice bc cs.length cc)).setCell ⟨w.heap.size, 1, none⟩ (.slice (some ⟨g, off, none⟩) fs.length cb)).setCell ⟨w.heap.size, 2, none⟩ (.slice b' ss.length cb') = Y at KX TX FX K5 DX ⊢
      have S5 : Y.cell? ⟨w2.heap.size, 0, none⟩ = some (.slice bc cs.length cc) ∧ Y.cell? ⟨w2.heap.size, 1, none⟩ = some (.slice (some ⟨g, off, none⟩) fs.length cb) ∧ Y.cell? ⟨w2.heap.size, 2, none⟩ = some (.slice b' ss.length cb') ∧ ∀ i (hi : i < fs.length), Y.cell? ⟨g, off + i * 4, none⟩ = some (.string fs[i].1) := by
        obtain ⟨u0, u1, u2, -⟩ := K5.out.cells
        refine ⟨u0, u1, u2, ?_⟩
        obtain ⟨g', off', e', _, h9⟩ := fl_names FX.out.here.fl hz
        simp at e'
        obtain ⟨rfl, rfl⟩ := e'
        exact h9
      refine hK.out _ _ (.inr S5) ?_
      clear hK y0 y1 y2 r0 r1 r2 S4
      try simp only [Act.put]
      refine wpAnyU.one (i := 12) (by kernel_rfl) rfl (fun K hK => ?_)
      go_simp
      refine hK.out _ _ (.inl (by kernel_rfl)) ?_
      clear hK S5
      try simp only [Act.put]
      refine wpAnyU.done (by kernel_rfl) ?_ _
      go_wp2
      obtain ⟨z0, z1, z2, -⟩ := KX.out.cells
      exact bodyPost_ret (v := .tuple #[bkV bc (some ⟨g, off, none⟩) b' cc cb cb' cs fs ss, .string nm]) (by simp [results, Tryz.results16, go_sem, z0, z1, z2, bkV]) rfl ⟨bc, some ⟨g, off, none⟩, b', cc, cb, cb', cs, fs, ss, nm, rfl, FX.out.here, SM.out, DX.out⟩
    | false =>
      have S0 : w3.drew.cell? ⟨w2.heap.size, 0, none⟩ = some (.slice bc cs.length cc) ∧ w3.drew.cell? ⟨w2.heap.size, 1, none⟩ = some (.slice b fs.length cb) ∧ w3.drew.cell? ⟨w2.heap.size, 2, none⟩ = some (.slice b' ss.length cb') := ⟨x0, x1, x2⟩
      clear x0 x1 x2 hq
      go_upto_region 5 with fail
      refine wp_region_U (S := fun X => X.cell? ⟨w2.heap.size, 0, none⟩ = some (.slice bc cs.length cc) ∧ X.cell? ⟨w2.heap.size, 1, none⟩ = some (.slice b fs.length cb) ∧ X.cell? ⟨w2.heap.size, 2, none⟩ = some (.slice b' ss.length cb')) (y := 5) (by kernel_rfl) ?_
      refine wpAnyU.take (i := 0) (v := ?_) rfl (by kernel_rfl) (by kernel_rfl) (by kernel_rfl) (by kernel_rfl) (by kernel_rfl) (by kernel_rfl) (fun _ _ _ h => h) (Or.inl ⟨by rfl, ?_⟩) S0 ?_
      rotate_left
      · (intro X hX; obtain ⟨u0, u1, u2⟩ := hX; go_simp) <;> (with_reducible rfl)
      try simp only [Act.put, List.setIfInBounds_toArray]
      refine wpAnyU.takeP (i := 1) (v := ?_) rfl (by kernel_rfl) (by kernel_rfl) (by kernel_rfl) (by kernel_rfl) (fun _ _ _ h => h) (Or.inl ⟨by rfl, ?_⟩) (.inr S0) ?_
      rotate_left
      · (intro X hX; go_simp) <;> (with_reducible rfl)
      try simp only [Act.put]
      refine wpAnyU.one (i := 2) (by kernel_rfl) rfl (fun K hK => ?_)
      have BA : Hid (Below w3.heap.size w3 (w3.alloc (.cells #[.string ⟨#[122, 122]⟩, .string ⟨#[]⟩, .string ⟨#[97, 49]⟩] 9)).drew) := belA w3 _
      have HST : Hid (StrsIn r (w3.alloc (.cells #[.string ⟨#[122, 122]⟩, .string ⟨#[]⟩, .string ⟨#[97, 49]⟩] 9)).drew (some ⟨w3.heap.size, 0, none⟩) [⟨#[122, 122]⟩, ⟨#[]⟩, ⟨#[97, 49]⟩]) := strs_alloc (w := w3) hr3 _ _ _ rfl
      go_simp
      generalize hWA : (w3.alloc (.cells #[.string ⟨#[122, 122]⟩, .string ⟨#[]⟩, .string ⟨#[97, 49]⟩] 9)).drew = wA at BA HST ⊢
      have HWA := hide hWA
      clear hWA
      refine hK.out _ _ (.inr (K3.out.later BA.out).cells3) ?_
      clear hK S0
      try simp only [Act.put]
      refine wpAnyU.one (i := 3) (by kernel_rfl) rfl (fun K hK => ?_)
      go_simp
      refine (of_any r _ (some ⟨w3.heap.size, 0, none⟩) 3 [⟨#[122, 122]⟩, ⟨#[]⟩, ⟨#[97, 49]⟩] wA (HR3.out.later BA.out) (by omega) HST.out (by decide)).mono ?_
      rintro e w4 ⟨⟨nm, -, rfl⟩, hr4, ht4⟩
      have hsA := BA.out.size
      have F4 := hide ((F3.out.later BA.out).touch (rd_touchS ht4 (by omega)))
      have K4 := hide ((K3.out.later BA.out).keep (ht4.block _ (K3.out.later BA.out).lt (by omega)))
      have KW4 := hide ((KW3.out.later BA.out).keep (ht4.block _ (KW3.out.later BA.out).lt (by omega)))
      have D4 := hide ((D3.out.trans (BA.out.mono (by omega))).trans (below_touch ht4 (by omega) |>.mono (by omega)))
      have hs4 := ht4.size
      clear hr4 ht4
      go_simp
      refine hK.out _ _ (.inr K4.out.cells3) ?_
      clear hK
      try simp only [Act.put]
      refine wpAnyU.one (i := 4) (by kernel_rfl) rfl (fun K hK => ?_)
      obtain ⟨y0, y1, y2, r0, r1, r2⟩ := KW4.out.cells
      have KX := hide (KW4.out.set3 (.slice bc cs.length cc) (.slice b fs.length cb) (.slice b' ss.length cb'))
      have TX := hide (set3_touch w4 w.heap.size (.slice bc cs.length cc) (.slice b fs.length cb) (.slice b' ss.length cb'))
      have FX := hide (F4.out.touch (touchS_mono TX.out fun q hq => by omega))
      have K5 := hide (K4.out.touchS TX.out (by omega))
      have DX := hide (D4.out.trans (below_ofS TX.out (by omega) (fun q hq => by omega)))
      go_simp
      generalize ((w4.setCell ⟨w.heap.size, 0, none⟩ (.slice bc cs.length cc)).setCell ⟨w.heap.size, 1, none⟩ (.slice b fs.length cb)).setCell ⟨w.heap.size, 2, none⟩ (.slice b' ss.length cb') = Y at KX TX FX K5 DX ⊢
      refine hK.out _ _ (.inr K5.out.cells3) ?_
      clear hK y0 y1 y2 r0 r1 r2
      try simp only [Act.put]
      refine wpAnyU.one (i := 5) (by kernel_rfl) rfl (fun K hK => ?_)
      go_simp
      refine hK.out _ _ (.inl (by kernel_rfl)) ?_
      clear hK
      try simp only [Act.put]
      refine wpAnyU.done (by kernel_rfl) ?_ _
      go_wp2
      obtain ⟨z0, z1, z2, -⟩ := KX.out.cells
      exact bodyPost_ret (v := .tuple #[bkV bc b b' cc cb cb' cs fs ss, .string nm]) (by simp [results, Tryz.results16, go_sem, z0, z1, z2, bkV]) rfl ⟨bc, b, b', cc, cb, cb', cs, fs, ss, nm, rfl, FX.out.here, SM.out, DX.out⟩
end Go.Proofs.YtciacofibljmoaaGreatDoor

/- A book and a flight are drawn. -/
namespace Go.Proofs.YtciacofibljmoaaGreatDoor
open Go.RowKit

theorem fl_newF (w : World) (nm : ByteArray) (p l : Int) (v : Value) : ∃ W, w.alloc (.cells #[.string nm, .int .i64 p, .int .i64 l, v] 32) = W ∧ W.heap.size = w.heap.size + 1 ∧ FlAt W w.heap.size nm p l v ∧ Below w.heap.size w W := ⟨_, rfl, by simp, FlAt.new w nm p l v, (Below.refl _ _).alloc (Nat.le_refl _) _⟩
theorem FlAt.cells4 {w : World} {F : Nat} {nm : ByteArray} {p l : Int} {v : Value} (h : FlAt w F nm p l v) : w.cell? ⟨F, 0, none⟩ = some (.string nm) ∧ w.cell? ⟨F, 1, none⟩ = some (.int .i64 p) ∧ w.cell? ⟨F, 2, none⟩ = some (.int .i64 l) ∧ w.cell? ⟨F, 3, none⟩ = some v := by
  obtain ⟨c0, c1, c2, c3, -⟩ := h.cells
  exact ⟨c0, c1, c2, c3⟩
theorem fl4_touch (w : World) (F : Nat) (u0 u1 u2 u3 : Value) : TouchS (fun k => k = F) w ((((w.setCell ⟨F, 0, none⟩ u0).setCell ⟨F, 1, none⟩ u1).setCell ⟨F, 2, none⟩ u2).setCell ⟨F, 3, none⟩ u3) :=
  touch1_set (touch1_set (touch1_set (touch1_set (touchS_refl _ _) 0 u0) 1 u1) 2 u2) 3 u3
theorem FlAt.touchS {S : Nat → Prop} {w w' : World} {F : Nat} {nm : ByteArray} {p l : Int} {v : Value} (h : FlAt w F nm p l v) (ht : TouchS S w w') (ho : ¬ S F) : FlAt w' F nm p l v := h.keep (ht.block F h.lt ho)
theorem fl_big {f : Fli} (h : FlSm 6 f) : f.2.2.2.length ≤ 1048576 ∧ SizesOk f := by
  obtain ⟨h1, _, _, h2, h3⟩ := h
  refine ⟨by omega, ?_, ?_, ?_⟩
  · unfold maxLen; omega
  · unfold maxLen; omega
  · intro v hv
    have := h3 v hv
    unfold maxLen; omega
theorem vis_touchS2 {S : Nat → Prop} {w w' : World} {a : Option Addr} {vs : List Vis} (h : VisitsIn w a vs) (ht : TouchS S w w') (ho : ∀ p, a = some p → ¬ S p.block) : VisitsIn w' a vs := vis_touchS' h ht fun q hq => by
  obtain ⟨p, hp, rfl⟩ := hq
  exact ho p hp

set_option maxRecDepth 100000 in
set_option maxHeartbeats 12800000 in
theorem drawAdd_any (a0 : Option Addr) (n0 c0 : Nat) (w : World) (hb0 : BytesIn w.heap.size w a0 n0) (h0 : n0 ≤ c0) (h1 : c0 ≤ maxLen) :
    Calls Tryz.prog 15 #[.slice a0 n0 c0] w fun e w' => ∃ bc b b' cc cb cb' cs fs ss, ∃ (nm : ByteArray) (p l : Int) (vs : List Vis) (av : Option Addr) (cv : Nat), e = .returned (.tuple #[bkV bc b b' cc cb cb' cs fs ss, .agg #[.string nm, .int .i64 p, .int .i64 l, .slice av vs.length cv]]) ∧ BookIn w' bc b b' cs fs ss ∧ BookSm cs fs ss ∧ VisitsIn w' av vs ∧ FlSm 6 (nm, p, l, vs) ∧ Below w.heap.size w w' := by
  have HB0 := hide hb0
  have H0 := hide h0
  have H1 := hide h1
  clear hb0 h0 h1
  obtain ⟨W0, hW0, hW0s, kW0, bW0⟩ := bk_newT w (.slice none 0 0) (.slice none 0 0) (.slice none 0 0)
  obtain ⟨W, hW, hWs, fW, bW⟩ := fl_newF W0 ⟨#[]⟩ 0 0 (.slice none 0 0)
  have HW0 := hide hW0
  have HW := hide hW
  have KW := hide (kW0.later bW)
  have hfe : W0.heap.size = w.heap.size + 1 := hW0s
  rw [hfe] at fW
  have FW := hide fW
  have WB := hide (below_two bW0 bW)
  clear hW0 hW kW0 fW bW0 bW hfe
  go_enter Tryz.func15, Tryz.ntmps15
  go_wp2_with fail
  rw [HW0.out, HW.out]
  refine (l1Open_any a0 n0 c0 W (HB0.out.later WB.out) H0.out H1.out).mono ?_
  rintro e w1 ⟨rfl, hr1, hb1⟩
  have HR1 := hide hr1
  have B1 := hide hb1
  have hrl := hr1.lt
  have hs1 := hb1.size
  obtain ⟨r, hr⟩ : ∃ r, W.heap.size = r := ⟨_, rfl⟩
  rw [hr] at HR1 hrl ⊢
  have hrw : w.heap.size + 1 < r := by omega
  have KW1 := hide (KW.out.later B1.out)
  have FW1 := hide (FW.out.later B1.out)
  have D1 := hide (below_two WB.out B1.out)
  clear hr1 hb1 hr KW FW WB
  go_wp2_with fail
  refine (l6Any_any r 0 w1 HR1.out (by omega)).mono ?_
  rintro e w2 ⟨⟨bc, b, b', cc, cb, cb', cs, fs, ss, rfl, hfar, hsm⟩, hr2, ht2⟩
  obtain ⟨V, hV, hVs, kV, bV⟩ := bk_newT w2 (.slice bc cs.length cc) (.slice b fs.length cb) (.slice b' ss.length cb')
  have HV := hide hV
  have KV := hide kV
  have SM := hide hsm
  have FV : Hid (FarBk (fun q => q < w1.heap.size ∨ q = w2.heap.size) V bc b b' cs fs ss) := fun Z hZ => hfar Z (touchS_lo2 (touchS_trans (touchS_below bV) (touchS_mono hZ fun q hq => hq.elim .inl (fun h => .inr (by omega)))))
  have RV := hide (hr2.later bV)
  have KWV := hide ((KW1.out.keep (ht2.block _ KW1.out.lt (by omega))).later bV)
  have FWV := hide ((FW1.out.keep (ht2.block _ FW1.out.lt (by omega))).later bV)
  have DV := hide ((D1.out.trans (below_touch ht2 (by omega) |>.mono (by omega))).trans (bV.mono (by have := ht2.size; omega)))
  have hs2 := ht2.size
  clear hfar hsm hr2 ht2 hV kV bV KW1 FW1 D1
  go_upto_region 3 with fail
  rw [HV.out]
  go_wp2_with fail
  refine (pick_any r _ 12 V RV.out (by omega) (by omega)).mono ?_
  rintro e w3 ⟨⟨q, rfl, hq0, hq1⟩, hr3, ht3⟩
  have R3 := hide hr3
  have F3 := hide (FV.out.touch (rd_touchS ht3 (.inl (by omega))))
  have K3 := hide (KV.out.keep (ht3.block _ KV.out.lt (by omega)))
  have KW3 := hide (KWV.out.keep (ht3.block _ KWV.out.lt (by omega)))
  have FW3 := hide (FWV.out.keep (ht3.block _ FWV.out.lt (by omega)))
  have D3 := hide (DV.out.trans (below_touch ht3 (by omega) |>.mono (by omega)))
  have hs3 := ht3.size
  clear hr3 ht3 hq0 hq1 KV FV RV KWV FWV DV
  go_upto_if 16 with fail
  go_cut [6, 7, 8] from 17 to 39 (fun _ _ _ wc => ∃ (dc d d' : Option Addr) (dd db db' : Nat) (ds : List (ByteArray × Int)) (es : List Fli) (ts : List Int), Hid (BkAt wc w2.heap.size (.slice dc ds.length dd) (.slice d es.length db) (.slice d' ts.length db')) ∧ Hid (BkAt wc w.heap.size (.slice none 0 0) (.slice none 0 0) (.slice none 0 0)) ∧ Hid (FlAt wc (w.heap.size + 1) ⟨#[]⟩ 0 0 (.slice none 0 0)) ∧ Hid (FarBk (fun q => q < w1.heap.size ∨ q = w2.heap.size) wc dc d d' ds es ts) ∧ Hid (BookSm ds es ts) ∧ Hid (Rd wc r 2000) ∧ w2.heap.size < wc.heap.size ∧ Hid (Below w.heap.size w wc))
  case first =>
    by_cases hq : q = 0
    · subst hq
      go_wp2_with fail
      go_loopw [6] (fun ii wr => ∃ (k : Nat) (dc d d' : Option Addr) (dd db db' : Nat) (ds : List (ByteArray × Int)) (es : List Fli) (ts : List Int), k ≤ 9 ∧ ii = .int .i64 k ∧ Hid (BkAt wr w2.heap.size (.slice dc ds.length dd) (.slice d es.length db) (.slice d' ts.length db')) ∧ Hid (BkAt wr w.heap.size (.slice none 0 0) (.slice none 0 0) (.slice none 0 0)) ∧ Hid (FlAt wr (w.heap.size + 1) ⟨#[]⟩ 0 0 (.slice none 0 0)) ∧ Hid (FarBk (fun q => q < w1.heap.size ∨ q = w2.heap.size) wr dc d d' ds es ts) ∧ Hid (BookSm ds es ts) ∧ Hid (Rd wr r (1100 + 30 * k)) ∧ w2.heap.size < wr.heap.size ∧ Hid (Below w.heap.size w wr)) (fun ii _ => 10 - (intOf ii).toNat)
      case atStart => exact ⟨0, bc, b, b', cc, cb, cb', cs, fs, ss, by omega, rfl, K3.out, KW3.out, FW3.out, F3.out, SM.out, R3.out.mono (by omega), by omega, D3.out⟩
      case round =>
        obtain ⟨k, dc, d, d', dd, db, db', ds, es, ts, hk, rfl, KB, KR, FR, FB, SMR, RD, hsz, DR⟩ := hrel
        clear K3 KW3 FW3 F3 R3 D3 SM
        obtain ⟨x0, x1, x2, -⟩ := KB.out.cells
        have hrr := RD.out.lt
        by_cases h8 : es.length < 8
        · have h8' : (es.length : Int) < 8 := by omega
          by_cases h9 : k < 9
          · have h9' : (k : Int) < 9 := by omega
            have KE : Hid (∀ X, Touch r (r + 1) wr X → X.cell? ⟨w2.heap.size, 0, none⟩ = some (.slice dc ds.length dd) ∧ X.cell? ⟨w2.heap.size, 1, none⟩ = some (.slice d es.length db) ∧ X.cell? ⟨w2.heap.size, 2, none⟩ = some (.slice d' ts.length db')) := fun X hX => (KB.out.keep (hX.block _ KB.out.lt (by omega))).cells3
            clear x0 x1 x2
            have S0 := KE.out wr (touch_refl _ _ _)
            obtain ⟨x0, x1, x2⟩ := S0
            go_upto_region 7 with fail
            clear x0 x1 x2
            go_cut [7, 8] from 17 to 39 (fun p c wc => ∃ (bx : Nat) (kk : Int) (ec e1 e1' : Option Addr) (ed eb eb' : Nat) (ds1 : List (ByteArray × Int)) (es1 : List Fli) (ts1 : List Int), p = .pointer (some ⟨bx, 0, none⟩) ∧ c = .int .i64 kk ∧ Hid (BkAt wc bx (.slice ec ds1.length ed) (.slice e1 es1.length eb) (.slice e1' ts1.length eb')) ∧ wr.heap.size ≤ bx ∧ Hid (FarBk (fun q => q < w1.heap.size ∨ q = w2.heap.size) wc ec e1 e1' ds1 es1 ts1) ∧ Hid (BookSm ds1 es1 ts1) ∧ Hid (Rd wc r (1100 + 30 * k + 20)) ∧ Hid (Touch r (r + 1) wr wc))
            case first =>
              go_region_held3 (fun X => X.cell? ⟨w2.heap.size, 0, none⟩ = some (.slice dc ds.length dd) ∧ X.cell? ⟨w2.heap.size, 1, none⟩ = some (.slice d es.length db) ∧ X.cell? ⟨w2.heap.size, 2, none⟩ = some (.slice d' ts.length db'))
                (first | exact KE.out _ (touch_below (Below.refl _ _).drew) | exact KE.out _ (touch_below (belA wr _)) | exact KE.out _ TA.out | exact KE.out _ (touch_then TA.out ((belN wA _).mono TA.out.size)) | exact KE.out _ TB.out | exact KE.out _ (touch_then TB.out ((belN wB _).mono TB.out.size)) | exact KE.out _ TC.out | exact KE.out _ (touch_then TC.out ((belN wC _).mono TC.out.size)) | exact KE.out _ (touch_then TC.out (below_set3T (Below.refl _ _) (by first | exact Nat.le_refl _ | exact TA.out.size | exact TB.out.size) _ _ _)))
                (first
                  | (go_at_call 38; refine (l6Dec_any k _ (by omega)).mono ?_; rintro e wA ⟨⟨s, rfl, hs⟩, hbA⟩; have TA : Hid (Touch r (r + 1) wr wA) := (by first | exact touch_below (below_dr hbA) | exact touch_below (below_two (belA wr _) hbA)); have HNS : Hid (((⟨#[121]⟩ : ByteArray) ++ s).size ≤ 8) := (by show _ ≤ _; rw [ByteArray.size_append, hs]; show 1 + 1 ≤ 8; omega); (first | have KBA : Hid (BkAt wA wr.heap.size (.slice none 0 0) (.slice none 0 0) (.slice none 0 0)) := BkAt.later (w := (wr.alloc (.cells #[.slice none 0 0, .slice none 0 0, .slice none 0 0] 29)).drew) (BkAt.newAt wr _ rfl _ _ _) hbA | skip); have RA : Hid (Rd wA r (1100 + 30 * k)) := (by first | exact RD.out.later (below_dr hbA) | exact RD.out.later (below_two (belA wr _) hbA)); clear hbA)
                  | (go_at_call 22; refine (l6Flight_any r (1100 + 30 * k) ((⟨#[121]⟩ : ByteArray) ++ s) _ (by first | exact RA.out | exact RA.out.later (belN wA _)) (by omega)).mono ?_; rintro e wB ⟨⟨p, l, vs, av, cv, rfl, hl0, hl1, hvsm, hv1, hvi, -⟩, hrB, htB⟩; have TAB : Hid (Touch r (r + 1) wA wB) := (by first | exact htB | exact touch_trans (touch_below (belN wA _)) htB); have TB := hide (touch_trans TA.out TAB.out); have VB := hide hvi; have RB := hide hrB; have HFS := hide (ev_sizes (f := ((⟨#[121]⟩ : ByteArray) ++ s, p, l, vs)) ⟨HNS.out, (by show -1 ≤ l; omega), (by show l ≤ 61; omega), hvsm⟩); (first | have KBB := hide (KBA.out.keep (TAB.out.block _ KBA.out.lt (by omega))) | have KBB := hide (BkAt.keep (BkAt.newAt wA _ rfl (.slice none 0 0) (.slice none 0 0) (.slice none 0 0)) (htB.block wA.heap.size (by simp) (by have := TA.out.size; omega))) | skip); clear hl0 hl1 hvsm hv1 hvi hrB htB)
                  | (go_at_call 12; refine (specAdd_all ((⟨#[121]⟩ : ByteArray) ++ s, p, l, vs) av cv dc d d' dd db db' ds es ts _ (by first | exact (FB.out.touch (rd_touchS TB.out (.inl (by omega)))).here | exact ((FB.out.touch (rd_touchS TB.out (.inl (by omega)))).later (belN wB _)).here) SMR.out (by first | exact VB.out | exact VB.out.later (belN wB _)) HFS.out.1 HFS.out.2).mono ?_; rintro e wC ⟨ec, e1, e1', ed, eb, eb', rfl, hbk, hbC⟩; have BBC : Hid (Below wB.heap.size wB wC) := (by first | exact hbC | exact below_two (belN wB _) hbC); have TC := hide (touch_then TB.out (BBC.out.mono TB.out.size)); have DC := hide hbk; have RC := hide (RB.out.later BBC.out); have SM1 := hide (addAll_sm (f := ((⟨#[121]⟩ : ByteArray) ++ s, p, l, vs)) SMR.out HFS.out.1 HFS.out.2); (first | have KBC := hide (KBB.out.later BBC.out) | have KBC := hide (BkAt.later (BkAt.newAt wB _ rfl (.slice none 0 0) (.slice none 0 0) (.slice none 0 0)) hbC) | skip); (first | (obtain ⟨p0, p1, p2, r0, r1, r2⟩ := KBC.out.cells) | skip); clear hbk hbC)
                  | (fail))
              all_goals
                have hzA := TA.out.size
                have hzB := TB.out.size
                have hzC := TC.out.size
                have hzBC := BBC.out.size
                first | have hzK := KBB.out.lt | skip
                go_wp2_with fail
                go_meet
                first
                | exact ⟨wC.heap.size, _, ec, e1, e1', ed, eb, eb', _, _, _, rfl, rfl, BkAt.newAt wC _ rfl _ _ _, by omega, fun Z hZ => DC.out Z (touchS_trans (touchS_below (belN wC _)) (touchS_mono hZ fun q hq => (by rcases hq with hq | hq <;> (try simp only [Deep.nblk_alloc]) <;> omega))), SM1.out, RC.out.later (belN wC _), touch_then TC.out ((belN wC _).mono TC.out.size)⟩
                | exact ⟨_, _, ec, e1, e1', ed, eb, eb', _, _, _, rfl, rfl, KBC.out.set3 _ _ _, by omega, fun Z hZ => DC.out Z (touchS_trans (touchS_mono (set3_touch wC _ _ _ _) (fun q hq => (by have e : q = _ := hq; subst e; (try simp only [Deep.nblk_alloc]); omega))) (touchS_mono hZ fun q hq => (by rcases hq with hq | hq <;> (try simp only [Deep.nblk_alloc]) <;> omega))), SM1.out, RC.out.touch (touch_ofS (lo := wr.heap.size) (hi := wC.heap.size) (set3_touch wC _ _ _ _) (fun q hq => (by have e : q = _ := hq; subst e; exact ⟨by omega, KBC.out.lt⟩))) hrr, touch_then TC.out (below_ofS (set3_touch wC _ _ _ _) hzC (fun q hq => (by have e : q = _ := hq; subst e; omega)))⟩
            case rest =>
              obtain ⟨bx, kk, ec, e1, e1', ed, eb, eb', ds1, es1, ts1, rfl, rfl, KX, hbx, FX, SMX, RX, TX⟩ := hcut
              generalize wc = w5 at *
              have hs5 := TX.out.size
              have KB5 := hide (KB.out.keep (TX.out.block _ KB.out.lt (by omega)))
              have KR5 := hide (KR.out.keep (TX.out.block _ KR.out.lt (by omega)))
              have FR5 := hide (FR.out.keep (TX.out.block _ FR.out.lt (by omega)))
              have D5 := hide (DR.out.trans (below_touch TX.out (by omega) |>.mono (by omega)))
              have FB5 := hide (FB.out.touch (rd_touchS TX.out (.inl (by omega))))
              clear KB KR FR DR KE FB
              by_cases hkk : kk = 0
              · subst hkk
                obtain ⟨x0, x1, x2, -⟩ := KX.out.cells
                obtain ⟨y0, y1, y2, r0, r1, r2⟩ := KB5.out.cells
                have KY := hide (KB5.out.set3 (.slice ec ds1.length ed) (.slice e1 es1.length eb) (.slice e1' ts1.length eb'))
                have TY := hide (set3_touch w5 w2.heap.size (.slice ec ds1.length ed) (.slice e1 es1.length eb) (.slice e1' ts1.length eb'))
                go_upto_region 6 with fail
                generalize ((w5.setCell ⟨w2.heap.size, 0, none⟩ (.slice ec ds1.length ed)).setCell ⟨w2.heap.size, 1, none⟩ (.slice e1 es1.length eb)).setCell ⟨w2.heap.size, 2, none⟩ (.slice e1' ts1.length eb') = Y at KY TY ⊢
                clear x0 x1 x2 y0 y1 y2 r0 r1 r2
                have KRY := hide (KR5.out.touchS TY.out (by omega))
                have FRY := hide (FR5.out.touchS TY.out (by omega))
                have FXY := hide (FX.out.touch (touchS_mono TY.out fun q hq => .inr hq))
                have RY := hide (RX.out.touch (touch_ofS (lo := w2.heap.size) (hi := w2.heap.size + 1) TY.out (fun q hq => by omega)) (by omega))
                have DY := hide (D5.out.trans (below_ofS TY.out (by omega) (fun q hq => by omega)))
                have hsY := TY.out.size
                go_wp2
                go_roundw
                case rel => exact ⟨k + 1, ec, e1, e1', ed, eb, eb', ds1, es1, ts1, by omega, by go_num, KY.out, KRY.out, FRY.out, FXY.out, SMX.out, RY.out.mono (by omega), by omega, DY.out⟩
                case measure => simp [intOf]; omega
              · have hkk' : (kk == 0) = false := by simpa using hkk
                go_wp2
                go_roundw
                case rel => exact ⟨k + 1, dc, d, d', dd, db, db', ds, es, ts, by omega, by go_num, KB5.out, KR5.out, FR5.out, FB5.out, SMR.out, RX.out.mono (by omega), by omega, D5.out⟩
                case measure => simp [intOf]; omega
          · have h9' : ¬ (k : Int) < 9 := by omega
            go_wp2
            go_meet
            case rel => exact ⟨dc, d, d', dd, db, db', ds, es, ts, KB.out, KR.out, FR.out, FB.out, SMR.out, RD.out.mono (by omega), hsz, DR.out⟩
        · have h8' : ¬ (es.length : Int) < 8 := by omega
          go_wp2
          go_meet
          case rel => exact ⟨dc, d, d', dd, db, db', ds, es, ts, KB.out, KR.out, FR.out, FB.out, SMR.out, RD.out.mono (by omega), hsz, DR.out⟩
    · have hq' : (q == 0) = false := by simpa using hq
      go_wp2
      go_meet
      case rel => exact ⟨bc, b, b', cc, cb, cb', cs, fs, ss, K3.out, KW3.out, FW3.out, F3.out, SM.out, R3.out.mono (by omega), by omega, D3.out⟩
  case rest =>
    obtain ⟨dc, d, d', dd, db, db', ds, es, ts, K4, KW4, FW4, F4, SM4, R4, hs4, D4⟩ := hcut
    generalize wc = w4 at *
    clear K3 KW3 FW3 F3 R3 D3 SM
    have F4b : Hid (FarBk (fun q => (q < w1.heap.size ∨ q = w2.heap.size) ∨ w4.heap.size ≤ q) w4 dc d d' ds es ts) := fun Z hZ => F4.out Z (touchS_lo2 hZ)
    clear F4
    have F4 := F4b
    clear F4b
    have hr4 := R4.out.lt
    go_wp2_with fail
    refine (l6Names_at r w4.heap.size w4 rfl hr4).mono ?_
    rintro e w5 ⟨rfl, hst, hb5⟩
    have HST := hide hst
    have B5 := hide hb5
    clear hst hb5
    go_wp2_with fail
    refine (of_any r _ (some ⟨w4.heap.size, 0, none⟩) 8 nams w5 (R4.out.later B5.out) (by omega) HST.out (by decide)).mono ?_
    rintro e w6 ⟨⟨nm, hnm, rfl⟩, hr6, ht6⟩
    have HNS := hide (nams_size nm hnm)
    have R6 := hide hr6
    have T6 := hide (touch_trans (touch_below (lo := r) (hi := r + 1) B5.out) ht6)
    clear hnm hr6 ht6
    go_wp2_with fail
    refine (l6Flight_any r _ nm w6 R6.out (by omega)).mono ?_
    rintro e w7 ⟨⟨p, l, vs, av, cv, rfl, hl0, hl1, hvsm, hv1, hvi, hva⟩, hr7, ht7⟩
    have T7 := hide (touch_trans T6.out ht7)
    have hs7 := T7.out.size
    obtain ⟨V7, hV7, hV7s, fV7, bV7⟩ := fl_newF w7 nm p l (.slice av vs.length cv)
    have HV7 := hide hV7
    have FF := hide fV7
    have R7 := hide (hr7.later bV7)
    have K7 := hide ((K4.out.keep (T7.out.block _ K4.out.lt (by omega))).later bV7)
    have KW7 := hide ((KW4.out.keep (T7.out.block _ KW4.out.lt (by omega))).later bV7)
    have FW7 := hide ((FW4.out.keep (T7.out.block _ FW4.out.lt (by omega))).later bV7)
    have F7 := hide ((F4.out.touch (rd_touchS T7.out (.inl (.inl (by omega))))).later bV7)
    have D7 := hide ((D4.out.trans (below_touch T7.out (by omega) |>.mono (by omega))).trans (bV7.mono (by have := D4.out.size; omega)))
    have VI := hide (hvi.later bV7)
    have HVA : Hid (∀ q, av = some q → w4.heap.size ≤ q.block) := fun q hq => by have := hva q hq; have := T6.out.size; omega
    have HVL := hide hvsm
    have HSM3 : Hid (FlSm 3 (nm, p, l, vs)) := ⟨HNS.out, by show -1 ≤ l; omega, by show l ≤ 61; omega, hvsm⟩
    have HV1 := hide hv1
    have AVL : Hid (∀ q, av = some q → q.block < w7.heap.size) := fun q hq => by
      obtain ⟨b9, off9, e9, hlt9, -⟩ := hvi 0 (by omega)
      rw [hq] at e9
      simp at e9
      subst e9
      exact hlt9
    clear hl0 hl1 hvsm hv1 hvi hva hr7 ht7 hV7 fV7 bV7 T6 R6 R4 K4 KW4 FW4 F4 D4
    go_upto_region 11 with fail
    rw [HV7.out]
    go_wp2_with fail
    refine (pick_any r _ 10 V7 R7.out (by omega) (by omega)).mono ?_
    rintro e w8 ⟨⟨q9, rfl, -, -⟩, hr8, ht8⟩
    have R8 := hide hr8
    have F8 := hide (F7.out.touch (rd_touchS ht8 (.inl (.inl (by omega)))))
    have K8 := hide (K7.out.keep (ht8.block _ K7.out.lt (by omega)))
    have KW8 := hide (KW7.out.keep (ht8.block _ KW7.out.lt (by omega)))
    have FW8 := hide (FW7.out.keep (ht8.block _ FW7.out.lt (by omega)))
    have FF8 := hide (FF.out.keep (ht8.block _ FF.out.lt (by omega)))
    have D8 := hide (D7.out.trans (below_touch ht8 (by omega) |>.mono (by omega)))
    have VI8 := hide (vis_touchS2 VI.out (rd_touchS ht8 (S := fun q => q = r) rfl) (fun p hp hh => by have := HVA.out p hp; omega))
    have hs8 := ht8.size
    clear hr8 ht8 R7 F7 K7 KW7 FW7 FF D7 VI
    go_upto_if 47 with fail
    go_cut [] from 48 to 50 (fun wc => ∃ (nm' : ByteArray) (p' l' : Int) (vs' : List Vis) (av' : Option Addr) (cv' : Nat), Hid (BkAt wc w2.heap.size (.slice dc ds.length dd) (.slice d es.length db) (.slice d' ts.length db')) ∧ Hid (BkAt wc w.heap.size (.slice none 0 0) (.slice none 0 0) (.slice none 0 0)) ∧ Hid (FlAt wc (w.heap.size + 1) ⟨#[]⟩ 0 0 (.slice none 0 0)) ∧ Hid (FlAt wc w7.heap.size nm' p' l' (.slice av' vs'.length cv')) ∧ Hid (FarBk (fun q => (q < w1.heap.size ∨ q = w2.heap.size) ∨ w4.heap.size ≤ q) wc dc d d' ds es ts) ∧ Hid (VisitsIn wc av' vs') ∧ Hid (∀ q, av' = some q → w4.heap.size ≤ q.block) ∧ Hid (FlSm 6 (nm', p', l', vs')) ∧ w7.heap.size < wc.heap.size ∧ Hid (Below w.heap.size w wc))
    case first =>
      obtain ⟨x0, x1, x2, x3⟩ := FF8.out.cells4
      by_cases hq : q9 = 0
      · subst hq
        go_wp2_with fail
        refine (l6SpoilFlight_any r _ nm p l vs av cv w8 R8.out (by omega) VI8.out HV1.out HVL.out HSM3.out.1 HSM3.out.2.1 HSM3.out.2.2.1).mono ?_
        rintro e w9 ⟨⟨nm', p', l', vs', a9, c9, rfl, hn9, hl90, hl91, hs9, hv9, ha9⟩, hr9, ht9⟩
        have hs9z := ht9.size
        have FF9 := hide (FF8.out.keep (ht9.block _ FF8.out.lt (by omega)))
        have VV9 := hide hv9
        have HA9 := hide ha9
        have SM9 : Hid (FlSm 6 (nm', p', l', vs')) := ⟨hn9, hl90, hl91, hs9⟩
        have F9 := hide (F8.out.touch (rd_touchS ht9 (.inl (.inl (by omega)))))
        have K9 := hide (K8.out.keep (ht9.block _ K8.out.lt (by omega)))
        have KW9 := hide (KW8.out.keep (ht9.block _ KW8.out.lt (by omega)))
        have FW9 := hide (FW8.out.keep (ht9.block _ FW8.out.lt (by omega)))
        have D9 := hide (D8.out.trans (below_touch ht9 (by omega) |>.mono (by omega)))
        clear hn9 hl90 hl91 hs9 hv9 ha9 hr9 ht9 x0 x1 x2 x3
        obtain ⟨c0, c1, c2, c3, z0, z1, z2, z3⟩ := FF9.out.cells
        have FX := hide ((((FF9.out.setName nm').setPlan p').setLate l').setVis (.slice a9 vs'.length c9))
        have TX := hide (fl4_touch w9 w7.heap.size (.string nm') (.int .i64 p') (.int .i64 l') (.slice a9 vs'.length c9))
        go_wp2_with fail
        generalize (((w9.setCell ⟨w7.heap.size, 0, none⟩ (.string nm')).setCell ⟨w7.heap.size, 1, none⟩ (.int .i64 p')).setCell ⟨w7.heap.size, 2, none⟩ (.int .i64 l')).setCell ⟨w7.heap.size, 3, none⟩ (.slice a9 vs'.length c9) = Y at FX TX ⊢
        have hsY := TX.out.size
        have h7w : w7.heap.size < w8.heap.size := FF8.out.lt
        go_meet
        case rel => exact ⟨nm', p', l', vs', a9, c9, K9.out.touchS TX.out (by omega), KW9.out.touchS TX.out (by omega), FW9.out.touchS TX.out (by omega), FX.out, F9.out.touch (touchS_mono TX.out fun q hq => .inr (by omega)), vis_touchS2 VV9.out TX.out (fun p hp hh => by have := HA9.out p hp; have hh' : p.block = w7.heap.size := hh; omega), fun q hq => by have := HA9.out q hq; omega, SM9.out, by omega, D9.out.trans (below_ofS TX.out (by omega) (fun q hq => by omega))⟩
      · have hq' : (q9 == 0) = false := by simpa using hq
        go_wp2_with fail
        go_meet
        case rel => exact ⟨nm, p, l, vs, av, cv, K8.out, KW8.out, FW8.out, FF8.out, F8.out, VI8.out, HVA.out, ⟨HSM3.out.1, HSM3.out.2.1, HSM3.out.2.2.1, by have := HVL.out.1; show vs.length ≤ 6; omega, HVL.out.2⟩, by omega, D8.out⟩
    case rest =>
      obtain ⟨nm', p', l', vs', av', cv', K9, KW9, FW9, FF9, F9, VI9, HA9, SM9, hs9, D9⟩ := hcut
      generalize wc = w9 at *
      clear K8 KW8 FW8 FF8 F8 VI8 D8 R8
      go_upto_region 13 with fail
      have S0 : (w9.drew.cell? ⟨w2.heap.size, 0, none⟩ = some (.slice dc ds.length dd) ∧ w9.drew.cell? ⟨w2.heap.size, 1, none⟩ = some (.slice d es.length db) ∧ w9.drew.cell? ⟨w2.heap.size, 2, none⟩ = some (.slice d' ts.length db')) ∧ w9.drew.cell? ⟨w7.heap.size, 0, none⟩ = some (.string nm') ∧ w9.drew.cell? ⟨w7.heap.size, 1, none⟩ = some (.int .i64 p') ∧ w9.drew.cell? ⟨w7.heap.size, 2, none⟩ = some (.int .i64 l') ∧ w9.drew.cell? ⟨w7.heap.size, 3, none⟩ = some (.slice av' vs'.length cv') := ⟨K9.out.cells3, FF9.out.cells4⟩
      refine wp_region_U (S := fun X => (X.cell? ⟨w2.heap.size, 0, none⟩ = some (.slice dc ds.length dd) ∧ X.cell? ⟨w2.heap.size, 1, none⟩ = some (.slice d es.length db) ∧ X.cell? ⟨w2.heap.size, 2, none⟩ = some (.slice d' ts.length db')) ∧ X.cell? ⟨w7.heap.size, 0, none⟩ = some (.string nm') ∧ X.cell? ⟨w7.heap.size, 1, none⟩ = some (.int .i64 p') ∧ X.cell? ⟨w7.heap.size, 2, none⟩ = some (.int .i64 l') ∧ X.cell? ⟨w7.heap.size, 3, none⟩ = some (.slice av' vs'.length cv')) (y := 3) (by kernel_rfl) ?_
      refine wpAnyU.take (i := 0) (v := ?_) rfl (by kernel_rfl) (by kernel_rfl) (by kernel_rfl) (by kernel_rfl) (by kernel_rfl) (by kernel_rfl) (fun _ _ _ h => h) (Or.inl ⟨by rfl, ?_⟩) S0 ?_
      rotate_left
      · (intro X hX; obtain ⟨⟨u0, u1, u2⟩, u3, u4, u5, u6⟩ := hX; go_simp) <;> (with_reducible rfl)
      try simp only [Act.put]
      refine wpAnyU.take (i := 1) (v := ?_) rfl (by kernel_rfl) (by kernel_rfl) (by kernel_rfl) (by kernel_rfl) (by kernel_rfl) (by kernel_rfl) (fun _ _ _ h => h) (Or.inl ⟨by rfl, ?_⟩) S0 ?_
      rotate_left
      · (intro X hX; obtain ⟨⟨u0, u1, u2⟩, u3, u4, u5, u6⟩ := hX; go_simp) <;> (with_reducible rfl)
      try simp only [Act.put]
      refine wpAnyU.one (i := 2) (by kernel_rfl) rfl (fun K hK => ?_)
      obtain ⟨y0, y1, y2, r0, r1, r2⟩ := KW9.out.cells
      have KX := hide (KW9.out.set3 (.slice dc ds.length dd) (.slice d es.length db) (.slice d' ts.length db'))
      have TX := hide (set3_touch w9 w.heap.size (.slice dc ds.length dd) (.slice d es.length db) (.slice d' ts.length db'))
      go_simp
      generalize ((w9.setCell ⟨w.heap.size, 0, none⟩ (.slice dc ds.length dd)).setCell ⟨w.heap.size, 1, none⟩ (.slice d es.length db)).setCell ⟨w.heap.size, 2, none⟩ (.slice d' ts.length db') = Y at KX TX ⊢
      have TXw : TouchS (fun k => k = w.heap.size) w9 Y := TX.out
      have KB1 := hide (K9.out.touchS TXw (by omega))
      have FF1 := hide (FF9.out.touchS TXw (by omega))
      have FW1 := hide (FW9.out.touchS TXw (by omega))
      have T1 := hide TXw
      clear TXw TX S0
      refine hK.out _ _ (.inr ⟨KB1.out.cells3, FF1.out.cells4⟩) ?_
      clear hK y0 y1 y2 r0 r1 r2
      try simp only [Act.put]
      refine wpAnyU.one (i := 3) (by kernel_rfl) rfl (fun K hK => ?_)
      obtain ⟨c0, c1, c2, c3, z0, z1, z2, z3⟩ := FW1.out.cells
      have FY := hide ((((FW1.out.setName nm').setPlan p').setLate l').setVis (.slice av' vs'.length cv'))
      have TY := hide (fl4_touch Y (w.heap.size + 1) (.string nm') (.int .i64 p') (.int .i64 l') (.slice av' vs'.length cv'))
      go_simp
      generalize (((Y.setCell ⟨w.heap.size + 1, 0, none⟩ (.string nm')).setCell ⟨w.heap.size + 1, 1, none⟩ (.int .i64 p')).setCell ⟨w.heap.size + 1, 2, none⟩ (.int .i64 l')).setCell ⟨w.heap.size + 1, 3, none⟩ (.slice av' vs'.length cv') = Y2 at FY TY ⊢
      refine hK.out _ _ (.inl (by kernel_rfl)) ?_
      clear hK c0 c1 c2 c3 z0 z1 z2 z3
      try simp only [Act.put]
      refine wpAnyU.done (by kernel_rfl) ?_ _
      have KY := hide (KX.out.touchS TY.out (by omega))
      have TT0 : TouchS (fun q => q = w.heap.size ∨ q = w.heap.size + 1) w9 Y2 := touchS_trans (touchS_mono T1.out fun q hq => .inl hq) (touchS_mono TY.out fun q hq => .inr hq)
      have TT : Hid (TouchS (fun q => q = w.heap.size ∨ q = w.heap.size + 1) w9 Y2.drew) := ⟨TT0.os, TT0.tape, TT0.output, TT0.size, TT0.block⟩
      clear TT0
      go_wp2
      obtain ⟨q0, q1, q2, -⟩ := KY.out.cells
      obtain ⟨f0, f1, f2, f3⟩ := FY.out.cells4
      exact bodyPost_ret (v := .tuple #[bkV dc d d' dd db db' ds es ts, .agg #[.string nm', .int .i64 p', .int .i64 l', .slice av' vs'.length cv']]) (by simp [results, Tryz.results15, go_sem, q0, q1, q2, f0, f1, f2, f3, bkV]) rfl ⟨dc, d, d', dd, db, db', ds, es, ts, nm', p', l', vs', av', cv', rfl, F9.out Y2.drew (touchS_mono TT.out fun q hq => .inl (.inl (by omega))), SM4.out, vis_touchS2 VI9.out TT.out (fun p hp hh => by have := HA9.out p hp; omega), SM9.out, D9.out.trans (below_ofS TT.out (by omega) (fun q hq => by omega))⟩
end Go.Proofs.YtciacofibljmoaaGreatDoor
