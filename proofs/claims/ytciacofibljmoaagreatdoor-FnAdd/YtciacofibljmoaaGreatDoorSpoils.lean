/- A book is spoilt: what stands. -/
import Derived.Test.YtciacofibljmoaaGreatDoorDrawBook
namespace Go.Proofs.YtciacofibljmoaaGreatDoor
open Go.RowKit

theorem touchS_lo2 {S : Nat → Prop} {a w : World} (h : TouchS (fun q => S q ∨ a.heap.size ≤ q) a w) : TouchS S a w :=
  ⟨h.os, h.tape, h.output, h.size, fun k hk hn => h.block k hk fun hh => hh.elim hn fun h1 => by omega⟩
theorem BkAt.set0 {w : World} {F : Nat} {v0 v1 v2 : Value} (h : BkAt w F v0 v1 v2) (u0 : Value) : BkAt (w.setCell ⟨F, 0, none⟩ u0) F u0 v1 v2 := by
  obtain ⟨f, h0, h1, h2, h3⟩ := h
  exact ⟨_, h0.set 0 _, by simp, by simpa using h2, by simpa using h3⟩
theorem set1_touch (w : World) (F i : Nat) (u : Value) : TouchS (fun k => k = F) w (w.setCell ⟨F, i, none⟩ u) := touch1_set (touchS_refl _ _) i u
theorem inFl_ge {w : World} {base : Nat} {a2 : Option Addr} {n c2 : Nat} {gs : List FlV} (h : OwnF w base (.slice a2 n c2) gs) (hn : n = gs.length) {q : Nat} (hq : InFl a2 gs q) : base ≤ q := by
  subst hn
  rcases hq with hq | ⟨x, hx, p, hp, rfl⟩
  · exact (owns_in h.1 hq).1
  · exact ((h.2 x hx).2 p hp).1
/-- One flight of a row of the call's own is put anew. -/
theorem ownF_set {w : World} {base g cp : Nat} {gs : List FlV} (h : OwnF w base (.slice (some ⟨g, 0, none⟩) gs.length cp) gs) {k : Nat} (hk : k < gs.length) (x : FlV) (hv : VisitsIn w x.2.1 x.1.2.2.2) (ha : ∀ p, x.2.1 = some p → base ≤ p.block ∧ p.block ≠ g) :
    OwnF ((((w.setCell ⟨g, k * 4, none⟩ (.string x.1.1)).setCell ⟨g, k * 4 + 1, none⟩ (.int .i64 x.1.2.1)).setCell ⟨g, k * 4 + 2, none⟩ (.int .i64 x.1.2.2.1)).setCell ⟨g, k * 4 + 3, none⟩ (.slice x.2.1 x.1.2.2.2.length x.2.2)) base (.slice (some ⟨g, 0, none⟩) gs.length cp) (gs.set k x) := by
  have OX := owns_set4 h.1 hk x
  have TX := set4_touch w g (k * 4) (.string x.1.1) (.int .i64 x.1.2.1) (.int .i64 x.1.2.2.1) (.slice x.2.1 x.1.2.2.2.length x.2.2)
  refine ⟨by rw [List.length_set]; exact OX, fun y hy => ?_⟩
  rcases List.mem_or_eq_of_mem_set hy with hy | rfl
  · obtain ⟨f1, f2⟩ := h.2 y hy
    refine ⟨vis_touchS' f1 TX fun q hq hh => ?_, f2⟩
    obtain ⟨p, hp, rfl⟩ := hq
    have hh' : p.block = g := hh
    exact (f2 p hp).2 (by rw [hh']; rfl)
  · refine ⟨vis_touchS' hv TX fun q hq hh => ?_, fun p hp => ⟨(ha p hp).1, ?_⟩⟩
    · obtain ⟨p, hp, rfl⟩ := hq
      exact (ha p hp).2 hh
    · intro e
      have := (ha p hp).2
      simp [Value.ownBlock] at e
      omega
/-- Flights put anew: the book behind. -/
theorem spoil_far0 {w1 wF Z : World} {lo g cb cb' k : Nat} {bc b' : Option Addr} {cs : List (ByteArray × Int)} {fs : List Fli} {ss : List Int} {gs : List FlV} {y : FlV} (hc : CopyIn lo w1 bc (some ⟨g, 0, none⟩) b' cb' cs fs ss) (hcap : ∀ w'', TouchS (fun k => (k < lo ∨ InN ss.length b' k) ∨ InA (some ⟨g, 0, none⟩) k) w1 w'' → CapsIn w'' bc cs) (ho : OwnF w1 lo (.slice (some ⟨g, 0, none⟩) fs.length cb) gs) (hgs : gs.map Prod.fst = fs)
    (hF : OwnF wF lo (.slice (some ⟨g, 0, none⟩) gs.length cb) (gs.set k y)) (hZ : TouchS (fun q => q < lo ∨ wF.heap.size ≤ q) wF Z) (h1 : TouchS (fun q => q < lo ∨ q = g) w1 wF) :
    BookIn Z bc (some ⟨g, 0, none⟩) b' cs (fs.set k y.1) ss := by
  have hlen : fs.length = gs.length := by rw [← hgs, List.length_map]
  have hZ' : TouchS (fun q => q < lo) wF Z := touchS_lo2 hZ
  have t : TouchS (fun q => q < lo ∨ q = g) w1 Z := touchS_trans h1 (touchS_mono hZ' fun q hq => .inl hq)
  refine ⟨hcap Z (touchS_mono t fun q hq => hq.elim (fun h => .inl (.inl h)) (fun h => .inr ⟨_, rfl, h.symm⟩)), ?_, ?_⟩
  · have := ownF_in (ownF_touchS hF (by rw [List.length_set]) hZ' fun q hq hh => by have := inFl_ge hF (by rw [List.length_set]) hq; omega)
    rw [List.map_set, hgs] at this
    exact this
  · refine ints_touchS (ints_of hc.own) t fun q hq hh => ?_
    rcases hh with hh | hh
    · have := hc.inI hq; omega
    · rw [hlen] at ho
      exact apart_types hc.own ho.1 (by decide) hq.2 ⟨_, rfl, hh.symm⟩
theorem bookSm_fl {cs : List (ByteArray × Int)} {fs : List Fli} {ss : List Int} (h : BookSm cs fs ss) (k : Nat) {f : Fli} (hf : FlSm 6 f) : BookSm cs (fs.set k f) ss := by
  have hs : f.2.2.2.length ≤ 1048576 ∧ SizesOk f := by
    obtain ⟨h1, _, _, h2, h3⟩ := hf
    refine ⟨by omega, ?_, ?_, ?_⟩
    · unfold maxLen; omega
    · unfold maxLen; omega
    · intro v hv
      have := h3 v hv
      unfold maxLen; omega
  refine ⟨h.nc, by rw [List.length_set]; exact h.nf, h.ns, h.sc, fun x hx => ?_, fun x hx => ?_⟩
  · rcases List.mem_or_eq_of_mem_set hx with hx | rfl
    · exact h.vl x hx
    · exact hs.1
  · rcases List.mem_or_eq_of_mem_set hx with hx | rfl
    · exact h.sf x hx
    · exact hs.2
theorem bookSm_ss {cs : List (ByteArray × Int)} {fs : List Fli} {ss st : List Int} (h : BookSm cs fs ss) (hl : st.length ≤ ss.length) : BookSm cs fs st := ⟨h.nc, h.nf, Nat.le_trans hl h.ns, h.sc, h.vl, h.sf⟩
theorem bookSm_cs {cs cs' : List (ByteArray × Int)} {fs : List Fli} {ss : List Int} (h : BookSm cs fs ss) (hl : CapsSm 7 cs') : BookSm cs' fs ss := ⟨by have := hl.1; omega, h.nf, h.ns, fun c hc => by have := hl.2 c hc; unfold maxLen; omega, h.vl, h.sf⟩
theorem ints_take {w : World} {a : Option Addr} {zs : List Int} (h : IntsIn w a zs) (k : Nat) : IntsIn w a (zs.take k) := fun i hi => by
  have hi' : i < zs.length := by rw [List.length_take] at hi; omega
  obtain ⟨b, off, e, hlt, c⟩ := h i hi'
  exact ⟨b, off, e, hlt, by rw [List.getElem_take]; exact c⟩
/-- A slot put anew: the book behind. -/
theorem spoil_far1 {w1 wF Z : World} {lo cb' : Nat} {bc b b' : Option Addr} {cs : List (ByteArray × Int)} {fs : List Fli} {ss st : List Int} (hc : CopyIn lo w1 bc b b' cb' cs fs ss) (hl : st.length = ss.length)
    (hF : OwnI wF lo (.slice b' ss.length cb') st) (hZ : TouchS (fun q => q < lo ∨ wF.heap.size ≤ q) wF Z) (h1 : TouchS (fun q => q < lo ∨ InN ss.length b' q) w1 wF) :
    BookIn Z bc b b' cs fs st := by
  have hZ' : TouchS (fun q => q < lo) wF Z := touchS_lo2 hZ
  have hr := hc.rest Z (touchS_trans h1 (touchS_mono hZ' fun q hq => .inl hq))
  rw [← hl] at hF
  refine ⟨hr.1, hr.2, ints_touchS (ints_of hF) hZ' fun q hq hh => ?_⟩
  have := (owns_in hF hq.2).1
  omega
/-- Caps or a piece of the slots: the book behind. -/
theorem spoil_far2 {w1 Z : World} {lo cb' : Nat} {bc b b' : Option Addr} {cs : List (ByteArray × Int)} {fs : List Fli} {ss : List Int} (hc : CopyIn lo w1 bc b b' cb' cs fs ss) (hZ : TouchS (fun q => q < lo ∨ w1.heap.size ≤ q) w1 Z) : BookIn Z bc b b' cs fs ss := by
  have hZ' : TouchS (fun q => q < lo) w1 Z := touchS_lo2 hZ
  have hr := hc.rest Z (touchS_mono hZ' fun q hq => .inl hq)
  refine ⟨hr.1, hr.2, ints_touchS (ints_of hc.own) hZ' fun q hq hh => ?_⟩
  have := hc.inI hq
  omega
theorem touchS_rd {S : Nat → Prop} {r : Nat} {a w w' : World} (h : TouchS S a w) (ht : Touch r (r + 1) w w') (hr : S r) : TouchS S a w' := touchS_trans h (rd_touchS ht hr)
theorem touchS_later {S : Nat → Prop} {a w w' : World} (h : TouchS S a w) (hb : Below w.heap.size w w') : TouchS S a w' := touchS_trans h (touchS_below hb)
end Go.Proofs.YtciacofibljmoaaGreatDoor

/- A book is spoilt. -/
namespace Go.Proofs.YtciacofibljmoaaGreatDoor
open Go.RowKit

set_option maxRecDepth 100000 in
set_option maxHeartbeats 6400000 in
theorem l6Spoil_any (r N : Nat) (ac a a' : Option Addr) (capc cap cap' : Nat) (cs : List (ByteArray × Int)) (fs : List Fli) (ss : List Int) (w : World) (h : Rd w r N) (hN : N ≤ 890000) (hb : BookIn w ac a a' cs fs ss) (hm : BookSm cs fs ss) (hf : fitsB cs fs ss = true) (hc : CapsSm 3 cs) (hfl : ∀ f ∈ fs, FlSm 3 f) :
    Calls Tryz.prog 59 #[.pointer (some ⟨r, 0, none⟩), bkV ac a a' capc cap cap' cs fs ss] w fun e w' => (∃ bc b b' cc cb cb' cs' fs' ss', e = .returned (bkV bc b b' cc cb cb' cs' fs' ss') ∧ FarBk (fun q => q < w.heap.size) w' bc b b' cs' fs' ss' ∧ BookSm cs' fs' ss') ∧ Rd w' r (N + 10) ∧ Touch r (r + 1) w w' := by
  have hrl := h.lt
  have HR := hide h
  have HB := hide hb
  have HM := hide hm
  have HC3 := hide hc
  have HF3 := hide hfl
  have HLS := hide (fits_len hf)
  have HV : Hid (∀ f ∈ fs, 1 ≤ f.2.2.2.length ∧ f.2.2.2.length ≤ 1000) := fun f hg => by
    obtain ⟨i, hi, rfl⟩ := List.getElem_of_mem hg
    have := (slots_bd (fits_slots hf)).2.2.2 i hi
    exact ⟨this.2.2.2.1, by omega⟩
  have HN8 := hide (flis_iff.1 (fits_iff.1 hf).2.1).1
  clear h hb hm hc hfl hf
  obtain ⟨W, hW, hWs, f0, r0, b0⟩ := bk_boxes w (.slice ac cs.length capc) (.slice a fs.length cap) (.slice a' ss.length cap')
  obtain ⟨x0, x1, x2, -⟩ := f0.cells
  have HW := hide hW
  have R0 := hide r0
  have B0 := hide b0
  clear hW f0 r0 b0
  go_enter Tryz.func59, Tryz.ntmps59
  go_upto_region 1 with fail
  rw [HW.out]
  go_wp2_with fail
  refine (l4Copy_deep ac a a' capc cap cap' cs fs ss W (HB.out.later B0.out) HM.out HV.out).mono ?_
  rintro e w1 ⟨bc, b, b', cc, cb, cb', rfl, ⟨hcp, hfo⟩, -, hb1⟩
  have C1 := hide hcp
  have FO := hide hfo
  have B1 := hide hb1
  have hs1 := hb1.size
  clear hcp hfo hb1 x0 x1 x2
  obtain ⟨V, hV, hVs, kV, bV⟩ := bk_newT w1 (.slice bc cs.length cc) (.slice b fs.length cb) (.slice b' ss.length cb')
  have HVV := hide hV
  have KX := hide kV
  have BV := hide bV
  clear hV kV bV
  have TS : Hid (TouchS (fun q => q < W.heap.size ∨ w1.heap.size ≤ q) w1 V) := touchS_below BV.out
  have RD := hide (((HR.out.later B0.out).later B1.out).later BV.out)
  have KR := hide ((R0.out.later B1.out).later BV.out)
  have TT : Hid (Touch r (r + 1) w V) := touch_below (below_two (below_two B0.out B1.out) BV.out)
  go_upto_region 2 with fail
  rw [HVV.out]
  obtain ⟨x0, x1, x2, -⟩ := KX.out.cells
  by_cases hz : fs.length = 0
  · have hz' : ((fs.length : Int) == 0) = true := by simp [hz]
    have HZ := hide hz
    clear hz
    go_wp2_with fail
    refine (l6SpoilCaps_any r _ cs bc cc V RD.out (by omega) (spoil_far2 C1.out TS.out).caps HC3.out).mono ?_
    rintro e w4 ⟨⟨v, cs', rfl, hoc, hsm⟩, hr4, ht4⟩
    obtain ⟨ac4, c4, rfl, -, -, hci, hcp4⟩ := OwnC.form hoc
    have HCI := hide hci
    have HCP := hide hcp4
    have HSM := hide hsm
    have RD4 := hide hr4
    have TS4 := hide (touchS_rd TS.out ht4 (.inl (by omega)))
    have TT4 := hide (touch_trans TT.out ht4)
    have K4 := hide (KX.out.keep (ht4.block _ KX.out.lt (by omega)))
    have KR4 := hide (KR.out.keep (ht4.block _ KR.out.lt (by omega)))
    have hs4 := ht4.size
    clear hoc hsm hci hcp4 hr4 ht4 RD TS TT KX KR x0 x1 x2
    obtain ⟨x0, x1, x2, g0, g1, g2⟩ := K4.out.cells
    have KX := hide (K4.out.set0 (.slice ac4 cs'.length c4))
    have TX := hide (set1_touch w4 w1.heap.size 0 (.slice ac4 cs'.length c4))
    go_upto_region 4 with fail
    generalize w4.setCell ⟨w1.heap.size, 0, none⟩ (.slice ac4 cs'.length c4) = Y at KX TX ⊢
    clear x0 x1 x2 g0 g1 g2
    have KR := hide (KR4.out.touchS TX.out (by omega))
    have RD := hide (RD4.out.touch (touch_ofS (lo := w1.heap.size) (hi := w1.heap.size + 1) TX.out (fun q hq => by omega)) (by omega))
    have TS := hide (touchS_trans TS4.out (touchS_mono TX.out fun q hq => .inr (by omega)))
    have TT := hide (touch_then TT4.out (below_ofS TX.out (by have := TT4.out.size; omega) (fun q hq => by omega)))
    obtain ⟨x0, x1, x2, -⟩ := KX.out.cells
    obtain ⟨y0, y1, y2, r0, r1, r2⟩ := KR.out.cells
    have KZ := hide (KR.out.set3 (.slice ac4 cs'.length c4) (.slice b fs.length cb) (.slice b' ss.length cb'))
    have TZ := hide (set3_touch Y (w.heap.size + 1) (.slice ac4 cs'.length c4) (.slice b fs.length cb) (.slice b' ss.length cb'))
    go_wp2
    generalize ((Y.setCell ⟨w.heap.size + 1, 0, none⟩ (.slice ac4 cs'.length c4)).setCell ⟨w.heap.size + 1, 1, none⟩ (.slice b fs.length cb)).setCell ⟨w.heap.size + 1, 2, none⟩ (.slice b' ss.length cb') = Y2 at *
    obtain ⟨z0, z1, z2, -⟩ := KZ.out.cells
    refine bodyPost_ret (v := bkV ac4 b b' c4 cb cb' cs' fs ss) (by simp [results, Tryz.results59, go_sem, z0, z1, z2, bkV]) rfl ⟨⟨ac4, b, b', c4, cb, cb', cs', fs, ss, rfl, fun Z hZ => ?_, bookSm_cs HM.out HSM.out⟩, ?_, ?_⟩
    · have hZ1 : TouchS (fun q => q < W.heap.size) Y Z := touchS_trans (touchS_mono TZ.out fun q hq => by omega) (touchS_mono hZ fun q hq => by omega)
      have hb := spoil_far2 C1.out (touchS_trans TS.out (touchS_mono hZ1 fun q hq => .inl hq))
      refine ⟨caps_touchS HCI.out (touchS_trans (touchS_mono TX.out fun q hq => (show q < V.heap.size by omega)) (touchS_mono hZ1 fun q hq => (show q < V.heap.size by omega))) (fun q hq hh => ?_), hb.fl, hb.ints⟩
      obtain ⟨_, p, hp, rfl⟩ := hq
      have := (HCP.out p hp).2.1
      omega
    · exact ((RD.out.touch (touch_ofS (lo := w.heap.size + 1) (hi := w.heap.size + 2) TZ.out (fun q hq => by omega)) (by omega)).mono (by omega))
    · exact touch_then TT.out (below_ofS TZ.out (by have := TT.out.size; omega) (fun q hq => by omega))
  · have hz' : ((fs.length : Int) == 0) = false := by simpa using hz
    have hz1 : 1 ≤ fs.length := by omega
    have HZ := hide hz1
    clear hz hz1
    go_wp2_with fail
    refine (pick_any r N 4 V RD.out (by omega) (by omega)).mono ?_
    rintro e w3 ⟨⟨q, rfl, hq0, hq1⟩, hr3, ht3⟩
    have RD3 := hide hr3
    have TS3 := hide (touchS_rd TS.out ht3 (.inl (by omega)))
    have TT3 := hide (touch_trans TT.out ht3)
    have KX3 := hide (KX.out.keep (ht3.block _ KX.out.lt (by omega)))
    have KR3 := hide (KR.out.keep (ht3.block _ KR.out.lt (by omega)))
    have hs3 := ht3.size
    clear hr3 ht3 RD TS TT KX KR x0 x1 x2
    have RD := RD3
    have TS := TS3
    have TT := TT3
    have KX := KX3
    have KR := KR3
    clear RD3 TS3 TT3 KX3 KR3
    obtain ⟨x0, x1, x2, -⟩ := KX.out.cells
    by_cases hq : q = 0
    · subst hq
      go_wp2_with fail
      refine (l6SpoilCaps_any r _ cs bc cc w3 RD.out (by omega) (spoil_far2 C1.out TS.out).caps HC3.out).mono ?_
      rintro e w4 ⟨⟨v, cs', rfl, hoc, hsm⟩, hr4, ht4⟩
      obtain ⟨ac4, c4, rfl, -, -, hci, hcp4⟩ := OwnC.form hoc
      have HCI := hide hci
      have HCP := hide hcp4
      have HSM := hide hsm
      have RD4 := hide hr4
      have TS4 := hide (touchS_rd TS.out ht4 (.inl (by omega)))
      have TT4 := hide (touch_trans TT.out ht4)
      have K4 := hide (KX.out.keep (ht4.block _ KX.out.lt (by omega)))
      have KR4 := hide (KR.out.keep (ht4.block _ KR.out.lt (by omega)))
      have hs4 := ht4.size
      clear hoc hsm hci hcp4 hr4 ht4 RD TS TT KX KR x0 x1 x2
      obtain ⟨x0, x1, x2, g0, g1, g2⟩ := K4.out.cells
      have KX := hide (K4.out.set0 (.slice ac4 cs'.length c4))
      have TX := hide (set1_touch w4 w1.heap.size 0 (.slice ac4 cs'.length c4))
      go_upto_region 4 with fail
      generalize w4.setCell ⟨w1.heap.size, 0, none⟩ (.slice ac4 cs'.length c4) = Y at KX TX ⊢
      clear x0 x1 x2 g0 g1 g2
      have KR := hide (KR4.out.touchS TX.out (by omega))
      have RD := hide (RD4.out.touch (touch_ofS (lo := w1.heap.size) (hi := w1.heap.size + 1) TX.out (fun q hq => by omega)) (by omega))
      have TS := hide (touchS_trans TS4.out (touchS_mono TX.out fun q hq => .inr (by omega)))
      have TT := hide (touch_then TT4.out (below_ofS TX.out (by have := TT4.out.size; omega) (fun q hq => by omega)))
      obtain ⟨x0, x1, x2, -⟩ := KX.out.cells
      obtain ⟨y0, y1, y2, r0, r1, r2⟩ := KR.out.cells
      have KZ := hide (KR.out.set3 (.slice ac4 cs'.length c4) (.slice b fs.length cb) (.slice b' ss.length cb'))
      have TZ := hide (set3_touch Y (w.heap.size + 1) (.slice ac4 cs'.length c4) (.slice b fs.length cb) (.slice b' ss.length cb'))
      go_wp2
      generalize ((Y.setCell ⟨w.heap.size + 1, 0, none⟩ (.slice ac4 cs'.length c4)).setCell ⟨w.heap.size + 1, 1, none⟩ (.slice b fs.length cb)).setCell ⟨w.heap.size + 1, 2, none⟩ (.slice b' ss.length cb') = Y2 at *
      obtain ⟨z0, z1, z2, -⟩ := KZ.out.cells
      refine bodyPost_ret (v := bkV ac4 b b' c4 cb cb' cs' fs ss) (by simp [results, Tryz.results59, go_sem, z0, z1, z2, bkV]) rfl ⟨⟨ac4, b, b', c4, cb, cb', cs', fs, ss, rfl, fun Z hZ => ?_, bookSm_cs HM.out HSM.out⟩, ?_, ?_⟩
      · have hZ1 : TouchS (fun q => q < W.heap.size) Y Z := touchS_trans (touchS_mono TZ.out fun q hq => by omega) (touchS_mono hZ fun q hq => by omega)
        have hb := spoil_far2 C1.out (touchS_trans TS.out (touchS_mono hZ1 fun q hq => .inl hq))
        refine ⟨caps_touchS HCI.out (touchS_trans (touchS_mono TX.out fun q hq => (show q < w3.heap.size by omega)) (touchS_mono hZ1 fun q hq => (show q < w3.heap.size by omega))) (fun q hq hh => ?_), hb.fl, hb.ints⟩
        obtain ⟨_, p, hp, rfl⟩ := hq
        have := (HCP.out p hp).2.1
        omega
      · exact ((RD.out.touch (touch_ofS (lo := w.heap.size + 1) (hi := w.heap.size + 2) TZ.out (fun q hq => by omega)) (by omega)).mono (by omega))
      · exact touch_then TT.out (below_ofS TZ.out (by have := TT.out.size; omega) (fun q hq => by omega))
    · have hq' : (q == 0) = false := by simpa using hq
      clear hq0 hq1
      go_wp2_with fail
      refine (pick_any r _ _ w3 RD.out (by omega) (by have := HZ.out; omega)).mono ?_
      rintro e w5 ⟨⟨qk, rfl, hk0, hk1⟩, hr5, ht5⟩
      obtain ⟨k, rfl⟩ : ∃ k : Nat, qk = (k : Int) := ⟨qk.toNat, by omega⟩
      have hkl : k < fs.length := by omega
      have RD5 := hide hr5
      have TS5 := hide (touchS_rd TS.out ht5 (.inl (by omega)))
      have TT5 := hide (touch_trans TT.out ht5)
      have KX5 := hide (KX.out.keep (ht5.block _ KX.out.lt (by omega)))
      have KR5 := hide (KR.out.keep (ht5.block _ KR.out.lt (by omega)))
      have hs5 := ht5.size
      clear hr5 ht5 RD TS TT KX KR x0 x1 x2
      obtain ⟨x0, x1, x2, -⟩ := KX5.out.cells
      go_wp2_with fail
      refine (pick_any r _ 3 w5 RD5.out (by omega) (by omega)).mono ?_
      rintro e w6 ⟨⟨q3, rfl, hq30, hq31⟩, hr6, ht6⟩
      have RD := hide hr6
      have TS := hide (touchS_rd TS5.out ht6 (.inl (by omega)))
      have TT := hide (touch_trans TT5.out ht6)
      have KX := hide (KX5.out.keep (ht6.block _ KX5.out.lt (by omega)))
      have KR := hide (KR5.out.keep (ht6.block _ KR5.out.lt (by omega)))
      have hs6 := ht6.size
      have hr6l : r < w6.heap.size := hr6.lt
      clear hr6 ht6 RD5 TS5 TT5 KX5 KR5 x0 x1 x2
      obtain ⟨x0, x1, x2, -⟩ := KX.out.cells
      have HLK : Hid (ss.length = fs.length) := by have := HLS.out; show _ = _; omega
      by_cases h30 : q3 = 0
      · subst h30
        clear hq30 hq31
        obtain ⟨gs, hgs, hown, hcap⟩ := FO.out
        have HGS := hide hgs
        have HOW := hide hown
        have HCAP := hide hcap
        have hgl : gs.length = fs.length := by rw [← hgs, List.length_map]
        have HGL := hide hgl
        have O1 := hown w1 (touchS_refl _ _)
        have O6 := hown w6 (touchS_mono (touchS_lo2 TS.out) fun q hq => .inl hq)
        have e1 := O1.1
        rw [hgl] at e1
        obtain ⟨g, rfl, hg0, hg1⟩ := owns_some e1 HZ.out
        have hkg : k < gs.length := by omega
        have HO1 := hide O1
        have O6' := O6
        rw [← hgl] at O6'
        have HO6 := hide O6'
        obtain ⟨⟨c0, z0⟩, ⟨c1, z1⟩, ⟨c2, z2⟩, c3, z3⟩ := own_cells4 O6'.1 hkg
        have hxm : gs[k].1 ∈ fs := by rw [← hgs]; exact List.mem_map_of_mem (List.getElem_mem hkg)
        have hx1 := HV.out _ hxm
        have hx2 := HF3.out _ hxm
        have hx3 := (O6'.2 _ (List.getElem_mem hkg)).1
        clear e1 O1 O6 O6' hgs hown hcap hxm hgl
        have hkg2 := hide hkg
        generalize gs[k] = x at c0 c1 c2 c3 hx1 hx2 hx3
        clear hkg
        obtain ⟨⟨nm, p, l, vs⟩, xa, xc⟩ := x
        simp only at c0 c1 c2 c3 hx1 hx2 hx3
        have PC := hide (fun (X : World) (n : Nat) (h1 : Rd X r n) (h2 : n ≤ 900000) (h3 : VisitsIn X xa vs) => l6SpoilFlight_any r n nm p l vs xa xc X h1 h2 h3 hx1.1 hx2.2.2.2 hx2.1 hx2.2.1 hx2.2.2.1)
        have HX3 := hide hx3
        clear hx1 hx2 hx3
        have hkz : (k : Int) < (fs.length : Int) := by omega
        have S0 : w6.drew.cell? ⟨w1.heap.size, 1, none⟩ = some (.slice (some ⟨g, 0, none⟩) fs.length cb) ∧ w6.drew.cell? ⟨g, k * 4, none⟩ = some (.string nm) ∧ w6.drew.cell? ⟨g, k * 4 + 1, none⟩ = some (.int .i64 p) ∧ w6.drew.cell? ⟨g, k * 4 + 2, none⟩ = some (.int .i64 l) ∧ w6.drew.cell? ⟨g, k * 4 + 3, none⟩ = some (.slice xa vs.length xc) := ⟨x1, c0, c1, c2, c3⟩
        clear c0 c1 c2 c3 z0 z1 z2 z3 x0 x1 x2
        go_upto_region 9 with fail
        refine wp_region_U (S := fun X => X.cell? ⟨w1.heap.size, 1, none⟩ = some (.slice (some ⟨g, 0, none⟩) fs.length cb) ∧ X.cell? ⟨g, k * 4, none⟩ = some (.string nm) ∧ X.cell? ⟨g, k * 4 + 1, none⟩ = some (.int .i64 p) ∧ X.cell? ⟨g, k * 4 + 2, none⟩ = some (.int .i64 l) ∧ X.cell? ⟨g, k * 4 + 3, none⟩ = some (.slice xa vs.length xc)) (y := 11) (by kernel_rfl) ?_
        refine wpAnyU.takeP (i := 0) (v := ?_) rfl (by kernel_rfl) (by kernel_rfl) (by kernel_rfl) (by kernel_rfl) (fun _ _ _ h => h) (Or.inl ⟨by rfl, ?_⟩) (.inr S0) ?_
        rotate_left
        · (intro X hX; go_simp) <;> (with_reducible rfl)
        try simp only [Act.put]
        refine wpAnyU.take (i := 1) (v := ?_) rfl (by kernel_rfl) (by kernel_rfl) (by kernel_rfl) (by kernel_rfl) (by kernel_rfl) (by kernel_rfl) (fun _ _ _ h => h) (Or.inl ⟨by rfl, ?_⟩) S0 ?_
        rotate_left
        · (intro X hX; obtain ⟨u0, u1, u2, u3, u4⟩ := hX; go_simp) <;> (with_reducible rfl)
        try simp only [Act.put, List.setIfInBounds_toArray]
        refine wpAnyU.takeP (i := 2) (v := ?_) rfl (by kernel_rfl) (by kernel_rfl) (by kernel_rfl) (by kernel_rfl) (fun _ _ _ h => h) (Or.inl ⟨by rfl, ?_⟩) (.inr S0) ?_
        rotate_left
        · (intro X hX; go_simp) <;> (with_reducible rfl)
        try simp only [Act.put]
        refine wpAnyU.takeP (i := 3) (v := ?_) rfl (by kernel_rfl) (by kernel_rfl) (by kernel_rfl) (by kernel_rfl) (fun _ _ _ h => h) (Or.inl ⟨by rfl, ?_⟩) (.inr S0) ?_
        rotate_left
        · (intro X hX; go_simp) <;> (with_reducible rfl)
        try simp only [Act.put]
        refine wpAnyU.takeP (i := 4) (v := ?_) rfl (by kernel_rfl) (by kernel_rfl) (by kernel_rfl) (by kernel_rfl) (fun _ _ _ h => h) (Or.inl ⟨by rfl, ?_⟩) (.inr S0) ?_
        rotate_left
        · (intro X hX; go_simp) <;> (with_reducible rfl)
        try simp only [Act.put]
        refine wpAnyU.take (i := 5) (v := ?_) rfl (by kernel_rfl) (by kernel_rfl) (by kernel_rfl) (by kernel_rfl) (by kernel_rfl) (by kernel_rfl) (fun _ _ _ h => h) (Or.inl ⟨by rfl, ?_⟩) S0 ?_
        rotate_left
        · (intro X hX; obtain ⟨u0, u1, u2, u3, u4⟩ := hX; go_simp) <;> (with_reducible rfl)
        try simp only [Act.put]
        refine wpAnyU.takeP (i := 6) (v := ?_) rfl (by kernel_rfl) (by kernel_rfl) (by kernel_rfl) (by kernel_rfl) (fun _ _ _ h => h) (Or.inl ⟨by rfl, ?_⟩) (.inr S0) ?_
        rotate_left
        · (intro X hX; go_simp) <;> (with_reducible rfl)
        try simp only [Act.put]
        refine wpAnyU.takeP (i := 7) (v := ?_) rfl (by kernel_rfl) (by kernel_rfl) (by kernel_rfl) (by kernel_rfl) (fun _ _ _ h => h) (Or.inl ⟨by rfl, ?_⟩) (.inr S0) ?_
        rotate_left
        · (intro X hX; go_simp) <;> (with_reducible rfl)
        try simp only [Act.put]
        refine wpAnyU.take (i := 8) (v := ?_) rfl (by kernel_rfl) (by kernel_rfl) (by kernel_rfl) (by kernel_rfl) (by kernel_rfl) (by kernel_rfl) (fun _ _ _ h => h) (Or.inl ⟨by rfl, ?_⟩) S0 ?_
        rotate_left
        · (intro X hX; obtain ⟨u0, u1, u2, u3, u4⟩ := hX; go_simp) <;> (with_reducible rfl)
        try simp only [Act.put]
        refine wpAnyU.one (i := 9) (by kernel_rfl) rfl (fun K hK => ?_)
        go_simp
        refine (PC.out w6.drew _ RD.out (by omega) HX3.out).mono ?_
        rintro e w7 ⟨⟨nm', p', l', vs', a7, c7, rfl, hn7, hl70, hl71, hs7, hv7, ha7⟩, hr7, ht7⟩
        have HV7 := hide hv7
        have HA7 : Hid (∀ q, a7 = some q → w6.heap.size ≤ q.block) := ha7
        have HS7 : Hid (FlSm 6 (nm', p', l', vs')) := ⟨hn7, hl70, hl71, hs7⟩
        have RD7 := hide hr7
        have ht7' : Touch r (r + 1) w6 w7 := ⟨ht7.os, ht7.tape, ht7.output, ht7.size, ht7.block⟩
        have TS7 := hide (touchS_rd TS.out ht7' (.inl (by omega)))
        have TT7 := hide (touch_trans TT.out ht7')
        have KX7 := hide (KX.out.keep (ht7'.block _ KX.out.lt (by omega)))
        have KR7 := hide (KR.out.keep (ht7'.block _ KR.out.lt (by omega)))
        have hs7z := ht7'.size
        have O7 := HOW.out w7 (touchS_mono (touchS_lo2 TS7.out) fun q hq => .inl hq)
        rw [← HGL.out] at O7
        have HO7 := hide O7
        have S7 : w7.cell? ⟨w1.heap.size, 1, none⟩ = some (.slice (some ⟨g, 0, none⟩) fs.length cb) ∧ w7.cell? ⟨g, k * 4, none⟩ = some (.string nm) ∧ w7.cell? ⟨g, k * 4 + 1, none⟩ = some (.int .i64 p) ∧ w7.cell? ⟨g, k * 4 + 2, none⟩ = some (.int .i64 l) ∧ w7.cell? ⟨g, k * 4 + 3, none⟩ = some (.slice xa vs.length xc) := ⟨cell_touch ht7' S0.1 (.inr (by show r + 1 ≤ w1.heap.size; omega)), cell_touch ht7' S0.2.1 (.inr (by show r + 1 ≤ g; omega)), cell_touch ht7' S0.2.2.1 (.inr (by show r + 1 ≤ g; omega)), cell_touch ht7' S0.2.2.2.1 (.inr (by show r + 1 ≤ g; omega)), cell_touch ht7' S0.2.2.2.2 (.inr (by show r + 1 ≤ g; omega))⟩
        clear hn7 hl70 hl71 hs7 hv7 ha7 hr7 ht7 ht7' O7
        go_simp
        refine hK.out _ _ (.inr S7) ?_
        clear hK S0
        try simp only [Act.put]
        refine wpAnyU.takeP (i := 10) (v := ?_) rfl (by kernel_rfl) (by kernel_rfl) (by kernel_rfl) (by kernel_rfl) (fun _ _ _ h => h) (Or.inl ⟨by rfl, ?_⟩) (.inr S7) ?_
        rotate_left
        · (intro X hX; go_simp) <;> (with_reducible rfl)
        try simp only [Act.put]
        refine wpAnyU.one (i := 11) (by kernel_rfl) rfl (fun K hK => ?_)
        obtain ⟨⟨c0, z0⟩, ⟨c1, z1⟩, ⟨c2, z2⟩, c3, z3⟩ := own_cells4 HO7.out.1 hkg2.out
        go_simp
        refine hK.out _ _ (.inl (by kernel_rfl)) ?_
        clear hK c0 c1 c2 c3 z0 z1 z2 z3 S7
        try simp only [Act.put]
        refine wpAnyU.done (by kernel_rfl) ?_ _
        have OX := hide (ownF_set HO7.out hkg2.out ((nm', p', l', vs'), a7, c7) HV7.out (fun p hp => by have := HA7.out p hp; omega))
        have TX := hide (set4_touch w7 g (k * 4) (.string nm') (.int .i64 p') (.int .i64 l') (.slice a7 vs'.length c7))
        simp only at OX
        generalize (((w7.setCell ⟨g, k * 4, none⟩ (.string nm')).setCell ⟨g, k * 4 + 1, none⟩ (.int .i64 p')).setCell ⟨g, k * 4 + 2, none⟩ (.int .i64 l')).setCell ⟨g, k * 4 + 3, none⟩ (.slice a7 vs'.length c7) = Y at OX TX ⊢
        have KX := hide (KX7.out.touchS TX.out (by omega))
        have KR := hide (KR7.out.touchS TX.out (by omega))
        have RD := hide (RD7.out.touch (touch_ofS (lo := g) (hi := g + 1) TX.out (fun q hq => by omega)) (by omega))
        have T1Y : Hid (TouchS (fun q => q < W.heap.size ∨ q = g) w1 Y) := touchS_trans (touchS_mono (touchS_lo2 TS7.out) fun q hq => .inl hq) (touchS_mono TX.out fun q hq => .inr hq)
        have TT := hide (touch_then TT7.out (below_ofS TX.out (by have := TT7.out.size; omega) (fun q hq => by omega)))
        clear KX7 KR7 RD7 TT7 TS7
        obtain ⟨x0, x1, x2, -⟩ := KX.out.cells
        obtain ⟨y0, y1, y2, r0, r1, r2⟩ := KR.out.cells
        have KZ := hide (KR.out.set3 (.slice bc cs.length cc) (.slice (some ⟨g, 0, none⟩) fs.length cb) (.slice b' ss.length cb'))
        have TZ := hide (set3_touch Y (w.heap.size + 1) (.slice bc cs.length cc) (.slice (some ⟨g, 0, none⟩) fs.length cb) (.slice b' ss.length cb'))
        go_wp2
        generalize ((Y.setCell ⟨w.heap.size + 1, 0, none⟩ (.slice bc cs.length cc)).setCell ⟨w.heap.size + 1, 1, none⟩ (.slice (some ⟨g, 0, none⟩) fs.length cb)).setCell ⟨w.heap.size + 1, 2, none⟩ (.slice b' ss.length cb') = Y2 at *
        obtain ⟨z0, z1, z2, -⟩ := KZ.out.cells
        refine bodyPost_ret (v := bkV bc (some ⟨g, 0, none⟩) b' cc cb cb' cs (fs.set k (nm', p', l', vs')) ss) (by simp [results, Tryz.results59, go_sem, z0, z1, z2, bkV, List.length_set]) rfl ⟨⟨bc, some ⟨g, 0, none⟩, b', cc, cb, cb', cs, fs.set k (nm', p', l', vs'), ss, rfl, fun Z hZ => ?_, bookSm_fl HM.out k HS7.out⟩, ?_, ?_⟩
        · have hZ1 : TouchS (fun q => q < W.heap.size) Y Z := touchS_trans (touchS_mono TZ.out fun q hq => by omega) (touchS_mono hZ fun q hq => by omega)
          exact spoil_far0 C1.out HCAP.out HO1.out HGS.out OX.out (touchS_mono hZ1 fun q hq => .inl hq) T1Y.out
        · exact ((RD.out.touch (touch_ofS (lo := w.heap.size + 1) (hi := w.heap.size + 2) TZ.out (fun q hq => by omega)) (by omega)).mono (by omega))
        · exact touch_then TT.out (below_ofS TZ.out (by have := TT.out.size; omega) (fun q hq => by omega))
      · have h30' : (q3 == 0) = false := by simpa using h30
        by_cases h31 : q3 = 1
        · subst h31
          clear hq30 hq31 h30 h30'
          have O1 := C1.out.own
          have hss1 : 1 ≤ ss.length := by have := HZ.out; have := HLK.out; omega
          obtain ⟨g, rfl, hg0, hg1⟩ := owns_some O1 hss1
          have hks : k < ss.length := by have := HLK.out; omega
          have O6 : OwnI w6 W.heap.size (.slice (some ⟨g, 0, none⟩) ss.length cb') ss := owns_keep O1 fun q hq => (touchS_lo2 TS.out).block q (World.ownsRow.lt O1 q hq).2 (by have := (World.ownsRow.lt O1 q hq).1; omega)
          obtain ⟨c0, z0⟩ := own_cellI O6 hks
          have HO6 := hide O6
          have HKS := hide hks
          have hkz : (k : Int) < (ss.length : Int) := by omega
          generalize ss[k] = zk at c0
          have S0 : w6.drew.cell? ⟨w1.heap.size, 2, none⟩ = some (.slice (some ⟨g, 0, none⟩) ss.length cb') ∧ w6.drew.cell? ⟨g, k, none⟩ = some (.int .i64 zk) := ⟨x2, c0⟩
          clear c0 z0 O6 O1 x0 x1 x2 hks hss1
          go_upto_region 11 with fail
          refine wp_region_U (S := fun X => X.cell? ⟨w1.heap.size, 2, none⟩ = some (.slice (some ⟨g, 0, none⟩) ss.length cb') ∧ X.cell? ⟨g, k, none⟩ = some (.int .i64 zk)) (y := 13) (by kernel_rfl) ?_
          refine wpAnyU.takeP (i := 0) (v := ?_) rfl (by kernel_rfl) (by kernel_rfl) (by kernel_rfl) (by kernel_rfl) (fun _ _ _ h => h) (Or.inl ⟨by rfl, ?_⟩) (.inr S0) ?_
          rotate_left
          · (intro X hX; go_simp) <;> (with_reducible rfl)
          try simp only [Act.put]
          refine wpAnyU.take (i := 1) (v := ?_) rfl (by kernel_rfl) (by kernel_rfl) (by kernel_rfl) (by kernel_rfl) (by kernel_rfl) (by kernel_rfl) (fun _ _ _ h => h) (Or.inl ⟨by rfl, ?_⟩) S0 ?_
          rotate_left
          · (intro X hX; obtain ⟨u0, u1⟩ := hX; go_simp) <;> (with_reducible rfl)
          try simp only [Act.put, List.setIfInBounds_toArray]
          refine wpAnyU.takeP (i := 2) (v := ?_) rfl (by kernel_rfl) (by kernel_rfl) (by kernel_rfl) (by kernel_rfl) (fun _ _ _ h => h) (Or.inl ⟨by rfl, ?_⟩) (.inr S0) ?_
          rotate_left
          · (intro X hX; go_simp) <;> (with_reducible rfl)
          try simp only [Act.put]
          refine wpAnyU.takeP (i := 3) (v := ?_) rfl (by kernel_rfl) (by kernel_rfl) (by kernel_rfl) (by kernel_rfl) (fun _ _ _ h => h) (Or.inl ⟨by rfl, ?_⟩) (.inr S0) ?_
          rotate_left
          · (intro X hX; go_simp) <;> (with_reducible rfl)
          try simp only [Act.put]
          refine wpAnyU.take (i := 4) (v := ?_) rfl (by kernel_rfl) (by kernel_rfl) (by kernel_rfl) (by kernel_rfl) (by kernel_rfl) (by kernel_rfl) (fun _ _ _ h => h) (Or.inl ⟨by rfl, ?_⟩) S0 ?_
          rotate_left
          · (intro X hX; obtain ⟨u0, u1⟩ := hX; go_simp) <;> (with_reducible rfl)
          try simp only [Act.put]
          refine wpAnyU.takeP (i := 5) (v := ?_) rfl (by kernel_rfl) (by kernel_rfl) (by kernel_rfl) (by kernel_rfl) (fun _ _ _ h => h) (Or.inl ⟨by rfl, ?_⟩) (.inr S0) ?_
          rotate_left
          · (intro X hX; go_simp) <;> (with_reducible rfl)
          try simp only [Act.put]
          refine wpAnyU.takeP (i := 6) (v := ?_) rfl (by kernel_rfl) (by kernel_rfl) (by kernel_rfl) (by kernel_rfl) (fun _ _ _ h => h) (Or.inl ⟨by rfl, ?_⟩) (.inr S0) ?_
          rotate_left
          · (intro X hX; go_simp) <;> (with_reducible rfl)
          try simp only [Act.put]
          refine wpAnyU.take (i := 7) (v := ?_) rfl (by kernel_rfl) (by kernel_rfl) (by kernel_rfl) (by kernel_rfl) (by kernel_rfl) (by kernel_rfl) (fun _ _ _ h => h) (Or.inl ⟨by rfl, ?_⟩) S0 ?_
          rotate_left
          · (intro X hX; obtain ⟨u0, u1⟩ := hX; go_simp) <;> (with_reducible rfl)
          try simp only [Act.put]
          refine wpAnyU.takeP (i := 8) (v := ?_) rfl (by kernel_rfl) (by kernel_rfl) (by kernel_rfl) (by kernel_rfl) (fun _ _ _ h => h) (Or.inl ⟨by rfl, ?_⟩) (.inr S0) ?_
          rotate_left
          · (intro X hX; go_simp) <;> (with_reducible rfl)
          try simp only [Act.put]
          refine wpAnyU.one (i := 9) (by kernel_rfl) rfl (fun K hK => ?_)
          go_simp
          refine (pick_any r _ 5 w6.drew RD.out (by omega) (by omega)).mono ?_
          rintro e w7 ⟨⟨q5, rfl, -, -⟩, hr7, ht7⟩
          have RD7 := hide hr7
          have ht7' : Touch r (r + 1) w6 w7 := ⟨ht7.os, ht7.tape, ht7.output, ht7.size, ht7.block⟩
          have TS7 := hide (touchS_rd TS.out ht7' (.inl (by omega)))
          have TT7 := hide (touch_trans TT.out ht7')
          have KX7 := hide (KX.out.keep (ht7'.block _ KX.out.lt (by omega)))
          have KR7 := hide (KR.out.keep (ht7'.block _ KR.out.lt (by omega)))
          have hs7z := ht7'.size
          have O7 := hide (owns_keep HO6.out fun q hq => ht7'.block q (World.ownsRow.lt HO6.out q hq).2 (by have := (World.ownsRow.lt HO6.out q hq).1; omega))
          have S7 : w7.cell? ⟨w1.heap.size, 2, none⟩ = some (.slice (some ⟨g, 0, none⟩) ss.length cb') ∧ w7.cell? ⟨g, k, none⟩ = some (.int .i64 zk) := ⟨cell_touch ht7' S0.1 (.inr (by show r + 1 ≤ w1.heap.size; omega)), cell_touch ht7' S0.2 (.inr (by show r + 1 ≤ g; omega))⟩
          clear hr7 ht7 ht7'
          go_simp
          refine hK.out _ _ (.inr S7) ?_
          clear hK S0
          try simp only [Act.put]
          refine wpAnyU.takeP (i := 10) (v := ?_) rfl (by kernel_rfl) (by kernel_rfl) (by kernel_rfl) (by kernel_rfl) (fun _ _ _ h => h) (Or.inl ⟨by rfl, ?_⟩) (.inr S7) ?_
          rotate_left
          · (intro X hX; go_simp) <;> (with_reducible rfl)
          try simp only [Act.put]
          refine wpAnyU.takeP (i := 11) (v := ?_) rfl (by kernel_rfl) (by kernel_rfl) (by kernel_rfl) (by kernel_rfl) (fun _ _ _ h => h) (Or.inl ⟨by rfl, ?_⟩) (.inr S7) ?_
          rotate_left
          · (intro X hX; go_simp) <;> (with_reducible rfl)
          try simp only [Act.put]
          refine wpAnyU.takeP (i := 12) (v := ?_) rfl (by kernel_rfl) (by kernel_rfl) (by kernel_rfl) (by kernel_rfl) (fun _ _ _ h => h) (Or.inl ⟨by rfl, ?_⟩) (.inr S7) ?_
          rotate_left
          · (intro X hX; go_simp) <;> (with_reducible rfl)
          try simp only [Act.put]
          refine wpAnyU.one (i := 13) (by kernel_rfl) rfl (fun K hK => ?_)
          obtain ⟨c0, z0⟩ := own_cellI O7.out HKS.out
          generalize IntKind.wrap .i64 (IntKind.wrap .i64 (zk + q5) - 2) = zn
          go_simp
          refine hK.out _ _ (.inl (by kernel_rfl)) ?_
          clear hK c0 z0 S7
          try simp only [Act.put]
          refine wpAnyU.done (by kernel_rfl) ?_ _
          have OX := hide (own_setI O7.out (k := k) zn)
          have TX := hide (set1_touch w7 g k (.int .i64 zn))
          generalize w7.setCell ⟨g, k, none⟩ (.int .i64 zn) = Y at OX TX ⊢
          have KX := hide (KX7.out.touchS TX.out (by omega))
          have KR := hide (KR7.out.touchS TX.out (by omega))
          have RD := hide (RD7.out.touch (touch_ofS (lo := g) (hi := g + 1) TX.out (fun q hq => by omega)) (by omega))
          have hsn : ss.length ≠ 0 := by have := HKS.out; omega
          have T1Y : Hid (TouchS (fun q => q < W.heap.size ∨ InN ss.length (some ⟨g, 0, none⟩) q) w1 Y) := touchS_trans (touchS_mono (touchS_lo2 TS7.out) fun q hq => .inl hq) (touchS_mono TX.out fun q hq => .inr ⟨hsn, _, rfl, (show g = q from Eq.symm hq)⟩)
          have TT := hide (touch_then TT7.out (below_ofS TX.out (by have := TT7.out.size; omega) (fun q hq => by omega)))
          clear KX7 KR7 RD7 TT7 TS7 hsn
          obtain ⟨x0, x1, x2, -⟩ := KX.out.cells
          obtain ⟨y0, y1, y2, r0, r1, r2⟩ := KR.out.cells
          have KZ := hide (KR.out.set3 (.slice bc cs.length cc) (.slice b fs.length cb) (.slice (some ⟨g, 0, none⟩) ss.length cb'))
          have TZ := hide (set3_touch Y (w.heap.size + 1) (.slice bc cs.length cc) (.slice b fs.length cb) (.slice (some ⟨g, 0, none⟩) ss.length cb'))
          go_wp2
          generalize ((Y.setCell ⟨w.heap.size + 1, 0, none⟩ (.slice bc cs.length cc)).setCell ⟨w.heap.size + 1, 1, none⟩ (.slice b fs.length cb)).setCell ⟨w.heap.size + 1, 2, none⟩ (.slice (some ⟨g, 0, none⟩) ss.length cb') = Y2 at *
          obtain ⟨z0, z1, z2, -⟩ := KZ.out.cells
          refine bodyPost_ret (v := bkV bc b (some ⟨g, 0, none⟩) cc cb cb' cs fs (ss.set k zn)) (by simp [results, Tryz.results59, go_sem, z0, z1, z2, bkV, List.length_set]) rfl ⟨⟨bc, b, some ⟨g, 0, none⟩, cc, cb, cb', cs, fs, ss.set k zn, rfl, fun Z hZ => ?_, bookSm_ss HM.out (by rw [List.length_set]; exact Nat.le_refl _)⟩, ?_, ?_⟩
          · have hZ1 : TouchS (fun q => q < W.heap.size) Y Z := touchS_trans (touchS_mono TZ.out fun q hq => by omega) (touchS_mono hZ fun q hq => by omega)
            exact spoil_far1 C1.out List.length_set OX.out (touchS_mono hZ1 fun q hq => .inl hq) T1Y.out
          · exact ((RD.out.touch (touch_ofS (lo := w.heap.size + 1) (hi := w.heap.size + 2) TZ.out (fun q hq => by omega)) (by omega)).mono (by omega))
          · exact touch_then TT.out (below_ofS TZ.out (by have := TT.out.size; omega) (fun q hq => by omega))
        · have h31' : (q3 == 1) = false := by simpa using h31
          have O1 := C1.out.own
          have hss1 : 1 ≤ ss.length := by have := HZ.out; have := HLK.out; omega
          obtain ⟨g, rfl, hg0, hg1⟩ := owns_some O1 hss1
          have hcb : ss.length ≤ cb' := by
            obtain ⟨_, c', e, h2, _⟩ := owns_slice O1
            simp at e
            omega
          have hks : k ≤ cb' := by have := HLK.out; omega
          have HTL : Hid ((ss.take k).length = k) := by show _ = _; rw [List.length_take]; have := HLK.out; omega
          clear hq30 hq31 O1 hss1 hcb
          obtain ⟨x0, x1, x2, g0, g1, g2⟩ := KX.out.cells
          have KX6 := hide (KX.out.set2 (.slice (some ⟨g, 0, none⟩) k cb'))
          have TX := hide (set1_touch w6 w1.heap.size 2 (.slice (some ⟨g, 0, none⟩) k cb'))
          have hkz : (k : Int) ≤ (cb' : Int) := by omega
          go_upto_region 12 with fail
          generalize w6.setCell ⟨w1.heap.size, 2, none⟩ (.slice (some ⟨g, 0, none⟩) k cb') = Y at KX6 TX ⊢
          clear x0 x1 x2 g0 g1 g2
          have KR6 := hide (KR.out.touchS TX.out (by omega))
          have RD6 := hide (RD.out.touch (touch_ofS (lo := w1.heap.size) (hi := w1.heap.size + 1) TX.out (fun q hq => by omega)) (by omega))
          have TS6 := hide (touchS_trans TS.out (touchS_mono TX.out fun q hq => .inr (by omega)))
          have TT6 := hide (touch_then TT.out (below_ofS TX.out (by have := TT.out.size; omega) (fun q hq => by omega)))
          clear KX KR RD TS TT
          have KX := KX6
          have KR := KR6
          have RD := RD6
          have TS := TS6
          have TT := TT6
          clear KX6 KR6 RD6 TS6 TT6
          obtain ⟨x0, x1, x2, -⟩ := KX.out.cells
          obtain ⟨y0, y1, y2, r0, r1, r2⟩ := KR.out.cells
          have KZ := hide (KR.out.set3 (.slice bc cs.length cc) (.slice b fs.length cb) (.slice (some ⟨g, 0, none⟩) k cb'))
          have TZ := hide (set3_touch Y (w.heap.size + 1) (.slice bc cs.length cc) (.slice b fs.length cb) (.slice (some ⟨g, 0, none⟩) k cb'))
          go_wp2
          generalize ((Y.setCell ⟨w.heap.size + 1, 0, none⟩ (.slice bc cs.length cc)).setCell ⟨w.heap.size + 1, 1, none⟩ (.slice b fs.length cb)).setCell ⟨w.heap.size + 1, 2, none⟩ (.slice (some ⟨g, 0, none⟩) k cb') = Y2 at *
          obtain ⟨z0, z1, z2, -⟩ := KZ.out.cells
          refine bodyPost_ret (v := bkV bc b (some ⟨g, 0, none⟩) cc cb cb' cs fs (ss.take k)) (by simp [results, Tryz.results59, go_sem, z0, z1, z2, bkV, HTL.out]) rfl ⟨⟨bc, b, some ⟨g, 0, none⟩, cc, cb, cb', cs, fs, ss.take k, rfl, fun Z hZ => ?_, bookSm_ss HM.out (by rw [HTL.out]; have := HLK.out; omega)⟩, ?_, ?_⟩
          · have hZ1 : TouchS (fun q => q < W.heap.size) Y Z := touchS_trans (touchS_mono TZ.out fun q hq => by omega) (touchS_mono hZ fun q hq => by omega)
            have hb := spoil_far2 C1.out (touchS_trans TS.out (touchS_mono hZ1 fun q hq => .inl hq))
            exact ⟨hb.caps, hb.fl, ints_take hb.ints k⟩
          · exact ((RD.out.touch (touch_ofS (lo := w.heap.size + 1) (hi := w.heap.size + 2) TZ.out (fun q hq => by omega)) (by omega)).mono (by omega))
          · exact touch_then TT.out (below_ofS TZ.out (by have := TT.out.size; omega) (fun q hq => by omega))
end Go.Proofs.YtciacofibljmoaaGreatDoor

/- A book is drawn, one in sixteen spoilt. -/
namespace Go.Proofs.YtciacofibljmoaaGreatDoor
open Go.RowKit

set_option maxRecDepth 100000 in
set_option maxHeartbeats 3200000 in
theorem l6Any_any (r N : Nat) (w : World) (h : Rd w r N) (hN : N ≤ 790000) :
    Calls Tryz.prog 37 #[.pointer (some ⟨r, 0, none⟩)] w fun e w' => (∃ bc b b' cc cb cb' cs fs ss, e = .returned (bkV bc b b' cc cb cb' cs fs ss) ∧ FarBk (fun q => q < w.heap.size) w' bc b b' cs fs ss ∧ BookSm cs fs ss) ∧ Rd w' r (N + 1020) ∧ Touch r (r + 1) w w' := by
  have hrl := h.lt
  have HR := hide h
  clear h
  obtain ⟨W, hW, hWs, kW, bW⟩ := bk_newT w (.slice none 0 0) (.slice none 0 0) (.slice none 0 0)
  have HW := hide hW
  have KW := hide kW
  have WB := hide bW
  clear hW kW bW
  go_enter Tryz.func37, Tryz.ntmps37
  go_wp2_with fail
  rw [HW.out]
  refine (l6Book_any r N W (HR.out.later WB.out) (by omega)).mono ?_
  rintro e w1 ⟨⟨bc, b, b', cc, cb, cb', cs, fs, ss, rfl, hfar, hft, hsm, hcs, hfs⟩, hr1, ht1⟩
  have FB1 := hide hfar
  have FT := hide hft
  have SM := hide hsm
  have CS := hide hcs
  have FS := hide hfs
  have HR1 := hide hr1
  have T1 := hide (touch_trans (touch_below WB.out) ht1)
  have KW1 := hide (KW.out.keep (ht1.block _ KW.out.lt (by omega)))
  have hs1 := ht1.size
  clear hfar hft hsm hcs hfs hr1 ht1
  obtain ⟨V, hV, hVs, kV, bV⟩ := bk_newT w1 (.slice bc cs.length cc) (.slice b fs.length cb) (.slice b' ss.length cb')
  have HV := hide hV
  have KV := hide kV
  have VB := hide bV
  clear hV kV bV
  go_upto_region 2 with fail
  rw [HV.out]
  go_wp2_with fail
  refine (pick_any r _ 16 V (HR1.out.later VB.out) (by omega) (by omega)).mono ?_
  rintro e w2 ⟨⟨q, rfl, hq0, hq1⟩, hr2, ht2⟩
  have HR2 := hide hr2
  have FB2 := hide ((FB1.out.later VB.out).touch (rd_touchS ht2 (by omega)))
  have K2 := hide (KV.out.keep (ht2.block _ KV.out.lt (by omega)))
  have KW2 := hide ((KW1.out.later VB.out).keep (ht2.block _ (KW1.out.later VB.out).lt (by omega)))
  have T2 := hide (touch_trans (touch_then T1.out (VB.out.mono (by have := T1.out.size; omega))) ht2)
  have hs2 := ht2.size
  clear hr2 ht2 hq0 hq1
  obtain ⟨x0, x1, x2, -⟩ := K2.out.cells
  by_cases hq : q = 0
  · subst hq
    go_wp2_with fail
    refine (l6Spoil_any r _ bc b b' cc cb cb' cs fs ss w2 HR2.out (by omega) FB2.out.here SM.out FT.out CS.out FS.out).mono ?_
    rintro e w3 ⟨⟨dc, d, d', dd, db, db', ds, es, ts, rfl, hfar, hsm⟩, hr3, ht3⟩
    have FB3 := hide hfar
    have SM3 := hide hsm
    have HR3 := hide hr3
    have KW3 := hide (KW2.out.keep (ht3.block _ KW2.out.lt (by omega)))
    have T3 := hide (touch_trans T2.out ht3)
    have hs3 := ht3.size
    clear hfar hsm hr3 ht3 x0 x1 x2
    obtain ⟨y0, y1, y2, r0, r1, r2⟩ := KW3.out.cells
    have KX := hide (KW3.out.set3 (.slice dc ds.length dd) (.slice d es.length db) (.slice d' ts.length db'))
    have TX := hide (set3_touch w3 w.heap.size (.slice dc ds.length dd) (.slice d es.length db) (.slice d' ts.length db'))
    go_wp2
    generalize ((w3.setCell ⟨w.heap.size, 0, none⟩ (.slice dc ds.length dd)).setCell ⟨w.heap.size, 1, none⟩ (.slice d es.length db)).setCell ⟨w.heap.size, 2, none⟩ (.slice d' ts.length db') = Y at *
    obtain ⟨z0, z1, z2, -⟩ := KX.out.cells
    refine bodyPost_ret (v := bkV dc d d' dd db db' ds es ts) (by simp [results, Tryz.results37, go_sem, z0, z1, z2, bkV]) rfl ⟨⟨dc, d, d', dd, db, db', ds, es, ts, rfl, (FB3.out.touch (touchS_mono TX.out fun q hq => by omega)).mono (fun q hq => by omega), SM3.out⟩, ?_, ?_⟩
    · exact (HR3.out.touch (touch_ofS (lo := w.heap.size) (hi := w.heap.size + 1) TX.out (fun q hq => by omega)) hrl).mono (by omega)
    · exact touch_then T3.out (below_ofS TX.out (by have := T3.out.size; omega) (fun q hq => by omega))
  · have hq' : (q == 0) = false := by simpa using hq
    obtain ⟨y0, y1, y2, r0, r1, r2⟩ := KW2.out.cells
    have KX := hide (KW2.out.set3 (.slice bc cs.length cc) (.slice b fs.length cb) (.slice b' ss.length cb'))
    have TX := hide (set3_touch w2 w.heap.size (.slice bc cs.length cc) (.slice b fs.length cb) (.slice b' ss.length cb'))
    go_wp2
    generalize ((w2.setCell ⟨w.heap.size, 0, none⟩ (.slice bc cs.length cc)).setCell ⟨w.heap.size, 1, none⟩ (.slice b fs.length cb)).setCell ⟨w.heap.size, 2, none⟩ (.slice b' ss.length cb') = Y at *
    obtain ⟨z0, z1, z2, -⟩ := KX.out.cells
    refine bodyPost_ret (v := bkV bc b b' cc cb cb' cs fs ss) (by simp [results, Tryz.results37, go_sem, z0, z1, z2, bkV]) rfl ⟨⟨bc, b, b', cc, cb, cb', cs, fs, ss, rfl, (FB2.out.touch (touchS_mono TX.out fun q hq => by omega)).mono (fun q hq => by omega), SM.out⟩, ?_, ?_⟩
    · exact (HR2.out.touch (touch_ofS (lo := w.heap.size) (hi := w.heap.size + 1) TX.out (fun q hq => by omega)) hrl).mono (by omega)
    · exact touch_then T2.out (below_ofS TX.out (by have := T2.out.size; omega) (fun q hq => by omega))
end Go.Proofs.YtciacofibljmoaaGreatDoor
