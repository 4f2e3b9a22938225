/- Coming in and going, walked: the law FnAdd. -/
import Derived.Test.YtciacofibljmoaaGreatDoorDrawTwo
import Derived.Test.YtciacofibljmoaaGreatDoorAdds
namespace Go.Proofs.YtciacofibljmoaaGreatDoor
open Go.RowKit

theorem add_cases {cs : List (ByteArray × Int)} {fs : List Fli} {ss : List Int} (f : Fli) :
    (addK cs fs ss f = 0 ∧ okC cs fs ss = cs ∧ fitsB cs fs ss = true ∧ (addF cs fs ss f).length = fs.length + 1 ∧ fitsB cs (addF cs fs ss f) (addS cs fs ss f) = true ∧ NoLate fs ss (addF cs fs ss f) (addS cs fs ss f)) ∨
    (addK cs fs ss f ≠ 0 ∧ ¬ 1 < addK cs fs ss f) ∨
    (addK cs fs ss f ≠ 0 ∧ 1 < addK cs fs ss f ∧ okC cs fs ss = cs ∧ addF cs fs ss f = fs ∧ addS cs fs ss f = ss) := by
  cases hq : fitsB cs fs ss
  · refine .inr (.inl ?_)
    unfold addK
    simp [hq]
  · have AA := add_all hq f
    by_cases h0 : addN fs f = 0
    · refine .inl ⟨?_, AA.1, rfl, ?_, AA.2.1, AA.2.2.1⟩
      · unfold addK; simp [hq, h0]
      · obtain ⟨h1, h2, h3⟩ := addN_zero h0
        have h8 := fits_len AA.2.1
        unfold addF
        simp only [hq, h0, if_true]
        exact putAt_len _ _ _
    · have hK : addK cs fs ss f = addN fs f := by unfold addK; simp [hq]
      by_cases h1 : 1 < addN fs f
      · refine .inr (.inr ⟨by rw [hK]; exact h0, by rw [hK]; exact h1, AA.1, ?_, ?_⟩)
        · unfold addF; simp [hq, h0]
        · unfold addS; simp [hq, h0]
      · exact .inr (.inl ⟨by rw [hK]; exact h0, by rw [hK]; exact h1⟩)
theorem drop_cases {cs : List (ByteArray × Int)} {fs : List Fli} {ss : List Int} (nm : ByteArray) :
    (dropK cs fs ss nm = 0 ∧ okC cs fs ss = cs ∧ fitsB cs fs ss = true ∧ (dropF cs fs ss nm).length + 1 = fs.length ∧ fitsB cs (dropF cs fs ss nm) (dropS cs fs ss nm) = true ∧ NoLate fs ss (dropF cs fs ss nm) (dropS cs fs ss nm) ∧ stableB cs (dropF cs fs ss nm) (dropS cs fs ss nm) = true) ∨
    (dropK cs fs ss nm ≠ 0 ∧ dropK cs fs ss nm < 2) ∨
    (dropK cs fs ss nm ≠ 0 ∧ ¬ dropK cs fs ss nm < 2 ∧ okC cs fs ss = cs ∧ dropF cs fs ss nm = fs ∧ dropS cs fs ss nm = ss) := by
  cases hq : fitsB cs fs ss
  · refine .inr (.inl ?_)
    unfold dropK
    simp [hq]
  · have DA := drop_all hq nm
    cases ht : thereB fs nm
    · refine .inr (.inr ⟨?_, ?_, DA.1, ?_, ?_⟩)
      · unfold dropK; simp [hq, ht]
      · unfold dropK; simp [hq, ht]
      · unfold dropF; simp [hq, ht]
      · unfold dropS; simp [hq, ht]
    · have hk : dropK cs fs ss nm = 0 := by unfold dropK; simp [hq, ht]
      refine .inl ⟨hk, DA.1, rfl, ?_, DA.2.1, DA.2.2.1, stable_true DA.2.1 (DA.2.2.2 hk)⟩
      unfold dropF
      simp only [hq, ht, if_true]
      obtain ⟨hp, -⟩ := (there_iff (fits_order hq)).1 ht
      rw [List.length_eraseIdx_of_lt hp]
      omega
set_option maxRecDepth 100000 in
set_option maxHeartbeats 6400000 in
theorem fnAdd_walk (a0 : Option Addr) (n0 c0 : Nat) (a1 : Option Addr) (n1 c1 : Nat) (w : World) (hg : ErrT w) (hb0 : BytesIn w.heap.size w a0 n0) (h0 : n0 ≤ c0) (h0' : c0 ≤ maxLen) (hb1 : BytesIn w.heap.size w a1 n1) (h1 : n1 ≤ c1) (h1' : c1 ≤ maxLen) :
    Calls Tryz.prog 4 #[.slice a0 n0 c0, .slice a1 n1 c1] w fun e w' => e = .returned (.bool true) ∧ Below w.heap.size w w' := by
  have HG := hide hg
  have HB0 := hide hb0
  have HB1 := hide hb1
  have H0 := hide h0
  have H0' := hide h0'
  have H1 := hide h1
  have H1' := hide h1'
  unfold maxLen at h0' h1'
  clear hb0 hb1 hg h0 h1
  by_cases g0 : (1048576 : Int) < (n0 : Int)
  · go_enter Tryz.func4, Tryz.ntmps4
    go_wp2
    go_ret
    exact ⟨rfl, Below.refl _ _⟩
  by_cases g1 : (1048576 : Int) < (n1 : Int)
  · go_enter Tryz.func4, Tryz.ntmps4
    go_wp2
    go_ret
    exact ⟨rfl, Below.refl _ _⟩
  go_enter Tryz.func4, Tryz.ntmps4
  go_wp2_with fail
  refine (drawAdd_any a0 n0 c0 w HB0.out H0.out H0'.out).mono ?_
  rintro e w1 ⟨bc, b, b', cc, cb, cb', cs, fs, ss, nm, p, l, vs, av, cv, rfl, hbk, hsm, hvi, hfs, hb1⟩
  obtain ⟨hvl, hsz⟩ := fl_big hfs
  have CA := add_cases (cs := cs) (fs := fs) (ss := ss) (nm, p, l, vs)
  have DS := addAll_sm (f := (nm, p, l, vs)) hsm hvl hsz
  have IM := fun (X : World) (h1 : ErrT X) (h2 : BookIn X bc b b' cs fs ss) (h3 : VisitsIn X av vs) => implAdd_any (nm, p, l, vs) av cv bc b b' cc cb cb' cs fs ss X h1 h2 hsm h3 hvl hsz
  have SP := fun (X : World) (h2 : BookIn X bc b b' cs fs ss) (h3 : VisitsIn X av vs) => specAdd_all (nm, p, l, vs) av cv bc b b' cc cb cb' cs fs ss X h2 hsm h3 hvl hsz
  obtain ⟨cs1, hc1⟩ : ∃ x, okC cs fs ss = x := ⟨_, rfl⟩
  obtain ⟨fs1, hf1⟩ : ∃ x, addF cs fs ss (nm, p, l, vs) = x := ⟨_, rfl⟩
  obtain ⟨ss1, hs1⟩ : ∃ x, addS cs fs ss (nm, p, l, vs) = x := ⟨_, rfl⟩
  obtain ⟨kk, hkk⟩ : ∃ x, addK cs fs ss (nm, p, l, vs) = x := ⟨_, rfl⟩
  simp only [hc1, hf1, hs1, hkk] at CA DS IM SP
  have HCA := hide CA
  have HIM := hide IM
  have HSP := hide SP
  have HDS := hide DS
  have SM := hide hsm
  obtain ⟨V0, hV0, hV0s, kV0, bV0⟩ := bk_newT w1 (.slice bc cs.length cc) (.slice b fs.length cb) (.slice b' ss.length cb')
  obtain ⟨V, hV, hVs, fV, bV⟩ := fl_newF V0 nm p l (.slice av vs.length cv)
  rw [hV0s] at fV
  have KV := hide (kV0.later bV)
  have FV := hide fV
  have BI := hide ((hbk.later bV0).later bV)
  have VI := hide ((hvi.later bV0).later bV)
  have BW := hide (below_two (below_two hb1 bV0) bV)
  have HV0 := hide hV0
  have HV := hide hV
  clear hbk hsm hvi hfs hb1 hvl hsz CA DS IM SP hc1 hf1 hs1 hkk hV0 hV kV0 fV bV0 bV
  go_upto_region 4 with fail
  rw [HV0.out, HV.out]
  obtain ⟨x0, x1, x2, -⟩ := KV.out.cells
  obtain ⟨y0, y1, y2, y3⟩ := FV.out.cells4
  go_wp2_with fail
  refine (HIM.out V (HG.out.later BW.out) BI.out VI.out).mono ?_
  rintro e w2 ⟨dc, d, d', dd, db, db', rfl, hown, hb2⟩
  obtain ⟨V2, hV2, hV2s, kV2, bV2⟩ := bk_newT w2 (.slice dc cs1.length dd) (.slice d fs1.length db) (.slice d' ss1.length db')
  have O2 := hide (hown.later bV2).book
  have K2 := hide kV2
  have HV2 := hide hV2
  have C2 := hide (below_two hb2 bV2)
  clear hown hb2 hV2 kV2 bV2 x0 x1 x2 y0 y1 y2 y3
  go_upto_region 5 with fail
  rw [HV2.out]
  obtain ⟨x0, x1, x2, -⟩ := (KV.out.later C2.out).cells
  obtain ⟨y0, y1, y2, y3⟩ := (FV.out.later C2.out).cells4
  go_wp2_with fail
  refine (HSP.out V2 (BI.out.later C2.out) (VI.out.later C2.out)).mono ?_
  rintro e w3 ⟨ec, e1, e1', ed, eb, eb', rfl, hbk, hb3⟩
  obtain ⟨V3, hV3, hV3s, kV3, bV3⟩ := bk_newT w3 (.slice ec cs1.length ed) (.slice e1 fs1.length eb) (.slice e1' ss1.length eb')
  have D3 := hide (hbk V3 (touchS_below bV3))
  have K3 := hide kV3
  have HV3 := hide hV3
  have E3 := hide (below_two hb3 bV3)
  have C3 := hide (below_two C2.out E3.out)
  clear hbk hb3 hV3 kV3 bV3 x0 x1 x2 y0 y1 y2 y3
  go_upto_region 6 with fail
  rw [HV3.out]
  go_cut [85] from 42 to 85 (fun c wc => c = .bool false ∧ Hid (Below V3.heap.size V3 wc))
  case first =>
    have hkq : (kk != kk) = false := by simp
    obtain ⟨x0, x1, x2, -⟩ := (K2.out.later E3.out).cells
    obtain ⟨y0, y1, y2, -⟩ := K3.out.cells
    go_wp2_with fail
    refine (wBook_same _ _ _ _ _ _ _ _ _ _ _ _ cs1 fs1 ss1 V3 (O2.out.later E3.out) D3.out HDS.out).mono ?_
    rintro e w4 ⟨rfl, hb4⟩
    have E4 := hide (below_two E3.out hb4)
    have C4 := hide (below_two C3.out hb4)
    have G4 := hide hb4
    clear hb4 x0 x1 x2 y0 y1 y2
    rcases HCA.out with ⟨hk0, hc, hq, hl, hft, hnl⟩ | ⟨hk0, hk1⟩ | ⟨hk0, hk1, hc, hf, hs⟩
    · subst hk0
      have FT := hide hq
      have FT1 := hide hft
      have NL := hide hnl
      have hz : ¬ ((1 : Int) < 0) := by omega
      have hln : ((fs1.length : Int) != (fs.length : Int) + 1) = false := by rw [hl]; simp
      have HF8 := hide (flis_iff.1 (fits_iff.1 hq).2.1).1
      have hf8 : (fs.length : Int) ≤ 8 := by have := HF8.out; omega
      have HL := hide hl
      have HC := hide hc
      clear hq hft hnl hl hc
      obtain ⟨x0, x1, x2, -⟩ := (K2.out.later E4.out).cells
      obtain ⟨y0, y1, y2, -⟩ := (KV.out.later C4.out).cells
      have B4 := hide (BI.out.later C4.out)
      have D4 := hide (O2.out.later E4.out)
      go_wp2_with fail
      refine (wNoLater_ok _ _ _ _ _ _ _ _ _ _ _ _ cs cs1 fs fs1 ss ss1 w4 B4.out.fl B4.out.ints (fits_len FT.out) SM.out.nf (fits_order FT.out) D4.out.fl D4.out.ints (fits_len FT1.out) HDS.out.nf NL.out).mono ?_
      rintro e w5 ⟨rfl, hb5⟩
      have E5 := hide (below_two E4.out hb5)
      have G5 := hide (below_two G4.out hb5)
      clear hb5 x0 x1 x2 y0 y1 y2
      obtain ⟨x0, x1, x2, -⟩ := (K2.out.later E5.out).cells
      go_wp2_with fail
      refine (implBookOk_val dc d d' dd db db' cs1 fs1 ss1 true (by rw [HC.out]; exact FT1.out) w5 (O2.out.later E5.out) HDS.out).mono ?_
      rintro e w6 ⟨rfl, hb6⟩
      have G6 := hide (below_two G5.out hb6)
      clear hb6 x0 x1 x2
      go_wp2_with fail
      go_meet
      case rel => exact ⟨rfl, G6.out⟩
    · have hk0' : (kk == 0) = false := by simpa using hk0
      go_wp2_with fail
      go_meet
      case rel => exact ⟨rfl, G4.out⟩
    · have hk0' : (kk == 0) = false := by simpa using hk0
      subst hc hf hs
      obtain ⟨x0, x1, x2, -⟩ := (K2.out.later E4.out).cells
      obtain ⟨y0, y1, y2, -⟩ := (KV.out.later C4.out).cells
      go_wp2_with fail
      refine (wBook_same _ _ _ _ _ _ _ _ _ _ _ _ _ _ _ w4 (O2.out.later E4.out) (BI.out.later C4.out) HDS.out).mono ?_
      rintro e w5 ⟨rfl, hb5⟩
      have G5 := hide (below_two G4.out hb5)
      clear hb5 x0 x1 x2 y0 y1 y2
      go_wp2_with fail
      go_meet
      case rel => exact ⟨rfl, G5.out⟩
  case rest =>
    obtain ⟨rfl, G6⟩ := hcut
    generalize wc = w6 at *
    have W6 := hide (below_two (below_two BW.out C3.out) G6.out)
    clear HCA HIM HSP HDS SM KV FV BI VI BW HV0 HV O2 K2 HV2 C2 D3 K3 HV3 E3 C3 G6
    go_wp2_with fail
    refine (drawDrop_any a1 n1 c1 w6 (HB1.out.later W6.out) H1.out H1'.out).mono ?_
    rintro e w7 ⟨ac, a, a', ca, cf, ci, cs, fs, ss, nm, rfl, hbk, hsm, hb7⟩
    have CA := drop_cases (cs := cs) (fs := fs) (ss := ss) nm
    have DS := drop_small nm hsm
    have IM := fun (X : World) (h1 : ErrT X) (h2 : BookIn X ac a a' cs fs ss) => implDrop_any nm ac a a' ca cf ci cs fs ss X h1 h2 hsm
    have SP := fun (X : World) (h2 : BookIn X ac a a' cs fs ss) => specDrop_all nm ac a a' ca cf ci cs fs ss X h2 hsm
    obtain ⟨cs1, hc1⟩ : ∃ x, okC cs fs ss = x := ⟨_, rfl⟩
    obtain ⟨fs1, hf1⟩ : ∃ x, dropF cs fs ss nm = x := ⟨_, rfl⟩
    obtain ⟨ss1, hs1⟩ : ∃ x, dropS cs fs ss nm = x := ⟨_, rfl⟩
    obtain ⟨kk, hkk⟩ : ∃ x, dropK cs fs ss nm = x := ⟨_, rfl⟩
    simp only [hc1, hf1, hs1, hkk] at CA DS IM SP
    have HCA := hide CA
    have HIM := hide IM
    have HSP := hide SP
    have HDS := hide DS
    have SM := hide hsm
    obtain ⟨V, hV, hVs, kV, bV⟩ := bk_newT w7 (.slice ac cs.length ca) (.slice a fs.length cf) (.slice a' ss.length ci)
    have KV := hide kV
    have BI := hide (hbk.later bV)
    have BW := hide (below_two (below_two W6.out hb7) bV)
    have HV := hide hV
    clear hbk hsm hb7 CA DS IM SP hc1 hf1 hs1 hkk hV kV bV
    go_upto_region 9 with fail
    rw [HV.out]
    obtain ⟨x0, x1, x2, -⟩ := KV.out.cells
    go_wp2_with fail
    refine (HIM.out V (HG.out.later BW.out) BI.out).mono ?_
    rintro e w2 ⟨dc, d, d', dd, db, db', rfl, hown, hb2⟩
    obtain ⟨V2, hV2, hV2s, kV2, bV2⟩ := bk_newT w2 (.slice dc cs1.length dd) (.slice d fs1.length db) (.slice d' ss1.length db')
    have O2 := hide (hown.later bV2).book
    have K2 := hide kV2
    have HV2 := hide hV2
    have C2 := hide (below_two hb2 bV2)
    clear hown hb2 hV2 kV2 bV2 x0 x1 x2
    go_upto_region 10 with fail
    rw [HV2.out]
    obtain ⟨x0, x1, x2, -⟩ := (KV.out.later C2.out).cells
    go_wp2_with fail
    refine (HSP.out V2 (BI.out.later C2.out)).mono ?_
    rintro e w3 ⟨ec, e1, e1', ed, eb, eb', rfl, hbk, hb3⟩
    obtain ⟨V3, hV3, hV3s, kV3, bV3⟩ := bk_newT w3 (.slice ec cs1.length ed) (.slice e1 fs1.length eb) (.slice e1' ss1.length eb')
    have D3 := hide (hbk.later bV3)
    have K3 := hide kV3
    have HV3 := hide hV3
    have E3 := hide (below_two hb3 bV3)
    have C3 := hide (below_two C2.out E3.out)
    clear hbk hb3 hV3 kV3 bV3 x0 x1 x2
    go_upto_region 11 with fail
    rw [HV3.out]
    have hkq : (kk == kk) = true := by simp
    obtain ⟨x0, x1, x2, -⟩ := (K2.out.later E3.out).cells
    obtain ⟨y0, y1, y2, -⟩ := K3.out.cells
    go_wp2_with fail
    refine (wBook_same _ _ _ _ _ _ _ _ _ _ _ _ cs1 fs1 ss1 V3 (O2.out.later E3.out) D3.out HDS.out).mono ?_
    rintro e w4 ⟨rfl, hb4⟩
    have E4 := hide (below_two E3.out hb4)
    have C4 := hide (below_two C3.out hb4)
    clear hb4 x0 x1 x2 y0 y1 y2
    rcases HCA.out with ⟨hk0, hc, hq, hl, hft, hnl, hst⟩ | ⟨hk0, hk1⟩ | ⟨hk0, hk1, hc, hf, hs⟩
    · subst hk0
      have FT := hide hq
      have FT1 := hide hft
      have NL := hide hnl
      have ST := hide hst
      have HF8 := hide (flis_iff.1 (fits_iff.1 hq).2.1).1
      have hf8 : (fs.length : Int) ≤ 8 := by have := HF8.out; omega
      have hln : ((fs1.length : Int) == (fs.length : Int) - 1) = true := by rw [← hl]; simp
      have HC := hide hc
      clear hq hft hnl hl hc hst
      obtain ⟨x0, x1, x2, -⟩ := (K2.out.later E4.out).cells
      obtain ⟨y0, y1, y2, -⟩ := (KV.out.later C4.out).cells
      have B4 := hide (BI.out.later C4.out)
      have D4 := hide (O2.out.later E4.out)
      go_wp2_with fail
      refine (wNoLater_ok _ _ _ _ _ _ _ _ _ _ _ _ cs cs1 fs fs1 ss ss1 w4 B4.out.fl B4.out.ints (fits_len FT.out) SM.out.nf (fits_order FT.out) D4.out.fl D4.out.ints (fits_len FT1.out) HDS.out.nf NL.out).mono ?_
      rintro e w5 ⟨rfl, hb5⟩
      have E5 := hide (below_two E4.out hb5)
      have C5 := hide (below_two C4.out hb5)
      clear hb5 x0 x1 x2 y0 y1 y2
      obtain ⟨x0, x1, x2, -⟩ := (K2.out.later E5.out).cells
      go_wp2_with fail
      refine (implStable_any dc d d' dd db db' cs1 fs1 ss1 w5 (O2.out.later E5.out) HDS.out).mono ?_
      rintro e w6' ⟨rfl, hb6⟩
      rw [HC.out, ST.out]
      have E6 := hide (below_two E5.out hb6)
      have C6 := hide (below_two C5.out hb6)
      clear hb6 x0 x1 x2
      obtain ⟨x0, x1, x2, -⟩ := (K2.out.later E6.out).cells
      obtain ⟨y0, y1, y2, -⟩ := (KV.out.later C6.out).cells
      go_wp2
      go_ret
      exact ⟨rfl, below_two BW.out C6.out⟩
    · have hk0' : (kk == 0) = false := by simpa using hk0
      have hk2 : (kk != 0) = true := by simpa using hk0
      go_wp2
      go_ret
      exact ⟨rfl, below_two BW.out C4.out⟩
    · have hk0' : (kk == 0) = false := by simpa using hk0
      have hk2 : (kk != 0) = true := by simpa using hk0
      subst hc hf hs
      obtain ⟨x0, x1, x2, -⟩ := (K2.out.later E4.out).cells
      obtain ⟨y0, y1, y2, -⟩ := (KV.out.later C4.out).cells
      go_wp2_with fail
      refine (wBook_same _ _ _ _ _ _ _ _ _ _ _ _ _ _ _ w4 (O2.out.later E4.out) (BI.out.later C4.out) HDS.out).mono ?_
      rintro e w5 ⟨rfl, hb5⟩
      have C5 := hide (below_two C4.out hb5)
      clear hb5 x0 x1 x2 y0 y1 y2
      go_wp2
      go_ret
      exact ⟨rfl, below_two BW.out C5.out⟩
end Go.Proofs.YtciacofibljmoaaGreatDoor
