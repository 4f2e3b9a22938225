/- Rounds of compressing, the document's way, walked. -/
import Derived.Test.YtmmpopnglbjieabGreatCopyBook
import Derived.Test.YtmmpopnglbjieabGreatStable
import Derived.Deep.LoopGhost
namespace Go.Proofs.YtmmpopnglbjieabGreat
open Go.RowKit

/-- What a copy of a book is for the document's model: caps and flights read on, whatever is written into the slots. -/
structure CopyIn (lo : Nat) (w : World) (ac a a' : Option Addr) (cap' : Nat) (cs : List (ByteArray × Int)) (fs : List Fli) (ss : List Int) : Prop where
  rest : ∀ w', TouchS (fun k => k < lo ∨ InN ss.length a' k) w w' → CapsIn w' ac cs ∧ FlightsIn w' a fs
  own : OwnI w lo (.slice a' ss.length cap') ss
theorem CopyIn.touch {lo : Nat} {w w' : World} {ac a a' : Option Addr} {cap' : Nat} {cs : List (ByteArray × Int)} {fs : List Fli} {ss st : List Int} (h : CopyIn lo w ac a a' cap' cs fs ss) (ht : TouchS (InN ss.length a') w w') (hl : st.length = ss.length) (ho : OwnI w' lo (.slice a' ss.length cap') st) : CopyIn lo w' ac a a' cap' cs fs st :=
  ⟨fun w'' h'' => by rw [hl] at h''; exact h.rest w'' (touchS_trans (touchS_mono ht fun _ hk => .inr hk) h''), by rw [hl]; exact ho⟩
theorem CopyIn.later {lo : Nat} {w w' : World} {ac a a' : Option Addr} {cap' : Nat} {cs : List (ByteArray × Int)} {fs : List Fli} {ss : List Int} (h : CopyIn lo w ac a a' cap' cs fs ss) (hb : Below w.heap.size w w') : CopyIn lo w' ac a a' cap' cs fs ss :=
  h.touch (touchS_below hb) rfl (owns_later h.own hb)
theorem CopyIn.book {lo : Nat} {w : World} {ac a a' : Option Addr} {cap' : Nat} {cs : List (ByteArray × Int)} {fs : List Fli} {ss : List Int} (h : CopyIn lo w ac a a' cap' cs fs ss) : BookIn w ac a a' cs fs ss :=
  ⟨(h.rest w (touchS_refl _ _)).1, (h.rest w (touchS_refl _ _)).2, ints_of h.own⟩
theorem CopyIn.inI {lo : Nat} {w : World} {ac a a' : Option Addr} {cap' : Nat} {cs : List (ByteArray × Int)} {fs : List Fli} {ss : List Int} (h : CopyIn lo w ac a a' cap' cs fs ss) {q : Nat} (hq : InN ss.length a' q) : lo ≤ q ∧ q < w.heap.size := owns_in h.own hq.2
theorem CopyIn.slot {lo : Nat} {w : World} {ac a a' : Option Addr} {cap' : Nat} {cs : List (ByteArray × Int)} {fs : List Fli} {ss : List Int} (h : CopyIn lo w ac a a' cap' cs fs ss) {k : Nat} (hk : k < ss.length) :
    ∃ gi, a' = some ⟨gi, 0, none⟩ ∧ w.cell? ⟨gi, k, none⟩ = some (.int .i64 ss[k]) ∧ w.frozen? ⟨gi, k, none⟩ = false := by
  obtain ⟨gi, rfl, _, _⟩ := owns_some h.own (by omega)
  obtain ⟨c, z⟩ := own_cellI h.own hk
  exact ⟨gi, rfl, c, z⟩
theorem ints_touchS {S : Nat → Prop} {w w' : World} {a : Option Addr} {zs : List Int} (h : IntsIn w a zs) (ht : TouchS S w w') (ho : ∀ q, InN zs.length a q → ¬ S q) : IntsIn w' a zs := fun i hi => by
  obtain ⟨b, off, e, hlt, c⟩ := h i hi
  exact ⟨b, off, e, Nat.lt_of_lt_of_le hlt ht.size, (World.cell?_of_block (w := w) (a := ⟨b, off + i, none⟩) (ht.block b hlt (ho b ⟨by omega, _, e, rfl⟩))).trans c⟩
theorem step_sameS {cs : List (ByteArray × Int)} {fs : List Fli} {ss : List Int} {k j : Nat} (hk : k < fs.length) (hj : (ordTo fs fs.length)[k]? = some j) (hjl : j < (roundTo cs fs ss k).length) (he : leastV cs fs (roundTo cs fs ss k) j = (roundTo cs fs ss k)[j]) : roundTo cs fs ss (k + 1) = roundTo cs fs ss k := by
  rw [roundTo_succ cs fs ss hk]
  obtain ⟨_, e⟩ := List.getElem?_eq_some_iff.1 hj
  rw [e, he, List.set_getElem_self]
theorem step_movedS {cs : List (ByteArray × Int)} {fs : List Fli} {ss : List Int} (h : fitsB cs fs ss = true) {k j : Nat} (hk : k < fs.length) (hj : (ordTo fs fs.length)[k]? = some j) (hjl : j < (roundTo cs fs ss k).length) (he : leastV cs fs (roundTo cs fs ss k) j ≠ (roundTo cs fs ss k)[j]) : roundTo cs fs ss (k + 1) ≠ ss := fun hh => by
  have hs := roundTo_same h (Nat.le_succ k) hh
  rw [roundTo_succ cs fs ss hk] at hh
  obtain ⟨_, e⟩ := List.getElem?_eq_some_iff.1 hj
  rw [e] at hh
  apply he
  have h1 : ((roundTo cs fs ss k).set j (leastV cs fs (roundTo cs fs ss k) j))[j]? = (roundTo cs fs ss k)[j]? := by rw [hh, hs]
  rw [List.getElem?_set_self hjl, List.getElem?_eq_getElem hjl] at h1
  exact Option.some.inj h1

set_option maxRecDepth 100000 in
set_option maxHeartbeats 3200000 in
theorem l4Round_any (lo : Nat) (ac a a' : Option Addr) (capc cap cap' : Nat) (cs : List (ByteArray × Int)) (fs : List Fli) (ss : List Int) (w : World) (h : CopyIn lo w ac a a' cap' cs fs ss) (hm : BookSm cs fs ss) (hfit : fitsB cs fs ss = true) :
    Calls Tryz.prog 74 #[bkV ac a a' capc cap cap' cs fs ss] w fun e w' => e = .returned (.tuple #[bkV ac a a' capc cap cap' cs fs ss, .bool (decide (roundV cs fs ss ≠ ss))]) ∧ CopyIn lo w' ac a a' cap' cs fs (roundV cs fs ss) ∧ TouchS (InN ss.length a') w w' := by
  have H := hide h
  have HM := hide hm
  have HF := hide hfit
  have hnf := hm.nf
  have hln := fits_len hfit
  have HLN := hide hln
  have hnsl : ss.length ≤ 1048576 := hm.ns
  obtain ⟨W, hW, hWs, f0, r0, b0⟩ := bk_boxes w (.slice ac cs.length capc) (.slice a fs.length cap) (.slice a' ss.length cap')
  have HW := hide hW
  have F0 := hide f0
  have R0 := hide r0
  have H0 := hide (h.later b0)
  have WB := hide b0
  have HWs := hide hWs
  have HN : Hid (∀ q, InN ss.length a' q → q < w.heap.size) := fun q hq => (h.inI hq).2
  clear h hm hfit hln hW f0 r0 b0 hWs
  go_enter Tryz.func74, Tryz.ntmps74
  go_wp2_with fail
  rw [HW.out]
  refine (specOrder_any a cap fs W H0.out.book.fl hnf).mono ?_
  rintro e w1 ⟨vo, rfl, hown, hb1⟩
  obtain ⟨ao, co, rfl, -, -, hio, hao⟩ := OwnI.form hown
  have hol : (nums (ordTo fs fs.length)).length = fs.length := by rw [nums_len, ordTo_len]
  rw [hol]
  have H1 := hide (H0.out.later hb1)
  have HIO := hide hio
  have F1 := hide (F0.out.later hb1)
  have R1 := hide (R0.out.later hb1)
  have HAO : Hid (∀ q, InA ao q → ¬ InN ss.length a' q) := fun q ⟨p, hp, hq⟩ hq2 => by
    have h1 := (hao p hp).2.1
    have h2 := HN.out q hq2
    have h3 := HWs.out
    omega
  have T0 : Hid (TouchS (InN ss.length a') w w1) := touchS_trans (touchS_below WB.out) (touchS_below hb1)
  have hs1 : w.heap.size + 2 ≤ w1.heap.size := by have := hb1.size; have := HWs.out; omega
  clear hown hio hao hb1 hol
  go_wp2
  go_loopw [4, 6] (fun b i wr => ∃ (k : Nat), k ≤ fs.length ∧ i = .int .i64 k ∧ b = .bool (decide (roundTo cs fs ss k ≠ ss)) ∧ Hid (CopyIn lo wr ac a a' cap' cs fs (roundTo cs fs ss k)) ∧ Hid (TouchS (InN ss.length a') w1 wr)) (fun _ i _ => fs.length - (intOf i).toNat)
  case atStart => exact ⟨0, Nat.zero_le _, rfl, by simp [roundTo], H1.out, touchS_refl _ _⟩
  case round =>
    obtain ⟨k, hk, rfl, rfl, HK, HT⟩ := hrel
    by_cases hlt : k < fs.length
    · have hol : k < (nums (ordTo fs fs.length)).length := by rw [nums_len, ordTo_len]; exact hlt
      obtain ⟨bo, oo, rfl, hblt, o0⟩ := ints_touchS HIO.out HT.out (fun q hq => HAO.out q hq.2) k hol
      obtain ⟨j, hj⟩ : ∃ j, (ordTo fs fs.length)[k]? = some j := ⟨_, List.getElem?_eq_getElem (by rw [ordTo_len]; exact hlt)⟩
      have hjl : j < fs.length := by
        have := List.mem_of_getElem? hj
        exact List.mem_range.1 ((ordTo_perm fs fs.length).mem_iff.1 this)
      have hnj : (nums (ordTo fs fs.length))[k] = (j : Int) := by
        obtain ⟨_, e⟩ := List.getElem?_eq_some_iff.1 hj
        simp [nums, e]
      rw [hnj] at o0
      have hrl : (roundTo cs fs ss k).length = ss.length := roundTo_len cs fs ss k
      have hjr : j < (roundTo cs fs ss k).length := by rw [hrl, HLN.out]; exact hjl
      have HFK := hide (roundTo_fits HF.out k)
      obtain ⟨gi, rfl, s0, sz⟩ := HK.out.slot hjr
      have hbx : ¬ InN ss.length (some ⟨gi, 0, none⟩) w.heap.size := fun hq => by have := HN.out _ hq; omega
      obtain ⟨x0, x1, x2, -⟩ := (F1.out.touchS HT.out hbx).cells
      have HSAME := hide (step_sameS (cs := cs) (ss := ss) hlt hj hjr)
      have HMOV := hide (step_movedS HF.out hlt hj hjr)
      have HSUC := hide (roundTo_succ cs fs ss hlt)
      have HNE : Hid ((ordTo fs fs.length)[k]'(by rw [ordTo_len]; exact hlt) = j) := (List.getElem?_eq_some_iff.1 hj).2
      have HRL := hide hrl
      have j0 : (0 : Int) ≤ (j : Int) := by omega
      have j1 : (j : Int) < (ss.length : Int) := by have := HLN.out; omega
      have k0 : (0 : Int) ≤ (k : Int) := by omega
      have k1 : (k : Int) < (fs.length : Int) := by omega
      clear hj hnj hbx hrl
      generalize hlv : leastV cs fs (roundTo cs fs ss k) j = q at HSAME HMOV
      have HLV := hide hlv
      clear hlv
      generalize hz : (roundTo cs fs ss k)[j] = z at s0 HSAME HMOV
      have HZ := hide hz
      clear hz
      go_wp2_with fail
      refine (l3Least_at ac a _ capc cap cap' cs fs (roundTo cs fs ss k) ss.length HRL.out j wr HK.out.book.caps HK.out.book.fl HK.out.book.ints HM.out.nc hnf (by rw [HRL.out, HLN.out]) HM.out.sc HM.out.vl HM.out.sf hjl (fits_flis HF.out)).mono ?_
      rintro e w2 ⟨rfl, hb2⟩
      have H2 := hide (HK.out.later hb2)
      have T2 := hide (touchS_trans HT.out (touchS_below hb2))
      have s1 := cell_later hb2 s0
      obtain ⟨gi', e', -, sz1⟩ := H2.out.slot hjr
      simp at e'
      subst e'
      have y0 := cell_later hb2 x0
      have y1 := cell_later hb2 x1
      have y2 := cell_later hb2 x2
      clear hb2 x0 x1 x2 s0 sz o0
      rw [HLV.out]
      by_cases hqz : q = z
      · have hb : (q != z) = false := by rw [hqz]; simp
        have HE : Hid (roundTo cs fs ss (k + 1) = roundTo cs fs ss k) := HSAME.out hqz
        have HQ := hide hqz
        clear hqz
        go_wp2
        go_roundw
        case rel => exact ⟨k + 1, by omega, by go_num, by rw [HE.out]; simp, by show CopyIn _ _ _ _ _ _ _ _ _; rw [HE.out]; exact H2.out, T2.out⟩
        case measure => simp [intOf]; omega
      · have hb : (q != z) = true := by rw [bne_iff_ne]; exact hqz
        have HE : Hid (roundTo cs fs ss (k + 1) ≠ ss) := HMOV.out hqz
        clear hqz
        have HS2 : Hid (roundTo cs fs ss (k + 1) = (roundTo cs fs ss k).set j q) := by
          show _ = _
          rw [HSUC.out]
          simp only [HNE.out, HLV.out]
        go_wp2
        go_roundw
        case rel =>
          refine ⟨k + 1, by omega, by go_num, by rw [decide_eq_true HE.out], ?_, touchN_set T2.out (by omega) _ _⟩
          show CopyIn _ _ _ _ _ _ _ _ _
          rw [HS2.out]
          refine H2.out.touch (by rw [HRL.out]; exact touchN_set (touchS_refl _ _) (by omega) j _) (List.length_set) ?_
          exact own_setI H2.out.own q
        case measure => simp [intOf]; omega
    · have hkf : k = fs.length := by omega
      subst hkf
      rw [roundTo_all] at HK
      rw [roundTo_all]
      have hbx : ¬ InN ss.length a' w.heap.size := fun hq => by have := HN.out _ hq; omega
      have hby : ¬ InN ss.length a' (w.heap.size + 1) := fun hq => by have := HN.out _ hq; omega
      obtain ⟨x0, x1, x2, -⟩ := (F1.out.touchS HT.out hbx).cells
      have R2 := hide (R1.out.touchS HT.out hby)
      obtain ⟨k0, k1, k2, t0, t1, t2⟩ := R2.out.cells
      have RX := hide (R2.out.set3 (.slice ac cs.length capc) (.slice a fs.length cap) (.slice a' ss.length cap'))
      have TX := hide (set3_touch wr (w.heap.size + 1) (.slice ac cs.length capc) (.slice a fs.length cap) (.slice a' ss.length cap'))
      have TY : Hid (TouchS (InN ss.length a') w (((wr.setCell ⟨w.heap.size + 1, 0, none⟩ (.slice ac cs.length capc)).setCell ⟨w.heap.size + 1, 1, none⟩ (.slice a fs.length cap)).setCell ⟨w.heap.size + 1, 2, none⟩ (.slice a' ss.length cap'))) := by
        have t1 := touchS_trans T0.out HT.out
        exact ⟨TX.out.os.trans t1.os, TX.out.tape.trans t1.tape, TX.out.output.trans t1.output, Nat.le_trans t1.size TX.out.size, fun k hk hn => (TX.out.block k (Nat.lt_of_lt_of_le hk t1.size) (fun hh => by omega)).trans (t1.block k hk hn)⟩
      clear hbx hby
      go_wp2
      generalize ((wr.setCell ⟨w.heap.size + 1, 0, none⟩ (.slice ac cs.length capc)).setCell ⟨w.heap.size + 1, 1, none⟩ (.slice a fs.length cap)).setCell ⟨w.heap.size + 1, 2, none⟩ (.slice a' ss.length cap') = Y at *
      obtain ⟨y0, y1, y2, -⟩ := RX.out.cells
      have hrv : (roundV cs fs ss).length = ss.length := roundV_len cs fs ss
      have ho := HK.out.own
      refine bodyPost_ret (v := .tuple #[bkV ac a a' capc cap cap' cs fs ss, .bool (decide (roundV cs fs ss ≠ ss))]) (by simp [results, Tryz.results74, go_sem, y0, y1, y2]) rfl ⟨rfl, ⟨fun w'' h'' => ?_, ?_⟩, TY.out⟩
      · rw [hrv] at h''
        exact H.out.rest w'' (touchS_trans (touchS_mono TY.out fun _ hk => .inr hk) h'')
      · refine owns_keep ho fun q hq => TX.out.block q (World.ownsRow.lt ho q hq).2 (fun hh => ?_)
        subst hh
        have hin : InA a' (w.heap.size + 1) := by
          cases a' with
          | none => simp [Value.ownBlock] at hq
          | some p => exact ⟨p, rfl, by simpa [Value.ownBlock] using hq⟩
        have h1 := (owns_in H.out.own hin).2
        omega

set_option maxRecDepth 100000 in
set_option maxHeartbeats 3200000 in
theorem l4Compress_any (lo : Nat) (ac a a' : Option Addr) (capc cap cap' : Nat) (cs : List (ByteArray × Int)) (fs : List Fli) (ss : List Int) (w : World) (h : CopyIn lo w ac a a' cap' cs fs ss) (hm : BookSm cs fs ss) (hfit : fitsB cs fs ss = true) :
    Calls Tryz.prog 46 #[bkV ac a a' capc cap cap' cs fs ss] w fun e w' => e = .returned (bkV ac a a' capc cap cap' cs fs ss) ∧ CopyIn lo w' ac a a' cap' cs fs (compV cs fs ss) ∧ TouchS (InN ss.length a') w w' := by
  have H := hide h
  have HM := hide hm
  have HF := hide hfit
  have hnf := hm.nf
  have hns := hm.ns
  obtain ⟨W, hW, hWs, f0, r0, b0⟩ := bk_boxes w (.slice ac cs.length capc) (.slice a fs.length cap) (.slice a' ss.length cap')
  have HW := hide hW
  have F0 := hide f0
  have R0 := hide r0
  have H0 := hide (h.later b0)
  have WB := hide b0
  have HWs := hide hWs
  have HN : Hid (∀ q, InN ss.length a' q → q < w.heap.size) := fun q hq => (h.inI hq).2
  clear h hm hfit hW f0 r0 b0 hWs
  go_enter Tryz.func46, Tryz.ntmps46
  go_wp2
  rw [HW.out]
  go_loopg [3] (potV fs ss + 1) (fun k b wr => ∃ (st : List Int) (m : Bool), b = .bool m ∧ (m = true → k = potV fs st + 1) ∧ st.length = ss.length ∧ Hid (CopyIn lo wr ac a a' cap' cs fs st) ∧ Hid (fitsB cs fs st = true) ∧ Hid (compV cs fs st = compV cs fs ss) ∧ Hid (m = false → st = compV cs fs ss) ∧ Hid (TouchS (InN ss.length a') w wr) ∧ Hid (BkAt wr w.heap.size (.slice ac cs.length capc) (.slice a fs.length cap) (.slice a' ss.length cap')) ∧ Hid (BkAt wr (w.heap.size + 1) (.slice none 0 0) (.slice none 0 0) (.slice none 0 0)) ∧ Hid (w.heap.size + 2 ≤ wr.heap.size))
  case atStart => exact ⟨ss, true, rfl, fun _ => rfl, rfl, H0.out, HF.out, rfl, (by intro hh; cases hh), touchS_below WB.out, F0.out, R0.out, by show _ ≤ _; rw [HWs.out]; exact Nat.le_refl _⟩
  case round =>
    obtain ⟨st, m, rfl, hgk, hsl, HK, HFK, HCK, HEND, HTK, HFB, HRB, HSZ⟩ := hrel
    have HGK := hide hgk
    have HSL := hide hsl
    clear hgk hsl
    obtain ⟨x0, x1, x2, z0, z1, z2⟩ := HFB.out.cells
    cases m with
    | true =>
      have CO := l4Round_any lo ac a a' capc cap cap' cs fs st wr HK.out ⟨HM.out.nc, hnf, by rw [HSL.out]; exact hns, HM.out.sc, HM.out.vl, HM.out.sf⟩ HFK.out
      unfold bkV at CO
      rw [HSL.out] at CO
      have HCO := hide CO
      clear CO
      go_wp2_with fail
      refine HCO.out.mono ?_
      rintro e w2 ⟨rfl, hk2, ht2⟩
      have H2 := hide hk2
      have T2 := hide (touchS_trans HTK.out ht2)
      have hbx : ¬ InN ss.length a' w.heap.size := fun hq => by have := HN.out _ hq; omega
      have hby : ¬ InN ss.length a' (w.heap.size + 1) := fun hq => by have := HN.out _ hq; omega
      have FB2 := hide (HFB.out.touchS ht2 hbx)
      have RB2 := hide (HRB.out.touchS ht2 hby)
      have hs2 := ht2.size
      clear hk2 ht2 x0 x1 x2 z0 z1 z2 hbx hby
      obtain ⟨x0, x1, x2, z0, z1, z2⟩ := FB2.out.cells
      have FX := hide (FB2.out.set3 (.slice ac cs.length capc) (.slice a fs.length cap) (.slice a' ss.length cap'))
      have TX := hide (set3_touch w2 w.heap.size (.slice ac cs.length capc) (.slice a fs.length cap) (.slice a' ss.length cap'))
      have RX := hide (RB2.out.touchS TX.out (by omega))
      have TY : Hid (TouchS (InN ss.length a') w (((w2.setCell ⟨w.heap.size, 0, none⟩ (.slice ac cs.length capc)).setCell ⟨w.heap.size, 1, none⟩ (.slice a fs.length cap)).setCell ⟨w.heap.size, 2, none⟩ (.slice a' ss.length cap'))) :=
        ⟨TX.out.os.trans T2.out.os, TX.out.tape.trans T2.out.tape, TX.out.output.trans T2.out.output, Nat.le_trans T2.out.size TX.out.size, fun k hk hn => (TX.out.block k (Nat.lt_of_lt_of_le hk T2.out.size) (fun hh => by omega)).trans (T2.out.block k hk hn)⟩
      have hrv : Hid ((roundV cs fs st).length = ss.length) := by show _ = _; rw [roundV_len]; exact HSL.out
      have CX : Hid (CopyIn lo (((w2.setCell ⟨w.heap.size, 0, none⟩ (.slice ac cs.length capc)).setCell ⟨w.heap.size, 1, none⟩ (.slice a fs.length cap)).setCell ⟨w.heap.size, 2, none⟩ (.slice a' ss.length cap')) ac a a' cap' cs fs (roundV cs fs st)) := by
        refine ⟨fun w'' h'' => ?_, ?_⟩
        · rw [hrv.out] at h''
          exact H.out.rest w'' (touchS_trans (touchS_mono TY.out fun _ hk => .inr hk) h'')
        · have ho := H2.out.own
          refine owns_keep ho fun q hq => TX.out.block q (World.ownsRow.lt ho q hq).2 (fun hh => ?_)
          subst hh
          have hin : InA a' w.heap.size := by
            cases a' with
            | none => simp [Value.ownBlock] at hq
            | some p => exact ⟨p, rfl, by simpa [Value.ownBlock] using hq⟩
          have h1 := (owns_in H.out.own hin).2
          omega
      have hsX : Hid (w.heap.size + 2 ≤ (((w2.setCell ⟨w.heap.size, 0, none⟩ (.slice ac cs.length capc)).setCell ⟨w.heap.size, 1, none⟩ (.slice a fs.length cap)).setCell ⟨w.heap.size, 2, none⟩ (.slice a' ss.length cap')).heap.size) := by
        show _ ≤ _
        have := HSZ.out
        have := TX.out.size
        omega
      by_cases hr : roundV cs fs st = st
      · have hd : decide (roundV cs fs st ≠ st) = false := by simp [hr]
        have HR := hide hr
        have HPZ : Hid (0 < gk) := by have := HGK.out (by first | exact rfl | trivial); show _ < _; omega
        clear hr
        go_wp2
        go_roundg 0
        case measure => exact HPZ.out
        case rel => exact ⟨roundV cs fs st, false, rfl, (by intro hh; cases hh), hrv.out, CX.out, (round_all HFK.out).1, (by show _ = _; rw [comp_round HFK.out]; exact HCK.out), (by intro _; show roundV cs fs st = _; rw [← HCK.out, HR.out, comp_stop HR.out]), TY.out, FX.out, RX.out, hsX.out⟩
      · have hd : decide (roundV cs fs st ≠ st) = true := by simp [hr]
        have HPZ : Hid (potV fs (roundV cs fs st) + 1 < gk) := by have := HGK.out (by first | exact rfl | trivial); have := pot_round HFK.out hr; show _ < _; omega
        clear hr
        go_wp2
        go_roundg (potV fs (roundV cs fs st) + 1)
        case measure => exact HPZ.out
        case rel => exact ⟨roundV cs fs st, true, rfl, (fun _ => rfl), hrv.out, CX.out, (round_all HFK.out).1, (by show _ = _; rw [comp_round HFK.out]; exact HCK.out), (by intro hh; cases hh), TY.out, FX.out, RX.out, hsX.out⟩
    | false =>
      obtain ⟨k0, k1, k2, t0, t1, t2⟩ := HRB.out.cells
      have hst := HEND.out rfl
      subst hst
      have RX := hide (HRB.out.set3 (.slice ac cs.length capc) (.slice a fs.length cap) (.slice a' ss.length cap'))
      have TX := hide (set3_touch wr (w.heap.size + 1) (.slice ac cs.length capc) (.slice a fs.length cap) (.slice a' ss.length cap'))
      have TY : Hid (TouchS (InN ss.length a') w (((wr.setCell ⟨w.heap.size + 1, 0, none⟩ (.slice ac cs.length capc)).setCell ⟨w.heap.size + 1, 1, none⟩ (.slice a fs.length cap)).setCell ⟨w.heap.size + 1, 2, none⟩ (.slice a' ss.length cap'))) :=
        ⟨TX.out.os.trans HTK.out.os, TX.out.tape.trans HTK.out.tape, TX.out.output.trans HTK.out.output, Nat.le_trans HTK.out.size TX.out.size, fun k hk hn => (TX.out.block k (Nat.lt_of_lt_of_le hk HTK.out.size) (fun hh => by omega)).trans (HTK.out.block k hk hn)⟩
      go_wp2
      generalize ((wr.setCell ⟨w.heap.size + 1, 0, none⟩ (.slice ac cs.length capc)).setCell ⟨w.heap.size + 1, 1, none⟩ (.slice a fs.length cap)).setCell ⟨w.heap.size + 1, 2, none⟩ (.slice a' ss.length cap') = Y at *
      obtain ⟨y0, y1, y2, -⟩ := RX.out.cells
      have ho := HK.out.own
      refine bodyPost_ret (v := bkV ac a a' capc cap cap' cs fs ss) (by simp [results, Tryz.results46, go_sem, y0, y1, y2]) rfl ⟨rfl, ⟨fun w'' h'' => ?_, ?_⟩, TY.out⟩
      · rw [HSL.out] at h''
        exact H.out.rest w'' (touchS_trans (touchS_mono TY.out fun _ hk => .inr hk) h'')
      · refine owns_keep ho fun q hq => TX.out.block q (World.ownsRow.lt ho q hq).2 (fun hh => ?_)
        subst hh
        have hin : InA a' (w.heap.size + 1) := by
          cases a' with
          | none => simp [Value.ownBlock] at hq
          | some p => exact ⟨p, rfl, by simpa [Value.ownBlock] using hq⟩
        have h1 := (owns_in H.out.own hin).2
        omega

end Go.Proofs.YtmmpopnglbjieabGreat
