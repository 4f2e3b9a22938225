/- Rounds of compressing, the document's way, walked. -/
import Derived.Test.YtciacofibljmoaaGreatDoorCopies
import Derived.Test.YtciacofibljmoaaGreatDoorStable
import Derived.Deep.LoopGhost
import Derived.Deep.AppendLies
import Derived.Laws.AppendOwnNone
namespace Go.Proofs.YtciacofibljmoaaGreatDoor
open Go.RowKit

/-- What a copy of a book is for the document's model: caps and flights read on, whatever is written into the slots. -/
structure CopyIn (lo : Nat) (w : World) (ac a a' : Option Addr) (cap' : Nat) (cs : List (ByteArray × Int)) (fs : List Fli) (ss : List Int) : Prop where
  rest : ∀ w', TouchS (fun k => k < lo ∨ InN ss.length a' k) w w' → CapsIn w' ac cs ∧ FlightsIn w' a fs
  own : OwnI w lo (.slice a' ss.length cap') ss
theorem CopyIn.touch {lo : Nat} {w w' : World} {ac a a' : Option Addr} {cap' : Nat} {cs : List (ByteArray × Int)} {fs : List Fli} {ss st : List Int} (h : CopyIn lo w ac a a' cap' cs fs ss) (ht : TouchS (InN ss.length a') w w') (hl : st.length = ss.length) (ho : OwnI w' lo (.slice a' ss.length cap') st) : CopyIn lo w' ac a a' cap' cs fs st :=
  ⟨fun w'' h'' => by rw [hl] at h''; exact h.rest w'' (touchS_trans (touchS_mono ht fun _ hk => .inr hk) h''), by rw [hl]; exact ho⟩
theorem CopyIn.later {lo : Nat} {w w' : World} {ac a a' : Option Addr} {cap' : Nat} {cs : List (ByteArray × Int)} {fs : List Fli} {ss : List Int} (h : CopyIn lo w ac a a' cap' cs fs ss) (hb : Below w.heap.size w w') : CopyIn lo w' ac a a' cap' cs fs ss :=
  h.touch (touchS_below hb) rfl (owns_later h.own hb)
theorem CopyIn.book {lo : Nat} {w : World} {ac a a' : Option Addr} {cap' : Nat} {cs : List (ByteArray × Int)} {fs : List Fli} {ss : List Int} (h : CopyIn lo w ac a a' cap' cs fs ss) : BookIn w ac a a' cs fs ss :=
  ⟨(h.rest w (touchS_refl _ _)).1, (h.rest w (touchS_refl _ _)).2, ints_of h.own⟩
theorem CopyIn.inI {lo : Nat} {w : World} {ac a a' : Option Addr} {cap' : Nat} {cs : List (ByteArray × Int)} {fs : List Fli} {ss : List Int} (h : CopyIn lo w ac a a' cap' cs fs ss) {q : Nat} (hq : InN ss.length a' q) : lo ≤ q ∧ q < w.heap.size := owns_in h.own hq.2
theorem CopyIn.slot {lo : Nat} {w : World} {ac a a' : Option Addr} {cap' : Nat} {cs : List (ByteArray × Int)} {fs : List Fli} {ss : List Int} (h : CopyIn lo w ac a a' cap' cs fs ss) {k : Nat} (hk : k < ss.length) :
    ∃ gi, a' = some ⟨gi, 0, none⟩ ∧ w.cell? ⟨gi, k, none⟩ = some (.int .i64 ss[k]) ∧ w.frozen? ⟨gi, k, none⟩ = false := by
  obtain ⟨gi, rfl, _, _⟩ := owns_some h.own (by omega)
  obtain ⟨c, z⟩ := own_cellI h.own hk
  exact ⟨gi, rfl, c, z⟩
theorem ints_touchS {S : Nat → Prop} {w w' : World} {a : Option Addr} {zs : List Int} (h : IntsIn w a zs) (ht : TouchS S w w') (ho : ∀ q, InN zs.length a q → ¬ S q) : IntsIn w' a zs := fun i hi => by
  obtain ⟨b, off, e, hlt, c⟩ := h i hi
  exact ⟨b, off, e, Nat.lt_of_lt_of_le hlt ht.size, (World.cell?_of_block (w := w) (a := ⟨b, off + i, none⟩) (ht.block b hlt (ho b ⟨by omega, _, e, rfl⟩))).trans c⟩
theorem step_sameS {cs : List (ByteArray × Int)} {fs : List Fli} {ss : List Int} {k j : Nat} (hk : k < fs.length) (hj : (ordTo fs fs.length)[k]? = some j) (hjl : j < (roundTo cs fs ss k).length) (he : leastV cs fs (roundTo cs fs ss k) j = (roundTo cs fs ss k)[j]) : roundTo cs fs ss (k + 1) = roundTo cs fs ss k := by
  rw [roundTo_succ cs fs ss hk]
  obtain ⟨_, e⟩ := List.getElem?_eq_some_iff.1 hj
  rw [e, he, List.set_getElem_self]
theorem step_movedS {cs : List (ByteArray × Int)} {fs : List Fli} {ss : List Int} (h : fitsB cs fs ss = true) {k j : Nat} (hk : k < fs.length) (hj : (ordTo fs fs.length)[k]? = some j) (hjl : j < (roundTo cs fs ss k).length) (he : leastV cs fs (roundTo cs fs ss k) j ≠ (roundTo cs fs ss k)[j]) : roundTo cs fs ss (k + 1) ≠ ss := fun hh => by
  have hs := roundTo_same h (Nat.le_succ k) hh
  rw [roundTo_succ cs fs ss hk] at hh
  obtain ⟨_, e⟩ := List.getElem?_eq_some_iff.1 hj
  rw [e] at hh
  apply he
  have h1 : ((roundTo cs fs ss k).set j (leastV cs fs (roundTo cs fs ss k) j))[j]? = (roundTo cs fs ss k)[j]? := by rw [hh, hs]
  rw [List.getElem?_set_self hjl, List.getElem?_eq_getElem hjl] at h1
  exact Option.some.inj h1

set_option maxRecDepth 100000 in
set_option maxHeartbeats 3200000 in
theorem l4Round_any (lo : Nat) (ac a a' : Option Addr) (capc cap cap' : Nat) (cs : List (ByteArray × Int)) (fs : List Fli) (ss : List Int) (w : World) (h : CopyIn lo w ac a a' cap' cs fs ss) (hm : BookSm cs fs ss) (hfit : fitsB cs fs ss = true) :
    Calls Tryz.prog 45 #[bkV ac a a' capc cap cap' cs fs ss] w fun e w' => e = .returned (.tuple #[bkV ac a a' capc cap cap' cs fs ss, .bool (decide (roundV cs fs ss ≠ ss))]) ∧ CopyIn lo w' ac a a' cap' cs fs (roundV cs fs ss) ∧ TouchS (InN ss.length a') w w' := by
  have H := hide h
  have HM := hide hm
  have HF := hide hfit
  have hnf := hm.nf
  have hln := fits_len hfit
  have HLN := hide hln
  have hnsl : ss.length ≤ 1048576 := hm.ns
  obtain ⟨W, hW, hWs, f0, r0, b0⟩ := bk_boxes w (.slice ac cs.length capc) (.slice a fs.length cap) (.slice a' ss.length cap')
  have HW := hide hW
  have F0 := hide f0
  have R0 := hide r0
  have H0 := hide (h.later b0)
  have WB := hide b0
  have HWs := hide hWs
  have HN : Hid (∀ q, InN ss.length a' q → q < w.heap.size) := fun q hq => (h.inI hq).2
  clear h hm hfit hln hW f0 r0 b0 hWs
  go_enter Tryz.func45, Tryz.ntmps45
  go_wp2_with fail
  rw [HW.out]
  refine (specOrder_any a cap fs W H0.out.book.fl hnf).mono ?_
  rintro e w1 ⟨vo, rfl, hown, hb1⟩
  obtain ⟨ao, co, rfl, -, -, hio, hao⟩ := OwnI.form hown
  have hol : (nums (ordTo fs fs.length)).length = fs.length := by rw [nums_len, ordTo_len]
  rw [hol]
  have H1 := hide (H0.out.later hb1)
  have HIO := hide hio
  have F1 := hide (F0.out.later hb1)
  have R1 := hide (R0.out.later hb1)
  have HAO : Hid (∀ q, InA ao q → ¬ InN ss.length a' q) := fun q ⟨p, hp, hq⟩ hq2 => by
    have h1 := (hao p hp).2.1
    have h2 := HN.out q hq2
    have h3 := HWs.out
    omega
  have T0 : Hid (TouchS (InN ss.length a') w w1) := touchS_trans (touchS_below WB.out) (touchS_below hb1)
  have hs1 : w.heap.size + 2 ≤ w1.heap.size := by have := hb1.size; have := HWs.out; omega
  clear hown hio hao hb1 hol
  go_wp2
  go_loopw [4, 6] (fun b i wr => ∃ (k : Nat), k ≤ fs.length ∧ i = .int .i64 k ∧ b = .bool (decide (roundTo cs fs ss k ≠ ss)) ∧ Hid (CopyIn lo wr ac a a' cap' cs fs (roundTo cs fs ss k)) ∧ Hid (TouchS (InN ss.length a') w1 wr)) (fun _ i _ => fs.length - (intOf i).toNat)
  case atStart => exact ⟨0, Nat.zero_le _, rfl, by simp [roundTo], H1.out, touchS_refl _ _⟩
  case round =>
    obtain ⟨k, hk, rfl, rfl, HK, HT⟩ := hrel
    by_cases hlt : k < fs.length
    · have hol : k < (nums (ordTo fs fs.length)).length := by rw [nums_len, ordTo_len]; exact hlt
      obtain ⟨bo, oo, rfl, hblt, o0⟩ := ints_touchS HIO.out HT.out (fun q hq => HAO.out q hq.2) k hol
      obtain ⟨j, hj⟩ : ∃ j, (ordTo fs fs.length)[k]? = some j := ⟨_, List.getElem?_eq_getElem (by rw [ordTo_len]; exact hlt)⟩
      have hjl : j < fs.length := by
        have := List.mem_of_getElem? hj
        exact List.mem_range.1 ((ordTo_perm fs fs.length).mem_iff.1 this)
      have hnj : (nums (ordTo fs fs.length))[k] = (j : Int) := by
        obtain ⟨_, e⟩ := List.getElem?_eq_some_iff.1 hj
        simp [nums, e]
      rw [hnj] at o0
      have hrl : (roundTo cs fs ss k).length = ss.length := roundTo_len cs fs ss k
      have hjr : j < (roundTo cs fs ss k).length := by rw [hrl, HLN.out]; exact hjl
      have HFK := hide (roundTo_fits HF.out k)
      obtain ⟨gi, rfl, s0, sz⟩ := HK.out.slot hjr
      have hbx : ¬ InN ss.length (some ⟨gi, 0, none⟩) w.heap.size := fun hq => by have := HN.out _ hq; omega
      obtain ⟨x0, x1, x2, -⟩ := (F1.out.touchS HT.out hbx).cells
      have HSAME := hide (step_sameS (cs := cs) (ss := ss) hlt hj hjr)
      have HMOV := hide (step_movedS HF.out hlt hj hjr)
      have HSUC := hide (roundTo_succ cs fs ss hlt)
      have HNE : Hid ((ordTo fs fs.length)[k]'(by rw [ordTo_len]; exact hlt) = j) := (List.getElem?_eq_some_iff.1 hj).2
      have HRL := hide hrl
      have j0 : (0 : Int) ≤ (j : Int) := by omega
      have j1 : (j : Int) < (ss.length : Int) := by have := HLN.out; omega
      have k0 : (0 : Int) ≤ (k : Int) := by omega
      have k1 : (k : Int) < (fs.length : Int) := by omega
      clear hj hnj hbx hrl
      generalize hlv : leastV cs fs (roundTo cs fs ss k) j = q at HSAME HMOV
      have HLV := hide hlv
      clear hlv
      generalize hz : (roundTo cs fs ss k)[j] = z at s0 HSAME HMOV
      have HZ := hide hz
      clear hz
      go_wp2_with fail
      refine (l3Least_at ac a _ capc cap cap' cs fs (roundTo cs fs ss k) ss.length HRL.out j wr HK.out.book.caps HK.out.book.fl HK.out.book.ints HM.out.nc hnf (by rw [HRL.out, HLN.out]) HM.out.sc HM.out.vl HM.out.sf hjl (fits_flis HF.out)).mono ?_
      rintro e w2 ⟨rfl, hb2⟩
      have H2 := hide (HK.out.later hb2)
      have T2 := hide (touchS_trans HT.out (touchS_below hb2))
      have s1 := cell_later hb2 s0
      obtain ⟨gi', e', -, sz1⟩ := H2.out.slot hjr
      simp at e'
      subst e'
      have y0 := cell_later hb2 x0
      have y1 := cell_later hb2 x1
      have y2 := cell_later hb2 x2
      clear hb2 x0 x1 x2 s0 sz o0
      rw [HLV.out]
      by_cases hqz : q = z
      · have hb : (q != z) = false := by rw [hqz]; simp
        have HE : Hid (roundTo cs fs ss (k + 1) = roundTo cs fs ss k) := HSAME.out hqz
        have HQ := hide hqz
        clear hqz
        go_wp2
        go_roundw
        case rel => exact ⟨k + 1, by omega, by go_num, by rw [HE.out]; simp, by show CopyIn _ _ _ _ _ _ _ _ _; rw [HE.out]; exact H2.out, T2.out⟩
        case measure => simp [intOf]; omega
      · have hb : (q != z) = true := by rw [bne_iff_ne]; exact hqz
        have HE : Hid (roundTo cs fs ss (k + 1) ≠ ss) := HMOV.out hqz
        clear hqz
        have HS2 : Hid (roundTo cs fs ss (k + 1) = (roundTo cs fs ss k).set j q) := by
          show _ = _
          rw [HSUC.out]
          simp only [HNE.out, HLV.out]
        go_wp2
        go_roundw
        case rel =>
          refine ⟨k + 1, by omega, by go_num, by rw [decide_eq_true HE.out], ?_, touchN_set T2.out (by omega) _ _⟩
          show CopyIn _ _ _ _ _ _ _ _ _
          rw [HS2.out]
          refine H2.out.touch (by rw [HRL.out]; exact touchN_set (touchS_refl _ _) (by omega) j _) (List.length_set) ?_
          exact own_setI H2.out.own q
        case measure => simp [intOf]; omega
    · have hkf : k = fs.length := by omega
      subst hkf
      rw [roundTo_all] at HK
      rw [roundTo_all]
      have hbx : ¬ InN ss.length a' w.heap.size := fun hq => by have := HN.out _ hq; omega
      have hby : ¬ InN ss.length a' (w.heap.size + 1) := fun hq => by have := HN.out _ hq; omega
      obtain ⟨x0, x1, x2, -⟩ := (F1.out.touchS HT.out hbx).cells
      have R2 := hide (R1.out.touchS HT.out hby)
      obtain ⟨k0, k1, k2, t0, t1, t2⟩ := R2.out.cells
      have RX := hide (R2.out.set3 (.slice ac cs.length capc) (.slice a fs.length cap) (.slice a' ss.length cap'))
      have TX := hide (set3_touch wr (w.heap.size + 1) (.slice ac cs.length capc) (.slice a fs.length cap) (.slice a' ss.length cap'))
      have TY : Hid (TouchS (InN ss.length a') w (((wr.setCell ⟨w.heap.size + 1, 0, none⟩ (.slice ac cs.length capc)).setCell ⟨w.heap.size + 1, 1, none⟩ (.slice a fs.length cap)).setCell ⟨w.heap.size + 1, 2, none⟩ (.slice a' ss.length cap'))) := by
        have t1 := touchS_trans T0.out HT.out
        exact ⟨TX.out.os.trans t1.os, TX.out.tape.trans t1.tape, TX.out.output.trans t1.output, Nat.le_trans t1.size TX.out.size, fun k hk hn => (TX.out.block k (Nat.lt_of_lt_of_le hk t1.size) (fun hh => by omega)).trans (t1.block k hk hn)⟩
      clear hbx hby
      go_wp2
      generalize ((wr.setCell ⟨w.heap.size + 1, 0, none⟩ (.slice ac cs.length capc)).setCell ⟨w.heap.size + 1, 1, none⟩ (.slice a fs.length cap)).setCell ⟨w.heap.size + 1, 2, none⟩ (.slice a' ss.length cap') = Y at *
      obtain ⟨y0, y1, y2, -⟩ := RX.out.cells
      have hrv : (roundV cs fs ss).length = ss.length := roundV_len cs fs ss
      have ho := HK.out.own
      refine bodyPost_ret (v := .tuple #[bkV ac a a' capc cap cap' cs fs ss, .bool (decide (roundV cs fs ss ≠ ss))]) (by simp [results, Tryz.results45, go_sem, y0, y1, y2]) rfl ⟨rfl, ⟨fun w'' h'' => ?_, ?_⟩, TY.out⟩
      · rw [hrv] at h''
        exact H.out.rest w'' (touchS_trans (touchS_mono TY.out fun _ hk => .inr hk) h'')
      · refine owns_keep ho fun q hq => TX.out.block q (World.ownsRow.lt ho q hq).2 (fun hh => ?_)
        subst hh
        have hin : InA a' (w.heap.size + 1) := by
          cases a' with
          | none => simp [Value.ownBlock] at hq
          | some p => exact ⟨p, rfl, by simpa [Value.ownBlock] using hq⟩
        have h1 := (owns_in H.out.own hin).2
        omega

set_option maxRecDepth 100000 in
set_option maxHeartbeats 3200000 in
theorem l4Compress_any (lo : Nat) (ac a a' : Option Addr) (capc cap cap' : Nat) (cs : List (ByteArray × Int)) (fs : List Fli) (ss : List Int) (w : World) (h : CopyIn lo w ac a a' cap' cs fs ss) (hm : BookSm cs fs ss) (hfit : fitsB cs fs ss = true) :
    Calls Tryz.prog 27 #[bkV ac a a' capc cap cap' cs fs ss] w fun e w' => e = .returned (bkV ac a a' capc cap cap' cs fs ss) ∧ CopyIn lo w' ac a a' cap' cs fs (compV cs fs ss) ∧ TouchS (InN ss.length a') w w' := by
  have H := hide h
  have HM := hide hm
  have HF := hide hfit
  have hnf := hm.nf
  have hns := hm.ns
  obtain ⟨W, hW, hWs, f0, r0, b0⟩ := bk_boxes w (.slice ac cs.length capc) (.slice a fs.length cap) (.slice a' ss.length cap')
  have HW := hide hW
  have F0 := hide f0
  have R0 := hide r0
  have H0 := hide (h.later b0)
  have WB := hide b0
  have HWs := hide hWs
  have HN : Hid (∀ q, InN ss.length a' q → q < w.heap.size) := fun q hq => (h.inI hq).2
  clear h hm hfit hW f0 r0 b0 hWs
  go_enter Tryz.func27, Tryz.ntmps27
  go_wp2
  rw [HW.out]
  go_loopg [3] (potV fs ss + 1) (fun k b wr => ∃ (st : List Int) (m : Bool), b = .bool m ∧ (m = true → k = potV fs st + 1) ∧ st.length = ss.length ∧ Hid (CopyIn lo wr ac a a' cap' cs fs st) ∧ Hid (fitsB cs fs st = true) ∧ Hid (compV cs fs st = compV cs fs ss) ∧ Hid (m = false → st = compV cs fs ss) ∧ Hid (TouchS (InN ss.length a') w wr) ∧ Hid (BkAt wr w.heap.size (.slice ac cs.length capc) (.slice a fs.length cap) (.slice a' ss.length cap')) ∧ Hid (BkAt wr (w.heap.size + 1) (.slice none 0 0) (.slice none 0 0) (.slice none 0 0)) ∧ Hid (w.heap.size + 2 ≤ wr.heap.size))
  case atStart => exact ⟨ss, true, rfl, fun _ => rfl, rfl, H0.out, HF.out, rfl, (by intro hh; cases hh), touchS_below WB.out, F0.out, R0.out, by show _ ≤ _; rw [HWs.out]; exact Nat.le_refl _⟩
  case round =>
    obtain ⟨st, m, rfl, hgk, hsl, HK, HFK, HCK, HEND, HTK, HFB, HRB, HSZ⟩ := hrel
    have HGK := hide hgk
    have HSL := hide hsl
    clear hgk hsl
    obtain ⟨x0, x1, x2, z0, z1, z2⟩ := HFB.out.cells
    cases m with
    | true =>
      have CO := l4Round_any lo ac a a' capc cap cap' cs fs st wr HK.out ⟨HM.out.nc, hnf, by rw [HSL.out]; exact hns, HM.out.sc, HM.out.vl, HM.out.sf⟩ HFK.out
      unfold bkV at CO
      rw [HSL.out] at CO
      have HCO := hide CO
      clear CO
      go_wp2_with fail
      refine HCO.out.mono ?_
      rintro e w2 ⟨rfl, hk2, ht2⟩
      have H2 := hide hk2
      have T2 := hide (touchS_trans HTK.out ht2)
      have hbx : ¬ InN ss.length a' w.heap.size := fun hq => by have := HN.out _ hq; omega
      have hby : ¬ InN ss.length a' (w.heap.size + 1) := fun hq => by have := HN.out _ hq; omega
      have FB2 := hide (HFB.out.touchS ht2 hbx)
      have RB2 := hide (HRB.out.touchS ht2 hby)
      have hs2 := ht2.size
      clear hk2 ht2 x0 x1 x2 z0 z1 z2 hbx hby
      obtain ⟨x0, x1, x2, z0, z1, z2⟩ := FB2.out.cells
      have FX := hide (FB2.out.set3 (.slice ac cs.length capc) (.slice a fs.length cap) (.slice a' ss.length cap'))
      have TX := hide (set3_touch w2 w.heap.size (.slice ac cs.length capc) (.slice a fs.length cap) (.slice a' ss.length cap'))
      have RX := hide (RB2.out.touchS TX.out (by omega))
      have TY : Hid (TouchS (InN ss.length a') w (((w2.setCell ⟨w.heap.size, 0, none⟩ (.slice ac cs.length capc)).setCell ⟨w.heap.size, 1, none⟩ (.slice a fs.length cap)).setCell ⟨w.heap.size, 2, none⟩ (.slice a' ss.length cap'))) :=
        ⟨TX.out.os.trans T2.out.os, TX.out.tape.trans T2.out.tape, TX.out.output.trans T2.out.output, Nat.le_trans T2.out.size TX.out.size, fun k hk hn => (TX.out.block k (Nat.lt_of_lt_of_le hk T2.out.size) (fun hh => by omega)).trans (T2.out.block k hk hn)⟩
      have hrv : Hid ((roundV cs fs st).length = ss.length) := by show _ = _; rw [roundV_len]; exact HSL.out
      have CX : Hid (CopyIn lo (((w2.setCell ⟨w.heap.size, 0, none⟩ (.slice ac cs.length capc)).setCell ⟨w.heap.size, 1, none⟩ (.slice a fs.length cap)).setCell ⟨w.heap.size, 2, none⟩ (.slice a' ss.length cap')) ac a a' cap' cs fs (roundV cs fs st)) := by
        refine ⟨fun w'' h'' => ?_, ?_⟩
        · rw [hrv.out] at h''
          exact H.out.rest w'' (touchS_trans (touchS_mono TY.out fun _ hk => .inr hk) h'')
        · have ho := H2.out.own
          refine owns_keep ho fun q hq => TX.out.block q (World.ownsRow.lt ho q hq).2 (fun hh => ?_)
          subst hh
          have hin : InA a' w.heap.size := by
            cases a' with
            | none => simp [Value.ownBlock] at hq
            | some p => exact ⟨p, rfl, by simpa [Value.ownBlock] using hq⟩
          have h1 := (owns_in H.out.own hin).2
          omega
      have hsX : Hid (w.heap.size + 2 ≤ (((w2.setCell ⟨w.heap.size, 0, none⟩ (.slice ac cs.length capc)).setCell ⟨w.heap.size, 1, none⟩ (.slice a fs.length cap)).setCell ⟨w.heap.size, 2, none⟩ (.slice a' ss.length cap')).heap.size) := by
        show _ ≤ _
        have := HSZ.out
        have := TX.out.size
        omega
      by_cases hr : roundV cs fs st = st
      · have hd : decide (roundV cs fs st ≠ st) = false := by simp [hr]
        have HR := hide hr
        have HPZ : Hid (0 < gk) := by have := HGK.out (by first | exact rfl | trivial); show _ < _; omega
        clear hr
        go_wp2
        go_roundg 0
        case measure => exact HPZ.out
        case rel => exact ⟨roundV cs fs st, false, rfl, (by intro hh; cases hh), hrv.out, CX.out, (round_all HFK.out).1, (by show _ = _; rw [comp_round HFK.out]; exact HCK.out), (by intro _; show roundV cs fs st = _; rw [← HCK.out, HR.out, comp_stop HR.out]), TY.out, FX.out, RX.out, hsX.out⟩
      · have hd : decide (roundV cs fs st ≠ st) = true := by simp [hr]
        have HPZ : Hid (potV fs (roundV cs fs st) + 1 < gk) := by have := HGK.out (by first | exact rfl | trivial); have := pot_round HFK.out hr; show _ < _; omega
        clear hr
        go_wp2
        go_roundg (potV fs (roundV cs fs st) + 1)
        case measure => exact HPZ.out
        case rel => exact ⟨roundV cs fs st, true, rfl, (fun _ => rfl), hrv.out, CX.out, (round_all HFK.out).1, (by show _ = _; rw [comp_round HFK.out]; exact HCK.out), (by intro hh; cases hh), TY.out, FX.out, RX.out, hsX.out⟩
    | false =>
      obtain ⟨k0, k1, k2, t0, t1, t2⟩ := HRB.out.cells
      have hst := HEND.out rfl
      subst hst
      have RX := hide (HRB.out.set3 (.slice ac cs.length capc) (.slice a fs.length cap) (.slice a' ss.length cap'))
      have TX := hide (set3_touch wr (w.heap.size + 1) (.slice ac cs.length capc) (.slice a fs.length cap) (.slice a' ss.length cap'))
      have TY : Hid (TouchS (InN ss.length a') w (((wr.setCell ⟨w.heap.size + 1, 0, none⟩ (.slice ac cs.length capc)).setCell ⟨w.heap.size + 1, 1, none⟩ (.slice a fs.length cap)).setCell ⟨w.heap.size + 1, 2, none⟩ (.slice a' ss.length cap'))) :=
        ⟨TX.out.os.trans HTK.out.os, TX.out.tape.trans HTK.out.tape, TX.out.output.trans HTK.out.output, Nat.le_trans HTK.out.size TX.out.size, fun k hk hn => (TX.out.block k (Nat.lt_of_lt_of_le hk HTK.out.size) (fun hh => by omega)).trans (HTK.out.block k hk hn)⟩
      go_wp2
      generalize ((wr.setCell ⟨w.heap.size + 1, 0, none⟩ (.slice ac cs.length capc)).setCell ⟨w.heap.size + 1, 1, none⟩ (.slice a fs.length cap)).setCell ⟨w.heap.size + 1, 2, none⟩ (.slice a' ss.length cap') = Y at *
      obtain ⟨y0, y1, y2, -⟩ := RX.out.cells
      have ho := HK.out.own
      refine bodyPost_ret (v := bkV ac a a' capc cap cap' cs fs ss) (by simp [results, Tryz.results27, go_sem, y0, y1, y2]) rfl ⟨rfl, ⟨fun w'' h'' => ?_, ?_⟩, TY.out⟩
      · rw [HSL.out] at h''
        exact H.out.rest w'' (touchS_trans (touchS_mono TY.out fun _ hk => .inr hk) h'')
      · refine owns_keep ho fun q hq => TX.out.block q (World.ownsRow.lt ho q hq).2 (fun hh => ?_)
        subst hh
        have hin : InA a' (w.heap.size + 1) := by
          cases a' with
          | none => simp [Value.ownBlock] at hq
          | some p => exact ⟨p, rfl, by simpa [Value.ownBlock] using hq⟩
        have h1 := (owns_in H.out.own hin).2
        omega

end Go.Proofs.YtciacofibljmoaaGreatDoor

/- A book copied, the document's way, walked. -/
namespace Go.Proofs.YtciacofibljmoaaGreatDoor
open Go.RowKit

set_option maxRecDepth 100000 in
set_option maxHeartbeats 3200000 in
theorem l1Flights_any (a : Option Addr) (cap : Nat) (fs : List Fli) (w : World) (hc : FlightsIn w a fs) (hl : fs.length ≤ 1048576) (hv : ∀ f ∈ fs, 1 ≤ f.2.2.2.length ∧ f.2.2.2.length ≤ 1000) :
    Calls Tryz.prog 44 #[.slice a fs.length cap] w fun e w' => ∃ v gs, e = .returned v ∧ gs.map Prod.fst = fs ∧ OwnF w' w.heap.size v gs ∧ Below w.heap.size w w' := by
  obtain ⟨i0, hi, iz0, iz1, iz2⟩ := info_parts info_flight
  have HC := hide hc
  have HV := hide hv
  clear hc hv
  go_enter Tryz.func44, Tryz.ntmps44
  go_wp2
  have HO1 : Hid (OwnF (w.alloc (.cells #[] 32)) w.heap.size (.slice (some ⟨w.heap.size, 0, none⟩) 0 0) []) := ⟨own_emptyF w, by simp⟩
  have HB1 := hide ((Below.refl w.heap.size w).alloc (Nat.le_refl _) (.cells #[] 32))
  go_loopw [3, 4] (fun v i wr => ∃ (k : Nat) (gs : List FlV), k ≤ fs.length ∧ i = .int .i64 k ∧ gs.length = k ∧ Hid (gs.map Prod.fst = fs.take k) ∧ Hid (OwnF wr w.heap.size v gs) ∧ Hid (Below w.heap.size w wr)) (fun _ i _ => fs.length - (RowKit.intOf i).toNat)
  case atStart => exact ⟨0, [], Nat.zero_le _, rfl, rfl, by simp [Hid], HO1.out, HB1.out⟩
  case round =>
    obtain ⟨k, gs, hk, rfl, hgk, HGS, HO, HB⟩ := hrel
    have HGK := hide hgk
    clear HO1 HB1 hgk
    by_cases hlt : k < fs.length
    · obtain ⟨b, off, rfl, hblt, e0, e1, e2, av, cv, e3, hv⟩ := HC.out.later HB.out k hlt
      obtain ⟨hv1, hv2⟩ := HV.out _ (List.getElem_mem hlt)
      have HVV := hide hv
      have HTK : Hid (fs.take (k + 1) = fs.take k ++ [fs[k]]) := List.take_succ_eq_append_getElem hlt
      have k0 : (0 : Int) ≤ (k : Int) := by omega
      have k1 : (k : Int) < (fs.length : Int) := by omega
      generalize fs[k] = f at e0 e1 e2 e3 hv1 hv2 HVV HTK
      obtain ⟨nm, p, l, vs⟩ := f
      simp only at e0 e1 e2 e3 hv1 hv2 HVV HTK
      have hsw := HB.out.size
      clear hv
      go_wp2_with fail
      refine (l1Flight_any nm p l vs av cv wr HVV.out hv1 hv2).mono ?_
      rintro e w2 ⟨gx, cx, rfl, hox, hb2⟩
      have HO2 := hide (HO.out.later hb2)
      have HB2 := hide (below_two HB.out hb2)
      have HVI := hide (OwnV.visits hox).1
      have hgx := (World.ownsRow.lt hox gx rfl).1
      have HOB : Hid (∀ g, u3.ownBlock = some g → g < wr.heap.size) := fun g hg => (HO.out.1.lt g hg).2
      have hs2 := hb2.size
      clear hb2 hox HO e0 e1 e2 e3
      go_wp2_with (first
        | (at_builtin; refine wpList_append_lies _ rfl _ _ 24 rfl w.heap.size 32 i0 (.agg #[.string ⟨#[]⟩, .int .i64 0, .int .i64 0, .slice none 0 0]) 4 56 Tryz.underlying24 hi iz0 iz1 iz2 rfl (by decide) _ _ _ rfl (World.ownsRow.alloc HO2.out.1 _) ⟨w2.heap.size, 0, none⟩ 1 1 [.string nm, .int .i64 p, .int .i64 l, .slice (some ⟨gx, 0, none⟩) vs.length cx] rfl rfl (cell_four_new _ _ _ _ _ _) (fun x hx => by simp at hx; rcases hx with rfl | rfl | rfl | rfl <;> rfl) (by decide) (by have := HGK.out; unfold maxLen; omega) (by have := HGK.out; omega) (by simp; omega) (w2.heap.size + 1) (by simp) ?_; intro g cp wE hownE hgrowE hatE hltE))
      have BE := hide (below_grow (a := w) (w := w2) HB2.out.size hgrowE (fun q hq => (HO2.out.1.lt _ hq).1))
      have HOE : Hid (OwnF wE w.heap.size (.slice (some ⟨g, 0, none⟩) (gs.length + 1) cp) (gs ++ [((nm, p, l, vs), some ⟨gx, 0, none⟩, cx)])) := by
        refine ⟨?_, fun x hx => ?_⟩
        · rw [flVals_snoc, List.length_append]
          exact hownE
        · rcases List.mem_append.1 hx with hx | hx
          · obtain ⟨f1, f2⟩ := HO2.out.2 x hx
            refine ⟨f1.grown hgrowE (fun p hp => (f2 p hp).2), fun p hp => ⟨(f2 p hp).1, ?_⟩⟩
            rcases hatE with he | he
            · intro hh
              exact (f2 p hp).2 (he.trans hh)
            · have hvn : 1 ≤ x.1.2.2.2.length := by
                have : x.1 ∈ fs.take k := by rw [← HGS.out]; exact List.mem_map_of_mem hx
                exact (HV.out _ (List.mem_of_mem_take this)).1
              have := vis_lt f1 hvn hp
              simp [Value.ownBlock]; omega
          · simp at hx
            subst hx
            refine ⟨VisitsIn.grown HVI.out hgrowE (fun p hp hh => by simp at hp; subst hp; have := HOB.out _ hh; simp at this; omega), fun p hp => ?_⟩
            simp at hp
            subst hp
            refine ⟨by show w.heap.size ≤ gx; omega, ?_⟩
            rcases hatE with he | he
            · intro hh
              have h5 := HOB.out _ (he.trans hh)
              simp at h5
              omega
            · have := vis_lt HVI.out hv1 rfl
              simp at this
              simp [Value.ownBlock]; omega
      go_roundw
      case rel => exact ⟨k + 1, _, by omega, by go_num, by rw [List.length_append, HGK.out]; rfl, by show _ = _; rw [List.map_append, HGS.out, HTK.out]; rfl, HOE.out, HB2.out.trans BE.out⟩
      case measure => simp [RowKit.intOf]; omega
    · have hkf : k = fs.length := by omega
      subst hkf
      go_wp2
      go_ret
      exact ⟨_, gs, rfl, by have := HGS.out; rwa [List.take_length] at this, HO.out, HB.out⟩

theorem run_append_none_all {P : Program} {w : World} (base : Nat) (t ty e : TypeId) (i : TypeInfo) (size c : Nat) (ht : P.underlying t = some (.slice e)) (hi : P.info? e = some i)
    (v : Value) (n : Nat) (xs : List Value) (hown : w.ownsRow base e size v n xs) :
    (Builtin.append_ #[t, t] ty #[v, .slice none 0 c]).run P w = .ok v w := by
  rcases hown.2 with ⟨rfl, rfl⟩ | ⟨g, cap, cur, rfl, _, _, hnc, _⟩
  · simp [Builtin.append_, run_underlying ht, sizeOf, typeInfo, hi, Builtin.lenOf, Builtin.firstCells]
  · simp [Builtin.append_, run_underlying ht, sizeOf, typeInfo, hi, Builtin.lenOf, Builtin.firstCells, hnc, storeCells]
/-- 'append' of whatever slice to a row of the call's own, at a step of a region that draws its order: none, or some; nil, or not. -/
theorem step_append_all {P : Program} {w : World} {ops : Array Oper} {o : Oper} {a : Act} {K : Act → World → Prop} {Q : Exit → Act → World → Prop} {E : Prop} (hgd : o.guard = none) (s x : Operand) (t : TypeId)
    (ho : o.op = .call { callee := .builtin .append, args := #[s, x], argTypes := #[t, t] })
    (base : Nat) (e : TypeId) (i : TypeInfo) (z : Value) (size bytes : Nat) (ht : P.underlying t = some (.slice e)) (hi : P.info? e = some i) (hz : i.zero = some z)
    (hsize : i.size = size) (hby : i.bytes = bytes) (hzs : z.cells.size = size) (hsz : 0 < size)
    (v : Value) (n : Nat) (xs : List Value) (hs : a.eval s = v) (hown : w.ownsRow base e size v n xs)
    (ao : Option Addr) (m c : Nat) (news : List Value) (hx : a.eval x = .slice ao m c) (hl : news.length = m * size) (h0 : ao = none → m = 0) (hnews : ∀ ad, ao = some ad → ∀ j u, news[j]? = some u → w.cell? (ad.add j) = some u) (h1 : ∀ u ∈ news, u.oneCell' = true)
    (h63 : n + m ≤ maxLen) (hbytes : (n + m) * bytes ≤ 140737488355328) (hbase : base ≤ w.heap.size)
    (h : ∀ v' w', w'.ownsRow base e size v' (n + m) (xs ++ news) → w.grownBy w' v.ownBlock → (0 < m → ∃ g cap, v' = .slice (some ⟨g, 0, none⟩) (n + m) cap ∧ (v.ownBlock = some g ∨ g = w.heap.size)) → K (a.put o.dst v') w') :
    if Region.wanted o (yielded ops a.tmps) = true then Oper.wp P o a w K Q else E := by
  have hw : Region.wanted o (yielded ops a.tmps) = true := by simp [Region.wanted, hgd]
  rw [if_pos hw]
  cases ao with
  | none =>
    obtain rfl := h0 rfl
    obtain rfl : news = [] := List.length_eq_zero_iff.1 (by simpa using hl)
    have hrun := run_append_none_all (P := P) (w := w) base t o.type e i size c ht hi v n xs hown
    have hk := h v w (by simpa using hown) ⟨rfl, rfl, rfl, Nat.le_refl _, fun _ _ _ => rfl⟩ (fun hh => absurd hh (Nat.lt_irrefl _))
    unfold Oper.wp
    simp only [execOp, ho, resolve, invoke, builtin, List.map_toArray, List.map_cons, List.map_nil, hs, hx, hrun, Sem.run_bind, Sem.run_pure, Result.andThen_ok]
    exact hk
  | some ad =>
    by_cases hm : 0 < m
    · exact wp_append_lies w s x t ho base e i z size bytes ht hi hz hsize hby hzs hsz v n xs hs hown ad m c news hx hl (hnews ad rfl) h1 hm h63 hbytes hbase _ rfl fun g cap w' h2 h3 h4 h5 => h _ w' h2 h3 fun _ => ⟨g, cap, rfl, h4⟩
    · exact wp_append_own w s x t ho base e i z size bytes ht hi hz hsize hby hzs hsz v n xs hs hown ad m c news hx hl (hnews ad rfl) h1 h63 hbytes hbase fun v' w' h2 h3 _ => h v' w' h2 h3 fun hh => absurd hh hm
theorem step_append_any {P : Program} {w : World} {ops : Array Oper} {o : Oper} {a : Act} {K : Act → World → Prop} {Q : Exit → Act → World → Prop} {E : Prop} (hgd : o.guard = none) (s x : Operand) (t : TypeId)
    (ho : o.op = .call { callee := .builtin .append, args := #[s, x], argTypes := #[t, t] })
    (base : Nat) (e : TypeId) (i : TypeInfo) (z : Value) (size bytes : Nat) (ht : P.underlying t = some (.slice e)) (hi : P.info? e = some i) (hz : i.zero = some z)
    (hsize : i.size = size) (hby : i.bytes = bytes) (hzs : z.cells.size = size) (hsz : 0 < size)
    (v : Value) (n : Nat) (xs : List Value) (hs : a.eval s = v) (hown : w.ownsRow base e size v n xs)
    (ao : Option Addr) (m c : Nat) (news : List Value) (hx : a.eval x = .slice ao m c) (hl : news.length = m * size) (h0 : ao = none → m = 0 ∧ c = 0) (hnews : ∀ ad, ao = some ad → ∀ j u, news[j]? = some u → w.cell? (ad.add j) = some u) (h1 : ∀ u ∈ news, u.oneCell' = true)
    (h63 : n + m ≤ maxLen) (hbytes : (n + m) * bytes ≤ 140737488355328) (hbase : base ≤ w.heap.size)
    (h : ∀ v' w', w'.ownsRow base e size v' (n + m) (xs ++ news) → w.grownBy w' v.ownBlock → (0 < m → ∃ g cap, v' = .slice (some ⟨g, 0, none⟩) (n + m) cap ∧ (v.ownBlock = some g ∨ g = w.heap.size)) → K (a.put o.dst v') w') :
    if Region.wanted o (yielded ops a.tmps) = true then Oper.wp P o a w K Q else E :=
  step_append_all hgd s x t ho base e i z size bytes ht hi hz hsize hby hzs hsz v n xs hs hown ao m c news hx hl (fun e => (h0 e).1) hnews h1 h63 hbytes hbase h

theorem emp1 (w : World) (t : TypeId) (sz : Nat) : World.ownsRow (w.alloc (.cells #[] t)).drew w.heap.size t sz (.slice (some ⟨w.heap.size, 0, none⟩) 0 0) 0 [] := World.ownsRow_made w #[] 0 (Nat.le_refl _) (Nat.zero_le _) (by simp)
theorem emp2 (w : World) (t : TypeId) (sz : Nat) (o : Obj) : World.ownsRow ((w.alloc (.cells #[] t)).alloc o).drew w.heap.size t sz (.slice (some ⟨w.heap.size, 0, none⟩) 0 0) 0 [] := World.ownsRow.alloc (own_newE w t sz) o
theorem emp3 (w : World) (t : TypeId) (sz : Nat) (o : Obj) : World.ownsRow ((w.alloc o).alloc (.cells #[] t)).drew w.heap.size t sz (.slice (some ⟨w.heap.size + 1, 0, none⟩) 0 0) 0 [] := by
  have := owns_base (own_newE (w.alloc o) t sz) (base' := w.heap.size) (by simp)
  simp only [Deep.nblk_alloc] at this
  exact this
theorem vis_touchS' {S : Nat → Prop} {w w' : World} {a : Option Addr} {vs : List Vis} (h : VisitsIn w a vs) (ht : TouchS S w w') (ho : ∀ q, InA a q → ¬ S q) : VisitsIn w' a vs := fun i hi => by
  obtain ⟨b, off, e, hlt, c0, c1, c2⟩ := h i hi
  have hk := ht.block b hlt (ho b ⟨_, e, rfl⟩)
  exact ⟨b, off, e, Nat.lt_of_lt_of_le hlt ht.size, (World.cell?_of_block (w := w) (a := ⟨b, off + i * 3, none⟩) hk).trans c0, (World.cell?_of_block (w := w) (a := ⟨b, off + i * 3 + 1, none⟩) hk).trans c1, (World.cell?_of_block (w := w) (a := ⟨b, off + i * 3 + 2, none⟩) hk).trans c2⟩
theorem caps_touchS {S : Nat → Prop} {w w' : World} {a : Option Addr} {cs : List (ByteArray × Int)} (h : CapsIn w a cs) (ht : TouchS S w w') (ho : ∀ q, InN cs.length a q → ¬ S q) : CapsIn w' a cs := fun i hi => by
  obtain ⟨b, off, e, hlt, c0, c1⟩ := h i hi
  have hk := ht.block b hlt (ho b ⟨by omega, _, e, rfl⟩)
  exact ⟨b, off, e, Nat.lt_of_lt_of_le hlt ht.size, (World.cell?_of_block (w := w) (a := ⟨b, off + i * 2, none⟩) hk).trans c0, (World.cell?_of_block (w := w) (a := ⟨b, off + i * 2 + 1, none⟩) hk).trans c1⟩
def InFl (a2 : Option Addr) (gs : List FlV) (q : Nat) : Prop := InA a2 q ∨ ∃ x ∈ gs, InA x.2.1 q
theorem inFl_of {w : World} {base : Nat} {a2 : Option Addr} {n c2 : Nat} {gs : List FlV} (h : OwnF w base (.slice a2 n c2) gs) (hn : n = gs.length) (hv : ∀ x ∈ gs, 1 ≤ x.1.2.2.2.length) {q : Nat} (hq : InFl a2 gs q) : base ≤ q ∧ q < w.heap.size := by
  subst hn
  rcases hq with hq | ⟨x, hx, p, hp, rfl⟩
  · exact owns_in h.1 hq
  · exact ⟨((h.2 x hx).2 p hp).1, vis_lt (h.2 x hx).1 (hv x hx) hp⟩
theorem ownF_touchS {S : Nat → Prop} {w w' : World} {base : Nat} {a2 : Option Addr} {n c2 : Nat} {gs : List FlV} (h : OwnF w base (.slice a2 n c2) gs) (hn : n = gs.length) (ht : TouchS S w w') (ho : ∀ q, InFl a2 gs q → ¬ S q) : OwnF w' base (.slice a2 n c2) gs := by
  subst hn
  refine ⟨owns_keep h.1 fun q hq => ht.block q (World.ownsRow.lt h.1 q hq).2 (ho q (.inl ?_)), fun x hx => ⟨vis_touchS' (h.2 x hx).1 ht fun q hq => ho q (.inr ⟨x, hx, hq⟩), (h.2 x hx).2⟩⟩
  cases a2 with
  | none => simp [Value.ownBlock] at hq
  | some p => exact ⟨p, rfl, by simpa [Value.ownBlock] using hq⟩
theorem ownF_in {w : World} {base : Nat} {a2 : Option Addr} {n c2 : Nat} {gs : List FlV} (h : OwnF w base (.slice a2 n c2) gs) : FlightsIn w a2 (gs.map Prod.fst) := by
  obtain ⟨a', c', e, _, h4, _⟩ := OwnF.form h
  simp at e
  obtain ⟨rfl, _⟩ := e
  exact h4
theorem at_in {m : Nat} {v v' : Value} {H : Nat} {a3 : Option Addr} {c3 n : Nat} (h : 0 < m → ∃ g cap, v' = .slice (some ⟨g, 0, none⟩) (0 + m) cap ∧ (v.ownBlock = some g ∨ g = H)) (e : v' = .slice a3 n c3) {q : Nat} (hq : InN m a3 q) : v.ownBlock = some q ∨ q = H := by
  obtain ⟨h0, p, hp, rfl⟩ := hq
  obtain ⟨g, cap, e', h'⟩ := h (by omega)
  rw [e] at e'
  simp at e'
  obtain ⟨rfl, _⟩ := e'
  simp at hp
  subst hp
  exact h'
theorem l1Flights_pack (a : Option Addr) (cap : Nat) (fs : List Fli) (w : World) (hc : FlightsIn w a fs) (hl : fs.length ≤ 1048576) (hv : ∀ f ∈ fs, 1 ≤ f.2.2.2.length ∧ f.2.2.2.length ≤ 1000) :
    Calls Tryz.prog 44 #[.slice a fs.length cap] w fun e w' => ∃ a2 c2 gs, e = .returned (.slice a2 fs.length c2) ∧ gs.map Prod.fst = fs ∧ (∀ q, InFl a2 gs q → w.heap.size ≤ q ∧ q < w'.heap.size) ∧ OwnF w' w.heap.size (.slice a2 fs.length c2) gs ∧ Below w.heap.size w w' := by
  refine (l1Flights_any a cap fs w hc hl hv).mono ?_
  rintro e w' ⟨v, gs, rfl, hgs, ho, hb⟩
  obtain ⟨a2, c2, e2, _⟩ := OwnF.form ho
  rw [hgs] at e2
  subst e2
  have hlen : fs.length = gs.length := by rw [← hgs, List.length_map]
  exact ⟨a2, c2, gs, rfl, hgs, fun q hq => inFl_of ho hlen (fun x hx => (hv x.1 (by rw [← hgs]; exact List.mem_map_of_mem hx)).1) hq, ho, hb⟩

theorem own_block_eq {q b n c : Nat} (h : some q = (Value.slice (some ⟨b, 0, none⟩) n c).ownBlock) : q = b := by simpa [Value.ownBlock] using h
/-- The copy's flights stay, whatever else is written. -/
def FlKept (lo : Nat) (w : World) (b : Option Addr) (cb : Nat) (b' : Option Addr) (m : Nat) (fs : List Fli) : Prop := ∃ B gs, gs.map Prod.fst = fs ∧ ∀ w'', TouchS (fun k => k < lo ∨ InN m b' k) w w'' → OwnF w'' B (.slice b fs.length cb) gs
/-- Rows of different kinds are apart. -/
theorem apart_types {w : World} {b1 b2 : Nat} {t1 t2 : TypeId} {s1 s2 : Nat} {a1 a2 : Option Addr} {n1 c1 n2 c2 : Nat} {xs1 xs2 : List Value} (h1 : w.ownsRow b1 t1 s1 (.slice a1 n1 c1) n1 xs1) (h2 : w.ownsRow b2 t2 s2 (.slice a2 n2 c2) n2 xs2) (ht : t1 ≠ t2) {q : Nat} (hq : InA a1 q) : ¬ InA a2 q := fun hq2 => by
  obtain ⟨p, rfl, rfl⟩ := hq
  obtain ⟨p2, rfl, e⟩ := hq2
  rcases h1.2 with ⟨h, _⟩ | ⟨g, _, cur, hv, _, hh, _⟩
  · simp at h
  rcases h2.2 with ⟨h, _⟩ | ⟨g2, _, cur2, hv2, _, hh2, _⟩
  · simp at h
  simp at hv hv2
  obtain ⟨rfl, _⟩ := hv
  obtain ⟨rfl, _⟩ := hv2
  simp at e
  subst e
  rw [hh] at hh2
  simp at hh2
  exact ht hh2.2
/-- The same, with where the flights lie. -/
def FlOwn (lo : Nat) (w : World) (bc b : Option Addr) (cb : Nat) (b' : Option Addr) (m : Nat) (cs : List (ByteArray × Int)) (fs : List Fli) : Prop := ∃ gs, gs.map Prod.fst = fs ∧ (∀ w'', TouchS (fun k => k < lo ∨ InN m b' k) w w'' → OwnF w'' lo (.slice b fs.length cb) gs) ∧ ∀ w'', TouchS (fun k => (k < lo ∨ InN m b' k) ∨ InA b k) w w'' → CapsIn w'' bc cs
theorem FlOwn.kept {lo : Nat} {w : World} {bc b : Option Addr} {cb : Nat} {b' : Option Addr} {m : Nat} {cs : List (ByteArray × Int)} {fs : List Fli} (h : FlOwn lo w bc b cb b' m cs fs) : FlKept lo w b cb b' m fs := by
  obtain ⟨gs, h1, h2, _⟩ := h
  exact ⟨lo, gs, h1, h2⟩
theorem owns_rebase {w : World} {base base' : Nat} {t : TypeId} {sz : Nat} {a : Option Addr} {n m c : Nat} {xs : List Value} (h : w.ownsRow base t sz (.slice a n c) m xs) (ha : ∀ q, InA a q → base' ≤ q) : w.ownsRow base' t sz (.slice a n c) m xs := by
  obtain ⟨h0, h1⟩ := h
  refine ⟨h0, ?_⟩
  rcases h1 with h1 | ⟨g, cap, cur, e, hg, h2⟩
  · exact .inl h1
  · refine .inr ⟨g, cap, cur, e, ha g ?_, h2⟩
    simp at e
    exact ⟨_, e.1, rfl⟩
/-- The copy's end: three rows of its own, put into the result's box. -/
theorem copy_end {w W w1 w2 w3 : World} {a1 a2 a3 : Option Addr} {c1 c2 c3 B : Nat} {cs : List (ByteArray × Int)} {fs : List Fli} {ss : List Int} {gs : List FlV} (hWs : W.heap.size = w.heap.size + 2) (b0 : Below w.heap.size w W)
    (ow1 : World.ownsRow w1 W.heap.size 61 2 (.slice a1 (0 + cs.length) c1) (0 + cs.length) ([] ++ capVals cs)) (b12 : Below w1.heap.size w1 w2) (of2 : OwnF w2 B (.slice a2 fs.length c2) gs) (hgs : gs.map Prod.fst = fs) (flb : ∀ q, InFl a2 gs q → W.heap.size ≤ q ∧ q < w2.heap.size)
    (bw2 : Below W.heap.size W w2) (bw3 : Below W.heap.size W w3) (hs : w2.heap.size ≤ w3.heap.size) (keep : ∀ q, q < w2.heap.size → (InN cs.length a1 q ∨ InFl a2 gs q) → w3.heap[q]? = w2.heap[q]?)
    (ow3 : World.ownsRow w3 W.heap.size 3 1 (.slice a3 (0 + ss.length) c3) (0 + ss.length) ([] ++ intVals ss)) (hal : ∀ q, InN ss.length a3 q → ¬ InN cs.length a1 q ∧ ¬ InFl a2 gs q) (Y : World) (hY : TouchS (fun k => k = w.heap.size + 1) w3 Y) :
    (CopyIn w.heap.size Y a1 a2 a3 c3 cs fs ss ∧ FlOwn w.heap.size Y a1 a2 c2 a3 ss.length cs fs) ∧ (a1 = none → c1 = 0) ∧ Below w.heap.size w Y := by
  rw [Nat.zero_add, List.nil_append] at ow1 ow3
  have hlen : fs.length = gs.length := by rw [← hgs, List.length_map]
  have t23 : TouchS (fun q => ¬ (InN cs.length a1 q ∨ InFl a2 gs q)) w2 w3 := ⟨bw3.os.trans bw2.os.symm, bw3.tape.trans bw2.tape.symm, bw3.output.trans bw2.output.symm, hs, fun k hk hn => keep k hk (Classical.not_not.1 hn)⟩
  have hsW := b0.size
  have hs2 := bw2.size
  have hs3 := bw3.size
  have incC : ∀ q, InN cs.length a1 q → W.heap.size ≤ q := fun q hq => (owns_in ow1 hq.2).1
  have caps3 : CapsIn w3 a1 cs := caps_touchS (caps_touchS (caps_of ow1) (touchS_below (S := fun _ => False) b12) (fun _ _ h => h)) t23 (fun q hq hn => hn (.inl hq))
  have fl3' : OwnF w3 B (.slice a2 fs.length c2) gs := ownF_touchS of2 hlen t23 (fun q hq hn => hn (.inr hq))
  have fl3 : OwnF w3 w.heap.size (.slice a2 fs.length c2) gs := ⟨owns_rebase fl3'.1 (fun q hq => by have := flb q (.inl hq); omega), fun x hx => ⟨(fl3'.2 x hx).1, fun p hp => ⟨by have := flb p.block (.inr ⟨x, hx, p, hp, rfl⟩); omega, ((fl3'.2 x hx).2 p hp).2⟩⟩⟩
  refine ⟨⟨⟨fun w'' h'' => ?_, ?_⟩, gs, hgs, fun w'' h'' => ?_, fun w'' h'' => ?_⟩, fun e => ?_, (b0.trans (bw3.mono (by omega))).trans (below_ofS hY (by omega) (fun q hq => by omega))⟩
  · have ht : TouchS (fun k => (k = w.heap.size + 1 ∨ k < w.heap.size) ∨ InN ss.length a3 k) w3 w'' := touchS_trans (touchS_mono hY fun k hk => .inl (.inl hk)) (touchS_mono h'' fun k hk => hk.elim (fun h => .inl (.inr h)) .inr)
    constructor
    · refine caps_touchS caps3 ht fun q hq hn => ?_
      rcases hn with hn | hn
      · have := incC q hq; omega
      · exact (hal q hn).1 hq
    · rw [← hgs]
      refine ownF_in (ownF_touchS fl3 hlen ht fun q hq hn => ?_)
      rcases hn with hn | hn
      · have := flb q hq; omega
      · exact (hal q hn).2 hq
  · refine owns_base (owns_keep ow3 fun q hq => hY.block q (World.ownsRow.lt ow3 q hq).2 (fun hh => ?_)) (by omega)
    have := (World.ownsRow.lt ow3 q hq).1
    omega
  · have ht : TouchS (fun k => (k = w.heap.size + 1 ∨ k < w.heap.size) ∨ InN ss.length a3 k) w3 w'' := touchS_trans (touchS_mono hY fun k hk => .inl (.inl hk)) (touchS_mono h'' fun k hk => hk.elim (fun h => .inl (.inr h)) .inr)
    refine ownF_touchS fl3 hlen ht fun q hq hn => ?_
    rcases hn with hn | hn
    · have := flb q hq; omega
    · exact (hal q hn).2 hq
  · have ht : TouchS (fun k => ((k = w.heap.size + 1 ∨ k < w.heap.size) ∨ InN ss.length a3 k) ∨ InA a2 k) w3 w'' := touchS_trans (touchS_mono hY fun k hk => .inl (.inl (.inl hk))) (touchS_mono h'' fun k hk => hk.elim (fun h => h.elim (fun h => .inl (.inl (.inr h))) (fun h => .inl (.inr h))) .inr)
    refine caps_touchS caps3 ht fun q hq hn => ?_
    rcases hn with (hn | hn) | hn
    · have := incC q hq; omega
    · exact (hal q hn).1 hq
    · rw [hlen] at of2
      exact apart_types (owns_later ow1 b12) of2.1 (by decide) hq.2 hn
  · rw [e] at ow1
    rcases ow1.2 with ⟨h0, _⟩ | ⟨g, cap, cur, e', _⟩
    · simp at h0; exact h0.2
    · simp at e'

set_option maxRecDepth 100000 in
set_option maxHeartbeats 6400000 in
theorem l4Copy_deep (ac a a' : Option Addr) (capc cap cap' : Nat) (cs : List (ByteArray × Int)) (fs : List Fli) (ss : List Int) (w : World) (hb : BookIn w ac a a' cs fs ss) (hm : BookSm cs fs ss) (hv : ∀ f ∈ fs, 1 ≤ f.2.2.2.length ∧ f.2.2.2.length ≤ 1000) :
    Calls Tryz.prog 25 #[bkV ac a a' capc cap cap' cs fs ss] w fun e w' => ∃ bc b b' cc cb cb', e = .returned (bkV bc b b' cc cb cb' cs fs ss) ∧ (CopyIn w.heap.size w' bc b b' cb' cs fs ss ∧ FlOwn w.heap.size w' bc b cb b' ss.length cs fs) ∧ (bc = none → cc = 0) ∧ Below w.heap.size w w' := by
  obtain ⟨i0, hi, iz0, iz1, iz2⟩ := info_parts info_int
  obtain ⟨j0, hj, jz0, jz1, jz2⟩ := info_parts info_cap
  have HB := hide hb
  have HM := hide hm
  have HV := hide hv
  have hnc := hm.nc
  have hns := hm.ns
  have HC0 : Hid (ac = none → cs.length = 0) := fun e => addr_of (fun i hi => (hb.caps i hi).elim fun b hb => hb.elim fun off h => ⟨b, off, h.1⟩) e
  have HI0 : Hid (a' = none → ss.length = 0) := fun e => addr_of (fun i hi => (hb.ints i hi).elim fun b hb => hb.elim fun off h => ⟨b, off, h.1⟩) e
  clear hb hm hv
  obtain ⟨W, hW, hWs, f0, r0, b0⟩ := bk_boxes w (.slice ac cs.length capc) (.slice a fs.length cap) (.slice a' ss.length cap')
  have HW := hide hW
  have R0 := hide r0
  have B0 := hide b0
  obtain ⟨x0, x1, x2, -⟩ := f0.cells
  have F0 := hide f0
  have HWs := hide hWs
  clear hW f0 r0 b0 hWs
  have NC : Hid (∀ X, Below W.heap.size W X → ∀ ad, ac = some ad → ∀ j u, (capVals cs)[j]? = some u → X.cell? (ad.add j) = some u) := fun X hX ad e j u hj => by
    have h1 : 1 ≤ cs.length := by
      rcases Nat.eq_zero_or_pos cs.length with h0 | h0
      · rw [List.length_eq_zero_iff.1 h0] at hj; simp [capVals] at hj
      · exact h0
    obtain ⟨b, off, e', hn⟩ := caps_news ((HB.out.caps.later B0.out).later hX) h1
    rw [e] at e'
    cases e'
    exact hn j u hj
  have NI : Hid (∀ X, Below W.heap.size W X → ∀ ad, a' = some ad → ∀ j u, (intVals ss)[j]? = some u → X.cell? (ad.add j) = some u) := fun X hX ad e j u hj => by
    have h1 : 1 ≤ ss.length := by
      rcases Nat.eq_zero_or_pos ss.length with h0 | h0
      · rw [List.length_eq_zero_iff.1 h0] at hj; simp [intVals] at hj
      · exact h0
    obtain ⟨b, off, e', _, hn⟩ := ints_news ((HB.out.ints.later B0.out).later hX) h1
    rw [e] at e'
    cases e'
    exact hn j u hj
  have LC : Hid ((capVals cs).length = cs.length * 2) := capVals_len cs
  have LI : Hid ((intVals ss).length = ss.length * 1) := intVals_len ss
  have M1 : Hid (0 + cs.length ≤ maxLen) := by show _ ≤ _; unfold maxLen; omega
  have M2 : Hid ((0 + cs.length) * 24 ≤ 140737488355328) := by show _ ≤ _; omega
  have M3 : Hid (0 + ss.length ≤ maxLen) := by show _ ≤ _; unfold maxLen; omega
  have M4 : Hid ((0 + ss.length) * 8 ≤ 140737488355328) := by show _ ≤ _; omega
  go_enter Tryz.func25, Tryz.ntmps25
  go_upto_region 1 with fail
  rw [HW.out]
  have hne : w.heap.size ≠ w.heap.size + 1 := by omega
  have mk0 := trivial
  go_region_held3 (fun X => X.cell? ⟨w.heap.size, 0, none⟩ = some (.slice ac cs.length capc) ∧ X.cell? ⟨w.heap.size, 1, none⟩ = some (.slice a fs.length cap) ∧ X.cell? ⟨w.heap.size, 2, none⟩ = some (.slice a' ss.length cap'))
    (first | exact ⟨x0, x1, x2⟩ | exact ⟨cell_later (belA W _) x0, cell_later (belA W _) x1, cell_later (belA W _) x2⟩ | exact ⟨cell_later (belB W _ _) x0, cell_later (belB W _ _) x1, cell_later (belB W _ _) x2⟩ | exact ⟨cell_later BW1.out x0, cell_later BW1.out x1, cell_later BW1.out x2⟩ | exact ⟨cell_later (BW1.out.alloc BW1.out.size _) x0, cell_later (BW1.out.alloc BW1.out.size _) x1, cell_later (BW1.out.alloc BW1.out.size _) x2⟩ | exact ⟨cell_later BW2.out x0, cell_later BW2.out x1, cell_later BW2.out x2⟩ | exact ⟨cell_later (BW2.out.alloc BW2.out.size _) x0, cell_later (BW2.out.alloc BW2.out.size _) x1, cell_later (BW2.out.alloc BW2.out.size _) x2⟩ | exact ⟨cell_later BW3.out x0, cell_later BW3.out x1, cell_later BW3.out x2⟩ | exact ⟨cell_other hne (cell_other hne (cell_other hne (cell_later BW3.out x0))), cell_other hne (cell_other hne (cell_other hne (cell_later BW3.out x1))), cell_other hne (cell_other hne (cell_other hne (cell_later BW3.out x2)))⟩)
    (first
      | (have hEI := EI1.out; refine step_append_all (by rfl) _ _ 27 (by rfl) W.heap.size 3 i0 (.int .i64 0) 1 8 Tryz.underlying27 hi iz0 iz1 iz2 (by rfl) (by decide) (.slice (some ⟨W.heap.size + 1, 0, none⟩) 0 0) 0 [] (by rfl) (owns_later EI1.out HB2.out) a' ss.length cap' (intVals ss) (by rfl) LI.out HI0.out (NI.out _ (BW2.out)) (intVals_one ss) M3.out M4.out (BW2.out).size ?_; intro v3 w3 hown3 hgrow3 hat3; obtain ⟨a3, c3, hv3, -⟩ := owns_slice hown3; have AT3 := hide (fun q hq => at_in hat3 hv3 (q := q) hq); subst hv3; have BW3 := hide (Below.grown (BW2.out) hgrow3 (BW2.out).size (fun q hq => (World.ownsRow.lt (owns_later EI1.out HB2.out) q hq).1)); have HAL : Hid (∀ q, InN ss.length a3 q → ¬ InN cs.length a1 q ∧ ¬ InFl a2 gs q) := (fun q hq => by (have h3 := AT3.out q hq; have hs1 := HS1.out; have hs2 := HB2.out.size; simp [Value.ownBlock] at h3; (try simp at hs1); (try simp at hs2); exact ⟨fun hq1 => by (have h1 := AT1.out q hq1; have h2 := (owns_in OW1.out hq1.2).2; simp [Value.ownBlock] at h1; omega), fun hqf => by (have h4 := FLB.out q hqf; (try simp at h4); omega)⟩)); have KEEP : Hid (∀ q, q < w2.heap.size → (InN cs.length a1 q ∨ InFl a2 gs q) → w3.heap[q]? = w2.heap[q]?) := (fun q hq h => by (have hs1 := HS1.out; have hs2 := HB2.out.size; (try simp at hs1); (try simp at hs2); have hne2 : q ≠ W.heap.size + 1 := fun hh => h.elim (fun h => by (have h1 := AT1.out q h; have h2 := (owns_in OW1.out h.2).2; (try simp [Value.ownBlock] at h1); (try omega))) (fun h => by (have h4 := FLB.out q h; (try simp at h4); (try omega))); exact hgrow3.block q hq (fun hh => hne2 (own_block_eq hh)))); have HS3 : Hid (w2.heap.size ≤ w3.heap.size) := (by (have h3 := hgrow3.size; (try simp at h3); show _ ≤ _; omega)); have OW3 := hide hown3; have GR3 := hide hgrow3; obtain ⟨r0, r1, r2, t0, t1, t2⟩ := (R0.out.later BW3.out).cells; clear hown3 hgrow3 hat3)
      | (have hEI := EI0.out; refine step_append_all (by rfl) _ _ 27 (by rfl) W.heap.size 3 i0 (.int .i64 0) 1 8 Tryz.underlying27 hi iz0 iz1 iz2 (by rfl) (by decide) (.slice (some ⟨W.heap.size, 0, none⟩) 0 0) 0 [] (by rfl) (owns_later EI0.out HB2.out) a' ss.length cap' (intVals ss) (by rfl) LI.out HI0.out (NI.out _ (BW2.out)) (intVals_one ss) M3.out M4.out (BW2.out).size ?_; intro v3 w3 hown3 hgrow3 hat3; obtain ⟨a3, c3, hv3, -⟩ := owns_slice hown3; have AT3 := hide (fun q hq => at_in hat3 hv3 (q := q) hq); subst hv3; have BW3 := hide (Below.grown (BW2.out) hgrow3 (BW2.out).size (fun q hq => (World.ownsRow.lt (owns_later EI0.out HB2.out) q hq).1)); have HAL : Hid (∀ q, InN ss.length a3 q → ¬ InN cs.length a1 q ∧ ¬ InFl a2 gs q) := (fun q hq => by (have h3 := AT3.out q hq; have hs1 := HS1.out; have hs2 := HB2.out.size; simp [Value.ownBlock] at h3; (try simp at hs1); (try simp at hs2); exact ⟨fun hq1 => by (have h1 := AT1.out q hq1; have h2 := (owns_in OW1.out hq1.2).2; simp [Value.ownBlock] at h1; omega), fun hqf => by (have h4 := FLB.out q hqf; (try simp at h4); omega)⟩)); have KEEP : Hid (∀ q, q < w2.heap.size → (InN cs.length a1 q ∨ InFl a2 gs q) → w3.heap[q]? = w2.heap[q]?) := (fun q hq h => by (have hs1 := HS1.out; have hs2 := HB2.out.size; (try simp at hs1); (try simp at hs2); have hne2 : q ≠ W.heap.size := fun hh => h.elim (fun h => by (have h1 := AT1.out q h; have h2 := (owns_in OW1.out h.2).2; (try simp [Value.ownBlock] at h1); (try omega))) (fun h => by (have h4 := FLB.out q h; (try simp at h4); (try omega))); exact hgrow3.block q hq (fun hh => hne2 (own_block_eq hh)))); have HS3 : Hid (w2.heap.size ≤ w3.heap.size) := (by (have h3 := hgrow3.size; (try simp at h3); show _ ≤ _; omega)); have OW3 := hide hown3; have GR3 := hide hgrow3; obtain ⟨r0, r1, r2, t0, t1, t2⟩ := (R0.out.later BW3.out).cells; clear hown3 hgrow3 hat3)
      | (have hmk := mk0; refine step_append_all (by rfl) _ _ 23 (by rfl) W.heap.size 61 j0 (.agg #[.string ⟨#[]⟩, .int .i64 0]) 2 24 Tryz.underlying23 hj jz0 jz1 jz2 (by rfl) (by decide) (.slice (some ⟨W.heap.size, 0, none⟩) 0 0) 0 [] (by rfl) (emp1 W 61 2) ac cs.length capc (capVals cs) (by rfl) LC.out HC0.out (NC.out _ (belA W _)) (capVals_one cs) M1.out M2.out (belA W _).size ?_; intro v1 w1 hown1 hgrow1 hat1; obtain ⟨a1, c1, hv1, -⟩ := owns_slice hown1; have AT1 := hide (fun q hq => at_in hat1 hv1 (q := q) hq); subst hv1; have BW1 := hide (Below.grown (belA W _) hgrow1 (belA W _).size (fun q hq => (World.ownsRow.lt (emp1 W 61 2) q hq).1)); have OW1 := hide hown1; have HS1 := hide hgrow1.size; clear hown1 hgrow1 hat1 hmk mk0; have mkA := trivial)
      | (have hmk := mk0; refine step_append_all (by rfl) _ _ 23 (by rfl) W.heap.size 61 j0 (.agg #[.string ⟨#[]⟩, .int .i64 0]) 2 24 Tryz.underlying23 hj jz0 jz1 jz2 (by rfl) (by decide) (.slice (some ⟨W.heap.size, 0, none⟩) 0 0) 0 [] (by rfl) (emp2 W 61 2 (.cells #[] 3)) ac cs.length capc (capVals cs) (by rfl) LC.out HC0.out (NC.out _ (belB W _ _)) (capVals_one cs) M1.out M2.out (belB W _ _).size ?_; intro v1 w1 hown1 hgrow1 hat1; obtain ⟨a1, c1, hv1, -⟩ := owns_slice hown1; have AT1 := hide (fun q hq => at_in hat1 hv1 (q := q) hq); subst hv1; have BW1 := hide (Below.grown (belB W _ _) hgrow1 (belB W _ _).size (fun q hq => (World.ownsRow.lt (emp2 W 61 2 (.cells #[] 3)) q hq).1)); have OW1 := hide hown1; have HS1 := hide hgrow1.size; have EI1 : Hid (World.ownsRow w1 W.heap.size 3 1 (.slice (some ⟨W.heap.size + 1, 0, none⟩) 0 0) 0 []) := owns_keep (emp3 W 3 1 (.cells #[] 61)) (fun q hq => hgrow1.block q (World.ownsRow.lt (emp3 W 3 1 (.cells #[] 61)) q hq).2 (fun hh => by simp [Value.ownBlock] at hq hh; omega)); clear hown1 hgrow1 hat1 hmk mk0)
      | (have hmk := mk0; refine step_append_all (by rfl) _ _ 23 (by rfl) W.heap.size 61 j0 (.agg #[.string ⟨#[]⟩, .int .i64 0]) 2 24 Tryz.underlying23 hj jz0 jz1 jz2 (by rfl) (by decide) (.slice (some ⟨W.heap.size + 1, 0, none⟩) 0 0) 0 [] (by rfl) (emp3 W 61 2 (.cells #[] 3)) ac cs.length capc (capVals cs) (by rfl) LC.out HC0.out (NC.out _ (belB W _ _)) (capVals_one cs) M1.out M2.out (belB W _ _).size ?_; intro v1 w1 hown1 hgrow1 hat1; obtain ⟨a1, c1, hv1, -⟩ := owns_slice hown1; have AT1 := hide (fun q hq => at_in hat1 hv1 (q := q) hq); subst hv1; have BW1 := hide (Below.grown (belB W _ _) hgrow1 (belB W _ _).size (fun q hq => (World.ownsRow.lt (emp3 W 61 2 (.cells #[] 3)) q hq).1)); have OW1 := hide hown1; have HS1 := hide hgrow1.size; have EI0 : Hid (World.ownsRow w1 W.heap.size 3 1 (.slice (some ⟨W.heap.size, 0, none⟩) 0 0) 0 []) := owns_keep (emp2 W 3 1 (.cells #[] 61)) (fun q hq => hgrow1.block q (World.ownsRow.lt (emp2 W 3 1 (.cells #[] 61)) q hq).2 (fun hh => by simp [Value.ownBlock] at hq hh; omega)); clear hown1 hgrow1 hat1 hmk mk0)
      | (go_at_call 44; refine (l1Flights_pack a cap fs (w1) ((HB.out.fl.later B0.out).later (BW1.out)) HM.out.nf HV.out).mono ?_; rintro e w2 ⟨a2, c2, gs, rfl, hgs, hfb, hoF, hb2⟩; have GS := hide hgs; have FLB := hide hfb; have OF2 := hide hoF; have HB2 := hide hb2; have B12 : Hid (Below w1.heap.size w1 w2) := hb2; have BW2 := hide (below_seq (BW1.out) hb2); clear hgs hfb hoF hb2; have mkX1 := trivial)
      | (go_at_call 44; have hmk := mkA; refine (l1Flights_pack a cap fs (w1.alloc (.cells #[] 3)) ((HB.out.fl.later B0.out).later (BW1.out.alloc BW1.out.size _)) HM.out.nf HV.out).mono ?_; rintro e w2 ⟨a2, c2, gs, rfl, hgs, hfb, hoF, hb2⟩; have GS := hide hgs; have FLB := hide hfb; have OF2 := hide hoF; have HB2 := hide hb2; have B12 : Hid (Below w1.heap.size w1 w2) := below_seq ((Below.refl _ _).alloc (Nat.le_refl _) (.cells #[] 3)) hb2; have BW2 := hide (below_seq (BW1.out.alloc BW1.out.size _) hb2); clear hgs hfb hoF hb2; have mkA1 := trivial)
      | (have hmk := mkA; have hmk2 := mkX1; refine step_append_all (by rfl) _ _ 27 (by rfl) W.heap.size 3 i0 (.int .i64 0) 1 8 Tryz.underlying27 hi iz0 iz1 iz2 (by rfl) (by decide) (.slice (some ⟨w2.heap.size, 0, none⟩) 0 0) 0 [] (by rfl) (owns_base (own_newE w2 3 1) BW2.out.size) a' ss.length cap' (intVals ss) (by rfl) LI.out HI0.out (NI.out _ (BW2.out.alloc BW2.out.size _)) (intVals_one ss) M3.out M4.out (BW2.out.alloc BW2.out.size _).size ?_; intro v3 w3 hown3 hgrow3 hat3; obtain ⟨a3, c3, hv3, -⟩ := owns_slice hown3; have AT3 := hide (fun q hq => at_in hat3 hv3 (q := q) hq); subst hv3; have BW3 := hide (Below.grown (BW2.out.alloc BW2.out.size _) hgrow3 (BW2.out.alloc BW2.out.size _).size (fun q hq => (World.ownsRow.lt (owns_base (own_newE w2 3 1) BW2.out.size) q hq).1)); have HAL : Hid (∀ q, InN ss.length a3 q → ¬ InN cs.length a1 q ∧ ¬ InFl a2 gs q) := (fun q hq => by (have h3 := AT3.out q hq; have hs1 := HS1.out; have hs2 := HB2.out.size; simp [Value.ownBlock] at h3; (try simp at hs1); (try simp at hs2); exact ⟨fun hq1 => by (have h1 := AT1.out q hq1; have h2 := (owns_in OW1.out hq1.2).2; simp [Value.ownBlock] at h1; omega), fun hqf => by (have h4 := FLB.out q hqf; (try simp at h4); omega)⟩)); have KEEP : Hid (∀ q, q < w2.heap.size → (InN cs.length a1 q ∨ InFl a2 gs q) → w3.heap[q]? = w2.heap[q]?) := (fun q hq h => by (have hs1 := HS1.out; have hs2 := HB2.out.size; (try simp at hs1); (try simp at hs2); have hne2 : q ≠ w2.heap.size := fun hh => h.elim (fun h => by (have h1 := AT1.out q h; have h2 := (owns_in OW1.out h.2).2; (try simp [Value.ownBlock] at h1); (try omega))) (fun h => by (have h4 := FLB.out q h; (try simp at h4); (try omega))); exact (hgrow3.block q (by first | omega | (simp; done) | (simp; omega)) (fun hh => hne2 (own_block_eq hh))).trans (((Below.refl w2.heap.size w2).alloc (Nat.le_refl _) _).block q hq))); have HS3 : Hid (w2.heap.size ≤ w3.heap.size) := (by (have h3 := hgrow3.size; (try simp at h3); show _ ≤ _; omega)); have OW3 := hide hown3; have GR3 := hide hgrow3; obtain ⟨r0, r1, r2, t0, t1, t2⟩ := (R0.out.later BW3.out).cells; clear hown3 hgrow3 hat3)
      | (have hmk := mkA1; refine step_append_all (by rfl) _ _ 27 (by rfl) W.heap.size 3 i0 (.int .i64 0) 1 8 Tryz.underlying27 hi iz0 iz1 iz2 (by rfl) (by decide) (.slice (some ⟨w1.heap.size, 0, none⟩) 0 0) 0 [] (by rfl) (owns_later (owns_base (own_newE w1 3 1) BW1.out.size) HB2.out) a' ss.length cap' (intVals ss) (by rfl) LI.out HI0.out (NI.out _ (BW2.out)) (intVals_one ss) M3.out M4.out (BW2.out).size ?_; intro v3 w3 hown3 hgrow3 hat3; obtain ⟨a3, c3, hv3, -⟩ := owns_slice hown3; have AT3 := hide (fun q hq => at_in hat3 hv3 (q := q) hq); subst hv3; have BW3 := hide (Below.grown (BW2.out) hgrow3 (BW2.out).size (fun q hq => (World.ownsRow.lt (owns_later (owns_base (own_newE w1 3 1) BW1.out.size) HB2.out) q hq).1)); have HAL : Hid (∀ q, InN ss.length a3 q → ¬ InN cs.length a1 q ∧ ¬ InFl a2 gs q) := (fun q hq => by (have h3 := AT3.out q hq; have hs1 := HS1.out; have hs2 := HB2.out.size; simp [Value.ownBlock] at h3; (try simp at hs1); (try simp at hs2); exact ⟨fun hq1 => by (have h1 := AT1.out q hq1; have h2 := (owns_in OW1.out hq1.2).2; simp [Value.ownBlock] at h1; omega), fun hqf => by (have h4 := FLB.out q hqf; (try simp at h4); omega)⟩)); have KEEP : Hid (∀ q, q < w2.heap.size → (InN cs.length a1 q ∨ InFl a2 gs q) → w3.heap[q]? = w2.heap[q]?) := (fun q hq h => by (have hs1 := HS1.out; have hs2 := HB2.out.size; (try simp at hs1); (try simp at hs2); have hne2 : q ≠ w1.heap.size := fun hh => h.elim (fun h => by (have h1 := AT1.out q h; have h2 := (owns_in OW1.out h.2).2; (try simp [Value.ownBlock] at h1); (try omega))) (fun h => by (have h4 := FLB.out q h; (try simp at h4); (try omega))); exact hgrow3.block q hq (fun hh => hne2 (own_block_eq hh)))); have HS3 : Hid (w2.heap.size ≤ w3.heap.size) := (by (have h3 := hgrow3.size; (try simp at h3); show _ ≤ _; omega)); have OW3 := hide hown3; have GR3 := hide hgrow3; obtain ⟨r0, r1, r2, t0, t1, t2⟩ := (R0.out.later BW3.out).cells; clear hown3 hgrow3 hat3)
      | (fail))
  all_goals
    rename_i hH
    clear hH r0 r1 r2 t0 t1 t2 x0 x1 x2
    have RX := hide ((R0.out.later BW3.out).set3 (.slice a1 cs.length c1) (.slice a2 fs.length c2) (.slice a3 ss.length c3))
    have TX := hide (set3_touch w3 (w.heap.size + 1) (.slice a1 cs.length c1) (.slice a2 fs.length c2) (.slice a3 ss.length c3))
    have FLW : Hid (∀ q, InFl a2 gs q → W.heap.size ≤ q ∧ q < w2.heap.size) := fun q hq => by
      have h4 := FLB.out q hq
      have hs1 := BW1.out.size
      (try simp at h4)
      omega
    go_wp2
    generalize ((w3.setCell ⟨w.heap.size + 1, 0, none⟩ (.slice a1 cs.length c1)).setCell ⟨w.heap.size + 1, 1, none⟩ (.slice a2 fs.length c2)).setCell ⟨w.heap.size + 1, 2, none⟩ (.slice a3 ss.length c3) = Y at *
    obtain ⟨y0, y1, y2, -⟩ := RX.out.cells
    obtain ⟨e1, e2, e3⟩ := copy_end HWs.out B0.out OW1.out B12.out OF2.out GS.out FLW.out BW2.out BW3.out HS3.out KEEP.out OW3.out HAL.out Y TX.out
    exact bodyPost_ret (v := bkV a1 a2 a3 c1 c2 c3 cs fs ss) (by simp [results, Tryz.results25, go_sem, y0, y1, y2]) rfl ⟨a1, a2, a3, c1, c2, c3, rfl, e1, e2, e3⟩
theorem l4Copy_full (ac a a' : Option Addr) (capc cap cap' : Nat) (cs : List (ByteArray × Int)) (fs : List Fli) (ss : List Int) (w : World) (hb : BookIn w ac a a' cs fs ss) (hm : BookSm cs fs ss) (hv : ∀ f ∈ fs, 1 ≤ f.2.2.2.length ∧ f.2.2.2.length ≤ 1000) :
    Calls Tryz.prog 25 #[bkV ac a a' capc cap cap' cs fs ss] w fun e w' => ∃ bc b b' cc cb cb', e = .returned (bkV bc b b' cc cb cb' cs fs ss) ∧ (CopyIn w.heap.size w' bc b b' cb' cs fs ss ∧ FlKept w.heap.size w' b cb b' ss.length fs) ∧ (bc = none → cc = 0) ∧ Below w.heap.size w w' := by
  refine (l4Copy_deep ac a a' capc cap cap' cs fs ss w hb hm hv).mono ?_
  rintro e w' ⟨bc, b, b', cc, cb, cb', rfl, ⟨h, h1⟩, h', h''⟩
  exact ⟨bc, b, b', cc, cb, cb', rfl, ⟨h, h1.kept⟩, h', h''⟩
theorem l4Copy_more (ac a a' : Option Addr) (capc cap cap' : Nat) (cs : List (ByteArray × Int)) (fs : List Fli) (ss : List Int) (w : World) (hb : BookIn w ac a a' cs fs ss) (hm : BookSm cs fs ss) (hv : ∀ f ∈ fs, 1 ≤ f.2.2.2.length ∧ f.2.2.2.length ≤ 1000) (_ : ac = none → capc = 0) (_ : a' = none → cap' = 0) :
    Calls Tryz.prog 25 #[bkV ac a a' capc cap cap' cs fs ss] w fun e w' => ∃ bc b b' cc cb cb', e = .returned (bkV bc b b' cc cb cb' cs fs ss) ∧ (CopyIn w.heap.size w' bc b b' cb' cs fs ss ∧ FlKept w.heap.size w' b cb b' ss.length fs) ∧ (bc = none → cc = 0) ∧ Below w.heap.size w w' :=
  l4Copy_full ac a a' capc cap cap' cs fs ss w hb hm hv

theorem l4Copy_any (ac a a' : Option Addr) (capc cap cap' : Nat) (cs : List (ByteArray × Int)) (fs : List Fli) (ss : List Int) (w : World) (hb : BookIn w ac a a' cs fs ss) (hm : BookSm cs fs ss) (hv : ∀ f ∈ fs, 1 ≤ f.2.2.2.length ∧ f.2.2.2.length ≤ 1000) (hzc : ac = none → capc = 0) (hzi : a' = none → cap' = 0) :
    Calls Tryz.prog 25 #[bkV ac a a' capc cap cap' cs fs ss] w fun e w' => ∃ bc b b' cc cb cb', e = .returned (bkV bc b b' cc cb cb' cs fs ss) ∧ CopyIn w.heap.size w' bc b b' cb' cs fs ss ∧ (bc = none → cc = 0) ∧ Below w.heap.size w w' := by
  refine (l4Copy_more ac a a' capc cap cap' cs fs ss w hb hm hv hzc hzi).mono ?_
  rintro e w' ⟨bc, b, b', cc, cb, cb', rfl, h, h', h''⟩
  exact ⟨bc, b, b', cc, cb, cb', rfl, h.1, h', h''⟩
end Go.Proofs.YtciacofibljmoaaGreatDoor
