/- Compressing, the program's way: round behind round, in a book of its own. -/
import Derived.Test.YtciacofibljmoaaGreatDoorCopies
import Derived.Test.YtciacofibljmoaaGreatDoorStable
namespace Go.Proofs.YtciacofibljmoaaGreatDoor
open Go.RowKit

theorem OwnBk.later {lo : Nat} {w w' : World} {ac a a' : Option Addr} {capc cap cap' : Nat} {cs : List (ByteArray × Int)} {fs : List Fli} {ss : List Int} (h : OwnBk lo w ac a a' capc cap cap' cs fs ss) (hb : Below w.heap.size w w') : OwnBk lo w' ac a a' capc cap cap' cs fs ss := by
  obtain ⟨h1, va, h2, h3, h4, h5⟩ := h
  have ht : TouchS (fun _ => False) w w' := touchS_below hb
  exact ⟨h1.later hb, va, ⟨rowW_touch h2.caps ht (fun _ _ h => h), flW_touch h2.fl ht (fun _ _ h => h), rowW_touch h2.ints ht (fun _ _ h => h), h2.apF, h2.cf, h2.ci, h2.fi⟩, h3, h4, fun k hk => ⟨(h5 k hk).1, Nat.lt_of_lt_of_le (h5 k hk).2 hb.size⟩⟩
theorem ints_touch {S : Nat → Prop} {w w' : World} {a : Option Addr} {zs : List Int} (h : IntsIn w a zs) (ht : TouchS S w w') (ho : ∀ q, InN zs.length a q → ¬ S q) : IntsIn w' a zs := fun i hi => by
  obtain ⟨b, off, e, hlt, c⟩ := h i hi
  exact ⟨b, off, e, Nat.lt_of_lt_of_le hlt ht.size, (World.cell?_of_block (w := w) (a := ⟨b, off + i, none⟩) (ht.block b hlt (ho b ⟨by omega, _, e, rfl⟩))).trans c⟩
theorem caps_touch {S : Nat → Prop} {w w' : World} {a : Option Addr} {cs : List (ByteArray × Int)} (h : CapsIn w a cs) (ht : TouchS S w w') (ho : ∀ q, InN cs.length a q → ¬ S q) : CapsIn w' a cs := fun i hi => by
  obtain ⟨b, off, e, hlt, c0, c1⟩ := h i hi
  have hk := ht.block b hlt (ho b ⟨by omega, _, e, rfl⟩)
  exact ⟨b, off, e, Nat.lt_of_lt_of_le hlt ht.size, (World.cell?_of_block (w := w) (a := ⟨b, off + i * 2, none⟩) hk).trans c0, (World.cell?_of_block (w := w) (a := ⟨b, off + i * 2 + 1, none⟩) hk).trans c1⟩
theorem vis_touchS {S : Nat → Prop} {w w' : World} {a : Option Addr} {vs : List Vis} (h : VisitsIn w a vs) (ht : TouchS S w w') (ho : ∀ q, InN vs.length a q → ¬ S q) : VisitsIn w' a vs := fun i hi => by
  obtain ⟨b, off, e, hlt, c0, c1, c2⟩ := h i hi
  have hk := ht.block b hlt (ho b ⟨by omega, _, e, rfl⟩)
  exact ⟨b, off, e, Nat.lt_of_lt_of_le hlt ht.size, (World.cell?_of_block (w := w) (a := ⟨b, off + i * 3, none⟩) hk).trans c0, (World.cell?_of_block (w := w) (a := ⟨b, off + i * 3 + 1, none⟩) hk).trans c1, (World.cell?_of_block (w := w) (a := ⟨b, off + i * 3 + 2, none⟩) hk).trans c2⟩
/-- Flights that can be written read as they did where nothing of theirs is touched. -/
theorem fl_touch {S : Nat → Prop} {w w' : World} {a : Option Addr} {c : Nat} {fs : List Fli} {va : List VisAt} (h : FlightsIn w a fs) (hW : FlW w a c va) (hl : va.length = fs.length) (ht : TouchS S w w') (ho : ∀ q, InF a va q → ¬ S q) : FlightsIn w' a fs := fun i hi => by
  rcases hW with h0 | ⟨g, f, e, hr, hn, hf, hw⟩
  · rw [h0] at hl; simp at hl; omega
  obtain ⟨b, off, e', hlt, c0, c1, c2, av, cv, c3, hv⟩ := h i hi
  rw [e] at e'
  simp at e'
  obtain ⟨rfl, rfl⟩ := e'
  have hk := ht.block g hlt (ho g (.inl ⟨by omega, _, e, rfl⟩))
  have c3' := c3
  rw [Nat.zero_add, hr.cell (i := i * 4 + 3) (by omega), hf i (by omega)] at c3'
  simp at c3'
  obtain ⟨e1, e2, e3⟩ := c3'
  refine ⟨g, 0, e, Nat.lt_of_lt_of_le hlt ht.size, (World.cell?_of_block (w := w) (a := ⟨g, 0 + i * 4, none⟩) hk).trans c0, (World.cell?_of_block (w := w) (a := ⟨g, 0 + i * 4 + 1, none⟩) hk).trans c1, (World.cell?_of_block (w := w) (a := ⟨g, 0 + i * 4 + 2, none⟩) hk).trans c2, av, cv, (World.cell?_of_block (w := w) (a := ⟨g, 0 + i * 4 + 3, none⟩) hk).trans c3, vis_touchS hv ht fun q hq => ho q (.inr ⟨va[i]'(by omega), List.getElem_mem _, ?_⟩)⟩
  rw [e1, e2]
  exact hq
/-- A book of its own, where nothing of it is touched. -/
theorem OwnBk.touch {S : Nat → Prop} {lo : Nat} {w w' : World} {ac a a' : Option Addr} {capc cap cap' : Nat} {cs : List (ByteArray × Int)} {fs : List Fli} {ss : List Int} (h : OwnBk lo w ac a a' capc cap cap' cs fs ss) (ht : TouchS S w w') (ho : ∀ k, lo ≤ k → k < w.heap.size → ¬ S k) : OwnBk lo w' ac a a' capc cap cap' cs fs ss := by
  obtain ⟨h1, va, h2, h3, h4, h5⟩ := h
  have hq : ∀ q, InB ac a a' cs.length ss.length va q → ¬ S q := fun q hq => ho q (h5 q hq).1 (h5 q hq).2
  exact ⟨⟨caps_touch h1.caps ht fun q hh => hq q (.inl hh), fl_touch h1.fl h2.fl h3 ht fun q hh => hq q (.inr (.inl hh)), ints_touch h1.ints ht fun q hh => hq q (.inr (.inr hh))⟩, va, ⟨rowW_touch h2.caps ht fun q hh => hq q (.inl hh), flW_touch h2.fl ht fun q hh => hq q (.inr (.inl hh)), rowW_touch h2.ints ht fun q hh => hq q (.inr (.inr hh)), h2.apF, h2.cf, h2.ci, h2.fi⟩, h3, h4, fun k hk => ⟨(h5 k hk).1, Nat.lt_of_lt_of_le (h5 k hk).2 ht.size⟩⟩
/-- A slot's cell. -/
theorem OwnBk.slot {lo : Nat} {w : World} {ac a a' : Option Addr} {capc cap cap' : Nat} {cs : List (ByteArray × Int)} {fs : List Fli} {ss : List Int} (h : OwnBk lo w ac a a' capc cap cap' cs fs ss) {k : Nat} (hk : k < ss.length) :
    ∃ gi, a' = some ⟨gi, 0, none⟩ ∧ w.cell? ⟨gi, k, none⟩ = some (.int .i64 ss[k]) ∧ w.frozen? ⟨gi, k, none⟩ = false ∧ lo ≤ gi ∧ gi < w.heap.size := by
  obtain ⟨h1, va, h2, h3, h4, h5⟩ := h
  rcases h2.ints with h0 | ⟨g, f, e, hr, hn⟩
  · omega
  · obtain ⟨b, off, e', hlt, c⟩ := h1.ints k hk
    rw [e] at e'
    simp at e'
    obtain ⟨rfl, rfl⟩ := e'
    rw [Nat.zero_add] at c
    have := h5 g (.inr (.inr ⟨by omega, _, e, rfl⟩))
    exact ⟨g, e, c, hr.frozen k, this.1, this.2⟩
/-- A slot is written. -/
theorem OwnBk.set {lo : Nat} {w : World} {ac a : Option Addr} {gi : Nat} {capc cap cap' : Nat} {cs : List (ByteArray × Int)} {fs : List Fli} {ss : List Int} (h : OwnBk lo w ac a (some ⟨gi, 0, none⟩) capc cap cap' cs fs ss) {k : Nat} (hk : k < ss.length) (z : Int) :
    OwnBk lo (w.setCell ⟨gi, k, none⟩ (.int .i64 z)) ac a (some ⟨gi, 0, none⟩) capc cap cap' cs fs (ss.set k z) := by
  obtain ⟨h1, va, h2, h3, h4, h5⟩ := h
  have ht : TouchS (InN ss.length (some ⟨gi, 0, none⟩)) w (w.setCell ⟨gi, k, none⟩ (.int .i64 z)) := touchN_set (touchS_refl _ _) (by omega) k _
  refine ⟨⟨caps_touch h1.caps ht fun q hh => h2.ci q hh, fl_touch h1.fl h2.fl h3 ht fun q hh => h2.fi q hh, fun i hi => ?_⟩, va, ⟨rowW_touch h2.caps ht fun q hh => h2.ci q hh, flW_touch h2.fl ht fun q hh => h2.fi q hh, ?_, h2.apF, h2.cf, ?_, ?_⟩, h3, h4, fun q hq => ?_⟩
  · have hi' : i < ss.length := by simpa using hi
    obtain ⟨b, off, e, hlt, c⟩ := h1.ints i hi'
    simp at e
    obtain ⟨rfl, rfl⟩ := e
    rcases h2.ints with h0 | ⟨g, f, e, hr, hn⟩
    · omega
    · simp at e
      subst e
      have hr' := hr.set k (.int .i64 z)
      refine ⟨gi, 0, rfl, by simpa using hlt, ?_⟩
      rw [Nat.zero_add, hr'.cell (i := i) (by omega)]
      by_cases e : i = k
      · subst e
        rw [if_pos rfl, List.getElem_set_self]
      · rw [if_neg e, List.getElem_set_ne (fun hh => e hh.symm)]
        rw [Nat.zero_add, hr.cell (i := i) (by omega)] at c
        exact c
  · rw [List.length_set]
    rcases h2.ints with h0 | ⟨g, f, e, hr, hn⟩
    · exact .inl h0
    · simp at e
      subst e
      exact .inr ⟨gi, _, rfl, hr.set k _, hn⟩
  · rw [List.length_set]; exact h2.ci
  · rw [List.length_set]; exact h2.fi
  · rw [List.length_set] at hq
    have := h5 q hq
    exact ⟨this.1, by simpa using this.2⟩

theorem step_same {cs : List (ByteArray × Int)} {fs : List Fli} {ss : List Int} {k j : Nat} (hk : k < fs.length) (hj : (ordTo fs fs.length)[k]? = some j) (hjl : j < (roundTo cs fs ss k).length) (he : leastV cs fs (roundTo cs fs ss k) j = (roundTo cs fs ss k)[j]) : roundTo cs fs ss (k + 1) = roundTo cs fs ss k := by
  rw [roundTo_succ cs fs ss hk]
  obtain ⟨_, e⟩ := List.getElem?_eq_some_iff.1 hj
  rw [e, he, List.set_getElem_self]
theorem step_moved {cs : List (ByteArray × Int)} {fs : List Fli} {ss : List Int} (h : fitsB cs fs ss = true) {k j : Nat} (hk : k < fs.length) (hj : (ordTo fs fs.length)[k]? = some j) (hjl : j < (roundTo cs fs ss k).length) (he : leastV cs fs (roundTo cs fs ss k) j ≠ (roundTo cs fs ss k)[j]) : roundTo cs fs ss (k + 1) ≠ ss := fun hh => by
  have hs := roundTo_same h (Nat.le_succ k) hh
  rw [roundTo_succ cs fs ss hk] at hh
  obtain ⟨_, e⟩ := List.getElem?_eq_some_iff.1 hj
  rw [e] at hh
  apply he
  have h1 : ((roundTo cs fs ss k).set j (leastV cs fs (roundTo cs fs ss k) j))[j]? = (roundTo cs fs ss k)[j]? := by rw [hh, hs]
  rw [List.getElem?_set_self hjl, List.getElem?_eq_getElem hjl] at h1
  exact Option.some.inj h1

set_option maxRecDepth 100000 in
set_option maxHeartbeats 3200000 in
theorem compressOnce_any (lo : Nat) (ac a a' ao : Option Addr) (capc cap cap' co : Nat) (cs : List (ByteArray × Int)) (fs : List Fli) (ss : List Int) (w : World) (h : OwnBk lo w ac a a' capc cap cap' cs fs ss) (hm : BookSm cs fs ss) (hfit : fitsB cs fs ss = true)
    (hord : IntsIn w ao (nums (ordTo fs fs.length))) (hao : ∀ q, InA ao q → ¬ InN ss.length a' q) :
    Calls Tryz.prog 144 #[bkV ac a a' capc cap cap' cs fs ss, .slice ao fs.length co] w fun e w' => e = .returned (.bool (decide (roundV cs fs ss ≠ ss))) ∧ OwnBk lo w' ac a a' capc cap cap' cs fs (roundV cs fs ss) ∧ TouchS (InN ss.length a') w w' := by
  have H := hide h
  have HM := hide hm
  have HF := hide hfit
  have HO := hide hord
  have HAO := hide hao
  have hnf := hm.nf
  have hln := fits_len hfit
  have HLN := hide hln
  have hnsl : ss.length ≤ 1048576 := hm.ns
  obtain ⟨W, hW, x0, x1, x2, hWb⟩ := alloc3 w (.slice ac cs.length capc) (.slice a fs.length cap) (.slice a' ss.length cap') 29
  have HW := hide hW
  have X0 := hide x0
  have X1 := hide x1
  have X2 := hide x2
  have H0 := hide (h.later hWb)
  have HO0 := hide (hord.later hWb)
  have WB := hide hWb
  have hWs : W.heap.size = w.heap.size + 1 := by rw [← hW]; simp
  have HN : Hid (∀ q, InN ss.length a' q → q < w.heap.size) := fun q hq => by
    obtain ⟨_, va, h2, _⟩ := h
    exact rowW_lt h2.ints hq
  clear h hm hfit hord hao hln hW hWb x0 x1 x2
  go_enter Tryz.func144, Tryz.ntmps144
  go_wp2
  rw [HW.out]
  go_loopw [5, 11] (fun b i wr => ∃ (k : Nat), k ≤ fs.length ∧ i = .int .i64 k ∧ b = .bool (decide (roundTo cs fs ss k ≠ ss)) ∧ Hid (OwnBk lo wr ac a a' capc cap cap' cs fs (roundTo cs fs ss k)) ∧ Hid (TouchS (InN ss.length a') W wr)) (fun _ i _ => fs.length - (intOf i).toNat)
  case atStart => exact ⟨0, Nat.zero_le _, rfl, by simp [roundTo], H0.out, touchS_refl _ _⟩
  case round =>
    obtain ⟨k, hk, rfl, rfl, HK, HT⟩ := hrel
    by_cases hlt : k < fs.length
    · have hol : k < (nums (ordTo fs fs.length)).length := by rw [nums_len, ordTo_len]; exact hlt
      obtain ⟨bo, oo, rfl, hblt, o0⟩ := ints_touch HO0.out HT.out (fun q hq => HAO.out q hq.2) k hol
      obtain ⟨j, hj⟩ : ∃ j, (ordTo fs fs.length)[k]? = some j := ⟨_, List.getElem?_eq_getElem (by rw [ordTo_len]; exact hlt)⟩
      have hjl : j < fs.length := by
        have := List.mem_of_getElem? hj
        exact List.mem_range.1 ((ordTo_perm fs fs.length).mem_iff.1 this)
      have hnj : (nums (ordTo fs fs.length))[k] = (j : Int) := by
        obtain ⟨_, e⟩ := List.getElem?_eq_some_iff.1 hj
        simp [nums, e]
      rw [hnj] at o0
      have hrl : (roundTo cs fs ss k).length = ss.length := roundTo_len cs fs ss k
      have hjr : j < (roundTo cs fs ss k).length := by rw [hrl, HLN.out]; exact hjl
      have HFK := hide (roundTo_fits HF.out k)
      obtain ⟨gi, rfl, s0, sz, hg0, hg1⟩ := HK.out.slot hjr
      have hbx : ¬ InN ss.length (some ⟨gi, 0, none⟩) w.heap.size := fun hq => by have := HN.out _ hq; omega
      have HBX := hide hbx
      have x0 := (World.cell?_of_block (w := W) (a := ⟨w.heap.size, 0, none⟩) (HT.out.block w.heap.size (by omega) hbx)).trans X0.out
      have x1 := (World.cell?_of_block (w := W) (a := ⟨w.heap.size, 1, none⟩) (HT.out.block w.heap.size (by omega) hbx)).trans X1.out
      have x2 := (World.cell?_of_block (w := W) (a := ⟨w.heap.size, 2, none⟩) (HT.out.block w.heap.size (by omega) hbx)).trans X2.out
      have HSAME := hide (step_same (cs := cs) (ss := ss) hlt hj hjr)
      have HMOV := hide (step_moved HF.out hlt hj hjr)
      have HSUC := hide (roundTo_succ cs fs ss hlt)
      have HJ := hide hj
      have HNE : Hid ((ordTo fs fs.length)[k]'(by rw [ordTo_len]; exact hlt) = j) := (List.getElem?_eq_some_iff.1 hj).2
      have HRL := hide hrl
      have j0 : (0 : Int) ≤ (j : Int) := by omega
      have j1 : (j : Int) < (ss.length : Int) := by have := HLN.out; omega
      have k0 : (0 : Int) ≤ (k : Int) := by omega
      have k1 : (k : Int) < (fs.length : Int) := by omega
      clear hj hnj hbx hrl
      generalize hlv : leastV cs fs (roundTo cs fs ss k) j = q at HSAME HMOV
      have HLV := hide hlv
      clear hlv
      generalize hz : (roundTo cs fs ss k)[j] = z at s0 HSAME HMOV
      have HZ := hide hz
      clear hz
      go_wp2_with fail
      refine (implLeast_at ac a _ capc cap cap' cs fs (roundTo cs fs ss k) ss.length HRL.out j wr HK.out.book.caps HK.out.book.fl HK.out.book.ints HM.out.nc hnf (by rw [HRL.out]; exact hnsl) HM.out.sc HM.out.vl HM.out.sf HFK.out hjl).mono ?_
      rintro e w1 ⟨rfl, hb1⟩
      have H1 := hide (HK.out.later hb1)
      have T1 := hide (touchS_trans HT.out (touchS_below hb1))
      have s1 := cell_later hb1 s0
      obtain ⟨gi', e', -, sz1, -, -⟩ := H1.out.slot hjr
      simp at e'
      subst e'
      have y0 := cell_later hb1 x0
      have y1 := cell_later hb1 x1
      have y2 := cell_later hb1 x2
      clear hb1 x0 x1 x2 s0 sz o0
      rw [HLV.out]
      by_cases hqz : q = z
      · have hb : (q != z) = false := by rw [hqz]; simp
        have HE : Hid (roundTo cs fs ss (k + 1) = roundTo cs fs ss k) := HSAME.out hqz
        have HQ := hide hqz
        clear hqz
        go_wp2
        go_roundw
        case rel => exact ⟨k + 1, by omega, by go_num, by rw [HE.out]; simp, by show OwnBk _ _ _ _ _ _ _ _ _ _ _; rw [HE.out]; exact H1.out, T1.out⟩
        case measure => simp [intOf]; omega
      · have hb : (q != z) = true := by rw [bne_iff_ne]; exact hqz
        have HE : Hid (roundTo cs fs ss (k + 1) ≠ ss) := HMOV.out hqz
        clear hqz
        have HS2 : Hid (roundTo cs fs ss (k + 1) = (roundTo cs fs ss k).set j q) := by
          show _ = _
          rw [HSUC.out]
          simp only [HNE.out, HLV.out]
        go_wp2
        go_roundw
        case rel => exact ⟨k + 1, by omega, by go_num, by rw [decide_eq_true HE.out], by show OwnBk _ _ _ _ _ _ _ _ _ _ _; rw [HS2.out]; exact H1.out.set hjr q, touchN_set T1.out (by omega) _ _⟩
        case measure => simp [intOf]; omega
    · have hkf : k = fs.length := by omega
      subst hkf
      go_wp2
      go_ret
      rw [roundTo_all] at HK
      exact ⟨by rw [roundTo_all]; rfl, HK.out, touchS_trans (touchS_below WB.out) HT.out⟩

set_option maxRecDepth 100000 in
set_option maxHeartbeats 3200000 in
theorem compressIn_any (lo : Nat) (ac a a' : Option Addr) (capc cap cap' : Nat) (cs : List (ByteArray × Int)) (fs : List Fli) (ss : List Int) (w : World) (h : OwnBk lo w ac a a' capc cap cap' cs fs ss) (hm : BookSm cs fs ss) (hfit : fitsB cs fs ss = true) :
    Calls Tryz.prog 139 #[bkV ac a a' capc cap cap' cs fs ss] w fun e w' => (∃ v, e = .returned v) ∧ OwnBk lo w' ac a a' capc cap cap' cs fs (compV cs fs ss) ∧ TouchS (InN ss.length a') w w' := by
  have H := hide h
  have HM := hide hm
  have HF := hide hfit
  have hnf := hm.nf
  have hns := hm.ns
  obtain ⟨W, hW, x0, x1, x2, hWb⟩ := alloc3 w (.slice ac cs.length capc) (.slice a fs.length cap) (.slice a' ss.length cap') 29
  have HW := hide hW
  have X0 := hide x0
  have X1 := hide x1
  have X2 := hide x2
  have H0 := hide (h.later hWb)
  have WB := hide hWb
  have hWs : W.heap.size = w.heap.size + 1 := by rw [← hW]; simp
  have HN : Hid (∀ q, InN ss.length a' q → q < w.heap.size) := fun q hq => by
    obtain ⟨_, va, h2, _⟩ := h
    exact rowW_lt h2.ints hq
  clear h hm hfit hW hWb x0 x1 x2
  go_enter Tryz.func139, Tryz.ntmps139
  go_wp2_with fail
  rw [HW.out]
  refine (implOrder_any a cap fs W H0.out.book.fl hnf).mono ?_
  rintro e w1 ⟨vo, rfl, hown, hb1⟩
  obtain ⟨ao, co, rfl, -, -, hio, hao⟩ := OwnI.form hown
  have hol : (nums (ordTo fs fs.length)).length = fs.length := by rw [nums_len, ordTo_len]
  rw [hol]
  have H1 := hide (H0.out.later hb1)
  have HIO := hide hio
  have HAO : Hid (∀ q, InA ao q → ¬ InN ss.length a' q) := fun q ⟨p, hp, hq⟩ hq2 => by
    have h1 := (hao p hp).2.1
    have h2 := HN.out q hq2
    omega
  have T1 : Hid (TouchS (InN ss.length a') W w1) := touchS_below hb1
  have HOL := hide hol
  clear hown hio hao hb1 hol
  go_wp2
  go_loopg [8] (potV fs ss) (fun k _ wr => ∃ st : List Int, k = potV fs st ∧ st.length = ss.length ∧ Hid (OwnBk lo wr ac a a' capc cap cap' cs fs st) ∧ Hid (fitsB cs fs st = true) ∧ Hid (compV cs fs st = compV cs fs ss) ∧ Hid (TouchS (InN ss.length a') W wr) ∧ Hid (TouchS (InN ss.length a') w1 wr))
  case atStart => exact ⟨ss, rfl, rfl, H1.out, HF.out, rfl, T1.out, touchS_refl _ _⟩
  case round =>
    obtain ⟨st, hgk, hsl, HK, HFK, HCK, HTK, HTO⟩ := hrel
    have HGK := hide hgk
    have HSL := hide hsl
    clear hgk hsl
    have hbx : ¬ InN ss.length a' w.heap.size := fun hq => by have := HN.out _ hq; omega
    have x0 := (World.cell?_of_block (w := W) (a := ⟨w.heap.size, 0, none⟩) (HTK.out.block w.heap.size (by omega) hbx)).trans X0.out
    have x1 := (World.cell?_of_block (w := W) (a := ⟨w.heap.size, 1, none⟩) (HTK.out.block w.heap.size (by omega) hbx)).trans X1.out
    have x2 := (World.cell?_of_block (w := W) (a := ⟨w.heap.size, 2, none⟩) (HTK.out.block w.heap.size (by omega) hbx)).trans X2.out
    have HBX := hide hbx
    clear hbx
    have CO := compressOnce_any lo ac a a' ao capc cap cap' co cs fs st wr HK.out ⟨HM.out.nc, hnf, by rw [HSL.out]; exact hns, HM.out.sc, HM.out.vl, HM.out.sf⟩ HFK.out (ints_touch HIO.out HTO.out (fun q hq => HAO.out q hq.2)) (by rw [HSL.out]; exact HAO.out)
    unfold bkV at CO
    rw [HSL.out] at CO
    have HCO := hide CO
    clear CO
    by_cases hr : roundV cs fs st = st
    · have hd : decide (roundV cs fs st ≠ st) = false := by simp [hr]
      have HR := hide hr
      clear hr
      go_wp2_with fail
      refine HCO.out.mono ?_
      rintro e w2 ⟨rfl, hk2, ht2⟩
      have H2 := hide hk2
      have T2 := hide (touchS_trans HTK.out ht2)
      clear hk2 ht2 x0 x1 x2
      go_wp2
      refine bodyPost_end (v := .tuple #[]) (by simp [results, Tryz.results139, go_sem]) rfl ⟨⟨_, rfl⟩, ?_, touchS_trans (touchS_below WB.out) T2.out⟩
      have := H2.out
      rw [HR.out] at this
      rw [← HCK.out, comp_stop HR.out]
      exact this
    · have hd : decide (roundV cs fs st ≠ st) = true := by simp [hr]
      have HR := hide hr
      clear hr
      go_wp2_with fail
      refine HCO.out.mono ?_
      rintro e w2 ⟨rfl, hk2, ht2⟩
      have H2 := hide hk2
      have T2 := hide (touchS_trans HTK.out ht2)
      have T3 := hide (touchS_trans HTO.out ht2)
      clear hk2 ht2 x0 x1 x2
      go_wp2
      go_roundg (potV fs (roundV cs fs st))
      case measure => rw [HGK.out]; exact pot_round HFK.out HR.out
      case rel => exact ⟨roundV cs fs st, rfl, by rw [roundV_len]; exact HSL.out, H2.out, (round_all HFK.out).1, by show _ = _; rw [comp_round HFK.out]; exact HCK.out, T2.out, T3.out⟩

end Go.Proofs.YtciacofibljmoaaGreatDoor

/- FlowCompress, the program's way, walked. -/
namespace Go.Proofs.YtciacofibljmoaaGreatDoor
open Go.RowKit

theorem ownBk_none (lo : Nat) (w : World) : OwnBk lo w none none none 0 0 0 [] [] [] :=
  ⟨⟨fun i hi => by simp at hi, fun i hi => by simp at hi, fun i hi => by simp at hi⟩, [], ⟨.inl rfl, .inl rfl, .inl rfl, ⟨by simp, List.Pairwise.nil⟩, fun k hk => absurd rfl hk.1, fun k hk => absurd rfl hk.1, fun k _ hk2 => absurd rfl hk2.1⟩, rfl, fun i h1 => by simp at h1, fun k hk => by
    rcases hk with hk | hk | hk
    · exact absurd rfl hk.1
    · rcases hk with hk | ⟨x, hx, _⟩
      · exact absurd rfl hk.1
      · simp at hx
    · exact absurd rfl hk.1⟩
theorem OwnBk.base {lo lo' : Nat} {w : World} {ac a a' : Option Addr} {capc cap cap' : Nat} {cs : List (ByteArray × Int)} {fs : List Fli} {ss : List Int} (h : OwnBk lo w ac a a' capc cap cap' cs fs ss) (hl : lo' ≤ lo) : OwnBk lo' w ac a a' capc cap cap' cs fs ss := by
  obtain ⟨h1, va, h2, h3, h4, h5⟩ := h
  exact ⟨h1, va, h2, h3, h4, fun k hk => ⟨Nat.le_trans hl (h5 k hk).1, (h5 k hk).2⟩⟩
theorem OwnBk.inI {lo : Nat} {w : World} {ac a a' : Option Addr} {capc cap cap' : Nat} {cs : List (ByteArray × Int)} {fs : List Fli} {ss : List Int} (h : OwnBk lo w ac a a' capc cap cap' cs fs ss) {q : Nat} (hq : InN ss.length a' q) : lo ≤ q ∧ q < w.heap.size := by
  obtain ⟨h1, va, h2, h3, h4, h5⟩ := h
  exact h5 q (.inr (.inr hq))
theorem comp_len {cs : List (ByteArray × Int)} {fs : List Fli} {ss : List Int} (h : fitsB cs fs ss = true) : (compV cs fs ss).length = ss.length := by
  rw [fits_len (comp_all h).2.1, fits_len h]
/-- What FlowCompress answers, as far as it is no book that is not ok. -/
def okC (cs : List (ByteArray × Int)) (fs : List Fli) (ss : List Int) : List (ByteArray × Int) := if fitsB cs fs ss = true then cs else []
def okF (cs : List (ByteArray × Int)) (fs : List Fli) (ss : List Int) : List Fli := if fitsB cs fs ss = true then fs else []
def okS (cs : List (ByteArray × Int)) (fs : List Fli) (ss : List Int) : List Int := if fitsB cs fs ss = true then compV cs fs ss else []

end Go.Proofs.YtciacofibljmoaaGreatDoor
