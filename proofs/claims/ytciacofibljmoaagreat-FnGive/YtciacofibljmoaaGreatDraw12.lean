/- The least slot, as the document's model reckons it tick by tick. -/
import Derived.Test.YtciacofibljmoaaGreatDraw11
namespace Go.Proofs.YtciacofibljmoaaGreat
open Go.RowKit

attribute [local go_sem ↓] Go.wp_at_zero Go.wp_at_succ

/-- The least slot of the one at a place, all others as they are; -1 if there is none. -/
def leastV (cs : List (ByteArray × Int)) (fs : List Fli) (ss : List Int) (i : Nat) : Int :=
  ((ticks (fs.getD i (ByteArray.empty, 0, 0, [])).2.1 ((fs.getD i (ByteArray.empty, 0, 0, [])).2.2.1.toNat + 1)).find? fun t => fitsB cs fs (ss.set i t)).getD (-1)
theorem find_ticks (p : Int → Bool) (low : Int) : ∀ (m k : Nat), k < m → (∀ j, j < k → p (low + (j : Nat)) = false) → p (low + (k : Nat)) = true → (ticks low m).find? p = some (low + (k : Nat))
  | 0, k, hk, _, _ => by omega
  | m + 1, k, hk, h1, h2 => by
    rw [ticks_succ, List.find?_append]
    by_cases he : k < m
    · rw [find_ticks p low m k he h1 h2]; rfl
    · have hkm : k = m := by omega
      subst hkm
      have hn : (ticks low k).find? p = none := by
        rw [List.find?_eq_none]
        intro x hx
        obtain ⟨a, b⟩ := (mem_ticks low k x).1 hx
        have := h1 (x - low).toNat (by omega)
        rw [show low + ((x - low).toNat : Int) = x by omega] at this
        simp [this]
      rw [hn]
      simp [h2]
theorem leastV_at {cs : List (ByteArray × Int)} {fs : List Fli} {ss : List Int} {i k : Nat} (hi : i < fs.length) (hk : (k : Int) ≤ fs[i].2.2.1) (h1 : ∀ j, j < k → fitsB cs fs (ss.set i (fs[i].2.1 + (j : Nat))) = false) (h2 : fitsB cs fs (ss.set i (fs[i].2.1 + (k : Nat))) = true) : leastV cs fs ss i = fs[i].2.1 + (k : Nat) := by
  unfold leastV
  rw [getD_at fs i _ hi, find_ticks (fun t => fitsB cs fs (ss.set i t)) fs[i].2.1 _ k (by omega) h1 h2]
  rfl
theorem leastV_none {cs : List (ByteArray × Int)} {fs : List Fli} {ss : List Int} {i : Nat} (hi : i < fs.length) (h1 : ∀ j : Nat, (j : Int) ≤ fs[i].2.2.1 → fitsB cs fs (ss.set i (fs[i].2.1 + (j : Nat))) = false) (h0 : 0 ≤ fs[i].2.2.1) : leastV cs fs ss i = -1 := by
  unfold leastV
  rw [getD_at fs i _ hi]
  have hn : (ticks fs[i].2.1 (fs[i].2.2.1.toNat + 1)).find? (fun t => fitsB cs fs (ss.set i t)) = none := by
    rw [List.find?_eq_none]
    intro x hx
    obtain ⟨a, b⟩ := (mem_ticks _ _ x).1 hx
    have := h1 (x - fs[i].2.1).toNat (by omega)
    rw [show fs[i].2.1 + ((x - fs[i].2.1).toNat : Int) = x by omega] at this
    simp [this]
  rw [hn]
  rfl

theorem specFits_at (ac a a' : Option Addr) (capc cap cap' : Nat) (cs : List (ByteArray × Int)) (fs : List Fli) (ss : List Int) (n : Nat) (hn : ss.length = n) (q : Bool) (hq : fitsB cs fs ss = q) (w : World) (hcc : CapsIn w ac cs) (hc : FlightsIn w a fs) (hc' : IntsIn w a' ss) (hlc : cs.length ≤ 1048576) (hl : fs.length ≤ 1048576) (hl' : ss.length ≤ 1048576)
    (hsc : ∀ c ∈ cs, c.1.size ≤ maxLen) (hvl : ∀ f ∈ fs, f.2.2.2.length ≤ 1048576) (hs : ∀ f ∈ fs, SizesOk f) :
    Calls Tryz.prog 33 #[.slice ac cs.length capc, .slice a fs.length cap, .slice a' n cap'] w fun e w' => e = .returned (.bool q) ∧ Below w.heap.size w w' := by
  subst hn hq
  exact specFits_any ac a a' capc cap cap' cs fs ss w hcc hc hc' hlc hl hl' hsc hvl hs

set_option maxRecDepth 100000 in
set_option maxHeartbeats 6400000 in
theorem l3Least_any (ac a a' : Option Addr) (capc cap cap' : Nat) (cs : List (ByteArray × Int)) (fs : List Fli) (ss : List Int) (i : Nat) (w : World) (hcc : CapsIn w ac cs) (hc : FlightsIn w a fs) (hc' : IntsIn w a' ss) (hlc : cs.length ≤ 1048576) (hl : fs.length ≤ 1048576) (hln : ss.length = fs.length)
    (hsc : ∀ c ∈ cs, c.1.size ≤ maxLen) (hvl : ∀ f ∈ fs, f.2.2.2.length ≤ 1048576) (hs : ∀ f ∈ fs, SizesOk f) (hi' : i < fs.length) (hp0 : 0 ≤ fs[i].2.1) (hp1 : fs[i].2.1 ≤ 10000) (hq0 : 0 ≤ fs[i].2.2.1) (hq1 : fs[i].2.2.1 ≤ 60) :
    Calls Tryz.prog 40 #[.slice ac cs.length capc, .slice a fs.length cap, .slice a' ss.length cap', .int .i64 (i : Nat)] w fun e w' => e = .returned (.int .i64 (leastV cs fs ss i)) ∧ Below w.heap.size w w' := by
  obtain ⟨i0, hi, iz0, iz1, iz2⟩ := info_parts info_int
  have HCC := hide hcc
  have HC := hide hc
  have HSC := hide hsc
  have HVL := hide hvl
  have HS := hide hs
  have Bz := hide ((Below.refl w.heap.size w).alloc (Nat.le_refl _) (.cells #[] 3))
  obtain ⟨b, off, rfl, hblt, hnews⟩ := ints_news (hc'.later Bz.out) (by omega)
  have HN := hide hnews
  have HLN := hide hln
  have hsl : ss.length ≤ 1048576 := by omega
  have his : i < ss.length := by omega
  have HAT := hide (fun (k : Nat) hk h1 h2 => leastV_at (cs := cs) (ss := ss) (k := k) hi' hk h1 h2)
  have HNO := hide (fun h1 => leastV_none (cs := cs) (ss := ss) hi' h1 hq0)
  clear hcc hc hc' hsc hvl hs hnews hln
  have i0' : (0 : Int) ≤ (i : Int) := by omega
  have i1' : (i : Int) < (fs.length : Int) := by omega
  have i2' : (i : Int) < (ss.length : Int) := by omega
  obtain ⟨fb, foff, rfl, hfb, _⟩ := HC.out i hi'
  have HP : Hid (∀ W : World, Below w.heap.size w W → W.cell? ⟨fb, foff + i * 4 + 1, none⟩ = some (.int .i64 fs[i].2.1) ∧ W.cell? ⟨fb, foff + i * 4 + 2, none⟩ = some (.int .i64 fs[i].2.2.1)) := fun W hW => by
    obtain ⟨b9, o9, e9, _, _, c1, c2, _⟩ := (HC.out.later hW) i hi'
    simp at e9
    obtain ⟨rfl, rfl⟩ := e9
    exact ⟨c1, c2⟩
  generalize hP : fs[i].2.1 = P at *
  generalize hQ : fs[i].2.2.1 = Q at *
  clear hP hQ
  go_enter Tryz.func40, Tryz.ntmps40
  go_upto_region 2 with (first
    | (at_builtin; refine wpList_append_lies _ rfl _ _ 27 rfl w.heap.size 3 i0 (.int .i64 0) 1 8 Tryz.underlying27 hi iz0 iz1 iz2 rfl (by decide) _ 0 [] rfl (own_emptyI w) ⟨b, off, none⟩ ss.length cap' (intVals ss) rfl (intVals_len ss) (fun j u hj => HN.out j u hj) (intVals_one ss) (by omega) (by unfold maxLen; omega) (by omega) (by simp) (w.heap.size + 1) (by simp) ?_; intro g cp X hownE hgrowE hatE hltE))
  have hgb : w.heap.size ≤ g := (hownE.lt g rfl).1
  have OX : Hid (OwnI X w.heap.size (.slice (some ⟨g, 0, none⟩) ss.length cp) ss) := by
    show World.ownsRow _ _ _ _ _ _ _
    simpa using hownE
  have BX := hide (below_grow (a := w) (w := w) (Nat.le_refl _) hgrowE (fun q hq => by have he2 : some w.heap.size = some q := hq; simp at he2; omega))
  clear hownE hgrowE hatE hltE HN
  obtain ⟨c1, c2⟩ := HP.out X BX.out
  go_wp2
  clear c1 c2
  go_loopw [10] (fun t wr => ∃ (k : Nat) (z : Int), (k : Int) ≤ Q + 1 ∧ t = .int .i64 (P + (k : Int)) ∧ Hid (OwnI wr w.heap.size (.slice (some ⟨g, 0, none⟩) ss.length cp) (ss.set i z)) ∧ Hid (Below w.heap.size w wr) ∧ Hid (∀ j, j < k → fitsB cs fs (ss.set i (P + (j : Nat))) = false)) (fun t _ => (P + Q + 1 - RowKit.intOf t).toNat)
  case atStart => exact ⟨0, ss[i], by omega, by simp, by rw [List.set_getElem_self]; exact OX.out, BX.out, fun j hj => by omega⟩
  case round =>
    obtain ⟨k, z, hk, rfl, OR, BR, HF⟩ := hrel
    clear OX BX
    obtain ⟨c1, c2⟩ := HP.out wr BR.out
    by_cases hkq : (k : Int) ≤ Q
    · have hle : P + (k : Int) ≤ P + Q := by omega
      obtain ⟨x0, x1⟩ := own_cellI OR.out (k := i) (by simpa using his)
      go_wp2
      go_quiet (fail)
      go_wp2_with fail
      have BD : Below w.heap.size w (wr.drewN nq) := Go.below_drewN BR.out nq
      have OS : Hid (OwnI ((wr.drewN nq).setCell ⟨g, i, none⟩ (.int .i64 (P + (k : Int)))) w.heap.size (.slice (some ⟨g, 0, none⟩) ss.length cp) (ss.set i (P + (k : Int)))) := by
        have h9 : OwnI (wr.drewN nq) w.heap.size (.slice (some ⟨g, 0, none⟩) ss.length cp) (ss.set i z) := OR.out
        have := own_setI h9 (k := i) (P + (k : Int))
        rwa [List.set_set] at this
      have BS := hide (below_set BD g i hgb (.int .i64 (P + (k : Int))))
      clear BD
      generalize (wr.drewN nq).setCell ⟨g, i, none⟩ (.int .i64 (P + (k : Int))) = ws at OS BS
      obtain ⟨a9, c9, e9, _, _, hin9, _⟩ := OwnI.form OS.out
      simp at e9
      obtain ⟨rfl, rfl⟩ := e9
      have HIN := hide hin9
      clear hin9
      cases hq : fitsB cs fs (ss.set i (P + (k : Int)))
      · have HQ := hide hq
        clear hq
        refine (specFits_at _ _ _ _ _ _ cs fs (ss.set i (P + (k : Int))) ss.length (by simp) false HQ.out ws (HCC.out.later BS.out) (HC.out.later BS.out) HIN.out hlc (by omega) (by simp; omega) HSC.out HVL.out HS.out).mono ?_
        rintro e w2 ⟨rfl, hb2⟩
        have O2 : Hid (OwnI w2 w.heap.size (.slice (some ⟨g, 0, none⟩) ss.length cp) (ss.set i (P + (k : Int)))) := owns_later OS.out hb2
        have B2 := hide (below_seq BS.out hb2)
        clear hb2
        go_wp2
        go_roundw
        case rel => exact ⟨k + 1, P + (k : Int), by omega, by simp; omega, O2.out, B2.out, fun j hj => by
          by_cases he : j = k
          · subst he; exact HQ.out
          · exact HF.out j (by omega)⟩
        case measure => simp [RowKit.intOf]; omega
      · have HQ := hide hq
        clear hq
        refine (specFits_at _ _ _ _ _ _ cs fs (ss.set i (P + (k : Int))) ss.length (by simp) true HQ.out ws (HCC.out.later BS.out) (HC.out.later BS.out) HIN.out hlc (by omega) (by simp; omega) HSC.out HVL.out HS.out).mono ?_
        rintro e w2 ⟨rfl, hb2⟩
        have B2 := hide (below_seq BS.out hb2)
        have HV := hide (HAT.out k hkq HF.out HQ.out)
        clear hb2
        go_wp2
        go_ret
        exact ⟨by rw [HV.out]; rfl, B2.out⟩
    · have hle : ¬ P + (k : Int) ≤ P + Q := by omega
      have HV := hide (HNO.out (fun j hj => HF.out j (by omega)))
      go_wp2
      go_quiet (fail)
      go_wp2_with fail
      go_ret
      exact ⟨by rw [HV.out]; rfl, Go.below_drewN BR.out nq⟩

end Go.Proofs.YtciacofibljmoaaGreat
