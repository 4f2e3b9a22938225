/- Caps are spoilt; any caps are drawn. -/
import Derived.Test.YtciacofibljmoaaDraw9
namespace Go.Proofs.Ytciacofibljmoaa
open Go.RowKit

theorem capVals_len (cs : List (ByteArray × Int)) : (capVals cs).length = cs.length * 2 := by
  induction cs with
  | nil => rfl
  | cons r l ih => simp only [capVals, List.flatMap_cons, List.length_append, List.length_cons, List.length_nil] at *; omega
theorem caps_news {w : World} {a : Option Addr} {cs : List (ByteArray × Int)} (h : CapsIn w a cs) (h1 : 1 ≤ cs.length) : ∃ b off, a = some ⟨b, off, none⟩ ∧ ∀ j u, (capVals cs)[j]? = some u → w.cell? ((⟨b, off, none⟩ : Addr).add j) = some u := by
  obtain ⟨b, off, e, hb, _⟩ := h 0 (by omega)
  refine ⟨b, off, e, fun j u hj => ?_⟩
  have hlt : j < (capVals cs).length := by
    rcases Nat.lt_or_ge j (capVals cs).length with hh | hh
    · exact hh
    · rw [List.getElem?_eq_none hh] at hj; simp at hj
  rw [capVals_len] at hlt
  have hi : j / 2 < cs.length := by omega
  obtain ⟨b', off', e', _, c0, c1⟩ := h (j / 2) hi
  rw [e] at e'
  simp at e'
  obtain ⟨rfl, rfl⟩ := e'
  obtain ⟨q0, q1⟩ := capVals_at cs (j / 2) hi
  have ha : (⟨b, off, none⟩ : Addr).add j = ⟨b, off + j, none⟩ := by
    by_cases hz : j = 0
    · subst hz; rfl
    · simp [Addr.add, hz]
  rw [ha]
  have hm : j % 2 = 0 ∨ j % 2 = 1 := by omega
  rcases hm with hm | hm
  · rw [show j / 2 * 2 = j by omega] at q0 c0
    rw [hj] at q0
    rw [c0, ← q0]
  · rw [show j / 2 * 2 + 1 = j by omega] at q1
    rw [show off + j / 2 * 2 + 1 = off + j by omega] at c1
    rw [hj] at q1
    rw [c1, ← q1]
theorem capVals_one (cs : List (ByteArray × Int)) : ∀ u ∈ capVals cs, u.oneCell' = true := fun u hu => by
  unfold capVals at hu
  obtain ⟨v, _, hv⟩ := List.mem_flatMap.1 hu
  simp at hv
  rcases hv with rfl | rfl <;> rfl
theorem capVals_set0 : ∀ (cs : List (ByteArray × Int)) (k : Nat) (hk : k < cs.length) (s : ByteArray), (capVals cs).set (k * 2) (.string s) = capVals (cs.set k (s, cs[k].2))
  | [], k, hk, _ => by simp at hk
  | c :: cs, 0, _, z => by simp [capVals]
  | c :: cs, k + 1, hk, z => by
    have ih := capVals_set0 cs k (by simpa using hk) z
    rw [show (k + 1) * 2 = k * 2 + 1 + 1 by omega]
    simpa [capVals] using ih
theorem capVals_set1 : ∀ (cs : List (ByteArray × Int)) (k : Nat) (hk : k < cs.length) (z : Int), (capVals cs).set (k * 2 + 1) (.int .i64 z) = capVals (cs.set k (cs[k].1, z))
  | [], k, hk, _ => by simp at hk
  | c :: cs, 0, _, z => by simp [capVals]
  | c :: cs, k + 1, hk, z => by
    have ih := capVals_set1 cs k (by simpa using hk) z
    rw [show (k + 1) * 2 + 1 = k * 2 + 1 + 1 + 1 by omega]
    simpa [capVals] using ih
theorem own_setC0 {w : World} {base g cp : Nat} {cs : List (ByteArray × Int)} (h : OwnC w base (.slice (some ⟨g, 0, none⟩) cs.length cp) cs) {k : Nat} (hk : k < cs.length) (s : ByteArray) :
    OwnC (w.setCell ⟨g, k * 2, none⟩ (.string s)) base (.slice (some ⟨g, 0, none⟩) cs.length cp) (cs.set k (s, cs[k].2)) := by
  have hs := (World.ownsRow.stored h (k * 2) (.string s)).1
  rw [capVals_set0 cs k hk s] at hs
  unfold OwnC
  rw [List.length_set]
  exact hs
theorem own_setC1 {w : World} {base g cp : Nat} {cs : List (ByteArray × Int)} (h : OwnC w base (.slice (some ⟨g, 0, none⟩) cs.length cp) cs) {k : Nat} (hk : k < cs.length) (z : Int) :
    OwnC (w.setCell ⟨g, k * 2 + 1, none⟩ (.int .i64 z)) base (.slice (some ⟨g, 0, none⟩) cs.length cp) (cs.set k (cs[k].1, z)) := by
  have hs := (World.ownsRow.stored h (k * 2 + 1) (.int .i64 z)).1
  rw [capVals_set1 cs k hk z] at hs
  unfold OwnC
  rw [List.length_set]
  exact hs
theorem own_cellsC {w : World} {base g n c : Nat} {cs : List (ByteArray × Int)} (h : OwnC w base (.slice (some ⟨g, 0, none⟩) n c) cs) {k : Nat} (hk : k < cs.length) :
    (w.cell? ⟨g, k * 2, none⟩ = some (.string cs[k].1) ∧ w.frozen? ⟨g, k * 2, none⟩ = false) ∧ (w.cell? ⟨g, k * 2 + 1, none⟩ = some (.int .i64 cs[k].2) ∧ w.frozen? ⟨g, k * 2 + 1, none⟩ = false) := by
  obtain ⟨a', c', e, _, _, _, hc⟩ := owns_slice h
  simp at e
  obtain ⟨rfl, _⟩ := e
  obtain ⟨q0, q1⟩ := capVals_at cs k hk
  obtain ⟨g0, e0, _, _, r0, s0⟩ := hc _ _ q0
  obtain ⟨g1, e1, _, _, r1, s1⟩ := hc _ _ q1
  simp at e0 e1
  subst e0
  subst e1
  exact ⟨⟨r0, s0⟩, r1, s1⟩
theorem CapsSm.set {m : Nat} {cs : List (ByteArray × Int)} (h : CapsSm m cs) (k : Nat) (c : ByteArray × Int) (hc : c.1.size ≤ 8) : CapsSm m (cs.set k c) := by
  obtain ⟨h1, h2⟩ := h
  refine ⟨by simpa using h1, fun v hv => ?_⟩
  rcases List.mem_or_eq_of_mem_set hv with hv | rfl
  · exact h2 v hv
  · exact hc
theorem CapsSm.snoc {m : Nat} {cs : List (ByteArray × Int)} (h : CapsSm m cs) (c : ByteArray × Int) (hc : c.1.size ≤ 8) : CapsSm (m + 1) (cs ++ [c]) := by
  obtain ⟨h1, h2⟩ := h
  refine ⟨by simp; omega, fun v hv => ?_⟩
  rcases List.mem_append.1 hv with hv | hv
  · exact h2 v hv
  · simp at hv; subst hv; exact hc
theorem CapsSm.mono {m n : Nat} {cs : List (ByteArray × Int)} (h : CapsSm m cs) (hn : m ≤ n) : CapsSm n cs := ⟨Nat.le_trans h.1 hn, h.2⟩
def spoilCaps : List ByteArray := [⟨#[]⟩, ⟨#[69]⟩, ⟨#[122, 122]⟩, ⟨#[101]⟩]
theorem spoilCaps_size : ∀ s ∈ spoilCaps, s.size ≤ 8 := by decide

set_option maxRecDepth 100000 in
set_option maxHeartbeats 12800000 in
theorem l6SpoilCaps_any (r N : Nat) (cs : List (ByteArray × Int)) (ac : Option Addr) (cc : Nat) (w : World) (h : Rd w r N) (hN : N ≤ 900000) (hv : CapsIn w ac cs) (hsm : CapsSm 3 cs) :
    Calls Try.prog 75 #[.pointer (some ⟨r, 0, none⟩), .slice ac cs.length cc] w fun e w' => (∃ v cs', e = .returned v ∧ OwnC w' w.heap.size v cs' ∧ CapsSm 7 cs') ∧ Rd w' r (N + 3) ∧ Touch r (r + 1) w w' := by
  obtain ⟨i0, hi, iz0, iz1, iz2⟩ := info_parts info_cap
  have hrl := h.lt
  have HR := hide h
  have HV := hide hv
  have HSM := hide hsm
  have hn3 := hsm.1
  clear h hv hsm
  have Bz := hide ((Below.refl w.heap.size w).alloc (Nat.le_refl _) (.cells #[] 77))
  by_cases hn : cs.length < 1
  · have hcs : cs = [] := by cases cs with | nil => rfl | cons => simp at hn
    subst hcs
    clear hn
    have fin : ∀ (X : World) (B : Nat), X.heap.size = B → Below w.heap.size w X → OwnC (X.alloc (.cells #[.string ⟨#[69]⟩, .int .i64 1] 77)) w.heap.size (.slice (some ⟨B, 0, none⟩) 1 1) [(⟨#[69]⟩, 1)] ∧ Rd (X.alloc (.cells #[.string ⟨#[69]⟩, .int .i64 1] 77)) r (N + 3) ∧ Touch r (r + 1) w (X.alloc (.cells #[.string ⟨#[69]⟩, .int .i64 1] 77)) := fun X B hB hX => by
      subst hB
      have hs := hX.size
      have hx2 := hX.alloc hs (.cells #[.string ⟨#[69]⟩, .int .i64 1] 77)
      refine ⟨?_, (HR.out.later hx2).mono (by omega), touch_below hx2⟩
      refine ⟨rfl, .inr ⟨X.heap.size, 1, #[.string ⟨#[69]⟩, .int .i64 1], rfl, hs, Deep.blk_alloc_new _ _, Nat.le_refl _, by unfold maxLen; omega, rfl, rfl⟩⟩
    have HFIN := hide fin
    clear fin
    have sm1 : CapsSm 7 [(⟨#[69]⟩, 1)] := ⟨by simp, by simp; decide⟩
    cases ac with
    | none =>
      go_enter Try.func75, Try.ntmps75
      go_wp2
      go_ret
      have q9 := HFIN.out (w.alloc (.cells #[] 77)) (w.heap.size + 1) (by simp) Bz.out
      exact ⟨⟨_, _, rfl, q9.1, sm1⟩, q9.2.1, q9.2.2⟩
    | some ad =>
      go_enter Try.func75, Try.ntmps75
      go_wp2
      go_ret
      have q9 := HFIN.out (w.alloc (.cells #[] 77)) (w.heap.size + 1) (by simp) Bz.out
      exact ⟨⟨_, _, rfl, q9.1, sm1⟩, q9.2.1, q9.2.2⟩
  · obtain ⟨b, off, rfl, hnews⟩ := caps_news (HV.out.later Bz.out) (by omega)
    have HN := hide hnews
    clear hnews
    go_enter Try.func75, Try.ntmps75
    go_upto_region 2 with (first
      | (at_builtin; refine wpList_append_lies _ rfl _ _ 32 rfl w.heap.size 77 i0 (.agg #[.string ⟨#[]⟩, .int .i64 0]) 2 24 Try.underlying32 hi iz0 iz1 iz2 rfl (by decide) _ 0 [] rfl (own_emptyC w) ⟨b, off, none⟩ cs.length cc (capVals cs) rfl (capVals_len cs) (fun j u hj => HN.out j u hj) (capVals_one cs) (by omega) (by unfold maxLen; omega) (by omega) (by simp) (w.heap.size + 1) (by simp) ?_; intro g cp X hownE hgrowE hatE hltE))
    have hgb : w.heap.size ≤ g := (hownE.lt g rfl).1
    have OX : Hid (OwnC X w.heap.size (.slice (some ⟨g, 0, none⟩) cs.length cp) cs) := by
      show World.ownsRow _ _ _ _ _ _ _
      simpa using hownE
    have BX := hide (below_grow (a := w) (w := w) (Nat.le_refl _) hgrowE (fun q hq => by have he2 : some w.heap.size = some q := hq; simp at he2; omega))
    clear hownE hgrowE hatE hltE HN
    have hn0 : ((cs.length : Int) == 0) = false := beq_eq_false_iff_ne.2 (by omega)
    have hz0 : ((((0 + cs.length : Nat) : Int)) == 0) = false := beq_eq_false_iff_ne.2 (by omega)
    go_wp2_with fail
    refine (pick_any r N _ X (HR.out.later BX.out) (by omega) (by omega)).mono ?_
    rintro e w2 ⟨⟨k', rfl, hk0, hk1⟩, hr2, ht2⟩
    obtain ⟨k, rfl⟩ := Int.eq_ofNat_of_zero_le hk0
    have hk : k < cs.length := by omega
    go_wp2_with fail
    refine (pick_any r _ _ w2 hr2 (by omega) (by omega)).mono ?_
    rintro e w3 ⟨⟨q, rfl, hq0, hq1⟩, hr3, ht3⟩
    have T3 := hide (touch_trans (touch_trans (touch_below BX.out) ht2) ht3)
    have O3 : Hid (OwnC w3 w.heap.size (.slice (some ⟨g, 0, none⟩) cs.length cp) cs) := owns_touch (owns_touch OX.out ht2 (by omega)) ht3 (by omega)
    have HR3 := hide hr3
    have hT3 := T3.out.size
    have hg3 : g < w3.heap.size := (World.ownsRow.lt O3.out g rfl).2
    clear hr2 ht2 hr3 ht3 OX BX HR HV Bz
    have hq : q = 0 ∨ q = 1 ∨ q = 2 ∨ q = 3 := by omega
    rcases hq with rfl | rfl | rfl | rfl
    · go_wp2_with fail
      have Ba := hide ((Below.refl w3.heap.size w3).alloc (Nat.le_refl _) (.cells (spoilCaps.map Value.string).toArray 9))
      refine (of_any r _ _ 4 spoilCaps _ (HR3.out.later Ba.out) (by omega) (strs_alloc (r := r) (by omega) 9 _ spoilCaps rfl) (by decide)).mono ?_
      rintro e w4 ⟨⟨s, hs, rfl⟩, hr4, ht4⟩
      have hss := spoilCaps_size s hs
      have O4 : Hid (OwnC w4 w.heap.size (.slice (some ⟨g, 0, none⟩) cs.length cp) cs) := owns_touch (owns_later O3.out Ba.out) ht4 (by omega)
      have T4 := hide (touch_trans (touch_then T3.out (Ba.out.mono (by omega))) ht4)
      have HR4 := hide hr4
      obtain ⟨⟨c0, z0⟩, _⟩ := own_cellsC O4.out hk
      have OX := hide (own_setC0 O4.out hk s)
      have BX := hide (below_set (Below.refl w.heap.size w4) g (k * 2) hgb (.string s))
      clear hr4 ht4 O3 T3 HR3 hs
      go_wp2
      go_ret
      exact ⟨⟨_, _, rfl, OX.out, (HSM.out.set k _ hss).mono (by omega)⟩, HR4.out.below BX.out hrl, touch_then T4.out BX.out⟩
    · go_wp2_with fail
      have Ba := hide ((Below.refl w3.heap.size w3).alloc (Nat.le_refl _) (.cells #[.int .i64 (-1), .int .i64 0, .int .i64 20, .int .i64 21] 3))
      refine (pick_any r _ _ _ (HR3.out.later Ba.out) (by omega) (by omega)).mono ?_
      rintro e w4 ⟨⟨j', rfl, hj0, hj1⟩, hr4, ht4⟩
      obtain ⟨j, rfl⟩ := Int.eq_ofNat_of_zero_le hj0
      obtain ⟨z, hz1⟩ := ints_ex w3 3 [-1, 0, 20, 21] #[.int .i64 (-1), .int .i64 0, .int .i64 20, .int .i64 21] rfl j (by show j < 4; omega)
      have hz := cell_touch ht4 hz1 (.inr (by show r + 1 ≤ w3.heap.size; omega))
      clear hz1
      have O4 : Hid (OwnC w4 w.heap.size (.slice (some ⟨g, 0, none⟩) cs.length cp) cs) := owns_touch (owns_later O3.out Ba.out) ht4 (by omega)
      have T4 := hide (touch_trans (touch_then T3.out (Ba.out.mono (by omega))) ht4)
      have HR4 := hide hr4
      obtain ⟨_, c0, z0⟩ := own_cellsC O4.out hk
      have OX := hide (own_setC1 O4.out hk z)
      have BX := hide (below_set (Below.refl w.heap.size w4) g (k * 2 + 1) hgb (.int .i64 z))
      clear hr4 ht4 O3 T3 HR3
      go_wp2
      go_ret
      exact ⟨⟨_, _, rfl, OX.out, CapsSm.mono (m := 3) (n := 7) (HSM.out.set k (cs[k].1, z) (HSM.out.2 cs[k] (List.getElem_mem hk))) (by omega)⟩, HR4.out.below BX.out hrl, touch_then T4.out BX.out⟩
    · obtain ⟨⟨c0, z0⟩, c1, z1⟩ := own_cellsC O3.out hk
      have hcm := HSM.out.2 _ (List.getElem_mem hk)
      generalize cs[k] = c at c0 c1 hcm
      go_wp2_with (first
        | (at_builtin; refine wpList_append_lies _ rfl _ _ 32 rfl w.heap.size 77 i0 (.agg #[.string ⟨#[]⟩, .int .i64 0]) 2 24 Try.underlying32 hi iz0 iz1 iz2 rfl (by decide) _ _ _ rfl (World.ownsRow.alloc O3.out _) ⟨w3.heap.size, 0, none⟩ 1 1 [.string c.1, .int .i64 c.2] rfl rfl (cell_two_new _ _ _ _) (fun x hx => by simp at hx; rcases hx with rfl | rfl <;> rfl) (by decide) (by unfold maxLen; omega) (by omega) (by simp; omega) (w3.heap.size + 1) (by simp) ?_; intro g2 cp2 wE hownE hgrowE hatE hltE))
      go_ret
      have BE := below_grow (a := w) (w := w3) hT3 hgrowE (fun q hq => (World.ownsRow.lt O3.out q hq).1)
      exact ⟨⟨_, cs ++ [c], rfl, by show World.ownsRow _ _ _ _ _ _ _; rw [capVals_snoc, List.length_append]; exact hownE, (HSM.out.snoc c hcm).mono (by omega)⟩, (HR3.out.below BE hrl).mono (by omega), touch_then T3.out BE⟩
    · go_wp2_with fail
      refine (pick_any r _ _ _ HR3.out (by omega) (by omega)).mono ?_
      rintro e w4 ⟨⟨q8, rfl, hq80, hq81⟩, hr4, ht4⟩
      obtain ⟨q9, rfl⟩ := Int.eq_ofNat_of_zero_le hq80
      have O4 : Hid (OwnC w4 w.heap.size (.slice (some ⟨g, 0, none⟩) cs.length cp) cs) := owns_touch O3.out ht4 (by omega)
      have T4 := hide (touch_trans T3.out ht4)
      have HR4 := hide hr4
      clear hr4 ht4 O3 T3 HR3
      go_wp2_with fail
      go_loopw [5] (fun v wr => ∃ (g2 cp2 m2 : Nat) (cs2 : List (ByteArray × Int)), v = .slice (some ⟨g2, 0, none⟩) m2 cp2 ∧ cs2.length = m2 ∧ m2 ≤ 6 + q9 ∧ Hid (OwnC wr w.heap.size v cs2) ∧ Hid (CapsSm 7 cs2) ∧ Hid (Rd wr r (N + 3)) ∧ Hid (Touch r (r + 1) w wr)) (fun v _ => match v with | .slice _ n _ => 10 - n | _ => 0)
      case atStart => exact ⟨g, cp, cs.length, cs, rfl, rfl, by omega, O4.out, HSM.out.mono (by omega), HR4.out, T4.out⟩
      case round =>
        obtain ⟨g2, cp2, m2, cs2, rfl, hm2, hm7, OR, SMR, HRR, TR⟩ := hrel
        clear O4 T4 HR4
        by_cases hlt : m2 < 6 + q9
        · have hlt' : (m2 : Int) < 6 + (q9 : Int) := by omega
          go_wp2_with fail
          refine (l6Dec_any m2 wr (by omega)).mono ?_
          rintro e w5 ⟨⟨s, rfl, hs1⟩, hb5⟩
          have O5 : Hid (World.ownsRow w5 w.heap.size 77 2 (.slice (some ⟨g2, 0, none⟩) m2 cp2) m2 (capVals cs2)) := by have h9 := owns_later OR.out hb5; rw [hm2] at h9; exact h9
          have T5 := hide (touch_then TR.out (hb5.mono TR.out.size))
          have HR5 := hide (HRR.out.later hb5)
          have hs5 := T5.out.size
          clear hb5 OR TR HRR
          go_wp2_with (first
            | (at_builtin; refine wpList_append_lies _ rfl _ _ 32 rfl w.heap.size 77 i0 (.agg #[.string ⟨#[]⟩, .int .i64 0]) 2 24 Try.underlying32 hi iz0 iz1 iz2 rfl (by decide) _ _ _ rfl (World.ownsRow.alloc O5.out _) ⟨w5.heap.size, 0, none⟩ 1 1 [.string (⟨#[122]⟩ ++ s), .int .i64 1] rfl rfl (cell_two_new _ _ _ _) (fun x hx => by simp at hx; rcases hx with rfl | rfl <;> rfl) (by decide) (by unfold maxLen; omega) (by omega) (by simp; omega) (w5.heap.size + 1) (by simp) ?_; intro g3 cp3 wE hownE hgrowE hatE hltE))
          have BE := hide (below_grow (a := w) (w := w5) hs5 hgrowE (fun q hq => (World.ownsRow.lt O5.out q hq).1))
          have SM2 : Hid (CapsSm 7 (cs2 ++ [((⟨#[122]⟩ : ByteArray) ++ s, 1)])) := by
            obtain ⟨g1, g2⟩ := SMR.out
            refine ⟨by simp; omega, fun c hc => ?_⟩
            rcases List.mem_append.1 hc with hc | hc
            · exact g2 c hc
            · simp at hc; subst hc; show ((⟨#[122]⟩ : ByteArray) ++ s).size ≤ 8; rw [ByteArray.size_append, hs1]; show 1 + 1 ≤ 8; omega
          go_roundw
          case rel => exact ⟨g3, cp3, m2 + 1, cs2 ++ [((⟨#[122]⟩ : ByteArray) ++ s, 1)], rfl, by simp [hm2], by omega, by show World.ownsRow _ _ _ _ _ _ _; rw [capVals_snoc, List.length_append, hm2]; exact hownE, SM2.out, HR5.out.below BE.out hrl, touch_then T5.out BE.out⟩
          case measure => show 10 - (m2 + 1) < 10 - m2; omega
        · have hlt' : ¬ (m2 : Int) < 6 + (q9 : Int) := by omega
          go_wp2
          go_ret
          exact ⟨⟨_, rfl, cs2, OR.out, SMR.out⟩, HRR.out, TR.out⟩

set_option maxHeartbeats 800000 in
theorem l6AnyCaps_any (r N : Nat) (w : World) (h : Rd w r N) (hN : N ≤ 800000) :
    Calls Try.prog 47 #[.pointer (some ⟨r, 0, none⟩)] w fun e w' => (∃ v cs, e = .returned v ∧ OwnC w' w.heap.size v cs ∧ CapsSm 7 cs) ∧ Rd w' r (N + 20) ∧ Touch r (r + 1) w w' := by
  have hrl := h.lt
  have HR := hide h
  clear h
  go_enter Try.func47, Try.ntmps47
  go_wp2_with fail
  refine (l6Caps_any r N w HR.out (by omega)).mono ?_
  rintro e w1 ⟨⟨v, cs, rfl, ho, hsm⟩, hr1, ht1⟩
  obtain ⟨av, cv, rfl, _, _, hci, hca⟩ := OwnC.form ho
  have HO := hide ho
  have HSM := hide hsm
  have HT1 := hide ht1
  have hs1 := ht1.size
  clear ho hsm ht1 hci hca
  go_wp2_with fail
  refine (pick_any r _ _ _ hr1 (by omega) (by omega)).mono ?_
  rintro e w2 ⟨⟨q, rfl, hq0, hq1⟩, hr2, ht2⟩
  have HO2 : Hid (OwnC w2 w.heap.size (.slice av cs.length cv) cs) := owns_touch HO.out ht2 (by omega)
  have HT2 := hide (touch_trans HT1.out ht2)
  have HR2 := hide hr2
  have hs2 := HT2.out.size
  clear hr1 hr2 ht2 HO HT1
  by_cases hq : q = 0
  · subst hq
    obtain ⟨av', cv', e', _, _, hci, hca⟩ := OwnC.form HO2.out
    simp at e'
    obtain ⟨rfl, rfl⟩ := e'
    have HC := hide hci
    clear hci hca
    go_wp2_with fail
    refine (l6SpoilCaps_any r _ cs _ _ w2 HR2.out (by omega) HC.out HSM.out).mono ?_
    rintro e w3 ⟨⟨v3, cs3, rfl, ho3, hsm3⟩, hr3, ht3⟩
    have HO3 := hide (owns_base ho3 hs2)
    have HS3 := hide hsm3
    have HR3 := hide hr3
    have HT3 := hide (touch_trans HT2.out ht3)
    clear ho3 hsm3 hr3 ht3
    go_wp2
    go_ret
    exact ⟨⟨_, cs3, rfl, HO3.out, HS3.out⟩, HR3.out.mono (by omega), HT3.out⟩
  · have hq' : (q == 0) = false := beq_eq_false_iff_ne.2 hq
    go_wp2
    go_ret
    exact ⟨⟨_, cs, rfl, HO2.out, HSM.out.mono (by omega)⟩, HR2.out.mono (by omega), HT2.out⟩

end Go.Proofs.Ytciacofibljmoaa
