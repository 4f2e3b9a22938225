/- The changes of a load, by ticks, in a map: the program's own walk. -/
import Derived.Test.YtciacofibljmoaaGreatRunsMath
import Derived.Maps.OwnOps
import Derived.Maps.OwnSet
namespace Go.Proofs.YtciacofibljmoaaGreat
open Go.RowKit Go.Maps

theorem law_int : Keyed Tryz.prog 3 := int_keyed Tryz.underlying3
theorem zero_int (w : World) : (zeroValue 3).run Tryz.prog w = .ok (.int .i64 0) w := by kernel_rfl

/-- Block B is a map that holds f, at the keys of which K holds. -/
def Chg (w : World) (B n : Nat) (D : DataW Unit) (f : Int → Int) (K : Int → Prop) : Prop :=
  w.ownsMap Tryz.prog 3 (plainElem Tryz.prog 3) B n D ∧ (∀ k : Int, D.atKey (.int .i64 k) (.lit (.int .i64 0)) = .lit (.int .i64 (f k))) ∧ ∀ k : Int, has D (.int .i64 k) = true ↔ K k
theorem Chg.later {w w' : World} {B n : Nat} {D : DataW Unit} {f : Int → Int} {K : Int → Prop} (h : Chg w B n D f K) (hb : Below w.heap.size w w') : Chg w' B n D f K := by
  obtain ⟨hown, r⟩ := h
  have hlt := hown.lt
  obtain ⟨es, clock, hB, Ft, hs, hD⟩ := hown
  exact ⟨⟨es, clock, (hb.block B hlt).trans hB, Ft, hs, hD⟩, r⟩
theorem chg_at {w : World} {B n : Nat} {D : DataW Unit} {f : Int → Int} {K : Int → Prop} (h : Chg w B n D f K) {a c : Int} (hat : D.atKey (.int .i64 a) (.lit (.int .i64 0)) = .lit (.int .i64 c)) : c = f a := by
  have := hat.symm.trans (h.2.1 a)
  simpa using this
theorem chg_put {w w' : World} {B n : Nat} {D : DataW Unit} {f : Int → Int} {K : Int → Prop} (h : Chg w B n D f K) {a v : Int} (hown : w'.ownsMap Tryz.prog 3 (plainElem Tryz.prog 3) B (n + 1) (D.put (.int .i64 a) (.lit (.int .i64 v)))) :
    Chg w' B (n + 1) (D.put (.int .i64 a) (.lit (.int .i64 v))) (fun k => if k = a then v else f k) (fun k => k = a ∨ K k) := by
  have hm := h.1.isMap
  refine ⟨hown, fun k => ?_, fun k => ?_⟩
  · by_cases e : k = a
    · subst e; dsimp only; rw [if_pos rfl]; exact atKey_put_same hm (by simp [WideAt.IsKeyLit]) _ _
    · dsimp only; rw [if_neg e, atKey_put_other (by simpa using e)]; exact h.2.1 k
  · by_cases e : k = a
    · subst e; simp [has_put_same hm (show WideAt.IsKeyLit (.int .i64 k) by simp [WideAt.IsKeyLit])]
    · rw [has_put_other (by simpa using e), h.2.2 k]
      simp [e]

/-- The ends of spans. -/
def isEnd (sp : List (Int × Int)) (k : Int) : Prop := ∃ p ∈ sp, k = p.1 ∨ k = p.2
theorem dAt_bd (sp : List (Int × Int)) (t : Int) : -(sp.length : Int) ≤ dAt sp t ∧ dAt sp t ≤ (sp.length : Int) := by
  unfold dAt
  induction sp with
  | nil => simp
  | cons p r ih =>
    simp only [List.map_cons, List.sum_cons, List.length_cons]
    have : -1 ≤ one (t = p.1) - one (t = p.2) ∧ one (t = p.1) - one (t = p.2) ≤ 1 := by unfold one; repeat' split <;> omega
    omega
/-- Both changes of one span. -/
theorem chg_span {w : World} {B n : Nat} {D : DataW Unit} {sp : List (Int × Int)} {a b : Int} (hab : a ≠ b)
    (h : Chg w B n D (fun k => if k = b then dAt sp b - 1 else if k = a then dAt sp a + 1 else dAt sp k) (fun k => k = b ∨ k = a ∨ isEnd sp k)) : Chg w B n D (dAt (sp ++ [(a, b)])) (isEnd (sp ++ [(a, b)])) := by
  obtain ⟨h1, h2, h3⟩ := h
  refine ⟨h1, fun k => ?_, fun k => ?_⟩
  · rw [h2 k]
    dsimp only
    have e : dAt (sp ++ [(a, b)]) k = dAt sp k + (one (k = a) - one (k = b)) := by rw [dAt_append]; simp [dAt]
    rw [e]
    unfold one
    by_cases e1 : k = b
    · subst e1
      rw [if_pos rfl, if_neg (fun h => hab h.symm), if_pos rfl]
      congr 2
    · rw [if_neg e1, if_neg e1]
      by_cases e2 : k = a
      · subst e2; rw [if_pos rfl, if_pos rfl]; congr 2
      · rw [if_neg e2, if_neg e2]; congr 2; omega
  · rw [h3 k]
    unfold isEnd
    simp only [List.mem_append, List.mem_singleton]
    constructor
    · rintro (rfl | rfl | ⟨p, hp, hh⟩)
      · exact ⟨_, .inr rfl, .inr rfl⟩
      · exact ⟨_, .inr rfl, .inl rfl⟩
      · exact ⟨p, .inl hp, hh⟩
    · rintro ⟨p, hp | rfl, hh⟩
      · exact .inr (.inr ⟨p, hp, hh⟩)
      · rcases hh with hh | hh
        · exact .inr (.inl hh)
        · exact .inl hh

theorem cell_grown {w w' : World} {row : Option Nat} {a : Addr} {v : Value} (hg : w.grownBy w' row) (hc : w.cell? a = some v) (hne : some a.block ≠ row) : w'.cell? a = some v :=
  (World.cell?_of_block (w := w) (hg.block a.block (World.block_lt_of_cell? _ _ hc) hne)).trans hc
theorem spanV_len (vs : List Vis) (slot : Int) (sec : ByteArray) (j : Nat) : (spanV vs slot sec j).length ≤ j := by
  unfold spanV
  rw [List.length_map]
  exact Nat.le_trans (List.length_filter_le _ _) (List.length_take_le _ _)
theorem spansTo_len {fs : List Fli} (hf : ∀ i (hi : i < fs.length), VisBd fs[i].2.2.2 ∧ (0 ≤ fs[i].2.1 ∧ fs[i].2.1 ≤ 10000) ∧ (0 ≤ fs[i].2.2.1 ∧ fs[i].2.2.1 ≤ 60) ∧ 1 ≤ fs[i].2.2.2.length ∧ fs[i].2.2.2.length ≤ 5) {ss : List Int} {sec : ByteArray} : ∀ k, k ≤ fs.length → (spansTo fs ss sec k).length ≤ 5 * k
  | 0, _ => by simp [spansTo]
  | k + 1, hk => by
    rw [spansTo_succ, List.length_append]
    have ih := spansTo_len hf (ss := ss) (sec := sec) k (by omega)
    have : (spansOne fs ss sec k).length ≤ 5 := by
      unfold spansOne
      rw [getD_at fs k _ (by omega)]
      split
      · exact Nat.le_trans (spanV_len _ _ _ _) (hf k (by omega)).2.2.2.2
      · simp
    omega

set_option maxRecDepth 100000 in
set_option maxHeartbeats 3200000 in
theorem loadChanges_any (a a' : Option Addr) (cap cap' : Nat) (fs : List Fli) (ss : List Int) (sec : ByteArray) (w : World) (hc : FlightsIn w a fs) (hc' : IntsIn w a' ss) (hok : slotsB fs ss = true) :
    Calls Tryz.prog 53 #[.slice a fs.length cap, .slice a' ss.length cap', .string sec] w fun e w' => e = .returned (.map (some w.heap.size)) ∧ (∃ n D, n ≤ 80 ∧ Chg w' w.heap.size n D (dAt (spansTo fs ss sec fs.length)) (isEnd (spansTo fs ss sec fs.length))) ∧ Below w.heap.size w w' := by
  obtain ⟨hln, h8, hsb, hfb⟩ := slots_bd hok
  have HC := hide hc
  have HC' := hide hc'
  have HSB := hide hsb
  have HFB := hide hfb
  have hln1 : fs.length ≤ ss.length := by omega
  clear hc hc' hsb hfb hok hln
  have hmm := @run_makeMap Tryz.prog
  go_enter Tryz.func53, Tryz.ntmps53
  go_wp2
  go_loopw [16] (fun i wr => ∃ (k n : Nat) (D : DataW Unit), k ≤ fs.length ∧ n ≤ 10 * k ∧ i = .int .i64 k ∧ Hid (Chg wr w.heap.size n D (dAt (spansTo fs ss sec k)) (isEnd (spansTo fs ss sec k))) ∧ Hid (Below w.heap.size w wr)) (fun i _ => fs.length - (intOf i).toNat)
  case atStart => exact ⟨0, 0, .map [], Nat.zero_le _, Nat.zero_le _, rfl, ⟨World.ownsMap_made _ _ _ _, fun k => rfl, fun k => by simp [has, isEnd, spansTo]⟩, (Below.refl _ _).alloc (Nat.le_refl _) _⟩
  case round =>
    obtain ⟨k, n, D, hk, hn, rfl, HM, HB⟩ := hrel
    by_cases hlt : k < fs.length
    · have hlt2 : k < ss.length := by omega
      obtain ⟨b, off, rfl, hblt, q0, q1, q2, av, cv, q3, hv⟩ := HC.out k hlt
      obtain ⟨b', off', rfl, hblt', t0⟩ := HC'.out k hlt2
      have e0 := cell_later HB.out q0
      have e1 := cell_later HB.out q1
      have e2 := cell_later HB.out q2
      have e3 := cell_later HB.out q3
      have s0 := cell_later HB.out t0
      have T0 := hide t0
      have hbw1 : b < wr.heap.size := Nat.lt_of_lt_of_le hblt HB.out.size
      have hbw2 : b' < wr.heap.size := Nat.lt_of_lt_of_le hblt' HB.out.size
      clear q0 q1 q2 q3 t0
      obtain ⟨z0, z1⟩ := HSB.out k hlt2
      obtain ⟨hbd, _, _, hvl0, hvl1⟩ := HFB.out k hlt
      have HSP : Hid (spansTo fs ss sec (k + 1) = spansTo fs ss sec k ++ (if 0 ≤ ss[k] then spanV fs[k].2.2.2 ss[k] sec fs[k].2.2.2.length else [])) := by
        show _ = _
        rw [spansTo_succ]
        unfold spansOne
        rw [getD_at fs k _ hlt, getD_at ss k _ hlt2]
      have HV := hide hv
      have HBD := hide hbd
      clear hv hbd
      generalize fs[k] = c at e0 e1 e2 e3 HV HBD hvl0 hvl1 HSP
      generalize ss[k] = z at s0 T0 z0 z1 HSP
      have hspl := spansTo_len HFB.out (ss := ss) (sec := sec) k hk
      generalize spansTo fs ss sec k = sp at HM HSP hspl
      have k0 : (0 : Int) ≤ (k : Int) := by omega
      have k1 : (k : Int) < (fs.length : Int) := by omega
      have k2 : (k : Int) < (ss.length : Int) := by omega
      by_cases hz : 0 ≤ z
      · have hz2 : (z == -1) = false := beq_eq_false_iff_ne.2 (by omega)
        rw [if_pos hz] at HSP
        go_wp2
        go_loopw [29] (fun i wi => ∃ (j m : Nat) (D' : DataW Unit), j ≤ c.2.2.2.length ∧ m ≤ 10 * k + 2 * j ∧ i = .int .i64 j ∧ Hid (Chg wi w.heap.size m D' (dAt (sp ++ spanV c.2.2.2 z sec j)) (isEnd (sp ++ spanV c.2.2.2 z sec j))) ∧ Hid (Below w.heap.size w wi)) (fun i _ => c.2.2.2.length - (intOf i).toNat)
        case atStart => exact ⟨0, n, D, Nat.zero_le _, by omega, rfl, by show Chg _ _ _ _ _ _; rw [spanV_zero, List.append_nil]; exact HM.out.later ((Below.refl _ _).alloc (Nat.le_refl _) _), HB.out.alloc HB.out.size _⟩
        case round =>
          obtain ⟨j, m, D', hj, hm, rfl, HMi, HBi⟩ := hrel
          by_cases hjl : j < c.2.2.2.length
          · obtain ⟨bv, ov, rfl, hbv, v0, v1, v2⟩ := HV.out.later HBi.out j hjl
            obtain ⟨⟨a0, a1⟩, a2, a3⟩ := HBD.out _ (List.getElem_mem hjl)
            have s1 := cell_later HBi.out T0.out
            have HYES : Hid ((c.2.2.2[j].1.toList == sec.toList) = true → sp ++ spanV c.2.2.2 z sec (j + 1) = (sp ++ spanV c.2.2.2 z sec j) ++ [(z + c.2.2.2[j].2.1, z + c.2.2.2[j].2.1 + c.2.2.2[j].2.2)]) := fun h => by rw [spanV_yes hjl h, List.append_assoc]
            have HNO : Hid ((c.2.2.2[j].1.toList == sec.toList) = false → sp ++ spanV c.2.2.2 z sec (j + 1) = sp ++ spanV c.2.2.2 z sec j) := fun h => by rw [spanV_no hjl h]
            generalize c.2.2.2[j] = v at v0 v1 v2 a0 a1 a2 a3 HYES HNO
            have HLEN : Hid (((sp ++ spanV c.2.2.2 z sec j).length : Int) ≤ 1000) := by
              show (_ : Int) ≤ _
              have := spanV_len c.2.2.2 z sec j
              rw [List.length_append]
              omega
            generalize sp ++ spanV c.2.2.2 z sec j = sp2 at HMi HYES HNO HLEN
            clear HM HB e0 e1 e2 e3 s0
            cases hq : (v.1.toList == sec.toList)
            · have HN := hide (HNO.out hq)
              clear HYES HNO
              go_wp2
              go_roundw
              case rel => exact ⟨j + 1, m, D', by omega, by omega, by go_num, by show Chg _ _ _ _ _ _; rw [HN.out]; exact HMi.out.later ((Below.refl _ _).alloc (Nat.le_refl _) _), HBi.out.alloc HBi.out.size _⟩
              case measure => simp [intOf]; omega
            · have HY := hide (HYES.out hq)
              clear HYES HNO
              go_wp2
              obtain ⟨W, hW, x0, x1, x2, hWb⟩ := alloc3 wr (.string v.1) (.int .i64 v.2.1) (.int .i64 v.2.2) 52
              rw [hW]
              have y1 := grow_cell x1
              have ys := grow_cell (cell_later hWb s1)
              have X2 := hide x2
              have hlt3 : wr.heap.size < W.heap.size := World.block_lt_of_cell? W ⟨wr.heap.size, 2, none⟩ x2
              have hB0 : w.heap.size ≤ wr.heap.size := HBi.out.size
              have hBlt : w.heap.size < wr.heap.size := HMi.out.1.lt
              have hne := grow_some W
              clear hW x0 x1 x2 s1 v0 v1 v2
              refine wp_region_grow (by kernel_rfl) (by kernel_rfl) ?_
              repeat (go_big_quiet_step (fail))
              refine wpQuiet_nil ?_
              intro _ hw'
              obtain ⟨u, hw''⟩ := hw'
              subst hw''
              have HM2 := hide ((HMi.out.later hWb).later u.below)
              have HB2 := hide (below_two (below_two HBi.out hWb) u.below)
              have x2 := grow_cell X2.out u
              have hd1 := dAt_bd sp2 (z + v.2.1)
              have hd2 := dAt_bd sp2 (z + v.2.1 + v.2.2)
              have hsl : (sp2.length : Int) ≤ 1000 := HLEN.out
              clear y1 ys HMi HBi
              have tok1 : True := trivial
              have tok2 : True := trivial
              have tok3 : True := trivial
              have tok4 : True := trivial
              go_wp2_with (first
                | (at_lookup; have _t := tok1; refine wpList_lookup_own_int _ rfl _ _ 73 rfl 3 3 .i64 law_int Tryz.underlying73 Tryz.underlying3 (zero_int _) w.heap.size m D' rfl HM2.out.1 _ _ rfl (keyOf_int_mk Tryz.underlying3 (WalkArith.wf_i64 (by omega))) ?_; intro c1 hat1 hwc1; obtain rfl := chg_at HM2.out hat1; clear tok1 hat1 hwc1)
                | (at_mapUpdate; have _t := tok2; refine wpList_mapUpdate_own _ rfl _ _ _ 73 rfl 3 3 law_int Tryz.underlying73 _ w.heap.size m D' rfl HM2.out.1 (by unfold maxLen; omega) _ _ _ rfl rfl (keyOf_int_mk Tryz.underlying3 (WalkArith.wf_i64 (by omega))) _ [] (plainElem_int Tryz.underlying3 (WalkArith.wf_i64 (by omega))) ?_; intro w3 hown3 hgrow3; have HM3 := hide (chg_put HM2.out hown3); have x3 := cell_grown hgrow3 x2 (by simp; omega); have HB3 := hide (HB2.out.grown hgrow3 HB2.out.size (fun q hq => by cases hq; exact Nat.le_refl _)); clear tok2 hown3 hgrow3)
                | (at_lookup; have _t := tok3; refine wpList_lookup_own_int _ rfl _ _ 73 rfl 3 3 .i64 law_int Tryz.underlying73 Tryz.underlying3 (zero_int _) w.heap.size (m + 1) _ rfl HM3.out.1 _ _ rfl (keyOf_int_mk Tryz.underlying3 (WalkArith.wf_i64 (by omega))) ?_; intro c2 hat2 hwc2; obtain rfl := (chg_at HM3.out hat2).trans (if_neg (by omega)); clear tok3 hat2 hwc2)
                | (at_mapUpdate; have _t := tok4; refine wpList_mapUpdate_own _ rfl _ _ _ 73 rfl 3 3 law_int Tryz.underlying73 _ w.heap.size (m + 1) _ rfl HM3.out.1 (by unfold maxLen; omega) _ _ _ rfl rfl (keyOf_int_mk Tryz.underlying3 (WalkArith.wf_i64 (by omega))) _ [] (plainElem_int Tryz.underlying3 (WalkArith.wf_i64 (by omega))) ?_; intro w5 hown5 hgrow5; have HM5 := hide (chg_put HM3.out hown5); have HB5 := hide (HB3.out.grown hgrow5 HB3.out.size (fun q hq => by cases hq; exact Nat.le_refl _)); clear tok4 hown5 hgrow5))
              go_roundw
              case rel => exact ⟨j + 1, m + 1 + 1, _, by omega, by omega, by go_num, by show Chg _ _ _ _ _ _; rw [HY.out]; exact chg_span (by omega) HM5.out, HB5.out⟩
              case measure => simp [intOf]; omega
          · have : j = c.2.2.2.length := by omega
            subst this
            have HN := hide HSP.out
            go_wp2
            go_roundw
            case rel => exact ⟨k + 1, m, D', by omega, by omega, by go_num, by show Chg _ _ _ _ _ _; rw [HN.out]; exact HMi.out, HBi.out⟩
            case measure => simp [intOf]; omega
      · have hz1 : z = -1 := by omega
        have HN : Hid (spansTo fs ss sec (k + 1) = sp) := by show _ = _; rw [HSP.out, if_neg hz, List.append_nil]
        clear HSP hz
        subst hz1
        go_wp2
        go_roundw
        case rel => exact ⟨k + 1, n, D, by omega, by omega, by go_num, by show Chg _ _ _ _ _ _; rw [HN.out]; exact HM.out.later ((Below.refl _ _).alloc (Nat.le_refl _) _), HB.out.alloc HB.out.size _⟩
        case measure => simp [intOf]; omega
    · go_wp2
      go_ret
      have : k = fs.length := by omega
      subst this
      exact ⟨rfl, ⟨n, D, by omega, HM.out⟩, HB.out⟩

end Go.Proofs.YtciacofibljmoaaGreat
