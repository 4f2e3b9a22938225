/- The least slot: the program's own way, walked. -/
import Derived.Test.YtciacofibljmoaaGreatDoorLeast
import Derived.RangeFuncFrom
namespace Go.Proofs.YtciacofibljmoaaGreatDoor
open Go.RowKit Go.Shelf Go.Maps

attribute [local go_sem] Oper.semAt_some

theorem free_stops (m : Nat) (Bf Bg Bx B n : Nat) (D : DataW Value) (F : ByteArray → List Run) (f : Fli) (av : Option Addr) (cv : Nat) (w : World) (h : FreeIn w Bf Bg Bx B n D F f av cv)
    (hl : f.2.2.2.length ≤ 5) (hbd : VisBd f.2.2.2) (hvs : ∀ v ∈ f.2.2.2, v.1.size ≤ maxLen) (hF : ∀ s, ∀ r ∈ F s, (0 ≤ r.1 ∧ r.1 ≤ 20001) ∧ 0 ≤ r.2.1 ∧ r.2.1 ≤ 20001) (hFl : ∀ s, (F s).length ≤ 1048576) (hp : 0 ≤ f.2.1 ∧ f.2.1 ≤ 10000) (hq : 0 ≤ f.2.2.1 ∧ f.2.2.1 ≤ 60) :
    SeqStopsK Fence.wide m Tryz.prog 69 #[.pointer (some ⟨Bf, 0, none⟩), .pointer (some ⟨Bg, 0, none⟩)] (fun x : Int => #[Value.int .i64 x]) (Below w.heap.size) (allCame F f) (oneCame F f) 62 w := fun l J Jx W hW hJ _ hY h0 =>
  free1_in l m Bf Bg Bx B n D F f av cv J Jx w W hW h hl hbd hvs hF hFl hp hq hJ hY h0

set_option maxHeartbeats 800000 in
theorem freeSlots_any (f : Fli) (av : Option Addr) (cv : Nat) (v : Value) (hv : v.oneCell' = true) (w : World) :
    Calls Tryz.prog 48 #[.agg #[.string f.1, .int .i64 f.2.1, .int .i64 f.2.2.1, .slice av f.2.2.2.length cv], v] w fun e w' => e = .returned (.func (.func 69) #[] #[.pointer (some ⟨w.heap.size, 0, none⟩), .pointer (some ⟨w.heap.size + 1, 0, none⟩)]) ∧
      w' = (w.alloc (.cells #[.string f.1, .int .i64 f.2.1, .int .i64 f.2.2.1, .slice av f.2.2.2.length cv] 32)).alloc (.cells #[v] 94) := by
  go_enter Tryz.func48, Tryz.ntmps48
  go_wp2
  go_ret
  exact ⟨rfl, rfl⟩

set_option maxRecDepth 100000 in
set_option maxHeartbeats 1600000 in
theorem clone_any (a' : Option Addr) (cap' : Nat) (ss : List Int) (w : World) (hc' : IntsIn w a' ss) (h1 : 1 ≤ ss.length) (hl : ss.length ≤ 1048576) :
    Calls Tryz.prog 47 #[.slice a' ss.length cap'] w fun e w' => ∃ g c, e = .returned (.slice (some ⟨g, 0, none⟩) ss.length c) ∧ OwnI w' w.heap.size (.slice (some ⟨g, 0, none⟩) ss.length c) ss ∧ w.heap.size ≤ g ∧ Below w.heap.size w w' := by
  obtain ⟨i0, hi, iz0, iz1, iz2⟩ := info_parts info_int
  have Bz := hide ((Below.refl w.heap.size w).alloc (Nat.le_refl _) (.cells #[] 3))
  obtain ⟨b, off, rfl, hblt, hnews⟩ := ints_news (hc'.later Bz.out) h1
  have HN := hide hnews
  have q22 : ∀ (w : World) (a : Option Addr) (n c n' c' : Nat), (binOp .eql 27 (.slice a n c) (.slice none n' c')).run Tryz.prog w = .ok (.bool a.isNone) w := fun w a n c n' c' => Lib.run_eql_slice_nil w _ _ a n c n' c' Tryz.underlying27
  clear hc' hnews
  go_enter Tryz.func47, Tryz.ntmps47
  go_wp2_with (first
    | (at_builtin; refine wpList_append_lies _ rfl _ _ 27 rfl w.heap.size 3 i0 (.int .i64 0) 1 8 Tryz.underlying27 hi iz0 iz1 iz2 rfl (by decide) _ 0 [] rfl (own_emptyI w) ⟨b, off, none⟩ ss.length cap' (intVals ss) rfl (intVals_len ss) (fun j u hj => HN.out j u hj) (intVals_one ss) (by omega) (by unfold maxLen; omega) (by omega) (by simp) (w.heap.size + 1) (by simp) ?_; intro g cp X hownE hgrowE hatE hltE; have OX := hide hownE; have GX := hide hgrowE; clear hownE hgrowE hatE hltE))
  go_ret
  refine ⟨g, cp, by simp, ?_, (OX.out.lt g rfl).1, below_grow (a := w) (w := w) (Nat.le_refl _) GX.out (fun q hq => by have he2 : some w.heap.size = some q := hq; simp at he2; omega)⟩
  show World.ownsRow _ _ _ _ _ _ _
  simpa using OX.out

/-- What is full is bounded. -/
theorem stepS_len (n : Int → Int) (out : List Run) (t : Int) : (stepS n out t).length ≤ out.length + 1 := by
  by_cases h0 : n t = 0
  · unfold stepS; rw [if_pos h0]; omega
  · rcases List.eq_nil_or_concat out with rfl | ⟨runs, r, rfl⟩
    · rw [stepS_new h0 (by simp)]; simp
    · rw [List.concat_eq_append]
      by_cases h : r.2.1 = t - 1 ∧ r.2.2 = n t
      · obtain ⟨fr, T, ld⟩ := r
        rw [stepS_same h0 h.1 h.2]; simp only [List.length_append, List.length_cons, List.length_nil]; omega
      · rw [stepS_new h0 (fun r' hr' => by simp at hr'; subst hr'; exact h)]; simp
theorem fold_len (n : Int → Int) : ∀ (l : List Int) (out : List Run), (l.foldl (stepS n) out).length ≤ out.length + l.length
  | [], out => by simp
  | t :: l, out => by
    have h1 := fold_len n l (stepS n out t)
    have h2 := stepS_len n out t
    simp only [List.foldl_cons, List.length_cons]
    omega
theorem runsL_len (fs : List Fli) (ss : List Int) (sec : ByteArray) : (runsL fs ss sec).length ≤ 20001 := by
  have h := fold_len (fun t => (loadTo fs ss sec t fs.length : Nat)) (ticks 0 20001) []
  have e : (ticks 0 20001).length = 20001 := by unfold ticks; rw [List.length_map, List.length_range]
  rw [e] at h
  exact h
theorem fullV_len (cap : Int) (rs : List Run) (h : rs.length ≤ 20001) : (fullV cap rs).length ≤ 20001 := by
  unfold fullV
  by_cases h0 : cap = 0
  · rw [if_pos h0]; simp
  · rw [if_neg h0]; exact Nat.le_trans (List.length_filter_le _ _) h
theorem taken_len (cs : List (ByteArray × Int)) (fs : List Fli) (ss : List Int) (s : ByteArray) : ∀ k, (takenTo cs fs ss s k).length ≤ 20001
  | 0 => by simp [takenTo]
  | k + 1 => by
    unfold takenTo
    by_cases h : (cs.getD k (ByteArray.empty, 0)).1.toList = s.toList
    · rw [if_pos h]; exact fullV_len _ _ (runsL_len _ _ _)
    · rw [if_neg h]; exact taken_len cs fs ss s k
theorem taken_bd (cs : List (ByteArray × Int)) (fs : List Fli) (ss : List Int) (s : ByteArray) : ∀ k, ∀ r ∈ takenTo cs fs ss s k, (0 ≤ r.1 ∧ r.1 ≤ 20001) ∧ 0 ≤ r.2.1 ∧ r.2.1 ≤ 20001
  | 0, r, hr => by simp [takenTo] at hr
  | k + 1, r, hr => by
    unfold takenTo at hr
    by_cases h : (cs.getD k (ByteArray.empty, 0)).1.toList = s.toList
    · rw [if_pos h] at hr
      unfold capRuns fullV at hr
      by_cases h0 : (cs.getD k (ByteArray.empty, 0)).2 = 0
      · rw [if_pos h0] at hr
        have : r = (0, 10290, 0) := by simpa using hr
        subst this
        simp
      · rw [if_neg h0] at hr
        obtain ⟨i, hi, rfl⟩ := List.getElem_of_mem (List.mem_filter.1 hr).1
        obtain ⟨g1, g2, g3, _, _⟩ := (good_runs fs ss (cs.getD k (ByteArray.empty, 0)).1).1 i hi
        omega
    · rw [if_neg h] at hr
      exact taken_bd cs fs ss s k r hr

theorem takenBy_at (ac a a' : Option Addr) (capc cap cap' : Nat) (cs : List (ByteArray × Int)) (fs : List Fli) (ss : List Int) (n : Nat) (hn : ss.length = n) (w : World) (hcc : CapsIn w ac cs) (hc : FlightsIn w a fs) (hc' : IntsIn w a' ss) (hok : slotsB fs ss = true) (hlc : cs.length ≤ 6) (hsc : ∀ c ∈ cs, c.1.size ≤ maxLen) :
    Calls Tryz.prog 49 #[.slice ac cs.length capc, .slice a fs.length cap, .slice a' n cap'] w fun e w' => e = .returned (.func (.func 71) #[] #[.pointer (some ⟨w.heap.size + 1, 0, none⟩)]) ∧ w'.cell? ⟨w.heap.size + 1, 0, none⟩ = some (.map (some w.heap.size)) ∧ (∃ n D, Taken w' w.heap.size n D (fun s => takenTo cs fs ss s cs.length)) ∧ Below w.heap.size w w' := by
  subst hn
  exact takenBy_any ac a a' capc cap cap' cs fs ss w hcc hc hc' hok hlc hsc

set_option maxRecDepth 100000 in
set_option maxHeartbeats 6400000 in
theorem implLeast_ok (ac a a' : Option Addr) (capc cap cap' : Nat) (cs : List (ByteArray × Int)) (fs : List Fli) (ss : List Int) (i : Nat) (w : World) (hcc : CapsIn w ac cs) (hc : FlightsIn w a fs) (hc' : IntsIn w a' ss) (hlc : cs.length ≤ 1048576) (hl : fs.length ≤ 1048576) (hl' : ss.length ≤ 1048576)
    (hsc : ∀ c ∈ cs, c.1.size ≤ maxLen) (hvl : ∀ f ∈ fs, f.2.2.2.length ≤ 1048576) (hs : ∀ f ∈ fs, SizesOk f) (hfit : fitsB cs fs ss = true) (hi : i < fs.length) :
    Calls Tryz.prog 31 #[.slice ac cs.length capc, .slice a fs.length cap, .slice a' ss.length cap', .int .i64 (i : Nat)] w fun e w' => e = .returned (.int .i64 (leastV cs fs ss i)) ∧ Below w.heap.size w w' := by
  have HCC := hide hcc
  have HC := hide hc
  have HC' := hide hc'
  have HSC := hide hsc
  have HVL := hide hvl
  have HS := hide hs
  have HFIT := hide hfit
  have HFF : Hid (capsB cs = true ∧ slotsB fs ss = true) := by
    have := hfit
    unfold fitsB at this
    simp only [Bool.and_eq_true] at this
    exact ⟨this.1.1.1, this.1.1.2⟩
  clear hcc hc hc' hsc hvl hs hfit
  have hlen : ss.length = fs.length := (slots_bd HFF.out.2).1
  have HLEN := hide hlen
  have h1s : 1 ≤ ss.length := by omega
  clear hlen
  have HIN : Hid (inB (i : Nat) 0 ((fs.length : Int) - 1) = true) := inB_iff.2 (by omega)
  obtain ⟨wA, hA⟩ : ∃ wA, w.alloc (.cells #[.int .i64 0] 3) = wA := ⟨_, rfl⟩
  have HRC : Hid (wA.cell? ⟨w.heap.size, 0, none⟩ = some (.int .i64 0) ∧ wA.frozen? ⟨w.heap.size, 0, none⟩ = false) := by rw [← hA]; exact ⟨by simp, by simp⟩
  have hAs : wA.heap.size = w.heap.size + 1 := by rw [← hA]; simp
  have HBA : Hid (Below w.heap.size w wA) := by rw [← hA]; exact (Below.refl _ _).alloc (Nat.le_refl _) _
  have HA := hide hA
  clear hA
  refine (callsIn_wide (n := 9)).1 ?_
  refine callsIn_of_wp_marks Tryz.func31 rfl trivial ?_ rfl
  simp only [Tryz.ntmps31, List.size_toArray, List.length_cons, List.length_nil, Nat.reduceAdd, Nat.reduceSub, Array.replicate_succ, Array.replicate_zero, List.push_toArray, List.append_toArray, List.nil_append, List.cons_append]
  refine wpIn_wide.2 ?_
  go_wp2_with fail
  rw [HA.out]
  refine (within_val _ _ _ true HIN.out _).mono ?_
  rintro e w1 ⟨rfl, hw1⟩
  rw [hw1]
  clear hw1 w1
  go_wp2_with fail
  have hfits := implFits_any ac a a' capc cap cap' cs fs ss wA (HCC.out.later HBA.out) (HC.out.later HBA.out) (HC'.out.later HBA.out) hlc hl hl' HSC.out HVL.out HS.out
  rw [HFIT.out] at hfits
  refine hfits.mono ?_
  clear hfits
  rintro e w2 ⟨rfl, hb2⟩
  have HB2 := hide (HBA.out.trans (hb2.mono (by omega)))
  have HA2 := hide hb2
  clear hb2
  go_wp2_with fail
  refine (clone_any a' cap' ss w2 (HC'.out.later HB2.out) h1s hl').mono ?_
  rintro e w3 ⟨g, c, rfl, hown3, hg3, hb3⟩
  have HO3 := hide hown3
  have HA3 := hide (below_two HA2.out hb3)
  have HB3 := hide (below_two HB2.out hb3)
  have h2A : wA.heap.size ≤ w2.heap.size := HA2.out.size
  clear hown3 hb3
  have his : i < ss.length := by have := HLEN.out; omega
  obtain ⟨x0, z0⟩ := own_cellI HO3.out (k := i) his
  have i0' : (0 : Int) ≤ (i : Int) := by omega
  have i1' : (i : Int) < (fs.length : Int) := by omega
  have i2' : (i : Int) < (ss.length : Int) := by have := HLEN.out; omega
  go_wp2
  have HOS : Hid (OwnI (w3.setCell ⟨g, i, none⟩ (.int .i64 (-1))) w2.heap.size (.slice (some ⟨g, 0, none⟩) ss.length c) (ss.set i (-1))) := own_setI HO3.out (k := i) (-1)
  have HB4 := hide (below_set HB3.out g i (by omega) (.int .i64 (-1)))
  have HA4 := hide (below_set HA3.out g i (by omega) (.int .i64 (-1)))
  have HS4 := hide (slots_set (i := i) (t := -1) HFF.out.2 (by omega) (by omega))
  have hlc6 := (caps_bd HFF.out.1).1
  have HL4 : Hid ((ss.set i (-1)).length = ss.length) := List.length_set
  clear x0 z0 HO3
  generalize w3.setCell ⟨g, i, none⟩ (.int .i64 (-1)) = w4 at *
  have HI4 := hide (ints_of HOS.out)
  clear HOS HB3 HA3
  obtain ⟨hbd, ⟨hp0, hp1⟩, ⟨hq0, hq1⟩, hv1, hv5⟩ := (slots_bd HFF.out.2).2.2.2 i hi
  have HBD := hide hbd
  have HVS : Hid (∀ v ∈ fs[i].2.2.2, v.1.size ≤ maxLen) := (HS.out _ (List.getElem_mem hi)).2.2
  have HIS : Hid (∀ t, fs[i].2.1 ≤ t → t ≤ fs[i].2.1 + fs[i].2.2.1 → FreeF (fun s => takenTo cs fs (ss.set i (-1)) s cs.length) fs[i].2.2.2 t → (∀ u, fs[i].2.1 ≤ u → u < t → ¬ FreeF (fun s => takenTo cs fs (ss.set i (-1)) s cs.length) fs[i].2.2.2 u) → leastV cs fs ss i = t) := fun t h0 h1 hf hn => least_is HFIT.out hi h0 h1 hf hn
  have HNOT : Hid ((∀ u, fs[i].2.1 ≤ u → u ≤ fs[i].2.1 + fs[i].2.2.1 → ¬ FreeF (fun s => takenTo cs fs (ss.set i (-1)) s cs.length) fs[i].2.2.2 u) → leastV cs fs ss i = -1) := fun hn => least_not HFIT.out hi hn
  have HTL : Hid (∀ s, (takenTo cs fs (ss.set i (-1)) s cs.length).length ≤ 1048576) := fun s => Nat.le_trans (taken_len cs fs (ss.set i (-1)) s cs.length) (by omega)
  have HTB : Hid (∀ s, ∀ r ∈ takenTo cs fs (ss.set i (-1)) s cs.length, (0 ≤ r.1 ∧ r.1 ≤ 20001) ∧ 0 ≤ r.2.1 ∧ r.2.1 ≤ 20001) := fun s => taken_bd cs fs (ss.set i (-1)) s cs.length
  obtain ⟨fb, foff, rfl, hfb, c0, c1, c2, av, cv, c3, hv⟩ := HC.out.later HB4.out i hi
  have HV := hide hv
  clear hbd hv
  generalize fs[i] = f at c0 c1 c2 c3 HV HBD HVS HIS HNOT hp0 hp1 hq0 hq1 hv1 hv5
  have tok1 : True := trivial
  refine wp_region_noPanic ?_
  go_region_held3 (fun w' => w'.cell? ⟨fb, foff + i * 4, none⟩ = some (.string f.1) ∧ w'.cell? ⟨fb, foff + i * 4 + 1, none⟩ = some (.int .i64 f.2.1) ∧ w'.cell? ⟨fb, foff + i * 4 + 2, none⟩ = some (.int .i64 f.2.2.1) ∧ w'.cell? ⟨fb, foff + i * 4 + 3, none⟩ = some (.slice av f.2.2.2.length cv))
    (first | exact ⟨c0, c1, c2, c3⟩ | exact ⟨d0, d1, d2, d3⟩ | exact ⟨e0, e1, e2, e3⟩ | (fail))
    (first
      | (go_at_call 49; have _t := tok1; refine (takenBy_at _ _ _ _ _ _ cs fs (ss.set i (-1)) ss.length HL4.out _ (HCC.out.later HB4.out.drew) (HC.out.later HB4.out.drew) HI4.out HS4.out hlc6 HSC.out).mono ?_; rintro e w5 ⟨rfl, hx5, ht5, hb5⟩; have hb45 := (Below.refl w4.heap.size w4).drew.trans hb5; have d0 := cell_later hb45 c0; have d1 := cell_later hb45 c1; have d2 := cell_later hb45 c2; have d3 := cell_later hb45 c3; have HX5 := hide hx5; have HT5 := hide ht5; have HB45 := hide hb45; clear hx5 ht5 hb5 hb45 tok1)
      | (go_at_call 48; refine (freeSlots_any f av cv _ rfl _).mono ?_; rintro e w6 ⟨rfl, hw6⟩; have hb56 : Below w5.heap.size w5 w6 := (by rw [hw6]; exact ((Below.refl _ _).alloc (Nat.le_refl _) _).alloc (by simp) _); have e0 := cell_later hb56 d0; have e1 := cell_later hb56 d1; have e2 := cell_later hb56 d2; have e3 := cell_later hb56 d3; have HW6 := hide hw6; have HB56 := hide hb56; clear hw6 hb56)
      | (fail))
  rename_i hH
  clear hH
  refine NoPanic.normal ?_
  obtain ⟨n, D, hT5⟩ := HT5.out
  have HFI : Hid (FreeIn w6 w5.heap.size (w5.heap.size + 1) (w4.heap.size + 1) w4.heap.size n D (fun s => takenTo cs fs (ss.set i (-1)) s cs.length) f av cv) := by
    refine ⟨⟨?_, ?_, ?_, ?_⟩, (HV.out.later HB45.out).later HB56.out, ?_, cell_later HB56.out HX5.out, hT5.later HB56.out⟩
    · rw [HW6.out]; simp
    · rw [HW6.out]; simp
    · rw [HW6.out]; simp
    · rw [HW6.out]; simp
    · rw [HW6.out]; simp
  have HB6 := hide (below_two (below_two HB4.out HB45.out) HB56.out)
  have HA6 := hide (below_two (below_two HA4.out HB45.out) HB56.out)
  have HR6 : Hid (w6.cell? ⟨w.heap.size, 0, none⟩ = some (.int .i64 0) ∧ w6.frozen? ⟨w.heap.size, 0, none⟩ = false) := by
    have hb : w6.heap[w.heap.size]? = wA.heap[w.heap.size]? := HA6.out.block _ (by omega)
    refine ⟨cell_later HA6.out HRC.out.1, ?_⟩
    have := HRC.out.2
    rw [World.frozen?] at this ⊢
    rw [hb]
    exact this
  clear hT5 HT5 HX5 HW6 HB45 HB56 d0 d1 d2 d3 e0 e1 e2 e3 c0 c1 c2 c3 HV HB4 HA4
  have hs6 : w.heap.size ≤ w6.heap.size := HB6.out.size
  go_wp2
  refine (wpIn_wide (n := 9)).1 ?_
  refine wpIn_rangeFunc_ownF (F := Fence.wide) rfl (by omega) (gf := 69) (lb := #[.pointer (some ⟨w5.heap.size, 0, none⟩), .pointer (some ⟨w5.heap.size + 1, 0, none⟩)]) rfl trivial (enters_of Tryz.func69 (by kernel_rfl) rfl)
    (free_stops 8 _ _ _ _ n D _ f av cv w6 HFI.out hv5 HBD.out HVS.out HTB.out HTL.out ⟨hp0, hp1⟩ ⟨hq0, hq1⟩) belowK_t (belowK_b (Nat.le_refl _)) (Below.refl _ _) (fun _ => rfl)
    (fun pre W => (pre = [] ∧ W.cell? ⟨w.heap.size, 0, none⟩ = some (.int .i64 0) ∧ W.frozen? ⟨w.heap.size, 0, none⟩ = false) ∧ Below w.heap.size w W)
    (fun c pre W => (∃ x, pre = [x] ∧ c = .ret ∧ W.cell? ⟨w.heap.size, 0, none⟩ = some (.int .i64 x)) ∧ Below w.heap.size w W)
    (OwnFrom.and (Own.from (fun s A B row hs hg hr => ⟨hs.1, cell_kept hs.2.1 hg hr, (frozen_kept hs.2.1 hg hr).trans hs.2.2⟩) _) (ownFrom_below (Nat.le_refl _) hs6))
    (fun c => OwnFrom.and (Own.from (fun s A B row hs hg hr => by obtain ⟨x, h1, h2, h3⟩ := hs; exact ⟨x, h1, h2, cell_kept h3 hg hr⟩) _) (ownFrom_below (Nat.le_refl _) hs6))
    ⟨⟨rfl, HR6.out.1, HR6.out.2⟩, HB6.out⟩
    (fun x => { tmps := #[.slice ac cs.length capc, .slice (some ⟨fb, foff, none⟩) fs.length cap, .slice a' ss.length cap', .int .i64 (i : Nat), undef, undef, undef, undef, .pointer (some ⟨w.heap.size, 0, none⟩), .slice (some ⟨g, 0, none⟩) ss.length c, .int .i64 x, .int .i64 (i : Nat), .slice (some ⟨fb, foff, none⟩) fs.length cap, .int .i64 (fs.length : Nat), .int .i64 ((fs.length : Int) - 1), .bool true, .bool false, .bool false, .slice ac cs.length capc, .slice (some ⟨fb, foff, none⟩) fs.length cap, .slice a' ss.length cap', .bool true, .bool false, .bool false, .slice a' ss.length cap', .slice (some ⟨g, 0, none⟩) ss.length c, .slice (some ⟨g, 0, none⟩) ss.length c, .int .i64 (i : Nat), .pointer (some ⟨g, i, none⟩), .slice (some ⟨fb, foff, none⟩) fs.length cap, .int .i64 (i : Nat), .pointer (some ⟨fb, foff + i * 4, none⟩), .agg #[.string f.1, .int .i64 f.2.1, .int .i64 f.2.2.1, .slice av f.2.2.2.length cv], .slice ac cs.length capc, .slice (some ⟨fb, foff, none⟩) fs.length cap, .slice (some ⟨g, 0, none⟩) ss.length c, .func (.func 71) #[] #[.pointer (some ⟨w4.heap.size + 1, 0, none⟩)], .func (.func 69) #[] #[.pointer (some ⟨w5.heap.size, 0, none⟩), .pointer (some ⟨w5.heap.size + 1, 0, none⟩)], .int .i64 x, undef], defers := [] }) ?assign ?body ?done ?stop
  case assign =>
    intro l x W K hK
    gi_wp2
    exact hK
  case body =>
    rintro l pre x W ⟨⟨rfl, hc, hf⟩, hB⟩ _
    gi_wp2
    exact ⟨KeepsOthers.setCell _ _ _, ⟨x, rfl, rfl, World.cell?_setCell_same' _ _ _ (by rw [hc]; rfl)⟩, hB.setCell (p := ⟨w.heap.size, 0, none⟩) (Nat.le_refl _) _⟩
  case done =>
    rintro E xs W hD hS ⟨⟨rfl, hcr, hfr⟩, hB⟩ hK
    have HL := hide (HNOT.out (hS rfl))
    clear hS
    go_wp2
    have hK' := (KeepsOthers.setCell W ⟨w.heap.size, 0, none⟩ (.int .i64 (-1))).same E _ hK rfl
    refine ⟨by simp, .inl ⟨_, _, rfl, run_takeDeferred hK', ?_⟩⟩
    have hc5 := cell_kept (World.cell?_setCell_same' W ⟨w.heap.size, 0, none⟩ (.int .i64 (-1)) (by rw [hcr]; rfl)) (grownBy_putObj' _ E (.deferred none)) (fun r e => by cases e; exact ⟨_, hK', rfl⟩)
    refine ⟨.int .i64 (-1), ?_, by rw [HL.out], (hB.setCell (p := ⟨w.heap.size, 0, none⟩) (Nat.le_refl _) _).trans (belowK_b (w := w) (Nat.le_refl _) _ E _ _ (by omega) hK' rfl rfl)⟩
    simp [results, Tryz.results31, go_sem, hc5]
  case stop =>
    rintro E c pre W hD hpre ⟨⟨x, rfl, rfl, hcr⟩, hB⟩ hK
    obtain ⟨p1, p2, p3, p4⟩ := hpre x rfl
    have HL := hide (HIS.out x p1 p2 p3 p4)
    gi_wp2
    refine ⟨by simp, .inl ⟨_, _, rfl, run_takeDeferred hK, ?_⟩⟩
    have hc5 := cell_kept hcr (grownBy_putObj' _ E (.deferred none)) (fun r e => by cases e; exact ⟨_, hK, rfl⟩)
    refine ⟨.int .i64 x, ?_, by rw [HL.out], hB.trans (belowK_b (w := w) (Nat.le_refl _) W E _ _ (by omega) hK rfl rfl)⟩
    simp [results, Tryz.results31, go_sem, hc5]

end Go.Proofs.YtciacofibljmoaaGreatDoor
