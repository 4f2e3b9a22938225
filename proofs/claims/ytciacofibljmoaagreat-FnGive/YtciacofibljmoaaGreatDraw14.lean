/- Drawn slots. -/
import Derived.Test.YtciacofibljmoaaGreatDraw13
import Derived.Deep.RegionWith
namespace Go.Proofs.YtciacofibljmoaaGreat
open Go.RowKit

attribute [local go_sem ↓] Go.wp_at_zero Go.wp_at_succ

theorem giveV_len (cs : List (ByteArray × Int)) (fs : List Fli) : (giveV cs fs).length = fs.length ∨ (giveV cs fs).length = 0 := by
  unfold giveV
  split
  · exact .inl (giveTo_len cs fs _)
  · exact .inr rfl
theorem sm_sizes {gs : List FlV} (h : ∀ x ∈ gs, FlSm 6 x.1) : (∀ f ∈ gs.map Prod.fst, f.2.2.2.length ≤ 1048576) ∧ ∀ f ∈ gs.map Prod.fst, SizesOk f := by
  constructor
  · intro f hf
    obtain ⟨x, hx, rfl⟩ := List.mem_map.1 hf
    have := (h x hx).2.2.2.1
    omega
  · intro f hf
    obtain ⟨x, hx, rfl⟩ := List.mem_map.1 hf
    obtain ⟨h1, _, _, h2, h3⟩ := h x hx
    refine ⟨?_, ?_, fun v hv => ?_⟩
    · unfold maxLen; omega
    · unfold maxLen; omega
    · have := h3 v hv
      unfold maxLen; omega
theorem wrap_one (q : Int) (h0 : 0 ≤ q) (h1 : q ≤ 1000) : IntKind.i64.wrap (1 + q) = 1 + q := by
  simp [IntKind.wrap, IntKind.bits, IntKind.signed]
  omega
theorem caps_sizes {m : Nat} {cs : List (ByteArray × Int)} (h : CapsSm m cs) : ∀ c ∈ cs, c.1.size ≤ maxLen := fun c hc => by
  have := h.2 c hc
  unfold maxLen; omega

/-- The five that a slot is spoilt by. -/
def listOf (z : Int) : Obj := .cells #[.int .i64 (-1), .int .i64 (IntKind.i64.wrap (z + 1)), .int .i64 (IntKind.i64.wrap (z - 1)), .int .i64 (-2), .int .i64 10061] 3
theorem slots_fin {w X : World} {r N g n c : Nat} {zs : List Int} (hO : OwnI X w.heap.size (.slice (some ⟨g, 0, none⟩) n c) zs) (hR : Rd X r N) (hT : Touch r (r + 1) w X) (hrl : r < w.heap.size) (k : Nat) (z : Int) :
    OwnI (X.setCell ⟨g, k, none⟩ (.int .i64 z)) w.heap.size (.slice (some ⟨g, 0, none⟩) n c) (zs.set k z) ∧ Rd (X.setCell ⟨g, k, none⟩ (.int .i64 z)) r N ∧ Touch r (r + 1) w (X.setCell ⟨g, k, none⟩ (.int .i64 z)) := by
  have hg := (World.ownsRow.lt hO g rfl).1
  have hB := below_set (Below.refl w.heap.size X) g k hg (.int .i64 z)
  exact ⟨own_setI hO z, hR.below hB hrl, touch_then hT hB⟩
theorem slotP1 (r M g n c k base : Nat) (zs : List Int) (w W : World) (hr2 : r + 1 ≤ base) (hR : Rd W r M) (hO : OwnI W base (.slice (some ⟨g, 0, none⟩) n c) zs) (hT : Touch r (r + 1) w W) (hk : k < zs.length) (hrl : r < w.heap.size) (z0 : Int) (hM : M ≤ 1000000) (hb : base = w.heap.size) (hz0 : zs[k] = z0) :
    Calls Tryz.prog 55 #[.pointer (some ⟨r, 0, none⟩), .int .i64 5] W fun e w' => ∃ (j : Nat) (zl : Int), e = .returned (.int .i64 (j : Nat)) ∧ (0 : Int) ≤ (j : Int) ∧ (j : Int) < 5 ∧ (w'.alloc (listOf z0)).cell? ⟨w'.heap.size, j, none⟩ = some (.int .i64 zl) ∧ w'.cell? ⟨g, k, none⟩ = some (.int .i64 z0) ∧ w'.frozen? ⟨g, k, none⟩ = false ∧ (w'.alloc (listOf z0)).cell? ⟨g, k, none⟩ = some (.int .i64 z0) ∧ (w'.alloc (listOf z0)).frozen? ⟨g, k, none⟩ = false ∧
      Hid (OwnI ((w'.alloc (listOf z0)).setCell ⟨g, k, none⟩ (.int .i64 zl)) base (.slice (some ⟨g, 0, none⟩) n c) (zs.set k zl) ∧ Rd ((w'.alloc (listOf z0)).setCell ⟨g, k, none⟩ (.int .i64 zl)) r (M + 1) ∧ Touch r (r + 1) w ((w'.alloc (listOf z0)).setCell ⟨g, k, none⟩ (.int .i64 zl))) := by
  subst hb
  refine (pick_any r M 5 W hR hM (by omega)).mono ?_
  rintro e w' ⟨⟨q, rfl, hq0, hq1⟩, hr, ht⟩
  obtain ⟨j, rfl⟩ := Int.eq_ofNat_of_zero_le hq0
  obtain ⟨zl, hzl⟩ := ints_ex w' 3 [-1, IntKind.i64.wrap (z0 + 1), IntKind.i64.wrap (z0 - 1), -2, 10061] #[.int .i64 (-1), .int .i64 (IntKind.i64.wrap (z0 + 1)), .int .i64 (IntKind.i64.wrap (z0 - 1)), .int .i64 (-2), .int .i64 10061] rfl j (by show j < 5; omega)
  have hO' : OwnI w' w.heap.size (.slice (some ⟨g, 0, none⟩) n c) zs := owns_touch hO ht hr2
  have hB := (Below.refl w'.heap.size w').alloc (Nat.le_refl _) (listOf z0)
  have hO2 : OwnI (w'.alloc (listOf z0)) w.heap.size (.slice (some ⟨g, 0, none⟩) n c) zs := owns_later hO' hB
  have hT' := touch_trans hT ht
  have y1 := (own_cellI hO' hk).1
  have y2 := (own_cellI hO2 hk).1
  rw [hz0] at y1 y2
  exact ⟨j, zl, rfl, hq0, hq1, hzl, y1, (own_cellI hO' hk).2, y2, (own_cellI hO2 hk).2, slots_fin hO2 (hr.later hB) (touch_then hT' (hB.mono hT'.size)) hrl k zl⟩
theorem slotP2 (r M g n c k base : Nat) (zs : List Int) (w w5 W : World) (hr2 : r + 1 ≤ base) (hr1 : r + 1 ≤ w5.heap.size) (hR : Rd W r M) (hO : OwnI W base (.slice (some ⟨g, 0, none⟩) n c) zs) (hT : Touch r (r + 1) w W) (hk : k < zs.length) (hrl : r < w.heap.size) (z0 : Int) (hW : W.heap = (w5.alloc (listOf z0)).heap) (hM : M ≤ 1000000) (hb : base = w.heap.size) (hz0 : zs[k] = z0) :
    Calls Tryz.prog 55 #[.pointer (some ⟨r, 0, none⟩), .int .i64 5] W fun e w' => ∃ (j : Nat) (zl : Int), e = .returned (.int .i64 (j : Nat)) ∧ (0 : Int) ≤ (j : Int) ∧ (j : Int) < 5 ∧ w'.cell? ⟨w5.heap.size, j, none⟩ = some (.int .i64 zl) ∧ w'.cell? ⟨g, k, none⟩ = some (.int .i64 z0) ∧ w'.frozen? ⟨g, k, none⟩ = false ∧
      Hid (OwnI (w'.setCell ⟨g, k, none⟩ (.int .i64 zl)) base (.slice (some ⟨g, 0, none⟩) n c) (zs.set k zl) ∧ Rd (w'.setCell ⟨g, k, none⟩ (.int .i64 zl)) r (M + 1) ∧ Touch r (r + 1) w (w'.setCell ⟨g, k, none⟩ (.int .i64 zl))) := by
  subst hb
  refine (pick_any r M 5 W hR hM (by omega)).mono ?_
  rintro e w' ⟨⟨q, rfl, hq0, hq1⟩, hr, ht⟩
  obtain ⟨j, rfl⟩ := Int.eq_ofNat_of_zero_le hq0
  obtain ⟨zl, hzl⟩ := ints_ex w5 3 [-1, IntKind.i64.wrap (z0 + 1), IntKind.i64.wrap (z0 - 1), -2, 10061] #[.int .i64 (-1), .int .i64 (IntKind.i64.wrap (z0 + 1)), .int .i64 (IntKind.i64.wrap (z0 - 1)), .int .i64 (-2), .int .i64 10061] rfl j (by show j < 5; omega)
  have hzl2 : W.cell? ⟨w5.heap.size, j, none⟩ = some (.int .i64 zl) := (World.cell?_of_block (w := (w5.alloc (listOf z0))) (a := ⟨w5.heap.size, j, none⟩) (by rw [hW])).trans hzl
  have hO' : OwnI w' w.heap.size (.slice (some ⟨g, 0, none⟩) n c) zs := owns_touch hO ht hr2
  have y1 := (own_cellI hO' hk).1
  rw [hz0] at y1
  exact ⟨j, zl, rfl, hq0, hq1, cell_touch ht hzl2 (.inr hr1), y1, (own_cellI hO' hk).2, slots_fin hO' hr (touch_trans hT ht) hrl k zl⟩

set_option maxRecDepth 100000 in
set_option maxHeartbeats 6400000 in
theorem l6SlotsOf_any (r N base : Nat) (ac : Option Addr) (capc : Nat) (cs : List (ByteArray × Int)) (v : Value) (gs : List FlV) (w : World) (h : Rd w r N) (hN : N ≤ 500000) (hcc : CapsIn w ac cs) (hcs : CapsSm 7 cs) (hf : OwnF w base v gs) (hrb : r + 1 ≤ base) (hg8 : gs.length ≤ 8) (hsm : ∀ x ∈ gs, FlSm 6 x.1) :
    Calls Tryz.prog 78 #[.pointer (some ⟨r, 0, none⟩), .slice ac cs.length capc, v] w fun e w' => (∃ v zs, e = .returned v ∧ OwnI w' w.heap.size v zs ∧ zs.length ≤ 9) ∧ Rd w' r (N + 13) ∧ Touch r (r + 1) w w' := by
  obtain ⟨i0, hi, iz0, iz1, iz2⟩ := info_parts info_int
  have hrl := h.lt
  have HR := hide h
  have HCC := hide hcc
  have HCS := hide hcs
  have HF := hide hf
  have HSM := hide hsm
  have hc7 := hcs.1
  obtain ⟨af, cf, hvf, -, hfi, -⟩ := OwnF.form hf
  have HFI := hide hfi
  have HSZ := hide (sm_sizes hsm)
  subst hvf
  have hfl : (gs.map Prod.fst).length ≤ 8 := by simpa using hg8
  have HGL : Hid (∀ i (hi : i < (gs.map Prod.fst).length), FlSm 6 (gs.map Prod.fst)[i]) := fun i hi => by
    obtain ⟨x, hx, he⟩ := List.mem_map.1 (List.getElem_mem hi)
    rw [← he]
    exact hsm x hx
  clear h hcc hcs hf hsm hfi
  have HFW : Hid (∀ W : World, Touch r (r + 1) w W → FlightsIn W af (gs.map Prod.fst)) := fun W hW => by
    obtain ⟨a9, c9, e9, -, hfi, -⟩ := OwnF.form (HF.out.touch hW hrb)
    simp only [Value.slice.injEq] at e9
    obtain ⟨rfl, -⟩ := e9
    exact hfi
  have HFB : Hid (∀ fb fo, af = some ⟨fb, fo, none⟩ → base ≤ fb) := fun fb fo he => by
    obtain ⟨a9, c9, e9, -, -, hp⟩ := OwnF.form HF.out
    simp only [Value.slice.injEq] at e9
    obtain ⟨rfl, -⟩ := e9
    exact (hp _ he).2.1
  have HFB2 : Hid (∀ fb fo, af = some ⟨fb, fo, none⟩ → fb < w.heap.size) := fun fb fo he => by
    obtain ⟨a9, c9, e9, -, -, hp⟩ := OwnF.form HF.out
    simp only [Value.slice.injEq] at e9
    obtain ⟨rfl, -⟩ := e9
    exact (hp _ he).2.2
  generalize gs.map Prod.fst = fs at *
  clear HF HSM hg8
  go_enter Tryz.func78, Tryz.ntmps78
  go_upto_region 2 with (go_at_call 9; refine (specGive_any ac af capc cf cs fs w HCC.out HFI.out (by omega) (by omega) (caps_sizes HCS.out) HSZ.out.1 HSZ.out.2).mono ?_; rintro e w1 ⟨v1, rfl, ho1, hb1⟩; have O1 := hide ho1; have B1 := hide hb1; clear ho1 hb1)
  have hzl := giveV_len cs fs
  generalize giveV cs fs = zs at O1 hzl
  obtain ⟨a1, c1, hv1, -⟩ := OwnI.form O1.out
  subst hv1
  have R1 := hide (HR.out.later B1.out)
  have T1 := hide (touch_below (lo := r) (hi := r + 1) B1.out)
  clear HR B1 HFI HCC HCS HSZ
  have n0 : 0 ≤ (fs.length : Int) := by omega
  go_cut [22] from 13 to 22 (fun c wc => ∃ q : Bool, c = .bool q ∧ (q = false → zs.length = fs.length) ∧ Hid (OwnI wc w.heap.size (.slice a1 zs.length c1) zs) ∧ Hid (Rd wc r (N + 1)) ∧ Hid (Touch r (r + 1) w wc))
  case first =>
    by_cases hz : zs.length = fs.length
    · have hz2 : ((zs.length : Int) != (fs.length : Int)) = false := by rw [hz]; simp
      have HZ := hide hz
      clear hz hzl
      go_wp2_with fail
      refine (pick_any r _ _ _ R1.out (by omega) (by omega)).mono ?_
      rintro e w2 ⟨⟨q, rfl, hq0, hq1⟩, hr2, ht2⟩
      have R2 := hide hr2
      have O2 := hide (owns_touch O1.out ht2 (by omega))
      have T2 := hide (touch_trans T1.out ht2)
      clear hr2 ht2
      go_wp2_with fail
      go_meet
      case rel => exact ⟨_, rfl, fun _ => HZ.out, O2.out, R2.out, T2.out⟩
    · have hz' : ((zs.length : Int) == (fs.length : Int)) = false := by simp; omega
      have hz2 : ((zs.length : Int) != (fs.length : Int)) = true := by simp; omega
      go_wp2_with fail
      go_meet
      case rel => exact ⟨_, rfl, fun h => by simp at h, O1.out, R1.out.mono (by omega), T1.out⟩
  case rest =>
    obtain ⟨q, rfl, hqz, O2, R2, T2⟩ := hcut
    have HQZ := hide hqz
    have HZL := hide hzl
    clear O1 R1 T1 hqz hzl
    go_upto_if 22 with fail
    go_cut [7, 8] from 23 to 47 (fun v i wd => ∃ (a2 : Option Addr) (n2 c2 : Nat) (zs2 : List Int), v = .slice a2 n2 c2 ∧ zs2.length = n2 ∧ n2 ≤ 8 ∧ Hid (OwnI wd w.heap.size v zs2) ∧ Hid (Rd wd r (N + 9)) ∧ Hid (Touch r (r + 1) w wd))
    case first =>
      cases q with
      | false =>
        have HQF := hide (HQZ.out rfl)
        clear HQZ HZL
        go_wp2_with fail
        go_meet
        case rel => exact ⟨a1, zs.length, c1, zs, rfl, rfl, by have := HQF.out; omega, O2.out, R2.out.mono (by omega), T2.out⟩
      | true =>
        clear HQZ HZL
        have OE : Hid (OwnI (wc.alloc (.cells #[] 3)) w.heap.size (.slice (some ⟨wc.heap.size, 0, none⟩) 0 0) []) := owns_base (own_emptyI wc) T2.out.size
        have BE := hide ((Below.refl wc.heap.size wc).alloc (Nat.le_refl _) (.cells #[] 3))
        have RE := hide (R2.out.later BE.out)
        have TE := hide (touch_then T2.out (BE.out.mono T2.out.size))
        clear BE O2 R2 T2
        go_wp2_with fail
        go_loopw [7, 8] (fun v i wr => ∃ (k cv : Nat) (av : Option Addr) (ys : List Int), k ≤ fs.length ∧ i = .int .i64 k ∧ v = .slice av k cv ∧ Hid (ys.length = k) ∧ Hid (OwnI wr w.heap.size v ys) ∧ Hid (Rd wr r (N + 1 + k)) ∧ Hid (Touch r (r + 1) w wr)) (fun _ i _ => fs.length - (RowKit.intOf i).toNat)
        case atStart => exact ⟨0, 0, _, [], Nat.zero_le _, rfl, rfl, rfl, OE.out, RE.out, TE.out⟩
        case round =>
          obtain ⟨k, cv, av, ys, hk, rfl, rfl, HY, HO, HRD, HT⟩ := hrel
          clear OE RE TE
          by_cases hlt : k < fs.length
          · have hlt' : (k : Int) < (fs.length : Int) := by omega
            obtain ⟨fb, fo, rfl, hfb, -, p1, p2, -⟩ := HFW.out wr HT.out k hlt
            obtain ⟨-, l0, l1, -⟩ := HGL.out k hlt
            generalize fs[k] = fk at p1 p2 l0 l1
            have hlo : -1000 ≤ fk.2.2.1 := by omega
            have hhi : fk.2.2.1 ≤ 1000 := by omega
            have hfr : r + 1 ≤ fb := by
              have := HFB.out fb fo rfl
              omega
            have hfw : fb < w.heap.size := HFB2.out fb fo rfl
            have hts := HT.out.size
            have hb2 : r + 1 ≤ w.heap.size := by omega
            have HO2 : Hid (World.ownsRow wr w.heap.size 3 1 (.slice av k cv) k (intVals ys)) := by have h9 := HO.out; unfold OwnI at h9; rw [HY.out] at h9; exact h9
            have HNB : Hid (∀ q, (Value.slice av k cv).ownBlock = some q → w.heap.size ≤ q) := fun q hq => (World.ownsRow.lt HO.out q hq).1
            go_wp2
            go_region_held3 (fun W => W.cell? ⟨fb, fo + k * 4 + 1, none⟩ = some (.int .i64 fk.2.1) ∧ W.cell? ⟨fb, fo + k * 4 + 2, none⟩ = some (.int .i64 fk.2.2.1))
              (first | exact ⟨p1, p2⟩ | exact ⟨p1B, p2B⟩ | exact ⟨cell_later ((Below.refl _ _).alloc (Nat.le_refl _) _) p1B, cell_later ((Below.refl _ _).alloc (Nat.le_refl _) _) p2B⟩ | exact ⟨p1E, p2E⟩)
              (first
                | (go_at_call 127; refine (l6Abs_any _ _ hlo hhi).mono ?_; rintro e wZ ⟨⟨qz, rfl, qz0, qz1⟩, rfl⟩; have hw1 := wrap_one qz qz0 qz1)
                | (go_at_call 55; refine (pick_any r _ _ _ HRD.out.drew ?_ ?_).mono ?_; omega; (first | omega | (rw [hw1]; omega)); rintro e wB ⟨⟨qb, rfl, qb0, qb1⟩, hrB, htB⟩; have p1B := cell_touch htB p1 (.inr hfr); have p2B := cell_touch htB p2 (.inr hfr))
                | (refine step_append_own (by rfl) _ _ 27 (by rfl) w.heap.size 3 i0 (.int .i64 0) 1 8 Tryz.underlying27 hi iz0 iz1 iz2 (by rfl) (by decide) (.slice av k cv) k (intVals ys) (by rfl) (World.ownsRow.alloc (owns_touch (show World.ownsRow wr.drew _ _ _ _ _ _ from HO2.out) htB hb2) _) ⟨wB.heap.size, 0, none⟩ 1 1 [.int .i64 (IntKind.i64.wrap (fk.2.1 + qb))] (by rfl) (by rfl) (cell_one_new _ _ _) (by simp [Value.oneCell']) ?_ ?_ ?_ ?_; unfold maxLen; omega; omega; have h9 := htB.size; simp at h9 ⊢; omega; intro vE wE hownE hgrowE hnilE; have p1E := World.grownBy.cell hgrowE (cell_later ((Below.refl _ _).alloc (Nat.le_refl _) _) p1B) (fun hh => Nat.not_le_of_lt hfw (HNB.out fb hh.symm)); have p2E := World.grownBy.cell hgrowE (cell_later ((Below.refl _ _).alloc (Nat.le_refl _) _) p2B) (fun hh => Nat.not_le_of_lt hfw (HNB.out fb hh.symm))))
            rename_i hH
            clear hH
            have hsB := htB.size
            have BE := hide (below_grow (a := w) (w := wB) (Nat.le_trans hts (by simpa using hsB)) hgrowE (fun q hq => HNB.out q hq))
            have HRE := hide (hrB.below BE.out hrl)
            have HTE := hide (touch_then (touch_trans (touch_drew HT.out) htB) BE.out)
            have OE' : OwnI wE w.heap.size vE (ys ++ [IntKind.i64.wrap (fk.2.1 + qb)]) := by
              unfold OwnI
              rw [List.length_append, HY.out]
              show World.ownsRow _ _ _ _ _ (k + 1) _
              have : intVals (ys ++ [IntKind.i64.wrap (fk.2.1 + qb)]) = intVals ys ++ [.int .i64 (IntKind.i64.wrap (fk.2.1 + qb))] := by simp [intVals]
              rw [this]
              exact hownE
            obtain ⟨aE, cE, hvE, -⟩ := OwnI.form OE'
            rw [List.length_append, HY.out] at hvE
            subst hvE
            have OE := hide OE'
            have HYE : Hid ((ys ++ [IntKind.i64.wrap (fk.2.1 + qb)]).length = k + 1) := by show _ = _; rw [List.length_append, HY.out]; rfl
            clear OE' hownE hgrowE hnilE p1E p2E p1B p2B hrB htB BE hsB p1 p2 HO HO2 HT HRD HY
            go_wp2
            go_roundw
            case rel => exact ⟨k + 1, cE, aE, _, by omega, by go_num, rfl, HYE.out, OE.out, HRE.out, HTE.out⟩
            case measure => simp [RowKit.intOf]; omega
          · have hkn : k = fs.length := by omega
            go_wp2_with fail
            go_meet
            case rel => exact ⟨av, k, cv, ys, rfl, HY.out, by omega, HO.out, HRD.out.mono (by omega), HT.out⟩
    case rest =>
      obtain ⟨a2, n2, c2, zs2, rfl, hn2, hn8, O3, R3, T3⟩ := hcut
      clear O2 R2 T2 HQZ HZL
      have HN2 := hide hn2
      have hts := T3.out.size
      go_upto_region 8 with fail
      go_cut [55] from 48 to 55 (fun c we => ∃ q2 : Bool, c = .bool q2 ∧ (q2 = true → 0 < n2) ∧ Hid (OwnI we w.heap.size (.slice a2 n2 c2) zs2) ∧ Hid (Rd we r (N + 10)) ∧ Hid (Touch r (r + 1) w we))
      case first =>
        by_cases hz : 0 < n2
        · have hz' : (0 : Int) < (n2 : Int) := by omega
          have HZ := hide hz
          clear hn2
          go_wp2_with fail
          refine (pick_any r _ _ _ R3.out (by omega) (by omega)).mono ?_
          rintro e w4 ⟨⟨q4, rfl, hq40, hq41⟩, hr4, ht4⟩
          have R4 := hide hr4
          have O4 := hide (owns_touch O3.out ht4 (by omega))
          have T4 := hide (touch_trans T3.out ht4)
          clear hr4 ht4
          go_wp2_with fail
          go_meet
          case rel => exact ⟨_, rfl, fun _ => HZ.out, O4.out, R4.out, T4.out⟩
        · have hz' : ¬ (0 : Int) < (n2 : Int) := by omega
          clear hn2
          go_wp2_with fail
          go_meet
          case rel => exact ⟨_, rfl, fun h => by simp at h, O3.out, R3.out.mono (by omega), T3.out⟩
      case rest =>
        obtain ⟨q2, rfl, hq2, O4, R4, T4⟩ := hcut
        have HQ2 := hide hq2
        clear O3 R3 T3 hq2 hn2
        go_upto_if 55 with fail
        go_cut [9] from 56 to 77 (fun _ we => ∃ zs3 : List Int, Hid (zs3.length = n2) ∧ Hid (OwnI we w.heap.size (.slice a2 n2 c2) zs3) ∧ Hid (Rd we r (N + 12)) ∧ Hid (Touch r (r + 1) w we))
        case first =>
          cases q2 with
          | false =>
            go_wp2_with fail
            go_meet
            case rel => exact ⟨zs2, HN2.out, O4.out, R4.out.mono (by omega), T4.out⟩
          | true =>
            have hz := HQ2.out rfl
            obtain ⟨g2, rfl, -⟩ := own_some O4.out (by have := HN2.out; omega)
            clear HQ2
            go_wp2_with fail
            refine (pick_any r _ _ _ R4.out (by omega) (by omega)).mono ?_
            rintro e w5 ⟨⟨k', rfl, hk0, hk1⟩, hr5, ht5⟩
            obtain ⟨k, rfl⟩ := Int.eq_ofNat_of_zero_le hk0
            have hk : k < n2 := by omega
            have R5 := hide hr5
            have O5 : Hid (OwnI w5 w.heap.size (.slice (some ⟨g2, 0, none⟩) n2 c2) zs2) := owns_touch O4.out ht5 (by omega)
            have T5 := hide (touch_trans T4.out ht5)
            clear hr5 ht5 O4 R4 T4
            have hkz : k < zs2.length := by have := HN2.out; omega
            obtain ⟨x0, s0⟩ := own_cellI O5.out hkz
            obtain ⟨z0, HZ0⟩ : ∃ z0, Hid (zs2[k] = z0) := ⟨zs2[k], (rfl : zs2[k] = zs2[k])⟩
            rw [HZ0.out] at x0
            have hgw := (World.ownsRow.lt O5.out g2 rfl).2
            have hts5 := T5.out.size
            have RL : Hid (Rd (w5.alloc (listOf z0)) r (N + 11)) := R5.out.later ((Below.refl _ _).alloc (Nat.le_refl _) _)
            have OL : Hid (OwnI (w5.alloc (listOf z0)) w.heap.size (.slice (some ⟨g2, 0, none⟩) n2 c2) zs2) := owns_later O5.out ((Below.refl _ _).alloc (Nat.le_refl _) _)
            have TL : Hid (Touch r (r + 1) w (w5.alloc (listOf z0))) := touch_then T5.out (((Below.refl _ _).alloc (Nat.le_refl _) _).mono hts5)
            have hr1 : r + 1 ≤ w5.heap.size := by omega
            have hr2 : r + 1 ≤ w.heap.size := by omega
            go_wp2
            go_region_with (first
                | (go_at_call 55; refine (slotP1 r _ g2 n2 c2 k w.heap.size zs2 w w5.drew hr2 R5.out.drew O5.out (touch_drew T5.out) hkz hrl z0 ?_ rfl HZ0.out).mono ?_; omega; rintro e wB ⟨j, zl, rfl, hj0, hj1, hzl, xB, sB, xC, sC, FIN⟩; unfold listOf at hzl xC sC)
                | (go_at_call 55; refine (slotP2 r _ g2 n2 c2 k w.heap.size zs2 w w5 (w5.alloc (listOf z0)).drew hr2 hr1 RL.out.drew OL.out (touch_drew TL.out) hkz hrl z0 rfl ?_ rfl HZ0.out).mono ?_; omega; rintro e wB ⟨j, zl, rfl, hj0, hj1, hzl, xB, sB, FIN⟩)
                | (fail))
            all_goals
              have HLS : Hid ((zs2.set k zl).length = n2) := by show _ = _; rw [List.length_set]; exact HN2.out
              go_wp2_with fail
              go_meet
              case rel => exact ⟨zs2.set k zl, HLS.out, FIN.out.1, FIN.out.2.1, FIN.out.2.2⟩
        case rest =>
          obtain ⟨zs3, HN3, O5, R5, T5⟩ := hcut
          clear O4 R4 T4 HQ2
          have hts5 := T5.out.size
          go_wp2_with fail
          refine (pick_any r _ _ _ R5.out (by omega) (by omega)).mono ?_
          rintro e w6 ⟨⟨q6, rfl, hq60, hq61⟩, hr6, ht6⟩
          have R6 := hide hr6
          have O6 : Hid (OwnI w6 w.heap.size (.slice a2 n2 c2) zs3) := owns_touch O5.out ht6 (by omega)
          have T6 := hide (touch_trans T5.out ht6)
          clear hr6 ht6 O5 R5 T5
          by_cases hq : q6 = 0
          · subst hq
            have O7 : Hid (World.ownsRow w6 w.heap.size 3 1 (.slice a2 n2 c2) n2 (intVals zs3)) := by have h9 := O6.out; unfold OwnI at h9; rw [HN3.out] at h9; exact h9
            have hs6 := T6.out.size
            go_wp2_with (first
              | (at_builtin; refine wpList_append_own _ rfl _ _ 27 rfl w.heap.size 3 i0 (.int .i64 0) 1 8 Tryz.underlying27 hi iz0 iz1 iz2 rfl (by decide) (.slice a2 n2 c2) n2 (intVals zs3) rfl (World.ownsRow.alloc O7.out _) ⟨w6.heap.size, 0, none⟩ 1 1 [.int .i64 1] rfl rfl (cell_one_new _ _ _) (fun x hx => by simp at hx; subst hx; rfl) (by unfold maxLen; omega) (by omega) (by simp; omega) ?_; intro vE wE hownE hgrowE hnilE))
            have BE := hide (below_grow (a := w) (w := w6) hs6 hgrowE (fun q hq => (World.ownsRow.lt O7.out q hq).1))
            have OE : Hid (OwnI wE w.heap.size vE (zs3 ++ [1])) := by
              show World.ownsRow _ _ _ _ _ _ _
              rw [List.length_append, HN3.out]
              have : intVals (zs3 ++ [1]) = intVals zs3 ++ [.int .i64 1] := by simp [intVals]
              rw [this]
              exact hownE
            have HLE : Hid ((zs3 ++ [1]).length ≤ 9) := by show _ ≤ _; rw [List.length_append, HN3.out]; show n2 + 1 ≤ 9; omega
            clear hownE hgrowE hnilE
            go_ret
            exact ⟨⟨_, _, rfl, OE.out, HLE.out⟩, R6.out.below BE.out hrl, touch_then T6.out BE.out⟩
          · have hq' : (q6 == 0) = false := beq_eq_false_iff_ne.2 hq
            go_wp2
            go_ret
            exact ⟨⟨_, zs3, rfl, O6.out, by have := HN3.out; omega⟩, R6.out, T6.out⟩

end Go.Proofs.YtciacofibljmoaaGreat
