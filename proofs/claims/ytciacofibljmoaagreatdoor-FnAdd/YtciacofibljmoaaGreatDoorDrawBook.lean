/- A book is drawn. -/
import Derived.Test.YtciacofibljmoaaGreatDoorTops
import Derived.Test.YtciacofibljmoaaGreatDoorSpecAdd
import Derived.Test.YtciacofibljmoaaGreatDoorLates
import Derived.Deep.RegionHeld3
namespace Go.Proofs.YtciacofibljmoaaGreatDoor
open Go.RowKit

/-- A book that may be read wherever no more than S has changed. -/
def FarBk (S : Nat → Prop) (w : World) (ac a a' : Option Addr) (cs : List (ByteArray × Int)) (fs : List Fli) (ss : List Int) : Prop := ∀ Z, TouchS S w Z → BookIn Z ac a a' cs fs ss
theorem FarBk.here {S : Nat → Prop} {w : World} {ac a a' : Option Addr} {cs : List (ByteArray × Int)} {fs : List Fli} {ss : List Int} (h : FarBk S w ac a a' cs fs ss) : BookIn w ac a a' cs fs ss := h w (touchS_below (Below.refl _ _))
theorem FarBk.touch {S : Nat → Prop} {w w' : World} {ac a a' : Option Addr} {cs : List (ByteArray × Int)} {fs : List Fli} {ss : List Int} (h : FarBk S w ac a a' cs fs ss) (ht : TouchS S w w') : FarBk S w' ac a a' cs fs ss := fun Z hZ => h Z (touchS_trans ht hZ)
theorem FarBk.later {S : Nat → Prop} {w w' : World} {ac a a' : Option Addr} {cs : List (ByteArray × Int)} {fs : List Fli} {ss : List Int} (h : FarBk S w ac a a' cs fs ss) (hb : Below w.heap.size w w') : FarBk S w' ac a a' cs fs ss := h.touch (touchS_below hb)
theorem FarBk.mono {S T : Nat → Prop} {w : World} {ac a a' : Option Addr} {cs : List (ByteArray × Int)} {fs : List Fli} {ss : List Int} (h : FarBk S w ac a a' cs fs ss) (hs : ∀ q, T q → S q) : FarBk T w ac a a' cs fs ss := fun Z hZ => h Z (touchS_mono hZ hs)
theorem BkAt.cells3 {w : World} {F : Nat} {v0 v1 v2 : Value} (h : BkAt w F v0 v1 v2) : w.cell? ⟨F, 0, none⟩ = some v0 ∧ w.cell? ⟨F, 1, none⟩ = some v1 ∧ w.cell? ⟨F, 2, none⟩ = some v2 := ⟨h.cells.1, h.cells.2.1, h.cells.2.2.1⟩
theorem rd_touchS {S : Nat → Prop} {r : Nat} {w w' : World} (h : Touch r (r + 1) w w') (hr : S r) : TouchS S w w' := ⟨h.os, h.tape, h.output, h.size, fun k hk hn => h.block k hk (by
  by_cases e : k = r
  · subst e; exact absurd hr hn
  · omega)⟩

theorem drop_mem {cs : List (ByteArray × Int)} {fs : List Fli} {ss : List Int} {nm : ByteArray} {x : Fli} (h : x ∈ dropF cs fs ss nm) : x ∈ fs := by
  unfold dropF at h
  split at h
  · split at h
    · exact List.mem_of_mem_eraseIdx h
    · exact h
  · cases h
theorem add_mem {cs : List (ByteArray × Int)} {fs : List Fli} {ss : List Int} {f x : Fli} (h : x ∈ addF cs fs ss f) : x = f ∨ x ∈ fs := by
  unfold addF at h
  split at h
  · split at h
    · exact putAt_mem.1 h
    · exact .inr h
  · cases h
theorem capsUp_sm {cs : List (ByteArray × Int)} (h : CapsUp 3 cs) : CapsSm 3 cs := by
  refine ⟨?_, fun c hc => ?_⟩
  · exact h.1
  · obtain ⟨⟨j, hj, _, h2⟩, _⟩ := h.2.1 c hc
    rw [h2]
    exact capNams_size _ (List.getElem_mem hj)

set_option maxRecDepth 100000 in
set_option maxHeartbeats 6400000 in
theorem l6Book_any (r N : Nat) (w : World) (h : Rd w r N) (hN : N ≤ 800000) :
    Calls Tryz.prog 58 #[.pointer (some ⟨r, 0, none⟩)] w fun e w' => (∃ bc b b' cc cb cb' cs fs ss, e = .returned (bkV bc b b' cc cb cb' cs fs ss) ∧ FarBk (fun q => q < w.heap.size) w' bc b b' cs fs ss ∧ fitsB cs fs ss = true ∧ BookSm cs fs ss ∧ CapsSm 3 cs ∧ ∀ f ∈ fs, FlSm 3 f) ∧ Rd w' r (N + 1000) ∧ Touch r (r + 1) w w' := by
  have hrl := h.lt
  have HR := hide h
  clear h
  obtain ⟨W, hW, hWs, kW, bW⟩ := bk_newT w (.slice none 0 0) (.slice none 0 0) (.slice none 0 0)
  have HW := hide hW
  have KW := hide kW
  have WB := hide bW
  clear hW kW bW
  go_enter Tryz.func58, Tryz.ntmps58
  go_wp2_with fail
  rw [HW.out]
  refine (l6Caps_ok r N W (HR.out.later WB.out) (by omega)).mono ?_
  rintro e w2 ⟨⟨v, cs, rfl, hoc, hup⟩, hr2, ht2⟩
  obtain ⟨ac, capc, rfl, hcl, hcm, hci, hcp⟩ := OwnC.form hoc
  have FT0 := hide (fits_nobody (capsUp_ok hup))
  have SM0 := hide (sm_nobody (capsUp_ok hup) (fun c hc => by
    obtain ⟨⟨j, hj, _, h2⟩, _⟩ := hup.2.1 c hc
    rw [h2]
    exact capNams_size _ (List.getElem_mem hj)))
  have CS := hide (capsUp_sm hup)
  have HCI := hide hci
  have HCP := hide hcp
  have HR2 := hide hr2
  have T2 := hide (touch_trans (touch_below WB.out) ht2)
  have KW2 := hide (KW.out.keep (ht2.block _ KW.out.lt (by omega)))
  have hs2 := ht2.size
  clear hoc hup hci hcp hr2 ht2
  obtain ⟨V, hV, hVs, kV, bV⟩ := bk_newT w2 (.slice ac cs.length capc) (.slice none 0 0) (.slice none 0 0)
  have HV := hide hV
  have KV := hide kV
  have VB := hide bV
  clear hV kV bV
  go_upto_region 2 with fail
  rw [HV.out]
  go_wp2_with fail
  refine (pick_any r _ 12 V (HR2.out.later VB.out) (by omega) (by omega)).mono ?_
  rintro e w4 ⟨⟨q, rfl, hq0, hq1⟩, hr4, ht4⟩
  obtain ⟨nq, rfl⟩ : ∃ nq : Nat, q = (nq : Int) := ⟨q.toNat, by omega⟩
  have FB4 : Hid (FarBk (fun q => q ≤ w.heap.size ∨ q = w2.heap.size) w4 ac none none cs [] []) := fun Z hZ => by
    have t4 : TouchS (fun q => q ≤ w.heap.size ∨ q = w2.heap.size) w2 Z := touchS_trans (touchS_below VB.out) (touchS_trans (rd_touchS ht4 (.inl (by omega))) hZ)
    refine in_nobody (caps_touchS HCI.out t4 (fun q hq hh => ?_))
    obtain ⟨_, hq⟩ := hq
    cases ac with
    | none => obtain ⟨_, h, _⟩ := hq; cases h
    | some p =>
      have h1 := HCP.out p rfl
      obtain ⟨p', e', h2⟩ := hq
      cases e'
      rcases hh with hh | hh <;> omega
  have HR4 := hide hr4
  have K4 := hide (KV.out.keep (ht4.block _ KV.out.lt (by omega)))
  have KW4 := hide ((KW2.out.later VB.out).keep (ht4.block _ (KW2.out.later VB.out).lt (by omega)))
  have T4 := hide (touch_trans (touch_then T2.out (VB.out.mono (by omega))) ht4)
  have hs4 := ht4.size
  clear hr4 ht4 hq0
  go_wp2
  go_loopw [4] (fun n wr => ∃ (k : Nat) (bc b b' : Option Addr) (cc cb cb' : Nat) (fs : List Fli) (ss : List Int), k ≤ nq ∧ n = .int .i64 k ∧ Hid (BkAt wr w2.heap.size (.slice bc cs.length cc) (.slice b fs.length cb) (.slice b' ss.length cb')) ∧ Hid (BkAt wr w.heap.size (.slice none 0 0) (.slice none 0 0) (.slice none 0 0)) ∧ Hid (FarBk (fun q => q ≤ w.heap.size ∨ q = w2.heap.size) wr bc b b' cs fs ss) ∧ Hid (fitsB cs fs ss = true) ∧ Hid (BookSm cs fs ss) ∧ Hid (∀ f ∈ fs, FlSm 3 f) ∧ Hid (Rd wr r (N + 16 + 30 * (nq - k))) ∧ Hid (Touch r (r + 1) w wr)) (fun n _ => (intOf n).toNat)
  case atStart => exact ⟨nq, ac, none, none, capc, 0, 0, [], [], Nat.le_refl _, rfl, K4.out, KW4.out, FB4.out, FT0.out, SM0.out, by show ∀ f ∈ ([] : List Fli), _; simp, HR4.out.mono (by omega), T4.out⟩
  case round =>
    obtain ⟨k, bc, b, b', cc, cb, cb', fs, ss, hk, rfl, KB, KR, FB, FT, SM, FS, HRD, HT⟩ := hrel
    clear K4 KW4 FB4 HR4 T4
    have hbx := KB.out.lt
    by_cases hlt : 0 < k
    · have hlt' : (0 : Int) < (k : Int) := by omega
      go_wp2_with fail
      refine (pick_any r _ 5 _ HRD.out (by omega) (by omega)).mono ?_
      rintro e w5 ⟨⟨q2, rfl, hq20, hq21⟩, hr5, ht5⟩
      have HR5 := hide hr5
      have KB5 := hide (KB.out.keep (ht5.block _ KB.out.lt (by omega)))
      have KR5 := hide (KR.out.keep (ht5.block _ KR.out.lt (by omega)))
      have FB5 := hide (FB.out.touch (rd_touchS ht5 (.inl (by omega))))
      have T5 := hide (touch_trans HT.out ht5)
      have hs5 := ht5.size
      have hrl5 : r < w5.heap.size := hr5.lt
      clear hr5 ht5 HRD KB KR FB HT
      obtain ⟨x0, x1, x2, r0, r1, r2⟩ := KB5.out.cells
      by_cases hq2 : q2 = 0
      · subst hq2
        have DR : Hid (∀ (nm : ByteArray) (X : World), BookIn X bc b b' cs fs ss → Calls Tryz.prog 7 #[bkV bc b b' cc cb cb' cs fs ss, .string nm] X fun e w' => ∃ dc d d' dd db db', e = .returned (.tuple #[bkV dc d d' dd db db' cs (dropF cs fs ss nm) (dropS cs fs ss nm), .int .i64 (dropK cs fs ss nm)]) ∧ (∀ Z, TouchS (fun q => q < X.heap.size) w' Z → BookIn Z dc d d' cs (dropF cs fs ss nm) (dropS cs fs ss nm)) ∧ Below X.heap.size X w') := fun nm X hX => by
          have hh := specDrop_far nm bc b b' cc cb cb' cs fs ss X hX SM.out
          simp only [(drop_all FT.out nm).1] at hh
          exact hh
        go_wp2_with fail
        refine wp_region_U (S := fun X => X.cell? ⟨w2.heap.size, 0, none⟩ = some (.slice bc cs.length cc) ∧ X.cell? ⟨w2.heap.size, 1, none⟩ = some (.slice b fs.length cb) ∧ X.cell? ⟨w2.heap.size, 2, none⟩ = some (.slice b' ss.length cb')) (y := 4) (by kernel_rfl) ?_
        have hS0 : w5.drew.cell? ⟨w2.heap.size, 0, none⟩ = some (.slice bc cs.length cc) ∧ w5.drew.cell? ⟨w2.heap.size, 1, none⟩ = some (.slice b fs.length cb) ∧ w5.drew.cell? ⟨w2.heap.size, 2, none⟩ = some (.slice b' ss.length cb') := ⟨x0, x1, x2⟩
        refine wpAnyU.take (i := 0) (v := ?_) rfl (by kernel_rfl) (by kernel_rfl) (by kernel_rfl) (by kernel_rfl) (by kernel_rfl) (by kernel_rfl) (fun _ _ _ h => h) (Or.inl ⟨by rfl, ?_⟩) hS0 ?_
        rotate_left
        · (intro X hX; obtain ⟨u0, u1, u2⟩ := hX; go_simp) <;> (with_reducible rfl)
        try simp only [Act.put, List.setIfInBounds_toArray]
        refine wpAnyU.takeP (i := 1) (v := ?_) rfl (by kernel_rfl) (by kernel_rfl) (by kernel_rfl) (by kernel_rfl) (fun _ _ _ h => h) (Or.inl ⟨by rfl, ?_⟩) (.inr hS0) ?_
        rotate_left
        · (intro X hX; go_simp) <;> (with_reducible rfl)
        try simp only [Act.put]
        refine wpAnyU.one (i := 2) (by kernel_rfl) rfl (fun K hK => ?_)
        go_simp
        refine (l6Names_at r w5.heap.size w5.drew rfl hrl5).mono ?_
        rintro e wA ⟨rfl, hst, hbA⟩
        have HST := hide hst
        have BA := hide (below_dr hbA)
        have CA := hide (KB5.out.later (below_dr hbA)).cells3
        clear hst hbA
        go_simp
        refine hK.out _ _ (.inr CA.out) ?_
        clear hK
        try simp only [Act.put]
        refine wpAnyU.one (i := 3) (by kernel_rfl) rfl (fun K hK => ?_)
        go_simp
        refine (of_any r _ (some ⟨w5.heap.size, 0, none⟩) 8 nams wA (HR5.out.below BA.out hrl5) (by omega) HST.out (by decide)).mono ?_
        rintro e wB ⟨⟨nm, hsm, rfl⟩, hrB, htB⟩
        have RB := hide hrB
        have TB := hide htB
        have KBB := hide ((KB5.out.later BA.out).keep (htB.block _ (KB5.out.later BA.out).lt (by omega)))
        have KRB := hide ((KR5.out.later BA.out).keep (htB.block _ (KR5.out.later BA.out).lt (by omega)))
        have CB := hide KBB.out.cells3
        clear hsm hrB htB
        go_simp
        refine hK.out _ _ (.inr CB.out) ?_
        clear hK
        try simp only [Act.put]
        refine wpAnyU.one (i := 4) (by kernel_rfl) rfl (fun K hK => ?_)
        go_simp
        refine (DR.out nm wB ((FB5.out.later BA.out).touch (rd_touchS TB.out (.inl (by omega)))).here).mono ?_
        rintro e wC ⟨dc, d, d', dd, db, db', rfl, hbk, hbC⟩
        have FC : Hid (FarBk (fun q => q < wB.heap.size) wC dc d d' cs (dropF cs fs ss nm) (dropS cs fs ss nm)) := hbk
        have BC := hide hbC
        obtain ⟨z0, z1, z2, q0, q1, q2⟩ := (KBB.out.later BC.out).cells
        clear hbk hbC
        go_simp
        refine hK.out _ _ (.inl (by kernel_rfl)) ?_
        clear hK
        try simp only [Act.put]
        refine wpAnyU.takeP (i := 5) (v := ?_) rfl (by kernel_rfl) (by kernel_rfl) (by kernel_rfl) (by kernel_rfl) (fun _ _ _ h => h) (Or.inl ⟨by rfl, ?_⟩) (.inl (by kernel_rfl)) ?_
        rotate_left
        · (intro X hX; go_simp) <;> (with_reducible rfl)
        try simp only [Act.put]
        refine wpAnyU.takeP (i := 6) (v := ?_) rfl (by kernel_rfl) (by kernel_rfl) (by kernel_rfl) (by kernel_rfl) (fun _ _ _ h => h) (Or.inl ⟨by rfl, ?_⟩) (.inl (by kernel_rfl)) ?_
        rotate_left
        · (intro X hX; go_simp) <;> (with_reducible rfl)
        try simp only [Act.put]
        refine wpAnyU.takeP (i := 7) (v := ?_) rfl (by kernel_rfl) (by kernel_rfl) (by kernel_rfl) (by kernel_rfl) (fun _ _ _ h => h) (Or.inl ⟨by rfl, ?_⟩) (.inl (by kernel_rfl)) ?_
        rotate_left
        · (intro X hX; go_simp) <;> (with_reducible rfl)
        try simp only [Act.put]
        refine wpAnyU.one (i := 8) (by kernel_rfl) rfl (fun K hK => ?_)
        go_simp
        refine hK.out _ _ (.inl (by kernel_rfl)) ?_
        clear hK
        try simp only [Act.put]
        refine wpAnyU.done (by kernel_rfl) ?_ _
        have hsA := BA.out.size
        have hsB := TB.out.size
        have hsC := BC.out.size
        have hxB := KBB.out.lt
        have TX := hide (set3_touch wC w2.heap.size (.slice dc cs.length dd) (.slice d (dropF cs fs ss nm).length db) (.slice d' (dropS cs fs ss nm).length db'))
        have KX := hide ((KBB.out.later BC.out).set3 (.slice dc cs.length dd) (.slice d (dropF cs fs ss nm).length db) (.slice d' (dropS cs fs ss nm).length db'))
        have KRX := hide ((KRB.out.later BC.out).touchS TX.out (by omega))
        have FX := hide ((FC.out.mono (T := fun q => q ≤ w.heap.size ∨ q = w2.heap.size) (fun q hq => by rcases hq with hq | hq <;> omega)).touch (touchS_mono TX.out fun q hq => .inr hq))
        have RX := hide ((RB.out.later BC.out).touch (touch_ofS (lo := w2.heap.size) (hi := w2.heap.size + 1) TX.out (fun q hq => by omega)) (by omega))
        have TT := hide (touch_then (touch_trans (touch_then T5.out (BA.out.mono (by have := T5.out.size; omega))) TB.out) ((BC.out.mono (by have := T5.out.size; omega)).trans (below_ofS TX.out (by have := T5.out.size; omega) (fun q hq => by omega))))
        have DA := drop_all FT.out nm
        have DS := drop_small nm SM.out
        rw [DA.1] at DS
        have FT1 := hide DA.2.1
        have SM1 := hide DS
        have FS1 : Hid (∀ x ∈ dropF cs fs ss nm, FlSm 3 x) := fun x hx => FS.out x (drop_mem hx)
        clear DA DS z0 z1 z2 q0 q1 q2 x0 x1 x2 r0 r1 r2
        go_wp2
        go_roundw
        case rel => exact ⟨k - 1, dc, d, d', dd, db, db', dropF cs fs ss nm, dropS cs fs ss nm, by omega, by go_num, KX.out, KRX.out, FX.out, FT1.out, SM1.out, FS1.out, RX.out.mono (by omega), TT.out⟩
        case measure => simp [intOf]; omega
      · have hq2b : (q2 == 0) = false := by simpa using hq2
        have AD : Hid (∀ (f : Fli) (av : Option Addr) (cv : Nat) (X : World), BookIn X bc b b' cs fs ss → VisitsIn X av f.2.2.2 → f.2.2.2.length ≤ 1048576 → SizesOk f → Calls Tryz.prog 12 #[bkV bc b b' cc cb cb' cs fs ss, .agg #[.string f.1, .int .i64 f.2.1, .int .i64 f.2.2.1, .slice av f.2.2.2.length cv]] X fun e w' => ∃ dc d d' dd db db', e = .returned (.tuple #[bkV dc d d' dd db db' cs (addF cs fs ss f) (addS cs fs ss f), .int .i64 (addK cs fs ss f)]) ∧ (∀ Z, TouchS (fun q => q < X.heap.size) w' Z → BookIn Z dc d d' cs (addF cs fs ss f) (addS cs fs ss f)) ∧ Below X.heap.size X w') := fun f av cv X hX hv hl hz => by
          have hh := specAdd_all f av cv bc b b' cc cb cb' cs fs ss X hX SM.out hv hl hz
          simp only [(add_all FT.out f).1] at hh
          exact hh
        go_wp2_with fail
        refine wp_region_U (S := fun X => X.cell? ⟨w2.heap.size, 0, none⟩ = some (.slice bc cs.length cc) ∧ X.cell? ⟨w2.heap.size, 1, none⟩ = some (.slice b fs.length cb) ∧ X.cell? ⟨w2.heap.size, 2, none⟩ = some (.slice b' ss.length cb')) (y := 6) (by kernel_rfl) ?_
        have hS0 : w5.drew.cell? ⟨w2.heap.size, 0, none⟩ = some (.slice bc cs.length cc) ∧ w5.drew.cell? ⟨w2.heap.size, 1, none⟩ = some (.slice b fs.length cb) ∧ w5.drew.cell? ⟨w2.heap.size, 2, none⟩ = some (.slice b' ss.length cb') := ⟨x0, x1, x2⟩
        refine wpAnyU.take (i := 0) (v := ?_) rfl (by kernel_rfl) (by kernel_rfl) (by kernel_rfl) (by kernel_rfl) (by kernel_rfl) (by kernel_rfl) (fun _ _ _ h => h) (Or.inl ⟨by rfl, ?_⟩) hS0 ?_
        rotate_left
        · (intro X hX; obtain ⟨u0, u1, u2⟩ := hX; go_simp) <;> (with_reducible rfl)
        try simp only [Act.put, List.setIfInBounds_toArray]
        refine wpAnyU.takeP (i := 1) (v := ?_) rfl (by kernel_rfl) (by kernel_rfl) (by kernel_rfl) (by kernel_rfl) (fun _ _ _ h => h) (Or.inl ⟨by rfl, ?_⟩) (.inr hS0) ?_
        rotate_left
        · (intro X hX; go_simp) <;> (with_reducible rfl)
        try simp only [Act.put]
        refine wpAnyU.takeP (i := 2) (v := ?_) rfl (by kernel_rfl) (by kernel_rfl) (by kernel_rfl) (by kernel_rfl) (fun _ _ _ h => h) (Or.inl ⟨by rfl, ?_⟩) (.inr hS0) ?_
        rotate_left
        · (intro X hX; go_simp) <;> (with_reducible rfl)
        try simp only [Act.put]
        refine wpAnyU.one (i := 3) (by kernel_rfl) rfl (fun K hK => ?_)
        go_simp
        refine (l6Names_at r w5.heap.size w5.drew rfl hrl5).mono ?_
        rintro e wA ⟨rfl, hst, hbA⟩
        have HST := hide hst
        have BA := hide (below_dr hbA)
        have CA := hide (KB5.out.later (below_dr hbA)).cells3
        clear hst hbA
        go_simp
        refine hK.out _ _ (.inr CA.out) ?_
        clear hK
        try simp only [Act.put]
        refine wpAnyU.one (i := 4) (by kernel_rfl) rfl (fun K hK => ?_)
        go_simp
        refine (of_any r _ (some ⟨w5.heap.size, 0, none⟩) 8 nams wA (HR5.out.below BA.out hrl5) (by omega) HST.out (by decide)).mono ?_
        rintro e wB ⟨⟨nm, hsm, rfl⟩, hrB, htB⟩
        have HSZ := hide (nams_size nm hsm)
        have RB := hide hrB
        have TB := hide htB
        have KBB := hide ((KB5.out.later BA.out).keep (htB.block _ (KB5.out.later BA.out).lt (by omega)))
        have KRB := hide ((KR5.out.later BA.out).keep (htB.block _ (KR5.out.later BA.out).lt (by omega)))
        have CB := hide KBB.out.cells3
        clear hsm hrB htB
        go_simp
        refine hK.out _ _ (.inr CB.out) ?_
        clear hK
        try simp only [Act.put]
        refine wpAnyU.one (i := 5) (by kernel_rfl) rfl (fun K hK => ?_)
        go_simp
        refine (l6Flight_any r _ nm wB RB.out (by omega)).mono ?_
        rintro e wF ⟨⟨p, l, vs, av, c, rfl, hl0, hl1, hvsm, hv1, hvi, hva⟩, hrF, htF⟩
        have RF := hide hrF
        have TF := hide htF
        have KBF := hide (KBB.out.keep (htF.block _ KBB.out.lt (by omega)))
        have KRF := hide (KRB.out.keep (htF.block _ KRB.out.lt (by omega)))
        have CF := hide KBF.out.cells3
        have HVI := hide hvi
        have HFL : Hid (FlSm 3 (nm, p, l, vs)) := ⟨HSZ.out, by show -1 ≤ l; omega, by show l ≤ 61; omega, hvsm⟩
        have HFS := hide (ev_sizes (f := (nm, p, l, vs)) ⟨HSZ.out, by show -1 ≤ l; omega, by show l ≤ 61; omega, hvsm⟩)
        clear hrF htF hvi hva hvsm hv1 hl0 hl1
        go_simp
        refine hK.out _ _ (.inr CF.out) ?_
        clear hK
        try simp only [Act.put]
        refine wpAnyU.one (i := 6) (by kernel_rfl) rfl (fun K hK => ?_)
        go_simp
        refine (AD.out (nm, p, l, vs) av c wF (((FB5.out.later BA.out).touch (rd_touchS TB.out (.inl (by omega)))).touch (rd_touchS TF.out (.inl (by omega)))).here HVI.out HFS.out.1 HFS.out.2).mono ?_
        rintro e wC ⟨dc, d, d', dd, db, db', rfl, hbk, hbC⟩
        have FC : Hid (FarBk (fun q => q < wF.heap.size) wC dc d d' cs (addF cs fs ss (nm, p, l, vs)) (addS cs fs ss (nm, p, l, vs))) := hbk
        have BC := hide hbC
        obtain ⟨z0, z1, z2, q0, q1, q2'⟩ := (KBF.out.later BC.out).cells
        clear hbk hbC
        go_simp
        refine hK.out _ _ (.inl (by kernel_rfl)) ?_
        clear hK
        try simp only [Act.put]
        refine wpAnyU.takeP (i := 7) (v := ?_) rfl (by kernel_rfl) (by kernel_rfl) (by kernel_rfl) (by kernel_rfl) (fun _ _ _ h => h) (Or.inl ⟨by rfl, ?_⟩) (.inl (by kernel_rfl)) ?_
        rotate_left
        · (intro X hX; go_simp) <;> (with_reducible rfl)
        try simp only [Act.put]
        refine wpAnyU.takeP (i := 8) (v := ?_) rfl (by kernel_rfl) (by kernel_rfl) (by kernel_rfl) (by kernel_rfl) (fun _ _ _ h => h) (Or.inl ⟨by rfl, ?_⟩) (.inl (by kernel_rfl)) ?_
        rotate_left
        · (intro X hX; go_simp) <;> (with_reducible rfl)
        try simp only [Act.put]
        refine wpAnyU.takeP (i := 9) (v := ?_) rfl (by kernel_rfl) (by kernel_rfl) (by kernel_rfl) (by kernel_rfl) (fun _ _ _ h => h) (Or.inl ⟨by rfl, ?_⟩) (.inl (by kernel_rfl)) ?_
        rotate_left
        · (intro X hX; go_simp) <;> (with_reducible rfl)
        try simp only [Act.put]
        refine wpAnyU.one (i := 10) (by kernel_rfl) rfl (fun K hK => ?_)
        go_simp
        refine hK.out _ _ (.inl (by kernel_rfl)) ?_
        clear hK
        try simp only [Act.put]
        refine wpAnyU.done (by kernel_rfl) ?_ _
        have hsA := BA.out.size
        have hsB := TB.out.size
        have hsF := TF.out.size
        have hsC := BC.out.size
        have hxB := KBB.out.lt
        have TX := hide (set3_touch wC w2.heap.size (.slice dc cs.length dd) (.slice d (addF cs fs ss (nm, p, l, vs)).length db) (.slice d' (addS cs fs ss (nm, p, l, vs)).length db'))
        have KX := hide ((KBF.out.later BC.out).set3 (.slice dc cs.length dd) (.slice d (addF cs fs ss (nm, p, l, vs)).length db) (.slice d' (addS cs fs ss (nm, p, l, vs)).length db'))
        have KRX := hide ((KRF.out.later BC.out).touchS TX.out (by omega))
        have FX := hide ((FC.out.mono (T := fun q => q ≤ w.heap.size ∨ q = w2.heap.size) (fun q hq => by rcases hq with hq | hq <;> omega)).touch (touchS_mono TX.out fun q hq => .inr hq))
        have RX := hide ((RF.out.later BC.out).touch (touch_ofS (lo := w2.heap.size) (hi := w2.heap.size + 1) TX.out (fun q hq => by omega)) (by omega))
        have TT := hide (touch_then (touch_trans (touch_trans (touch_then T5.out (BA.out.mono (by have := T5.out.size; omega))) TB.out) TF.out) ((BC.out.mono (by have := T5.out.size; omega)).trans (below_ofS TX.out (by have := T5.out.size; omega) (fun q hq => by omega))))
        have DA := add_all FT.out (nm, p, l, vs)
        have DS := addAll_sm (f := (nm, p, l, vs)) SM.out HFS.out.1 HFS.out.2
        rw [DA.1] at DS
        have FT1 := hide DA.2.1
        have SM1 := hide DS
        have FS1 : Hid (∀ x ∈ addF cs fs ss (nm, p, l, vs), FlSm 3 x) := fun x hx => (add_mem hx).elim (fun e => e ▸ HFL.out) (FS.out x)
        clear DA DS z0 z1 z2 q0 q1 q2' x0 x1 x2 r0 r1 r2
        go_wp2
        go_roundw
        case rel => exact ⟨k - 1, dc, d, d', dd, db, db', addF cs fs ss (nm, p, l, vs), addS cs fs ss (nm, p, l, vs), by omega, by go_num, KX.out, KRX.out, FX.out, FT1.out, SM1.out, FS1.out, RX.out.mono (by omega), TT.out⟩
        case measure => simp [intOf]; omega
    · obtain rfl : k = 0 := by omega
      obtain ⟨x0, x1, x2, -⟩ := KB.out.cells
      obtain ⟨y0, y1, y2, r0, r1, r2⟩ := KR.out.cells
      have KX := hide (KR.out.set3 (.slice bc cs.length cc) (.slice b fs.length cb) (.slice b' ss.length cb'))
      have TX := hide (set3_touch wr w.heap.size (.slice bc cs.length cc) (.slice b fs.length cb) (.slice b' ss.length cb'))
      go_wp2
      generalize ((wr.setCell ⟨w.heap.size, 0, none⟩ (.slice bc cs.length cc)).setCell ⟨w.heap.size, 1, none⟩ (.slice b fs.length cb)).setCell ⟨w.heap.size, 2, none⟩ (.slice b' ss.length cb') = Y at *
      obtain ⟨z0, z1, z2, -⟩ := KX.out.cells
      refine bodyPost_ret (v := bkV bc b b' cc cb cb' cs fs ss) (by simp [results, Tryz.results58, go_sem, z0, z1, z2, bkV]) rfl ⟨⟨bc, b, b', cc, cb, cb', cs, fs, ss, rfl, (FB.out.touch (touchS_mono TX.out fun q hq => .inl (by omega))).mono (fun q hq => .inl (by omega)), FT.out, SM.out, CS.out, FS.out⟩, ?_, ?_⟩
      · exact (HRD.out.touch (touch_ofS (lo := w.heap.size) (hi := w.heap.size + 1) TX.out (fun q hq => by omega)) hrl).mono (by omega)
      · exact touch_then HT.out (below_ofS TX.out (by omega) (fun q hq => by omega))
end Go.Proofs.YtciacofibljmoaaGreatDoor
