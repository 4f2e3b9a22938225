/- A flight is drawn. -/
import Derived.Test.YtciacofibljmoaaDraw4
import Derived.Deep.Cut
import Derived.Deep.CutRange
namespace Go.Proofs.Ytciacofibljmoaa
open Go.RowKit

attribute [local go_sem ↓] Go.wp_at_zero Go.wp_at_succ

/-- Visits, as a row's cells. -/
def visVals (vs : List Vis) : List Value := vs.flatMap fun v => [.string v.1, .int .i64 v.2.1, .int .i64 v.2.2]
def OwnV (w : World) (base : Nat) (v : Value) (vs : List Vis) : Prop := w.ownsRow base 110 3 v vs.length (visVals vs)
theorem visVals_at : ∀ (vs : List Vis) (i : Nat) (hi : i < vs.length), (visVals vs)[i * 3]? = some (.string vs[i].1) ∧ (visVals vs)[i * 3 + 1]? = some (.int .i64 vs[i].2.1) ∧ (visVals vs)[i * 3 + 2]? = some (.int .i64 vs[i].2.2)
  | [], i, hi => by simp at hi
  | c :: cs, 0, _ => by simp [visVals]
  | c :: cs, i + 1, hi => by
    have ih := visVals_at cs i (by simpa using hi)
    rw [show (i + 1) * 3 = i * 3 + 1 + 1 + 1 by omega]
    simpa [visVals] using ih
theorem visVals_len (vs : List Vis) : (visVals vs).length = vs.length * 3 := by
  induction vs with
  | nil => rfl
  | cons r l ih => simp only [visVals, List.flatMap_cons, List.length_append, List.length_cons, List.length_nil] at *; omega
theorem visVals_snoc (vs : List Vis) (v : Vis) : visVals (vs ++ [v]) = visVals vs ++ [.string v.1, .int .i64 v.2.1, .int .i64 v.2.2] := by simp [visVals]
theorem OwnV.form {w : World} {base : Nat} {v : Value} {vs : List Vis} (h : OwnV w base v vs) : ∃ a cap, v = .slice a vs.length cap ∧ vs.length ≤ cap ∧ cap ≤ maxLen ∧ VisitsIn w a vs ∧ (∀ p, a = some p → p = ⟨p.block, 0, none⟩ ∧ base ≤ p.block ∧ p.block < w.heap.size) := by
  obtain ⟨a, cap, h1, h2, h3, h4, h5⟩ := owns_slice h
  refine ⟨a, cap, h1, h2, h3, fun i hi => ?_, h4⟩
  obtain ⟨q0, q1, q2⟩ := visVals_at vs i hi
  obtain ⟨g, e1, e2, e3, e4, _⟩ := h5 _ _ q0
  obtain ⟨g', e1', _, _, e4', _⟩ := h5 _ _ q1
  obtain ⟨g'', e1'', _, _, e4'', _⟩ := h5 _ _ q2
  rw [e1] at e1' e1''
  simp at e1' e1''
  subst e1'
  subst e1''
  exact ⟨g, 0, e1, e3, by rw [Nat.zero_add]; exact e4, by rw [Nat.zero_add]; exact e4', by rw [Nat.zero_add]; exact e4''⟩
/-- Visits whose sectors are short, m of them at most. -/
def VisSm (m : Nat) (vs : List Vis) : Prop := vs.length ≤ m ∧ ∀ v ∈ vs, v.1.size ≤ 8

/-- Four cells of a flight in a block. -/
def FlAt (w : World) (F : Nat) (nm : ByteArray) (p l : Int) (v : Value) : Prop :=
  ∃ f, w.rowIs F 74 4 f ∧ f 0 = .string nm ∧ f 1 = .int .i64 p ∧ f 2 = .int .i64 l ∧ f 3 = v
theorem FlAt.cells {w : World} {F : Nat} {nm : ByteArray} {p l : Int} {v : Value} (h : FlAt w F nm p l v) :
    w.cell? ⟨F, 0, none⟩ = some (.string nm) ∧ w.cell? ⟨F, 1, none⟩ = some (.int .i64 p) ∧ w.cell? ⟨F, 2, none⟩ = some (.int .i64 l) ∧ w.cell? ⟨F, 3, none⟩ = some v ∧
      w.frozen? ⟨F, 0, none⟩ = false ∧ w.frozen? ⟨F, 1, none⟩ = false ∧ w.frozen? ⟨F, 2, none⟩ = false ∧ w.frozen? ⟨F, 3, none⟩ = false := by
  obtain ⟨f, h0, h1, h2, h3, h4⟩ := h
  exact ⟨h1 ▸ h0.cell (by omega), h2 ▸ h0.cell (by omega), h3 ▸ h0.cell (by omega), h4 ▸ h0.cell (by omega), h0.frozen _, h0.frozen _, h0.frozen _, h0.frozen _⟩
theorem FlAt.keep {w w' : World} {F : Nat} {nm : ByteArray} {p l : Int} {v : Value} (h : FlAt w F nm p l v) (hk : w'.heap[F]? = w.heap[F]?) : FlAt w' F nm p l v := by
  obtain ⟨f, h0, h1⟩ := h
  exact ⟨f, h0.of_block hk, h1⟩
theorem FlAt.lt {w : World} {F : Nat} {nm : ByteArray} {p l : Int} {v : Value} (h : FlAt w F nm p l v) : F < w.heap.size := by
  obtain ⟨f, h0, h1⟩ := h
  exact h0.lt
theorem FlAt.touch {w w' : World} {F lo hi : Nat} {nm : ByteArray} {p l : Int} {v : Value} (h : FlAt w F nm p l v) (ht : Touch lo hi w w') (ho : hi ≤ F) : FlAt w' F nm p l v := h.keep (ht.block F h.lt (.inr ho))
theorem FlAt.later {w w' : World} {F : Nat} {nm : ByteArray} {p l : Int} {v : Value} (h : FlAt w F nm p l v) (hb : Below w.heap.size w w') : FlAt w' F nm p l v := h.keep (hb.block F h.lt)
theorem FlAt.new (w : World) (nm : ByteArray) (p l : Int) (v : Value) : FlAt (w.alloc (.cells #[.string nm, .int .i64 p, .int .i64 l, v] 74)) w.heap.size nm p l v :=
  ⟨fun i => (#[.string nm, .int .i64 p, .int .i64 l, v] : Array Value).getD i undef, World.rowIs_alloc w _ _ _ (fun i hi => by simp at hi; match i, hi with | 0, _ => rfl | 1, _ => rfl | 2, _ => rfl | 3, _ => rfl), rfl, rfl, rfl, rfl⟩
theorem FlAt.setPlan {w : World} {F : Nat} {nm : ByteArray} {p l : Int} {v : Value} (h : FlAt w F nm p l v) (p' : Int) : FlAt (w.setCell ⟨F, 1, none⟩ (.int .i64 p')) F nm p' l v := by
  obtain ⟨f, h0, h1, h2, h3, h4⟩ := h
  exact ⟨_, h0.set 1 _, by simp [h1], by simp, by simp [h3], by simp [h4]⟩
theorem FlAt.setLate {w : World} {F : Nat} {nm : ByteArray} {p l : Int} {v : Value} (h : FlAt w F nm p l v) (l' : Int) : FlAt (w.setCell ⟨F, 2, none⟩ (.int .i64 l')) F nm p l' v := by
  obtain ⟨f, h0, h1, h2, h3, h4⟩ := h
  exact ⟨_, h0.set 2 _, by simp [h1], by simp [h2], by simp, by simp [h4]⟩
theorem FlAt.setVis {w : World} {F : Nat} {nm : ByteArray} {p l : Int} {v : Value} (h : FlAt w F nm p l v) (v' : Value) : FlAt (w.setCell ⟨F, 3, none⟩ v') F nm p l v' := by
  obtain ⟨f, h0, h1, h2, h3, h4⟩ := h
  exact ⟨_, h0.set 3 _, by simp [h1], by simp [h2], by simp [h3], by simp⟩
theorem FlAt.setName {w : World} {F : Nat} {nm : ByteArray} {p l : Int} {v : Value} (h : FlAt w F nm p l v) (nm' : ByteArray) : FlAt (w.setCell ⟨F, 0, none⟩ (.string nm')) F nm' p l v := by
  obtain ⟨f, h0, h1, h2, h3, h4⟩ := h
  exact ⟨_, h0.set 0 _, by simp, by simp [h2], by simp [h3], by simp [h4]⟩
theorem VisitsIn.keep {w w' : World} {a : Option Addr} {vs : List Vis} (h : VisitsIn w a vs) (hk : ∀ p, a = some p → w'.heap[p.block]? = w.heap[p.block]?) (hs : w.heap.size ≤ w'.heap.size) : VisitsIn w' a vs := fun i hi => by
  obtain ⟨b, off, e, hlt, h0, h1, h2⟩ := h i hi
  have hb := hk _ e
  exact ⟨b, off, e, Nat.lt_of_lt_of_le hlt hs, (World.cell?_of_block (w := w) (a := ⟨b, off + i * 3, none⟩) hb).trans h0, (World.cell?_of_block (w := w) (a := ⟨b, off + i * 3 + 1, none⟩) hb).trans h1, (World.cell?_of_block (w := w) (a := ⟨b, off + i * 3 + 2, none⟩) hb).trans h2⟩
theorem FlAt.grown {w w' : World} {o : Obj} {row : Option Nat} {F : Nat} {nm : ByteArray} {p l : Int} {v : Value} (h : FlAt w F nm p l v) (hg : (w.alloc o).grownBy w' row) (hne : row ≠ some F) : FlAt w' F nm p l v :=
  (h.later ((Below.refl _ _).alloc (Nat.le_refl _) o)).keep (hg.block F (by have := h.lt; simp; omega) (fun hh => hne hh.symm))
theorem below_set {w w' : World} {B : Nat} (h : Below B w w') (b i : Nat) (ha : B ≤ b) (v : Value) : Below B w (w'.setCell ⟨b, i, none⟩ v) := h.setCell ha v

set_option maxRecDepth 100000 in
set_option maxHeartbeats 6400000 in
theorem l6Flight_any (r N : Nat) (nm : ByteArray) (w : World) (h : Rd w r N) (hN : N ≤ 900000) :
    Calls Try.prog 81 #[.pointer (some ⟨r, 0, none⟩), .string nm] w fun e w' =>
      (∃ (p l : Int) (vs : List Vis) (a : Option Addr) (c : Nat), e = .returned (.agg #[.string nm, .int .i64 p, .int .i64 l, .slice a vs.length c]) ∧ 0 ≤ l ∧ l ≤ 60 ∧ VisSm 3 vs ∧ 1 ≤ vs.length ∧ VisitsIn w' a vs ∧ ∀ q, a = some q → w.heap.size ≤ q.block) ∧ Rd w' r (N + 20) ∧ Touch r (r + 1) w w' := by
  obtain ⟨i0, hi, iz0, iz1, iz2⟩ := info_parts info_visit
  have hrl := h.lt
  have HR := hide h
  clear h
  go_enter Try.func81, Try.ntmps81
  go_wp2_with fail
  have R0 := hide (FlAt.new w ⟨#[]⟩ 0 0 (.slice none 0 0))
  have B0 := hide ((Below.refl w.heap.size w).alloc (Nat.le_refl _) (.cells #[.string ⟨#[]⟩, .int .i64 0, .int .i64 0, .slice none 0 0] 74))
  refine (pick_any r N _ _ (HR.out.later B0.out) (by omega) (by omega)).mono ?_
  rintro e w1 ⟨⟨q1, rfl, hq10, hq11⟩, hr1, ht1⟩
  go_wp2_with fail
  refine (pick_any r _ _ _ hr1 (by omega) (by omega)).mono ?_
  rintro e w2 ⟨⟨q2, rfl, hq20, hq21⟩, hr2, ht2⟩
  have T2 := hide (touch_trans (touch_trans (touch_below B0.out) ht1) ht2)
  have R2 := hide ((R0.out.touch ht1 (by omega)).touch ht2 (by omega))
  have HR2 := hide hr2
  clear hr1 ht1 hr2 ht2 R0 B0 HR
  go_wp2_with fail
  have F2 := hide (FlAt.new w2 nm q1 q2 (.slice none 0 0))
  have B2 := hide ((Below.refl w2.heap.size w2).alloc (Nat.le_refl _) (.cells #[.string nm, .int .i64 q1, .int .i64 q2, .slice none 0 0] 74))
  have hs2 := T2.out.size
  have hsF : w.heap.size < w2.heap.size := R2.out.lt
  refine (pick_any r _ _ _ (HR2.out.later B2.out) (by omega) (by omega)).mono ?_
  rintro e w3 ⟨⟨q3, rfl, hq30, hq31⟩, hr3, ht3⟩
  have T3 := hide (touch_trans (touch_trans T2.out (touch_below B2.out)) ht3)
  have R3 := hide ((R2.out.later B2.out).touch ht3 (by omega))
  have F3 := hide (F2.out.touch ht3 (by omega))
  have HR3 := hide hr3
  clear hr3 ht3 R2 B2 HR2 F2 T2
  generalize w2.heap.size = F at *
  clear hs2
  go_upto_if 17 with fail
  go_cut [] from 18 (fun wc => ∃ p l : Int, 0 ≤ l ∧ l ≤ 60 ∧ Hid (FlAt wc F nm p l (.slice none 0 0)) ∧ Hid (FlAt wc w.heap.size ⟨#[]⟩ 0 0 (.slice none 0 0)) ∧ Hid (Rd wc r (N + 4)) ∧ Hid (Touch r (r + 1) w wc))
  case first =>
    by_cases hq : q3 = 0
    · subst hq
      go_wp2_with fail
      refine (pick_any r _ _ _ HR3.out (by omega) (by omega)).mono ?_
      rintro e w4 ⟨⟨q4, rfl, hq40, hq41⟩, hr4, ht4⟩
      have F4 := F3.out.touch ht4 (by omega)
      have f4 := F4.cells
      obtain ⟨_, c1, c2, _, _, z1, z2, _⟩ := f4
      have F5 := hide ((F4.setPlan (10000 - q4)).setLate 60)
      have R5 := hide ((R3.out.touch ht4 (by omega)).keep (w' := ((w4.setCell ⟨F, 1, none⟩ (.int .i64 (10000 - q4))).setCell ⟨F, 2, none⟩ (.int .i64 60))) (by rw [Below.heap_setCell _ _ _ _ (by show w.heap.size ≠ F; omega), Below.heap_setCell _ _ _ _ (by show w.heap.size ≠ F; omega)]))
      have B5 := hide (below_set (below_set (Below.refl w.heap.size w4) F 1 (by omega) (.int .i64 (10000 - q4))) F 2 (by omega) (.int .i64 60))
      have HR5 := hide (hr4.below B5.out hrl)
      have T5 := hide (touch_then (touch_trans T3.out ht4) B5.out)
      clear F4 hr4 ht4
      go_wp2_with fail
      go_meet
      case rel => exact ⟨_, _, by omega, by omega, F5.out, R5.out, HR5.out, T5.out⟩
    · have hq' : (q3 == 0) = false := beq_eq_false_iff_ne.2 hq
      go_wp2_with fail
      go_meet
      case rel => exact ⟨_, _, by omega, by omega, F3.out, R3.out, HR3.out.mono (by omega), T3.out⟩
  case rest =>
    obtain ⟨p, l, hl0, hl1, F4, R4, HR4, T4⟩ := hcut
    clear F3 R3 HR3 T3
    go_wp2_with fail
    refine (pick_any r _ _ _ HR4.out (by omega) (by omega)).mono ?_
    rintro e w5 ⟨⟨q5, rfl, hq50, hq51⟩, hr5, ht5⟩
    go_wp2_with fail
    refine (pick_any r _ _ _ hr5 (by omega) (by omega)).mono ?_
    rintro e w6 ⟨⟨q6, rfl, hq60, hq61⟩, hr6, ht6⟩
    have T6 := hide (touch_trans (touch_trans T4.out ht5) ht6)
    have R6 := hide ((R4.out.touch ht5 (by omega)).touch ht6 (by omega))
    have F6 := hide ((F4.out.touch ht5 (by omega)).touch ht6 (by omega))
    have HR6 := hide hr6
    clear hr5 ht5 hr6 ht6 T4 R4 F4 HR4
    obtain ⟨m0, rfl⟩ := Int.eq_ofNat_of_zero_le hq60
    go_wp2_with fail
    go_loopw [6, 7] (fun t n wr => ∃ (k : Nat) (tt : Int) (vs : List Vis) (v : Value), t = .int .i64 tt ∧ n = .int .i64 k ∧ k + vs.length = 1 + m0 ∧ Hid (OwnV wr w.heap.size v vs) ∧ Hid (VisSm 3 vs) ∧ Hid (v.ownBlock ≠ some F ∧ v.ownBlock ≠ some w.heap.size) ∧ Hid (FlAt wr F nm p l v) ∧ Hid (FlAt wr w.heap.size ⟨#[]⟩ 0 0 (.slice none 0 0)) ∧ Hid (Rd wr r (N + 6 + 4 * vs.length)) ∧ Hid (Touch r (r + 1) w wr)) (fun _ n _ => (RowKit.intOf n).toNat)
    case atStart => exact ⟨1 + m0, q5, [], _, rfl, by go_num, by simp, World.ownsRow_nil _ _ _ _, ⟨Nat.zero_le _, by simp⟩, ⟨by simp [Value.ownBlock], by simp [Value.ownBlock]⟩, F6.out, R6.out, HR6.out, T6.out⟩
    case round =>
      obtain ⟨k, tt, vs, v, rfl, rfl, hk, HO, HSM, HNE, FF, RR, HRD, HT⟩ := hrel
      clear T6 R6 F6 HR6
      by_cases hlt : 0 < k
      · have hlt' : (0 : Int) < (k : Int) := by omega
        go_wp2_with fail
        refine (l6Sector_any r _ _ HRD.out (by omega)).mono ?_
        rintro e wA ⟨⟨sc, hsc, rfl⟩, hrA, htA⟩
        go_wp2_with fail
        refine (pick_any r _ _ _ hrA (by omega) (by omega)).mono ?_
        rintro e wB ⟨⟨q7, rfl, hq70, hq71⟩, hrB, htB⟩
        have TB := hide (touch_trans htA htB)
        have HRB := hide hrB
        have hsB := TB.out.size
        have hFr := FF.out.lt
        have hTs := HT.out.size
        go_upto_region 10 with fail
        obtain ⟨W, hW, x0, x1, x2, hWb⟩ := alloc3 wB (.string sc) (.int .i64 tt) (.int .i64 (1 + q7)) 110
        rw [hW]
        have hWs : wB.heap.size + 1 = W.heap.size := by rw [← hW]; simp
        have FW := hide ((FF.out.touch TB.out (by omega)).later hWb)
        have RW := hide ((RR.out.touch TB.out (by omega)).later hWb)
        have OW := hide (owns_later (owns_touch HO.out TB.out (by omega)) hWb)
        have HRW := hide (HRB.out.later hWb)
        have TW := hide (touch_then (touch_trans HT.out TB.out) (hWb.mono (by omega)))
        have HVB : Hid (∀ g, v.ownBlock = some g → g < wB.heap.size) := fun g hg => by have := (HO.out.lt g hg).2; omega
        clear hrA htA hrB htB TB HRB hW HO FF RR HRD HT hWb
        have c3 := FW.out.cells.2.2.2.1
        have z3 := FW.out.cells.2.2.2.2.2.2.2
        generalize wB.heap.size = V at *
        go_wp2_with (first
          | (at_builtin; refine wpList_append_lies _ rfl _ _ 72 rfl w.heap.size 110 i0 (.agg #[.string ⟨#[]⟩, .int .i64 0, .int .i64 0]) 3 32 Try.underlying72 hi iz0 iz1 iz2 rfl (by decide) _ _ _ rfl (World.ownsRow.alloc OW.out _) ⟨W.heap.size, 0, none⟩ 1 1 [.string sc, .int .i64 tt, .int .i64 (1 + q7)] rfl rfl (cell_three_new _ _ _ _ _) (fun x hx => by simp at hx; rcases hx with rfl | rfl | rfl <;> rfl) (by decide) (by have := HSM.out.1; unfold maxLen; omega) (by have := HSM.out.1; omega) (by simp; omega) (W.heap.size + 1) (by simp) ?_; intro g cp wE hownE hgrowE hatE hltE; have FE := hide (FW.out.grown hgrowE HNE.out.1); have RE := hide (RW.out.grown hgrowE HNE.out.2); have c3E := FE.out.cells.2.2.2.1; have z3E := FE.out.cells.2.2.2.2.2.2.2))
        have hgF : g ≠ F := by
          rcases hatE with he | he
          · intro hh
            exact HNE.out.1 (he.trans (congrArg some hh))
          · omega
        have hgR : g ≠ w.heap.size := by
          rcases hatE with he | he
          · intro hh
            exact HNE.out.2 (he.trans (congrArg some hh))
          · omega
        have BE := hide (below_grow (a := w) (w := W) (by omega) hgrowE (fun q hq => (OW.out.lt _ hq).1))
        have FX := hide (FE.out.setVis (.slice (some ⟨g, 0, none⟩) (vs.length + 1) cp))
        have RX := hide (RE.out.keep (w' := wE.setCell ⟨F, 3, none⟩ (.slice (some ⟨g, 0, none⟩) (vs.length + 1) cp)) (Below.heap_setCell _ _ _ _ (by show w.heap.size ≠ F; omega)))
        have OX : Hid (OwnV (wE.setCell ⟨F, 3, none⟩ (.slice (some ⟨g, 0, none⟩) (vs.length + 1) cp)) w.heap.size (.slice (some ⟨g, 0, none⟩) (vs.length + 1) cp) (vs ++ [(sc, tt, 1 + q7)])) := by
          show World.ownsRow _ _ _ _ _ _ _
          rw [visVals_snoc, List.length_append]
          exact owns_keep hownE (fun q hq => Below.heap_setCell _ _ _ _ (by simp [Value.ownBlock] at hq; show q ≠ F; omega))
        have BX := hide (below_set BE.out F 3 (by omega) (.slice (some ⟨g, 0, none⟩) (vs.length + 1) cp))
        have HRX := hide (HRW.out.below BX.out hrl)
        have TX := hide (touch_then TW.out BX.out)
        have cV : (wE.setCell ⟨F, 3, none⟩ (.slice (some ⟨g, 0, none⟩) (vs.length + 1) cp)).cell? ⟨V, 2, none⟩ = some (.int .i64 (1 + q7)) := by
          rw [World.cell?_of_block (w := wE) (Below.heap_setCell _ _ _ _ (by show V ≠ F; omega))]
          exact World.grownBy.cell hgrowE (cell_later ((Below.refl _ _).alloc (Nat.le_refl _) _) x2) (fun hh => by have := HVB.out V hh.symm; omega)
        have HSM2 : Hid (VisSm 3 (vs ++ [(sc, tt, 1 + q7)])) := by
          obtain ⟨g1, g2⟩ := HSM.out
          refine ⟨by simp; omega, fun c hc => ?_⟩
          rcases List.mem_append.1 hc with hc | hc
          · exact g2 c hc
          · simp at hc; subst hc; exact hsc
        clear hownE hgrowE hatE hltE BE FE RE c3E z3E c3 z3 BX TW HRW OW RW FW x0 x1 x2 HNE HSM HVB
        generalize wE.setCell ⟨F, 3, none⟩ (.slice (some ⟨g, 0, none⟩) (vs.length + 1) cp) = X at *
        have hFX := FX.out.lt
        have tok1 : True := trivial
        have tok2 : True := trivial
        have hbV : r + 1 ≤ V := by omega
        go_region_held3 (fun w' => w'.cell? ⟨V, 2, none⟩ = some (.int .i64 (1 + q7)))
          (first | exact cV | exact cA | exact cB)
          (first
            | (go_at_call 40; have _t := tok1; refine (pick_any r _ _ _ HRX.out.drew ?_ ?_).mono ?_; omega; omega; rintro e wa ⟨⟨qa, rfl, qa0, qa1⟩, hra, hta⟩; have cA := cell_touch hta cV (.inr hbV); clear tok1)
            | (go_at_call 40; have _t := tok2; refine (pick_any r _ _ _ hra ?_ ?_).mono ?_; omega; omega; rintro e wb ⟨⟨qb, rfl, qb0, qb1⟩, hrb, htb⟩; have cB := cell_touch htb cA (.inr hbV); clear tok2))
        rename_i hH
        clear hH
        have TY := hide (touch_trans hta htb)
        have FY := hide (FlAt.touch (show FlAt X.drew _ _ _ _ _ from FX.out) TY.out (by omega))
        have RY := hide (FlAt.touch (show FlAt X.drew _ _ _ _ _ from RX.out) TY.out (by omega))
        have OY := hide (owns_touch (show World.ownsRow X.drew _ _ _ _ _ _ from OX.out) TY.out (by omega))
        have HTY := hide (touch_trans (touch_drew TX.out) TY.out)
        clear hta htb cA cB hra FX RX OX TX HRX cV TY
        go_wp2
        go_roundw
        case rel => exact ⟨k - 1, _, vs ++ [(sc, tt, 1 + q7)], _, rfl, by go_num, by simp; omega, OY.out, HSM2.out, ⟨by simp [Value.ownBlock]; exact hgF, by simp [Value.ownBlock]; exact hgR⟩, FY.out, RY.out, hrb.mono (by simp; omega), HTY.out⟩
        case measure => simp [RowKit.intOf]; omega
      · obtain ⟨a, c, rfl, _, _, hv, hva⟩ := OwnV.form HO.out
        obtain ⟨f0, f1, f2, f3, _⟩ := FF.out.cells
        obtain ⟨_, _, _, _, g0, g1, g2, g3⟩ := RR.out.cells
        have B9 := hide (below_set (below_set (below_set (below_set (Below.refl w.heap.size wr) w.heap.size 0 (Nat.le_refl _) (.string nm)) w.heap.size 1 (Nat.le_refl _) (.int .i64 p)) w.heap.size 2 (Nat.le_refl _) (.int .i64 l)) w.heap.size 3 (Nat.le_refl _) (.slice a vs.length c))
        have V9 := hide (hv.keep (w' := (((wr.setCell ⟨w.heap.size, 0, none⟩ (.string nm)).setCell ⟨w.heap.size, 1, none⟩ (.int .i64 p)).setCell ⟨w.heap.size, 2, none⟩ (.int .i64 l)).setCell ⟨w.heap.size, 3, none⟩ (.slice a vs.length c)) (fun q hq => by
          have hne : q.block ≠ w.heap.size := fun hh => HNE.out.2 (by rw [hq]; simp [Value.ownBlock, hh])
          rw [Below.heap_setCell _ _ _ _ (by exact hne), Below.heap_setCell _ _ _ _ (by exact hne), Below.heap_setCell _ _ _ _ (by exact hne), Below.heap_setCell _ _ _ _ (by exact hne)]) B9.out.size)
        have HV := hide hva
        have Y9 := (((RR.out.setName nm).setPlan p).setLate l).setVis (.slice a vs.length c)
        obtain ⟨y0, y1, y2, y3, _⟩ := Y9.cells
        have Z0 := hide y0
        have Z1 := hide y1
        have Z2 := hide y2
        have Z3 := hide y3
        clear hv hva Y9 y0 y1 y2 y3
        go_wp2
        generalize (((wr.setCell ⟨w.heap.size, 0, none⟩ (.string nm)).setCell ⟨w.heap.size, 1, none⟩ (.int .i64 p)).setCell ⟨w.heap.size, 2, none⟩ (.int .i64 l)).setCell ⟨w.heap.size, 3, none⟩ (.slice a vs.length c) = Y at *
        have y0 := Z0.out
        have y1 := Z1.out
        have y2 := Z2.out
        have y3 := Z3.out
        exact bodyPost_ret (v := .agg #[.string nm, .int .i64 p, .int .i64 l, .slice a vs.length c]) (by simp [results, Try.results81, go_sem, y0, y1, y2, y3]) rfl ⟨⟨p, l, vs, a, c, rfl, hl0, hl1, HSM.out, by omega, V9.out, fun q hq => (HV.out q hq).2.1⟩, (HRD.out.below B9.out hrl).mono (by omega), touch_then HT.out B9.out⟩

end Go.Proofs.Ytciacofibljmoaa
