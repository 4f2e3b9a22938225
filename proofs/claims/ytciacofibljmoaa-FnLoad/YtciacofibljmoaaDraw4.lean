/- Caps are drawn. -/
import Derived.Test.YtciacofibljmoaaDraw3
namespace Go.Proofs.Ytciacofibljmoaa
open Go.RowKit

attribute [local go_sem ↓] Go.wp_at_zero Go.wp_at_succ

def capNams : List ByteArray := [⟨#[101]⟩, ⟨#[110, 45, 49]⟩, ⟨#[119]⟩]
theorem capNams_size : ∀ s ∈ capNams, s.size ≤ 8 := by decide
/-- Caps that are no longer, and no longer of name, than drawn ones. -/
def CapsSm (m : Nat) (cs : List (ByteArray × Int)) : Prop := cs.length ≤ m ∧ ∀ c ∈ cs, c.1.size ≤ 8
theorem cell_two_new (w : World) (a b : Value) (t : TypeId) : ∀ j u, [a, b][j]? = some u → (w.alloc (.cells #[a, b] t)).cell? ((⟨w.heap.size, 0, none⟩ : Addr).add j) = some u := by
  intro j u hj
  rw [plain_add]
  match j, hj with
  | 0, hj => simp at hj; subst hj; simp
  | 1, hj => simp at hj; subst hj; simp
theorem capVals_snoc (cs : List (ByteArray × Int)) (c : ByteArray × Int) : capVals (cs ++ [c]) = capVals cs ++ [.string c.1, .int .i64 c.2] := by simp [capVals]

theorem Rd.below {w w' : World} {r N B : Nat} (h : Rd w r N) (hb : Below B w w') (hr : r < B) : Rd w' r N := by
  obtain ⟨f, a, n, cap, p, h0, h1, h2, h3, h4, h5⟩ := h
  refine ⟨f, a, n, cap, p, h0.of_block (hb.block _ hr), h1, h2, h3, h4, fun i hi => ?_⟩
  obtain ⟨b, off, z, e, hlt, z0, z1, hc⟩ := h5 i hi
  exact ⟨b, off, z, e, hlt, z0, z1, by rw [World.cell?_of_block (w := w) (hb.block b (by omega))]; exact hc⟩
theorem StrsIn.grown {r : Nat} {w w' : World} {a : Option Addr} {ss : List ByteArray} {row : Option Nat} (h : StrsIn r w a ss) (hg : w.grownBy w' row) (hne : ∀ p, a = some p → row ≠ some p.block) : StrsIn r w' a ss := fun i hi' => by
  obtain ⟨b, off, e, hb', hc⟩ := h i hi'
  exact ⟨b, off, e, hb', World.grownBy.cell hg hc (fun hh => hne _ e hh.symm)⟩
theorem below_grow {a w w' : World} {o : Obj} {row : Option Nat} (ha : a.heap.size ≤ w.heap.size) (hg : (w.alloc o).grownBy w' row) (hr : ∀ k, row = some k → a.heap.size ≤ k) : Below a.heap.size w w' :=
  Below.grown ((Below.refl _ _).alloc ha _) hg (by simp; omega) hr

set_option maxRecDepth 100000 in
set_option maxHeartbeats 3200000 in
theorem l6Caps_any (r N : Nat) (w : World) (h : Rd w r N) (hN : N ≤ 900000) :
    Calls Try.prog 38 #[.pointer (some ⟨r, 0, none⟩)] w fun e w' => (∃ v cs, e = .returned v ∧ OwnC w' w.heap.size v cs ∧ CapsSm 3 cs) ∧ Rd w' r (N + 15) ∧ Touch r (r + 1) w w' := by
  obtain ⟨i0, hi, iz0, iz1, iz2⟩ := info_parts info_cap
  have hrl := h.lt
  have HR := hide h
  clear h
  go_enter Try.func38, Try.ntmps38
  go_wp2
  have hB1 := hide (((Below.refl w.heap.size w).alloc (Nat.le_refl _) (.cells #[] 77)).alloc (by simp) (.cells (capNams.map Value.string).toArray 9))
  have hS1 := hide (strs_alloc (r := r) (w := w.alloc (.cells #[] 77)) (by simp; omega) 9 #[.string ⟨#[101]⟩, .string ⟨#[110, 45, 49]⟩, .string ⟨#[119]⟩] capNams rfl)
  have hS1 := hide (show StrsIn r ((w.alloc (.cells #[] 77)).alloc (.cells #[.string ⟨#[101]⟩, .string ⟨#[110, 45, 49]⟩, .string ⟨#[119]⟩] 9)) (some ⟨w.heap.size + 1, 0, none⟩) capNams by have := hS1.out; rw [Deep.nblk_alloc] at this; exact this)
  have hO1 := hide (World.ownsRow.alloc (own_emptyC w) (.cells (capNams.map Value.string).toArray 9))
  go_loopw [3, 5] (fun v i wr => ∃ (k : Nat) (cs : List (ByteArray × Int)), k ≤ 3 ∧ i = .int .i64 k ∧ Hid (OwnC wr w.heap.size v cs) ∧ Hid (CapsSm k cs) ∧ Hid (Rd wr r (N + 5 * k)) ∧ Hid (StrsIn r wr (some ⟨w.heap.size + 1, 0, none⟩) capNams) ∧ Hid (Touch r (r + 1) w wr) ∧ Hid (v.ownBlock ≠ some (w.heap.size + 1))) (fun _ i _ => 3 - (RowKit.intOf i).toNat)
  case atStart => exact ⟨0, [], Nat.zero_le _, rfl, hO1.out, ⟨Nat.le_refl _, by simp⟩, HR.out.later hB1.out, hS1.out, touch_below hB1.out, by show _ ≠ _; simp [Value.ownBlock]⟩
  case round =>
    obtain ⟨k, cs, hk, rfl, HO, HSM, HRD, HST, HT, HNE⟩ := hrel
    clear hB1 hS1 hO1
    by_cases hlt : k < 3
    · have hlt' : (k : Int) < 3 := by omega
      go_wp2_with fail
      refine (pick_any r _ _ _ HRD.out (by omega) (by omega)).mono ?_
      rintro e w1 ⟨⟨q, rfl, hq0, hq1⟩, hr1, ht1⟩
      have HRA := hide hr1
      have HSA := hide (HST.out.touch ht1 (Nat.le_refl _))
      have HOA := hide (owns_touch HO.out ht1 (by omega))
      have HTA := hide (touch_trans HT.out ht1)
      clear hr1 ht1 HRD HST HO HT
      by_cases hq : 0 < q
      · obtain ⟨b, off, hbe, hb, hc⟩ := HSA.out k hlt
        simp at hbe
        obtain ⟨rfl, rfl⟩ := hbe
        rw [Nat.zero_add] at hc
        have hsz := capNams_size _ (List.getElem_mem (l := capNams) (n := k) hlt)
        generalize capNams[k] = nm at hc hsz
        have hb1 : r + 1 ≤ w.heap.size + 1 := by omega
        have hb2 : r + 1 ≤ w.heap.size := by omega
        have tok1 : True := trivial
        have tok2 : True := trivial
        have tok3 : True := trivial
        have tok4 : True := trivial
        go_wp2
        go_region_held3 (fun w' => w'.cell? ⟨w.heap.size + 1, k, none⟩ = some (.string nm))
          (first | exact hc | exact hcA | exact hcB | exact hcC | exact hcD | exact cell_later ((Below.refl _ _).alloc (Nat.le_refl _) _) hcD | exact hcE)
          (first
            | (go_at_call 40; have _t := tok1; refine (pick_any r _ _ _ HRA.out.drew ?_ ?_).mono ?_; omega; omega; rintro e wA ⟨⟨qa, rfl, qa0, qa1⟩, hra, hta⟩; have hcA := cell_touch hta hc (.inr hb1); clear tok1)
            | (go_at_call 40; have _t := tok2; refine (pick_any r _ _ _ hra ?_ ?_).mono ?_; omega; omega; rintro e wB ⟨⟨qb, rfl, qb0, qb1⟩, hrb, htb⟩; have hcB := cell_touch htb hcA (.inr hb1); clear tok2)
            | (go_at_call 40; have _t := tok3; refine (pick_any r _ _ _ hrb ?_ ?_).mono ?_; omega; omega; rintro e wC ⟨⟨qc, rfl, qc0, qc1⟩, hrc, htc⟩; have hcC := cell_touch htc hcB (.inr hb1); clear tok3)
            | (go_at_call 40; have _t := tok4; refine (pick_any r _ _ _ hrc ?_ ?_).mono ?_; omega; omega; rintro e wD ⟨⟨qd, rfl, qd0, qd1⟩, hrd, htd⟩; have hcD := cell_touch htd hcC (.inr hb1); have TD := touch_trans (touch_trans (touch_trans hta htb) htc) htd; clear tok4)
            | (refine step_append_lies _ (by rfl) _ _ 32 (by rfl) w.heap.size 77 i0 (.agg #[.string ⟨#[]⟩, .int .i64 0]) 2 24 Try.underlying32 hi iz0 iz1 iz2 (by rfl) (by decide) _ _ _ (by rfl) (World.ownsRow.alloc (owns_touch (show World.ownsRow w1.drew _ _ _ _ _ _ from HOA.out) TD hb2) _) ⟨wD.heap.size, 0, none⟩ 1 1 [.string nm, .int .i64 _] (by rfl) (by rfl) (cell_two_new _ _ _ _) (fun x hx => by simp at hx; rcases hx with rfl | rfl <;> rfl) (by decide) (by have := HSM.out.1; unfold maxLen; omega) (by have := HSM.out.1; omega) (by have := TD.size; have := HTA.out.size; simp at *; omega) (wD.heap.size + 1) (by simp) ?_; intro g cp wE hownE hgrowE hatE hltE; have hcE := World.grownBy.cell hgrowE (cell_later ((Below.refl _ _).alloc (Nat.le_refl _) _) hcD) (fun hh => HNE.out hh.symm)))
        rename_i hH
        clear hH
        have hsz2 := HTA.out.size
        have hsz3 := TD.size
        have BE := hide (below_grow (a := w) (w := wD) (Nat.le_trans hsz2 (by simpa using hsz3)) hgrowE (fun q hq => (HOA.out.lt _ hq).1))
        have HRE := hide (hrd.below BE.out hrl)
        have HTE := hide (touch_then (touch_trans (touch_drew HTA.out) TD) BE.out)
        have hblk : w.heap.size + 1 < wD.heap.size := World.block_lt_of_cell? wD _ hcD
        have HSE := hide (StrsIn.grown ((StrsIn.touch (show StrsIn r w1.drew _ _ from HSA.out) TD (Nat.le_refl _)).later ((Below.refl _ _).alloc (Nat.le_refl _) _)) hgrowE (fun p hp => by simp at hp; subst hp; exact HNE.out))
        have HOE : Hid (OwnC wE w.heap.size (.slice (some ⟨g, 0, none⟩) (cs.length + 1) cp) (cs ++ [(nm, IntKind.i64.wrap (IntKind.i64.wrap (1 + qa) - IntKind.i64.wrap (IntKind.i64.wrap (qb * qc) * qd)))])) := by
          show World.ownsRow _ _ _ _ _ _ _
          rw [capVals_snoc, List.length_append]
          exact hownE
        have HNE2 : Hid ((Value.slice (some ⟨g, 0, none⟩) (cs.length + 1) cp).ownBlock ≠ some (w.heap.size + 1)) := by
          show _ ≠ _
          rcases hatE with he | he
          · intro hh
            exact HNE.out (he.trans hh)
          · simp [Value.ownBlock]; omega
        have HSM2 : Hid (CapsSm (k + 1) (cs ++ [(nm, IntKind.i64.wrap (IntKind.i64.wrap (1 + qa) - IntKind.i64.wrap (IntKind.i64.wrap (qb * qc) * qd)))])) := by
          obtain ⟨g1, g2⟩ := HSM.out
          refine ⟨by simp; omega, fun c hc => ?_⟩
          rcases List.mem_append.1 hc with hc | hc
          · exact g2 c hc
          · simp at hc; subst hc; exact hsz
        clear hta htb htc htd hra hrb hrc hrd hcA hcB hcC hcD hcE hownE hgrowE hatE hltE hc TD HSA HOA HTA HRA HNE HSM
        go_wp2
        go_roundw
        case rel => exact ⟨k + 1, _, by omega, by go_num, HOE.out, HSM2.out, HRE.out.mono (by omega), HSE.out, HTE.out, HNE2.out⟩
        case measure => simp [RowKit.intOf]; omega
      · go_wp2
        go_roundw
        case rel => exact ⟨k + 1, cs, by omega, by go_num, HOA.out, ⟨Nat.le_trans HSM.out.1 (Nat.le_succ _), HSM.out.2⟩, HRA.out.mono (by omega), HSA.out, HTA.out, HNE.out⟩
        case measure => simp [RowKit.intOf]; omega
    · go_wp2
      go_ret
      have : k = 3 := by omega
      subst this
      exact ⟨⟨_, _, rfl, HO.out, HSM.out⟩, HRD.out, HT.out⟩

end Go.Proofs.Ytciacofibljmoaa
