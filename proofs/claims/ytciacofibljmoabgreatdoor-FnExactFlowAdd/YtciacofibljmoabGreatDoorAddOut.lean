/- The law FnExactFlowAdd: from its walk to the given card. -/
import Derived.Test.YtciacofibljmoabGreatDoorOpens
import Derived.Test.YtciacofibljmoabGreatDoorLaid
import Derived.Test.YtciacofibljmoabGreatDoorTie
import Derived.Test.YtciacofibljmoabGreatDoorCards
import Derived.OpenShut
import Derived.ShutString
import Derived.ChangeOld
import Derived.SevenTiedAt
namespace Go.Proofs.YtciacofibljmoabGreatDoor
open Go.ChangeShapes Go.WideShapes Go.ChangeAt Go.RowKit
open Go.ChangeMaps (open_string shut_string)

set_option maxRecDepth 100000 in
theorem openFlight {H : Type} {enc : TypeId × Value → H} {W : World} {n : Nat} {us : List Value} (hl : us.length = 4) {y : DataW H × List MemPlace}
    (h : DataW.trod enc Tryz.prog W 0 (fun _ => true) true n 29 us = some y) :
    ∃ (f : Fli) (av : Option Addr) (cv : Nat), us = [.string f.1, .int .i64 f.2.1, .int .i64 f.2.2.1, .slice av f.2.2.2.length cv] ∧ VisitsIn W av f.2.2.2 ∧ SizesOk f := by
  obtain ⟨xs, k, hk, hxy, _, hxl, hf⟩ := DataW.trod_struct Tryz.underlying29 h
  match xs, hxl, us, hl with
  | [y0, y1, y2, y3], _, [v0, v1, v2, v3], _ =>
    have g0 := hf 0 _ rfl
    have g1 := hf 1 _ rfl
    have g2 := hf 2 _ rfl
    have g3 := hf 3 _ rfl
    simp [cells_str, cells_int, cells_lawvisits] at g0 g1 g2 g3
    obtain ⟨s, e0, _, hs⟩ := DataW.trod_string Tryz.underlying9 g0
    obtain ⟨m, e1, _, _⟩ := DataW.trod_int Tryz.underlying3 g1
    obtain ⟨m2, e2, _, _⟩ := DataW.trod_int Tryz.underlying3 g2
    obtain ⟨av, cv, vs, e3, hv, hvs, hvl⟩ := openVisits g3
    simp at e0 e1 e2 e3
    subst e0 e1 e2 e3
    exact ⟨(s, m, m2, vs), av, cv, rfl, hv, hs, hvl, hvs⟩

/-- What the walk gives. -/
def AddWalk : Prop := ∀ (f : Fli) (av : Option Addr) (cv : Nat) (ac a a' : Option Addr) (capc cap cap' : Nat) (cs : List (ByteArray × Int)) (fs : List Fli) (ss : List Int) (w : World), w.cell? ⟨0, 0, none⟩ = some (.iface 131 (.agg #[.pointer (some ⟨1, 94, none⟩)])) → CapsIn w ac cs → FlightsIn w a fs → IntsIn w a' ss → VisitsIn w av f.2.2.2 → SizesOk f → (∀ c ∈ cs, c.1.size ≤ maxLen) → (∀ f ∈ fs, SizesOk f) → cs.length ≤ maxLen → fs.length ≤ maxLen → ss.length ≤ maxLen →
  Calls Tryz.prog 3 #[.agg #[.slice ac cs.length capc, .slice a fs.length cap, .slice a' ss.length cap'], .agg #[.string f.1, .int .i64 f.2.1, .int .i64 f.2.2.1, .slice av f.2.2.2.length cv]] w fun e w' => e = .returned (.bool true) ∧ Below w.heap.size w w'

set_option maxRecDepth 100000 in
theorem addLaw_lifted (hwalk : AddWalk) (os : Os) (started : os.Started) (H : Type) (enc : TypeId × Value → H) :
    ReturnsInHanded {} Tryz.checked os 3 .any (fun w args => (Rows.fnExactFlowAddSpec.pre enc Tryz.prog Tryz.f3 [] false w args ∧ laidMetH Tryz.prog laidL w) ∧ sizedMet enc Tryz.prog Tryz.f3 (OpenSpec.ofChange Rows.fnExactFlowAddSpec) false w args)
      (Rows.fnExactFlowAddSpec.post enc Tryz.prog Tryz.f3 false true false false) := by
  refine returnsInHanded_of_change_and (C := Tryz.checked) (X := fun w _ => laidMetH Tryz.prog laidL w) (fun _ _ _ hh h => h.of_heap hh) own_knobE started (by kernel_rfl) Tryz.func3
    (ChangeSpec.witness_at (enc := enc) (C := Tryz.checked) (os := os) (X := fun w _ => laidMetH Tryz.prog laidL w) false (laidWorld os) #[.agg #[.slice none 0 0, .slice none 0 0, .slice none 0 0], .agg #[.string .empty, .int .i64 0, .int .i64 0, .slice none 0 0]] 8 rfl (by kernel_rfl) (by kernel_rfl) (by kernel_rfl) (by kernel_rfl) (by kernel_rfl) (laidWorld_met os _)) ?_
  intro W base args ds gs before hval0 hW _ _ hL _
  have hval : ∀ (j : Nat) t v, Tryz.f3.params[j]? = some t → args[j]? = some v → Value.okWide Tryz.prog W .any base t v := hval0
  have hW' := hW
  obtain ⟨p, q, hA0, hV, rfl, hfz, hnd⟩ := hW
  have hA : DataW.TrodAll enc Tryz.prog W 0 (fun _ => true) true Tryz.f3.params.toList args.toList ds p := hA0
  rw [Tryz.params3] at hA hval
  obtain ⟨v0, vs0, d0, ds0, p0, q0, hargs, rfl, rfl, h0, r0⟩ := trodAll_cons hA
  obtain ⟨v1, vs1, d1, ds1, p1, q1, rfl, rfl, rfl, h1, r1⟩ := trodAll_cons r0
  obtain ⟨rfl, rfl, rfl⟩ := trodAll_nil r1
  obtain rfl : args = #[v0, v1] := by cases args; simp_all
  obtain ⟨rfl, rfl⟩ := trodVars_none hV
  obtain ⟨ws, rfl, hws⟩ := okWide_struct Tryz.underlying26 (hval 0 26 v0 rfl rfl)
  rw [cells_lawbook] at hws
  have k0 := h0
  have lt0 : ∀ x ∈ p0, x.block < W.heap.size := by obtain ⟨m, hm⟩ := k0; exact DataW.trod_lt m _ _ _ hm
  obtain ⟨fuel0, hf0⟩ := h0
  obtain ⟨ac, capc, cs, a, cap, fs, a', cap', ss, hvs, g1, g2, g3, g4, g5, g6, g7, g8⟩ := openBook (by simpa using hws) (show DataW.trod enc Tryz.prog W 0 (fun _ => true) true fuel0 26 ws.toList = some _ by simpa [Value.cells] using hf0)
  obtain rfl : ws = #[.slice ac cs.length capc, .slice a fs.length cap, .slice a' ss.length cap'] := by cases ws; simp_all
  obtain ⟨us, rfl, hus⟩ := okWide_struct Tryz.underlying29 (hval 1 29 v1 rfl rfl)
  rw [cells_lawflight] at hus
  have k1 := h1
  have lt1 : ∀ x ∈ p1, x.block < W.heap.size := by obtain ⟨m, hm⟩ := k1; exact DataW.trod_lt m _ _ _ hm
  obtain ⟨fuel1, hf1⟩ := h1
  obtain ⟨f, av, cv, hvf, hv, hsz⟩ := openFlight (by simpa using hus) (show DataW.trod enc Tryz.prog W 0 (fun _ => true) true fuel1 29 us.toList = some _ by simpa [Value.cells] using hf1)
  obtain rfl : us = #[.string f.1, .int .i64 f.2.1, .int .i64 f.2.2.1, .slice av f.2.2.2.length cv] := by cases us; simp_all
  clear hA0 hval0
  refine (hwalk f av cv ac a a' capc cap cap' cs fs ss W (handle_of_laid hL) g1 g2 g3 hv hsz g4 g5 g6 g7 g8).mono fun e W' ⟨he, bel⟩ => ?_
  subst he
  exact ⟨_, rfl, _, _, _, [], _, [], hW', trodAll_mk1 (shut_bool Tryz.underlying4 _), (trodAll_cons_mk (Below.trod laid_outE (by kernel_rfl) (of_decide_eq_true (by kernel_rfl)) k0 bel lt0) (trodAll_cons_mk (Below.trod laid_outE (by kernel_rfl) (of_decide_eq_true (by kernel_rfl)) k1 bel lt1) trodAll_mk0)), rfl, bel.frame _, fun h => by cases h⟩

theorem add_holds (hwalk : AddWalk) : Rows.FnExactFlowAddSaid :=
  OpenClaim.holds_of_wide 3 Tryz.f3 rfl rfl rfl rfl rfl rfl rfl ⟨rfl, rfl, rfl, rfl, rfl⟩ rfl rfl rfl rfl rfl (by kernel_rfl) Tryz.func3 (by kernel_rfl)
    (of_decide_eq_true (by kernel_rfl)) (by unfold Func.isWrapper; first | (rw [if_pos (by decide +kernel)]; kernel_rfl) | (rw [if_neg (by decide +kernel)]; exact ⟨rfl, rfl⟩))
    (fun os started H enc _ => addLaw_lifted hwalk os started H enc)

theorem add_card (hwalk : AddWalk) : Rows.FnExactFlowAddCardSaid :=
  Claim7.holds_tied_plain_at .later [] [.handle] true _ true
    (add_holds hwalk) (fun _ h => by cases h) (by kernel_rfl) (fun _ h => by cases h) fnExactFlowAdd_row_tie rfl ⟨rfl, rfl⟩ (by kernel_rfl) rfl
    (fun f fn hf hfn => by
      obtain rfl : f = 3 := Option.some.inj ((show Tryz.prog.funcNamed "loop.example/lapflow/laws.FnExactFlowAdd" = some 3 by kernel_rfl).symm.trans hf) |>.symm
      obtain rfl : fn = Tryz.f3 := (Option.some.inj (Tryz.func3.symm.trans hfn)).symm
      exact ⟨by kernel_rfl, fun j t ht => by
        rw [Tryz.params3] at ht
        have h3 : t = 26 ∨ t = 29 := by
          rcases j with _ | _ | j
          · exact .inl (by simpa using ht.symm)
          · exact .inr (by simpa using ht.symm)
          · simp at ht
        rcases h3 with rfl | rfl
        · exact (show Tryz.prog.wantsStandIn 26 = false by kernel_rfl)
        · exact (show Tryz.prog.wantsStandIn 29 = false by kernel_rfl)⟩)
    (by kernel_rfl)
end Go.Proofs.YtciacofibljmoabGreatDoor
