/- The law FnExactFlowDrop: from its walk to the given card. -/
import Derived.Test.YtciacofibljmoabGreatDoorOpens
import Derived.Test.YtciacofibljmoabGreatDoorLaid
import Derived.Test.YtciacofibljmoabGreatDoorTie
import Derived.Test.YtciacofibljmoabGreatDoorCards
import Derived.OpenShut
import Derived.ShutString
import Derived.ChangeOld
import Derived.SevenTiedAt
namespace Go.Proofs.YtciacofibljmoabGreatDoor
open Go.ChangeShapes Go.WideShapes Go.ChangeAt Go.RowKit
open Go.ChangeMaps (open_string shut_string)

/-- What the walk gives. -/
def DropWalk : Prop := ∀ (nm : ByteArray) (ac a a' : Option Addr) (capc cap cap' : Nat) (cs : List (ByteArray × Int)) (fs : List Fli) (ss : List Int) (w : World), w.cell? ⟨0, 0, none⟩ = some (.iface 131 (.agg #[.pointer (some ⟨1, 94, none⟩)])) → CapsIn w ac cs → FlightsIn w a fs → IntsIn w a' ss → (∀ c ∈ cs, c.1.size ≤ maxLen) → (∀ f ∈ fs, SizesOk f) → cs.length ≤ maxLen → fs.length ≤ maxLen → ss.length ≤ maxLen →
  Calls Tryz.prog 4 #[.agg #[.slice ac cs.length capc, .slice a fs.length cap, .slice a' ss.length cap'], .string nm] w fun e w' => e = .returned (.bool true) ∧ Below w.heap.size w w'

set_option maxRecDepth 100000 in
theorem dropLaw_lifted (hwalk : DropWalk) (os : Os) (started : os.Started) (H : Type) (enc : TypeId × Value → H) :
    ReturnsInHanded {} Tryz.checked os 4 .any (fun w args => (Rows.fnExactFlowDropSpec.pre enc Tryz.prog Tryz.f4 [] false w args ∧ laidMetH Tryz.prog laidL w) ∧ sizedMet enc Tryz.prog Tryz.f4 (OpenSpec.ofChange Rows.fnExactFlowDropSpec) false w args)
      (Rows.fnExactFlowDropSpec.post enc Tryz.prog Tryz.f4 false true false false) := by
  refine returnsInHanded_of_change_and (C := Tryz.checked) (X := fun w _ => laidMetH Tryz.prog laidL w) (fun _ _ _ hh h => h.of_heap hh) own_knobE started (by kernel_rfl) Tryz.func4
    (ChangeSpec.witness_at (enc := enc) (C := Tryz.checked) (os := os) (X := fun w _ => laidMetH Tryz.prog laidL w) false (laidWorld os) #[.agg #[.slice none 0 0, .slice none 0 0, .slice none 0 0], .string .empty] 8 rfl (by kernel_rfl) (by kernel_rfl) (by kernel_rfl) (by kernel_rfl) (by kernel_rfl) (laidWorld_met os _)) ?_
  intro W base args ds gs before hval0 hW _ _ hL _
  have hval : ∀ (j : Nat) t v, Tryz.f4.params[j]? = some t → args[j]? = some v → Value.okWide Tryz.prog W .any base t v := hval0
  have hW' := hW
  obtain ⟨p, q, hA0, hV, rfl, hfz, hnd⟩ := hW
  have hA : DataW.TrodAll enc Tryz.prog W 0 (fun _ => true) true Tryz.f4.params.toList args.toList ds p := hA0
  rw [Tryz.params4] at hA hval
  obtain ⟨v0, vs0, d0, ds0, p0, q0, hargs, rfl, rfl, h0, r0⟩ := trodAll_cons hA
  obtain ⟨v1, vs1, d1, ds1, p1, q1, rfl, rfl, rfl, h1, r1⟩ := trodAll_cons r0
  obtain ⟨rfl, rfl, rfl⟩ := trodAll_nil r1
  obtain rfl : args = #[v0, v1] := by cases args; simp_all
  obtain ⟨rfl, rfl⟩ := trodVars_none hV
  obtain ⟨ws, rfl, hws⟩ := okWide_struct Tryz.underlying26 (hval 0 26 v0 rfl rfl)
  rw [cells_lawbook] at hws
  have k0 := h0
  have lt0 : ∀ x ∈ p0, x.block < W.heap.size := by obtain ⟨m, hm⟩ := k0; exact DataW.trod_lt m _ _ _ hm
  obtain ⟨fuel0, hf0⟩ := h0
  obtain ⟨ac, capc, cs, a, cap, fs, a', cap', ss, hvs, g1, g2, g3, g4, g5, g6, g7, g8⟩ := openBook (by simpa using hws) (show DataW.trod enc Tryz.prog W 0 (fun _ => true) true fuel0 26 ws.toList = some _ by simpa [Value.cells] using hf0)
  obtain rfl : ws = #[.slice ac cs.length capc, .slice a fs.length cap, .slice a' ss.length cap'] := by cases ws; simp_all
  obtain ⟨s1, rfl, rfl, rfl, hmax⟩ := open_string Tryz.underlying9 (hval 1 9 v1 rfl rfl) h1
  clear hA0 hval0
  refine (hwalk s1 ac a a' capc cap cap' cs fs ss W (handle_of_laid hL) g1 g2 g3 g4 g5 g6 g7 g8).mono fun e W' ⟨he, bel⟩ => ?_
  subst he
  exact ⟨_, rfl, _, _, _, [], _, [], hW', trodAll_mk1 (shut_bool Tryz.underlying4 _), (trodAll_cons_mk (Below.trod laid_outE (by kernel_rfl) (of_decide_eq_true (by kernel_rfl)) k0 bel lt0) (trodAll_cons_mk (shut_string Tryz.underlying9 hmax) trodAll_mk0)), rfl, bel.frame _, fun h => by cases h⟩

theorem drop_holds (hwalk : DropWalk) : Rows.FnExactFlowDropSaid :=
  OpenClaim.holds_of_wide 4 Tryz.f4 rfl rfl rfl rfl rfl rfl rfl ⟨rfl, rfl, rfl, rfl, rfl⟩ rfl rfl rfl rfl rfl (by kernel_rfl) Tryz.func4 (by kernel_rfl)
    (of_decide_eq_true (by kernel_rfl)) (by unfold Func.isWrapper; first | (rw [if_pos (by decide +kernel)]; kernel_rfl) | (rw [if_neg (by decide +kernel)]; exact ⟨rfl, rfl⟩))
    (fun os started H enc _ => dropLaw_lifted hwalk os started H enc)

theorem drop_card (hwalk : DropWalk) : Rows.FnExactFlowDropCardSaid :=
  Claim7.holds_tied_plain_at .later [] [.handle] true _ true
    (drop_holds hwalk) (fun _ h => by cases h) (by kernel_rfl) (fun _ h => by cases h) fnExactFlowDrop_row_tie rfl ⟨rfl, rfl⟩ (by kernel_rfl) rfl
    (fun f fn hf hfn => by
      obtain rfl : f = 4 := Option.some.inj ((show Tryz.prog.funcNamed "loop.example/lapflow/laws.FnExactFlowDrop" = some 4 by kernel_rfl).symm.trans hf) |>.symm
      obtain rfl : fn = Tryz.f4 := (Option.some.inj (Tryz.func4.symm.trans hfn)).symm
      exact ⟨by kernel_rfl, fun j t ht => by
        rw [Tryz.params4] at ht
        have h3 : t = 26 ∨ t = 9 := by
          rcases j with _ | _ | j
          · exact .inl (by simpa using ht.symm)
          · exact .inr (by simpa using ht.symm)
          · simp at ht
        rcases h3 with rfl | rfl
        · exact (show Tryz.prog.wantsStandIn 26 = false by kernel_rfl)
        · exact (show Tryz.prog.wantsStandIn 9 = false by kernel_rfl)⟩)
    (by kernel_rfl)
end Go.Proofs.YtciacofibljmoabGreatDoor
