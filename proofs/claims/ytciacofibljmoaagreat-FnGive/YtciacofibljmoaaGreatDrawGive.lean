/- What the law of giving draws: caps and flights. -/
import Derived.Test.YtciacofibljmoaaGreatDraw15
namespace Go.Proofs.YtciacofibljmoaaGreat
open Go.RowKit

set_option maxHeartbeats 1600000 in
theorem drawGive_any (a : Option Addr) (n cap : Nat) (w : World) (hb : BytesIn w.heap.size w a n) (hc : n ≤ cap) (hl : cap ≤ maxLen) :
    Calls Tryz.prog 6 #[.slice a n cap] w fun e w' => (∃ vc cs vf gs, e = .returned (.tuple #[vc, vf]) ∧ OwnC w' w.heap.size vc cs ∧ CapsSm 7 cs ∧ OwnF w' w.heap.size vf gs ∧ gs.length ≤ 8 ∧ (∀ x ∈ gs, FlSm 6 x.1)) ∧ Below w.heap.size w w' := by
  have HBY := hide hb
  clear hb
  go_enter Tryz.func6, Tryz.ntmps6
  go_wp2_with fail
  refine (l1Open_any a n cap w HBY.out hc hl).mono ?_
  rintro e w1 ⟨rfl, hr1, hb1⟩
  have hrl := hr1.lt
  have HR1 := hide hr1
  have HB1 := hide hb1
  clear hr1 hb1 HBY
  go_wp2_with fail
  refine (l6AnyCaps_any w.heap.size _ w1 HR1.out (by omega)).mono ?_
  rintro e w2 ⟨⟨vc, cs, rfl, hoc, hcs⟩, hr2, ht2⟩
  have HOC := hide hoc
  have HCS := hide hcs
  have HR2 := hide hr2
  have HT2 := hide ht2
  clear hoc hcs hr2 ht2
  go_wp2_with fail
  refine (l6AnyFlights_any w.heap.size _ w2 HR2.out (by omega)).mono ?_
  rintro e w3 ⟨⟨vf, gs, rfl, hof, hg8, hsm⟩, hr3, ht3⟩
  have hs2 := HT2.out.size
  have HOC3 := hide (owns_base (owns_touch HOC.out ht3 (by omega)) (base' := w.heap.size) (by omega))
  have HOF := hide (hof.base (base' := w.heap.size) (by omega))
  have HSM := hide hsm
  have HT3 := hide (touch_trans HT2.out ht3)
  clear hof hsm hr3 ht3 HOC HT2 HR2
  go_wp2
  exact bodyPost_ret (v := .tuple #[vc, vf]) (by simp [results, Tryz.results6, go_sem]) rfl ⟨⟨_, cs, _, gs, rfl, HOC3.out, HCS.out, HOF.out, hg8, HSM.out⟩, below_touched HB1.out HT3.out (by omega)⟩

end Go.Proofs.YtciacofibljmoaaGreat
