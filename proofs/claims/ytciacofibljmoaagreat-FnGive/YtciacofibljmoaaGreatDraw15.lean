/- What the law draws: flights, slots, a sector and a tick; caps, flights and slots. -/
import Derived.Test.YtciacofibljmoaaGreatDraw14
namespace Go.Proofs.YtciacofibljmoaaGreat
open Go.RowKit

theorem below_touched {B hi : Nat} {w w1 w' : World} (h : Below B w w1) (ht : Touch B hi w1 w') (hB : B ≤ w1.heap.size) : Below B w w' :=
  h.trans ⟨ht.os, ht.tape, ht.output, ht.size, fun k hk => ht.block k (by omega) (.inl hk)⟩

set_option maxHeartbeats 1600000 in
theorem drawFits_any (a : Option Addr) (n cap : Nat) (w : World) (hb : BytesIn w.heap.size w a n) (hc : n ≤ cap) (hl : cap ≤ maxLen) :
    Calls Tryz.prog 32 #[.slice a n cap] w fun e w' => (∃ vc cs vf gs vs zs, e = .returned (.tuple #[vc, vf, vs]) ∧ OwnC w' w.heap.size vc cs ∧ CapsSm 7 cs ∧ OwnF w' w.heap.size vf gs ∧ gs.length ≤ 8 ∧ (∀ x ∈ gs, FlSm 6 x.1) ∧ OwnI w' w.heap.size vs zs ∧ zs.length ≤ 9) ∧ Below w.heap.size w w' := by
  have HBY := hide hb
  clear hb
  go_enter Tryz.func32, Tryz.ntmps32
  go_wp2_with fail
  refine (l1Open_any a n cap w HBY.out hc hl).mono ?_
  rintro e w1 ⟨rfl, hr1, hb1⟩
  have hrl := hr1.lt
  have HR1 := hide hr1
  have HB1 := hide hb1
  clear hr1 hb1 HBY
  go_wp2_with fail
  refine (l6AnyCaps_any w.heap.size _ w1 HR1.out (by omega)).mono ?_
  rintro e w2 ⟨⟨vc, cs, rfl, hoc, hcs⟩, hr2, ht2⟩
  have HOC := hide hoc
  have HCS := hide hcs
  have HR2 := hide hr2
  have HT2 := hide ht2
  clear hoc hcs hr2 ht2
  go_wp2_with fail
  refine (l6AnyFlights_any w.heap.size _ w2 HR2.out (by omega)).mono ?_
  rintro e w3 ⟨⟨vf, gs, rfl, hof, hg8, hsm⟩, hr3, ht3⟩
  have hs2 := HT2.out.size
  have HOC3 := hide (owns_touch HOC.out ht3 (by omega))
  obtain ⟨ac, cc, hvc, -, -, hci, -⟩ := OwnC.form HOC3.out
  subst hvc
  have HCI := hide hci
  have HOF := hide hof
  have HSM := hide hsm
  have HR3 := hide hr3
  have HT3 := hide (touch_trans HT2.out ht3)
  clear hof hsm hr3 ht3 hci HOC HT2 HR2
  go_wp2_with fail
  refine (l6SlotsOf_any w.heap.size _ w2.heap.size ac cc cs vf gs w3 HR3.out (by omega) HCI.out HCS.out HOF.out (by omega) hg8 HSM.out).mono ?_
  rintro e w4 ⟨⟨vs, zs, rfl, hos, hz9⟩, hr4, ht4⟩
  have hs3 := HT3.out.size
  have HOS := hide (owns_base hos (base' := w.heap.size) (by omega))
  have HT4 := hide (touch_trans HT3.out ht4)
  have HOF4 := hide ((HOF.out.touch ht4 (by omega)).base (base' := w.heap.size) (by omega))
  have HOC4 := hide (owns_base (owns_touch HOC3.out ht4 (by omega)) (base' := w.heap.size) (by omega))
  have HZ9 := hide hz9
  clear hos hr4 ht4 HOF HOC3 HT3 HR3 HCI hz9
  go_wp2
  exact bodyPost_ret (v := .tuple #[.slice ac cs.length cc, vf, vs]) (by simp [results, Tryz.results32, go_sem]) rfl ⟨⟨_, cs, _, gs, _, zs, rfl, HOC4.out, HCS.out, HOF4.out, hg8, HSM.out, HOS.out, HZ9.out⟩, below_touched HB1.out HT4.out (by omega)⟩

end Go.Proofs.YtciacofibljmoaaGreat
