/- What the law draws: flights, slots, a sector and a tick; caps, flights and slots. -/
import Derived.Test.YtciacofibljmoaaDraw14
namespace Go.Proofs.Ytciacofibljmoaa
open Go.RowKit

theorem below_touched {B hi : Nat} {w w1 w' : World} (h : Below B w w1) (ht : Touch B hi w1 w') (hB : B ≤ w1.heap.size) : Below B w w' :=
  h.trans ⟨ht.os, ht.tape, ht.output, ht.size, fun k hk => ht.block k (by omega) (.inl hk)⟩

set_option maxHeartbeats 1600000 in
theorem drawLoad_any (a : Option Addr) (n cap : Nat) (w : World) (hb : BytesIn w.heap.size w a n) (hc : n ≤ cap) (hl : cap ≤ maxLen) :
    Calls Try.prog 9 #[.slice a n cap] w fun e w' => (∃ vf gs vs zs sec t, e = .returned (.tuple #[vf, vs, .string sec, .int .i64 t]) ∧ OwnF w' w.heap.size vf gs ∧ gs.length ≤ 8 ∧ (∀ x ∈ gs, FlSm 6 x.1) ∧ OwnI w' w.heap.size vs zs ∧ zs.length ≤ 9 ∧ sec.size ≤ 8) ∧ Below w.heap.size w w' := by
  have HBY := hide hb
  clear hb
  go_enter Try.func9, Try.ntmps9
  go_wp2_with fail
  refine (l1Open_any a n cap w HBY.out hc hl).mono ?_
  rintro e w1 ⟨rfl, hr1, hb1⟩
  have hrl := hr1.lt
  have HR1 := hide hr1
  have HB1 := hide hb1
  clear hr1 hb1 HBY
  go_wp2_with fail
  refine (l6AnyFlights_any w.heap.size _ w1 HR1.out (by omega)).mono ?_
  rintro e w2 ⟨⟨vf, gs, rfl, hof, hg8, hsm⟩, hr2, ht2⟩
  have HOF := hide hof
  have HSM := hide hsm
  have HR2 := hide hr2
  have HT2 := hide ht2
  clear hof hsm hr2 ht2
  go_wp2_with fail
  refine (l6Caps_any w.heap.size _ w2 HR2.out (by omega)).mono ?_
  rintro e w3 ⟨⟨vc, cs, rfl, hoc, hcs⟩, hr3, ht3⟩
  obtain ⟨ac, cc, rfl, -, -, hci, -⟩ := OwnC.form hoc
  have HCI := hide hci
  have HCS := hide hcs
  have HR3 := hide hr3
  have HT3 := hide (touch_trans HT2.out ht3)
  have HOF3 := hide (HOF.out.touch ht3 (by omega))
  clear hoc hcs hr3 ht3 hci HOF HT2 HR2
  go_wp2_with fail
  refine (l6SlotsOf_any w.heap.size _ w1.heap.size ac cc cs vf gs w3 HR3.out (by omega) HCI.out (HCS.out.mono (by omega)) HOF3.out (by omega) hg8 HSM.out).mono ?_
  rintro e w4 ⟨⟨vs, zs, rfl, hos, hz9⟩, hr4, ht4⟩
  have HOS := hide hos
  have hs3 : w.heap.size + 1 ≤ w3.heap.size := by have := HT3.out.size; omega
  have HR4 := hide hr4
  have HT4 := hide (touch_trans HT3.out ht4)
  have HOF4 := hide (HOF3.out.touch ht4 (by omega))
  have HZ9 := hide hz9
  clear hos hr4 ht4 HOF3 HT3 HR3 HCI HCS hz9
  go_wp2_with fail
  refine (l6Sector_any w.heap.size _ w4 HR4.out (by omega)).mono ?_
  rintro e w5 ⟨⟨sec, hsec, rfl⟩, hr5, ht5⟩
  have HR5 := hide hr5
  have HSEC := hide hsec
  have HT5 := hide (touch_trans HT4.out ht5)
  have HOF5 := hide (HOF4.out.touch ht5 (by omega))
  have HOS5 := hide (owns_touch HOS.out ht5 hs3)
  clear hr5 ht5 hsec HOF4 HT4 HR4
  go_wp2_with fail
  refine (pick_any w.heap.size _ _ w5 HR5.out (by omega) (by omega)).mono ?_
  rintro e w6 ⟨⟨q, rfl, hq0, hq1⟩, hr6, ht6⟩
  have HR6 := hide hr6
  have HT6 := hide (touch_trans HT5.out ht6)
  have HOF6 := hide ((HOF5.out.touch ht6 (by omega)).base (base' := w.heap.size) (by omega))
  have HOS6 := hide (owns_base (owns_touch HOS5.out ht6 hs3) (base' := w.heap.size) (by omega))
  clear hr6 ht6 HOF5 HT5 HR5 HOS5 HOS
  go_wp2
  exact bodyPost_ret (v := .tuple #[vf, vs, .string sec, .int .i64 (q - 1)]) (by simp [results, Try.results9, go_sem]) rfl ⟨⟨_, gs, _, zs, _, _, rfl, HOF6.out, hg8, HSM.out, HOS6.out, HZ9.out, HSEC.out⟩, below_touched HB1.out HT6.out (by omega)⟩

set_option maxHeartbeats 1600000 in
theorem drawFits_any (a : Option Addr) (n cap : Nat) (w : World) (hb : BytesIn w.heap.size w a n) (hc : n ≤ cap) (hl : cap ≤ maxLen) :
    Calls Try.prog 13 #[.slice a n cap] w fun e w' => (∃ vc cs vf gs vs zs, e = .returned (.tuple #[vc, vf, vs]) ∧ OwnC w' w.heap.size vc cs ∧ CapsSm 7 cs ∧ OwnF w' w.heap.size vf gs ∧ gs.length ≤ 8 ∧ (∀ x ∈ gs, FlSm 6 x.1) ∧ OwnI w' w.heap.size vs zs ∧ zs.length ≤ 9) ∧ Below w.heap.size w w' := by
  have HBY := hide hb
  clear hb
  go_enter Try.func13, Try.ntmps13
  go_wp2_with fail
  refine (l1Open_any a n cap w HBY.out hc hl).mono ?_
  rintro e w1 ⟨rfl, hr1, hb1⟩
  have hrl := hr1.lt
  have HR1 := hide hr1
  have HB1 := hide hb1
  clear hr1 hb1 HBY
  go_wp2_with fail
  refine (l6AnyCaps_any w.heap.size _ w1 HR1.out (by omega)).mono ?_
  rintro e w2 ⟨⟨vc, cs, rfl, hoc, hcs⟩, hr2, ht2⟩
  have HOC := hide hoc
  have HCS := hide hcs
  have HR2 := hide hr2
  have HT2 := hide ht2
  clear hoc hcs hr2 ht2
  go_wp2_with fail
  refine (l6AnyFlights_any w.heap.size _ w2 HR2.out (by omega)).mono ?_
  rintro e w3 ⟨⟨vf, gs, rfl, hof, hg8, hsm⟩, hr3, ht3⟩
  have hs2 := HT2.out.size
  have HOC3 := hide (owns_touch HOC.out ht3 (by omega))
  obtain ⟨ac, cc, hvc, -, -, hci, -⟩ := OwnC.form HOC3.out
  subst hvc
  have HCI := hide hci
  have HOF := hide hof
  have HSM := hide hsm
  have HR3 := hide hr3
  have HT3 := hide (touch_trans HT2.out ht3)
  clear hof hsm hr3 ht3 hci HOC HT2 HR2
  go_wp2_with fail
  refine (l6SlotsOf_any w.heap.size _ w2.heap.size ac cc cs vf gs w3 HR3.out (by omega) HCI.out HCS.out HOF.out (by omega) hg8 HSM.out).mono ?_
  rintro e w4 ⟨⟨vs, zs, rfl, hos, hz9⟩, hr4, ht4⟩
  have hs3 := HT3.out.size
  have HOS := hide (owns_base hos (base' := w.heap.size) (by omega))
  have HT4 := hide (touch_trans HT3.out ht4)
  have HOF4 := hide ((HOF.out.touch ht4 (by omega)).base (base' := w.heap.size) (by omega))
  have HOC4 := hide (owns_base (owns_touch HOC3.out ht4 (by omega)) (base' := w.heap.size) (by omega))
  have HZ9 := hide hz9
  clear hos hr4 ht4 HOF HOC3 HT3 HR3 HCI hz9
  go_wp2
  exact bodyPost_ret (v := .tuple #[.slice ac cs.length cc, vf, vs]) (by simp [results, Try.results13, go_sem]) rfl ⟨⟨_, cs, _, gs, _, zs, rfl, HOC4.out, HCS.out, HOF4.out, hg8, HSM.out, HOS.out, HZ9.out⟩, below_touched HB1.out HT4.out (by omega)⟩

end Go.Proofs.Ytciacofibljmoaa
