package tests

import (
	"fmt"
	"slices"
	"sync"
	"testing"

	"loop.example/lapflow/impl"
)

func wantBound(t *testing.T, caps []impl.FlowCap, list []impl.FlowFlight, sector string, want int) {
	t.Helper()
	if got := impl.FlowBound(caps, list, sector); got != want {
		t.Errorf("bound of %q with %v, %v: %d, not %d", sector, caps, list, got, want)
	}
}

func wantDelay(t *testing.T, list []impl.FlowFlight, want int, slots ...int) {
	t.Helper()
	if got := impl.FlowDelay(list, slots); got != want {
		t.Errorf("delay of %v by %v: %d, not %d", list, slots, got, want)
	}
}

// coming is flights that come to e at ticks, by their plans and then by what is behind leaving.
func coming(ticks ...int) []impl.FlowFlight {
	var list []impl.FlowFlight
	for i, tick := range ticks {
		after := min(tick, i%3)
		list = append(list, flight(string(rune('a'+i)), tick-after, 60, visit("e", after, 4)))
	}
	return list
}

func TestDelayOrdinary(t *testing.T) {
	wantDelay(t, nil, 0)
	wantDelay(t, []impl.FlowFlight{}, 0, []int{}...)
	wantDelay(t, exampleFlights(), 4, 4, 0, -1, 3)
	wantDelay(t, exampleFlights(), 0, 1, 0, 1, 2)
	wantDelay(t, exampleFlights(), 1+10+2+28, 2, 10, 3, 30)
	wantDelay(t, alike(3), 12, 0, 4, 8)
	wantDelay(t, alike(1), 7, 7)
	wantDelay(t, alike(impl.FlowMaxFlights), 80, same(impl.FlowMaxFlights, 10)...)
}

// TestDelayWithoutSlots has flights that do not fly: they are neither late nor ahead, whatever they planned.
func TestDelayWithoutSlots(t *testing.T) {
	wantDelay(t, exampleFlights(), 0, -1, -1, -1, -1)
	wantDelay(t, exampleFlights(), 3, 4, -1, -1, -1)
	wantDelay(t, exampleFlights(), 1, -1, -1, -1, 3)
	wantDelay(t, alike(2), 5, -1, 5)
	wantDelay(t, []impl.FlowFlight{flight("a", 9000, 1, visit("e", 0, 1))}, 0, -1)
}

// TestDelayOfAnySlots has slots that are ok and do not fit: who leaves ahead of the plan counts below 0.
func TestDelayOfAnySlots(t *testing.T) {
	list := []impl.FlowFlight{flight("a", 5, 10, visit("e", 0, 4)), flight("b", 7, 0, visit("e", 0, 4))}
	wantDelay(t, list, -3, 2, 7)
	wantDelay(t, list, -12, 0, 0)
	wantDelay(t, list, -1, 4, -1)
	wantDelay(t, list, 0, 3, 9)
	wantDelay(t, list, 100, 105, 7)
	last := impl.FlowMaxTick + impl.FlowMaxLate
	wantDelay(t, list, 2*last-12, last, last)
	far := []impl.FlowFlight{flight("a", impl.FlowMaxTick, impl.FlowMaxLate, visit("e", 0, 4))}
	wantDelay(t, far, impl.FlowMaxLate, last)
	wantDelay(t, far, -impl.FlowMaxTick, 0)
}

func TestDelayOfWhatIsNotOk(t *testing.T) {
	for why, list := range notOkFlights() {
		for _, slot := range []int{-1, 0, 3, 10} {
			if got := impl.FlowDelay(list, same(len(list), slot)); got != 0 {
				t.Errorf("%s: %d", why, got)
			}
		}
	}
	for _, slots := range append(notOkSlots(), []int{5}, []int{5, 5, 5}, []int{5, -2}, []int{10061, 5}, []int{5, 10061}) {
		wantDelay(t, alike(2), 0, slots...)
	}
	wantDelay(t, nil, 0, 5)
	wantDelay(t, alike(2), 10060, 0, 10060)
}

func TestDelayDrawn(t *testing.T) {
	d := draws(21)
	for range 1000 {
		list := drawFlights(&d)
		slots := drawSlots(&d, list)
		want := 0
		for i, s := range slots {
			if s >= 0 {
				want += s - list[i].Plan
			}
		}
		wantDelay(t, list, want, slots...)
	}
}

func TestBoundOfExample(t *testing.T) {
	caps := []impl.FlowCap{sectorCap("e", 1), sectorCap("w", 2)}
	// To e come kl at 0, ba and lh at 1, q at 7; to w kl at 4, ba at 5, q at 2.
	wantBound(t, caps, exampleFlights(), "e", 1)
	wantBound(t, caps, exampleFlights(), "w", 0)
	wantBound(t, capsOf("w", 1), exampleFlights(), "w", 0)
}

func TestBoundByCap(t *testing.T) {
	list := coming(0, 0, 0, 0, 0, 0, 0, 0)
	for most, want := range []int{0, 28, 12, 7, 4, 3, 2, 1, 0, 0} {
		wantBound(t, capsOf("e", most), list, "e", want)
	}
	wantBound(t, capsOf("e", impl.FlowMaxCap), list, "e", 0)
	for i, c := range []struct {
		most, want int
		ticks      []int
	}{
		{1, 0, nil},
		{1, 0, []int{9}},
		{1, 0, []int{0, 1, 2, 3}},
		{1, 1, []int{0, 1, 1}},
		{1, 3, []int{0, 0, 1, 2}},
		{1, 2, []int{0, 0, 2, 2}},
		{1, 2, []int{0, 0, 9, 9}},
		{1, 4, []int{0, 0, 0, 2, 9}},
		{1, 4, []int{9, 2, 0, 0, 0}},
		{1, 6, []int{5, 5, 5, 5}},
		{1, 28, []int{7, 7, 7, 7, 7, 7, 7, 7}},
		{2, 0, []int{0, 0, 1, 1}},
		{2, 1, []int{0, 0, 0, 1}},
		{2, 2, []int{0, 0, 0, 1, 1}},
		{2, 1, []int{0, 0, 0, 1, 2, 2}},
		{2, 3, []int{0, 0, 0, 0, 1}},
		{2, 2, []int{3, 8, 3, 8, 3, 8}},
		{3, 2, []int{4, 4, 4, 4, 4}},
		{3, 3, []int{4, 4, 4, 4, 4, 5, 5}},
	} {
		if got := impl.FlowBound(capsOf("e", c.most), coming(c.ticks...), "e"); got != c.want {
			t.Errorf("case %d: %d, not %d", i, got, c.want)
		}
	}
}

// TestBoundByFirstVisit has flights that come to a sector behind others, or twice: only the first time counts.
func TestBoundByFirstVisit(t *testing.T) {
	one := capsOf("e", 1)
	list := []impl.FlowFlight{
		flight("a", 0, 60, visit("w", 0, 5), visit("e", 5, 2), visit("w", 7, 1), visit("e", 9, 2)),
		flight("b", 9, 60, visit("e", 0, 2)),
		flight("c", 2, 60, visit("e", 3, 2), visit("e", 7, 2)),
	}
	wantBound(t, one, list, "e", 1)
	wantBound(t, one, list[:2], "e", 0)
	wantBound(t, capsOf("w", 1), list, "w", 0)
	// The least of a flight's ticks there, not the place of the visit in its list, and the stay does not matter.
	long := []impl.FlowFlight{flight("a", 0, 60, visit("e", 0, 30)), flight("b", 1, 60, visit("e", 0, 30)), flight("c", 0, 60, visit("n", 0, 2), visit("e", 2, 30))}
	wantBound(t, one, long, "e", 0)
	five := flight("d", 0, 60, visit("e", 1, 1), visit("e", 2, 1), visit("e", 3, 1), visit("e", 4, 1), visit("e", 5, 1))
	wantBound(t, one, append(slices.Clone(long), five), "e", 2)
	wantBound(t, one, []impl.FlowFlight{five}, "e", 0)
	limit := flight("a", impl.FlowMaxTick, impl.FlowMaxLate, visit("e", impl.FlowMaxAfter, impl.FlowMaxStay))
	most := slices.Repeat([]impl.FlowFlight{limit}, impl.FlowMaxFlights)
	for i := range most {
		most[i].Name = string(rune('a' + i))
	}
	wantBound(t, one, most, "e", 28)
}

// TestBoundBySector has sectors that nobody visits, or that have no cap, and caps of other sectors, which say nothing.
func TestBoundBySector(t *testing.T) {
	list := coming(0, 0, 0)
	caps := []impl.FlowCap{sectorCap("a", 1), sectorCap("d", 0), sectorCap("e", 2), sectorCap("ee", 1), sectorCap("w", 1), sectorCap("z", 20)}
	wantBound(t, caps, list, "e", 1)
	for _, sector := range append(slices.Clone(badNames), "a", "d", "ee", "w", "z", "q", "e-", "E") {
		wantBound(t, caps, list, sector, 0)
	}
	wantBound(t, nil, list, "e", 0)
	wantBound(t, []impl.FlowCap{}, list, "e", 0)
	wantBound(t, capsOf("w", 1), list, "e", 0)
	wantBound(t, capsOf("e", 1), nil, "e", 0)
	wantBound(t, capsOf("e", 1), []impl.FlowFlight{}, "e", 0)
	wantBound(t, nil, nil, "", 0)
	wantBound(t, capsOf("e", 0), list, "e", 0)
	// Each sector has its own bound, whether others have a greater one or not.
	both := []impl.FlowFlight{
		flight("a", 0, 60, visit("w", 0, 1), visit("e", 1, 1)),
		flight("b", 0, 60, visit("w", 0, 1), visit("e", 1, 1)),
		flight("c", 0, 60, visit("w", 0, 1), visit("n", 5, 1)),
	}
	three := []impl.FlowCap{sectorCap("e", 1), sectorCap("n", 1), sectorCap("w", 1)}
	wantBound(t, three, both, "e", 1)
	wantBound(t, three, both, "n", 0)
	wantBound(t, three, both, "w", 3)
}

func TestBoundOfWhatIsNotOk(t *testing.T) {
	for why, list := range notOkFlights() {
		for _, caps := range [][]impl.FlowCap{capsOf("e", 1), capsOf("e", 0), nil} {
			if got := impl.FlowBound(caps, list, "e"); got != 0 {
				t.Errorf("%s: %d", why, got)
			}
		}
	}
	crowd := coming(0, 0, 0, 0)
	for _, list := range [][]impl.FlowFlight{
		append(slices.Clone(crowd), flight("a", 0, 1, visit("e", 0, 1))),
		append(slices.Clone(crowd), flight("z", 0, 61, visit("e", 0, 1))),
		append(slices.Clone(crowd), flight("z", 0, 1)),
		append(coming(0, 0, 0, 0, 0, 0, 0, 0), flight("z", 0, 1, visit("e", 0, 1))),
	} {
		wantBound(t, capsOf("e", 1), list, "e", 0)
	}
	wantBound(t, capsOf("e", 1), crowd, "e", 6)
	for _, caps := range notOkCaps() {
		for _, sector := range []string{"e", "a", "s0", "w", ""} {
			wantBound(t, caps, crowd, sector, 0)
		}
	}
	for _, wrong := range []impl.FlowCap{sectorCap("w", -1), sectorCap("w", 21), sectorCap("e", 1), sectorCap("d", 1), sectorCap("W", 1)} {
		wantBound(t, append(capsOf("e", 1), wrong), crowd, "e", 0)
	}
	wantBound(t, append(manyCaps(6), sectorCap("t", 1)), crowd, "e", 0)
	wantBound(t, append(capsOf("e", 1), manyCaps(6)...), crowd, "e", 0)
	wantBound(t, append(capsOf("e", 1), manyCaps(5)...), crowd, "e", 6)
}

// boundSlowly is FlowBound by the document's words, for caps and flights that are ok.
func boundSlowly(most int, list []impl.FlowFlight, sector string) int {
	var comes []int
	for _, f := range list {
		for _, v := range f.Visits {
			if v.Sector == sector {
				comes = append(comes, f.Plan+v.After)
				break
			}
		}
	}
	slices.Sort(comes)
	in := map[int]int{}
	late := 0
	for _, tick := range comes {
		for at := tick; most > 0; at++ {
			if in[at] < most {
				in[at]++
				late += at - tick
				break
			}
		}
	}
	return late
}

func TestBoundDrawn(t *testing.T) {
	d := draws(22)
	some := 0
	for range 3000 {
		list := drawFlights(&d)
		caps := []impl.FlowCap{sectorCap("e", d.below(4)), sectorCap("n", d.below(3))}
		for _, c := range caps {
			want := boundSlowly(c.Cap, list, c.Sector)
			wantBound(t, caps, list, c.Sector, want)
			if want > 0 {
				some++
			}
		}
		wantBound(t, caps, list, "w", 0)
	}
	if some < 300 {
		t.Errorf("the draws tell little: %d bounds above 0", some)
	}
}

// TestBoundIsBound is the first half of P7: slots that fit, by which all fly, are no less late than each bound.
func TestBoundIsBound(t *testing.T) {
	d := draws(23)
	meets, above := 0, 0
	for range 6000 {
		list := drawFlights(&d)
		short := d.below(2) == 0
		for i := range list {
			list[i].Late = 20 + d.below(41)
			if short {
				list[i].Visits = list[i].Visits[:1]
				list[i].Visits[0].Stay = 1
			}
		}
		caps := []impl.FlowCap{sectorCap("e", 1+d.below(2)), sectorCap("n", 1+d.below(2)), sectorCap("w", 1+d.below(2))}
		b := bookOf(caps, nil)
		first := d.below(impl.FlowMaxFlights)
		for i := range list {
			b, _ = impl.FlowAdd(b, list[(first+i)%len(list)])
		}
		slots := b.Slots
		if !impl.FlowFits(caps, list, slots) {
			t.Fatalf("%v by %v do not fit", list, slots)
		}
		if slices.Contains(slots, -1) {
			continue
		}
		delay := impl.FlowDelay(list, slots)
		for _, sector := range []string{"e", "n", "w", "x"} {
			switch bound := impl.FlowBound(caps, list, sector); {
			case bound > delay:
				t.Fatalf("%v by %v are late by %d, below the bound %d of %s with %v", list, slots, delay, bound, sector, caps)
			case bound == delay && bound > 0:
				meets++
			case bound > 0:
				above++
			}
		}
	}
	if meets < 50 || above < 500 {
		t.Errorf("the draws tell little: %d bounds are met, %d are below the delay", meets, above)
	}
}

// leastDelay is the least delay of all slots that fit and by which all fly, by trying them all; -1 if there are none.
func leastDelay(caps []impl.FlowCap, list []impl.FlowFlight, slots []int) int {
	at := len(slots)
	if at == len(list) {
		if !impl.FlowFits(caps, list, slots) {
			return -1
		}
		return impl.FlowDelay(list, slots)
	}
	least := -1
	for s := list[at].Plan; s <= list[at].Plan+list[at].Late; s++ {
		delay := leastDelay(caps, list, append(slots[:at:at], s))
		if delay >= 0 && (least < 0 || delay < least) {
			least = delay
		}
	}
	return least
}

// TestBoundOfAllSlots has few flights and tries all their slots: none is less late than a bound, and where all are in one
// sector for one tick as soon as they leave, one is just as late.
func TestBoundOfAllSlots(t *testing.T) {
	d := draws(24)
	for range 150 {
		short, mixed := []impl.FlowFlight{}, []impl.FlowFlight{}
		for i := range 1 + d.below(4) {
			name, plan := string(rune('a'+i)), d.below(3)
			short = append(short, flight(name, plan, 4, visit("e", 0, 1)))
			mixed = append(mixed, flight(name, plan, 4, visit("e", d.below(2), 1), visit("n", 2, 1), visit("e", 3+d.below(2), 1)))
		}
		caps := []impl.FlowCap{sectorCap("e", 1+d.below(2)), sectorCap("n", 1+d.below(2))}
		if got, want := impl.FlowBound(caps, short, "e"), leastDelay(caps, short, nil); got != want {
			t.Fatalf("bound %d of %v with %v, and %d is the least delay", got, short, caps, want)
		}
		least := leastDelay(caps, mixed, nil)
		for _, sector := range []string{"e", "n"} {
			if bound := impl.FlowBound(caps, mixed, sector); least >= 0 && bound > least {
				t.Fatalf("bound %d of %s above the delay %d of %v with %v", bound, sector, least, mixed, caps)
			}
		}
	}
}

// TestGiveMeetsBound is the second half of P7.
func TestGiveMeetsBound(t *testing.T) {
	d := draws(25)
	some := 0
	for range 3000 {
		var list []impl.FlowFlight
		for i := range d.below(impl.FlowMaxFlights + 1) {
			list = append(list, flight(string(rune('a'+i)), d.below(5), impl.FlowMaxLate-d.below(50), visit("e", 0, 1)))
		}
		caps := []impl.FlowCap{sectorCap("e", 1+d.below(4)), sectorCap("w", d.below(2))}
		slots := impl.FlowGive(caps, list)
		delay, bound := impl.FlowDelay(list, slots), impl.FlowBound(caps, list, "e")
		if slices.Contains(slots, -1) || delay != bound {
			t.Fatalf("%v with %v are given %v, late by %d, not %d", list, caps, slots, delay, bound)
		}
		if bound > 0 {
			some++
		}
	}
	if some < 500 {
		t.Errorf("the draws tell little: %d bounds above 0", some)
	}
	all := alike(impl.FlowMaxFlights)
	for i := range all {
		all[i].Visits = []impl.FlowVisit{visit("e", 0, 1)}
	}
	for most := 1; most <= impl.FlowMaxCap; most++ {
		slots := impl.FlowGive(capsOf("e", most), all)
		wantBound(t, capsOf("e", most), all, "e", impl.FlowDelay(all, slots))
	}
}

// TestBoundBeside asks from several goroutines at once: each has its own answer.
func TestBoundBeside(t *testing.T) {
	var asking sync.WaitGroup
	wrong := make([]string, 8)
	for n := range wrong {
		asking.Go(func() {
			list := alike(n)
			for range 300 {
				if got := impl.FlowBound(capsOf("e", 1), list, "e"); got != n*(n-1)/2 {
					wrong[n] = fmt.Sprintf("%d flights: %d", n, got)
				}
			}
		})
	}
	asking.Wait()
	for _, w := range wrong {
		if w != "" {
			t.Error(w)
		}
	}
}

// TestBoundArgumentsStay looks at what is handed in, and at what lies behind its end.
func TestBoundArgumentsStay(t *testing.T) {
	d := draws(26)
	for range 300 {
		a := drawArguments(&d)
		for _, sector := range []string{"e", "w", "n", "~"} {
			impl.FlowBound(a.caps, a.list, sector)
			impl.FlowBound(a.allCaps, a.allList, sector)
		}
		impl.FlowDelay(a.list, a.slots)
		impl.FlowDelay(a.allList, a.allSlots)
		a.stay(t)
	}
}
