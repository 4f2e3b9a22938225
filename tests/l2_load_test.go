package tests

import (
	"reflect"
	"slices"
	"testing"

	"loop.example/lapflow/impl"
)

// wantRuns holds FlowRuns against runs that are written out, and against FlowLoad at every tick that can have any.
func wantRuns(t *testing.T, list []impl.FlowFlight, slots []int, sector string, want ...impl.FlowRun) {
	t.Helper()
	if got := impl.FlowRuns(list, slots, sector); !slices.Equal(got, want) {
		t.Errorf("runs of %q by %v: %v, not %v", sector, slots, got, want)
	}
	runsAreLoads(t, list, slots, sector, lastTick+2)
}

// runsAreLoads is P4: the runs are ordered and as long as can be, and tell the load of each tick.
func runsAreLoads(t *testing.T, list []impl.FlowFlight, slots []int, sector string, end int) {
	t.Helper()
	runs := impl.FlowRuns(list, slots, sector)
	by := map[int]int{}
	for i, r := range runs {
		if r.From > r.To || r.Load < 1 {
			t.Fatalf("%v is no run", r)
		}
		if i > 0 && r.From <= runs[i-1].To {
			t.Fatalf("runs are not ascending: %v", runs)
		}
		if i > 0 && r.From == runs[i-1].To+1 && r.Load == runs[i-1].Load {
			t.Fatalf("two runs are one: %v", runs)
		}
		for tick := r.From; tick <= r.To; tick++ {
			by[tick] = r.Load
		}
		if r.From < -2 || r.To > end {
			t.Fatalf("%v is where nobody can be", r)
		}
	}
	for tick := -2; tick <= end; tick++ {
		if load := impl.FlowLoad(list, slots, sector, tick); by[tick] != load {
			t.Fatalf("%q at %d by %v: run %d, load %d", sector, tick, slots, by[tick], load)
		}
	}
}

func TestRunsOfExample(t *testing.T) {
	list := exampleFlights()
	slots := []int{4, 0, -1, 3}
	wantRuns(t, list, slots, "e", impl.FlowRun{From: 0, To: 9, Load: 1})
	wantRuns(t, list, slots, "w", impl.FlowRun{From: 3, To: 3, Load: 1}, impl.FlowRun{From: 4, To: 6, Load: 2}, impl.FlowRun{From: 7, To: 10, Load: 1})
	wantRuns(t, list, slots, "n")
	for tick, want := range []int{0, 0, 0, 1, 2, 2, 2, 1, 1, 1, 1, 0} {
		if got := impl.FlowLoad(list, slots, "w", tick); got != want {
			t.Errorf("load of w at %d: %d, not %d", tick, got, want)
		}
	}
}

// TestRunsAreLoads goes over flights of all kinds; the loads are held against counting the slow way.
func TestRunsAreLoads(t *testing.T) {
	d := draws(4)
	for range 1500 {
		list := drawFlights(&d)
		slots := drawSlots(&d, list)
		if !impl.FlowFlightsOk(list) {
			t.Fatalf("drawn flights are not ok: %v", list)
		}
		for _, sector := range []string{"e", "w", "n", "x", ""} {
			for tick := -3; tick < 70; tick++ {
				if got, want := impl.FlowLoad(list, slots, sector, tick), countLoad(list, slots, sector, tick); got != want {
					t.Fatalf("load of %q at %d: %d, not %d; %v by %v", sector, tick, got, want, list, slots)
				}
			}
			runsAreLoads(t, list, slots, sector, 70)
		}
	}
}

func TestNoSlotIsNoLoad(t *testing.T) {
	list := alike(3)
	wantRuns(t, list, []int{-1, -1, -1}, "e")
	wantRuns(t, list, []int{-1, 0, -1}, "e", impl.FlowRun{From: 0, To: 3, Load: 1})
	wantRuns(t, list, []int{0, -1, 0}, "e", impl.FlowRun{From: 0, To: 3, Load: 2})
	for tick := -2; tick < 5; tick++ {
		if got := impl.FlowLoad(list, []int{-1, -1, -1}, "e", tick); got != 0 {
			t.Errorf("load at %d of flights that do not fly: %d", tick, got)
		}
	}
}

func TestRunsThatTouch(t *testing.T) {
	run := func(from, to, load int) impl.FlowRun { return impl.FlowRun{From: from, To: to, Load: load} }
	list := alike(4)
	wantRuns(t, list, []int{0, 4, -1, -1}, "e", run(0, 7, 1))
	wantRuns(t, list, []int{4, 0, -1, -1}, "e", run(0, 7, 1))
	wantRuns(t, list, []int{0, 5, -1, -1}, "e", run(0, 3, 1), run(5, 8, 1))
	wantRuns(t, list, []int{0, 3, -1, -1}, "e", run(0, 2, 1), run(3, 3, 2), run(4, 6, 1))
	wantRuns(t, list, []int{0, 4, 4, -1}, "e", run(0, 3, 1), run(4, 7, 2))
	wantRuns(t, list, []int{0, 0, 4, -1}, "e", run(0, 3, 2), run(4, 7, 1))
	wantRuns(t, list, []int{0, 0, 4, 4}, "e", run(0, 7, 2))
	wantRuns(t, list, []int{0, 2, 4, 6}, "e", run(0, 1, 1), run(2, 7, 2), run(8, 9, 1))
	wantRuns(t, list, []int{0, 0, 0, 0}, "e", run(0, 3, 4))
	wantRuns(t, list, []int{0, 4, 8, 12}, "e", run(0, 15, 1))
}

func TestVisitsThatTouch(t *testing.T) {
	run := func(from, to, load int) impl.FlowRun { return impl.FlowRun{From: from, To: to, Load: load} }
	twice := []impl.FlowFlight{flight("a", 0, 10, visit("e", 0, 4), visit("e", 4, 3))}
	wantRuns(t, twice, []int{2}, "e", run(2, 8, 1))
	apart := []impl.FlowFlight{flight("a", 0, 10, visit("e", 0, 4), visit("e", 5, 3))}
	wantRuns(t, apart, []int{2}, "e", run(2, 5, 1), run(7, 9, 1))
	between := []impl.FlowFlight{flight("a", 0, 10, visit("e", 0, 2), visit("w", 2, 1), visit("e", 3, 2))}
	wantRuns(t, between, []int{0}, "e", run(0, 1, 1), run(3, 4, 1))
	wantRuns(t, between, []int{0}, "w", run(2, 2, 1))
	five := []impl.FlowFlight{flight("a", 0, 10, visit("e", 0, 1), visit("e", 1, 1), visit("e", 2, 1), visit("e", 3, 1), visit("e", 4, 1)), flight("b", 0, 10, visit("e", 2, 1))}
	wantRuns(t, five, []int{0, 0}, "e", run(0, 1, 1), run(2, 2, 2), run(3, 4, 1))
}

func TestRunsAtLimits(t *testing.T) {
	last := impl.FlowMaxTick + impl.FlowMaxLate
	list := []impl.FlowFlight{flight("a", impl.FlowMaxTick, impl.FlowMaxLate, visit("e", impl.FlowMaxAfter, impl.FlowMaxStay))}
	wantRuns(t, list, []int{last}, "e", impl.FlowRun{From: last + 200, To: lastTick, Load: 1})
	wantRuns(t, list, []int{0}, "e", impl.FlowRun{From: 200, To: 229, Load: 1})
	for tick, want := range map[int]int{last + 199: 0, last + 200: 1, lastTick: 1, lastTick + 1: 0} {
		if got := impl.FlowLoad(list, []int{last}, "e", tick); got != want {
			t.Errorf("load at %d: %d, not %d", tick, got, want)
		}
	}
	for _, tick := range append(slices.Clone(farInts), -1) {
		if got := impl.FlowLoad(list, []int{last}, "e", tick); got != 0 {
			t.Errorf("load at %d: %d", tick, got)
		}
	}
	most := alike(impl.FlowMaxFlights)
	wantRuns(t, most, same(impl.FlowMaxFlights, 3), "e", impl.FlowRun{From: 3, To: 6, Load: impl.FlowMaxFlights})
}

func TestSectorsOfNobody(t *testing.T) {
	list := alike(2)
	for _, sector := range append(slices.Clone(badNames), "w", "ee", "e-", "E") {
		if impl.FlowLoad(list, []int{0, 0}, sector, 0) != 0 || len(impl.FlowRuns(list, []int{0, 0}, sector)) != 0 {
			t.Errorf("somebody is in %q", sector)
		}
	}
	if impl.FlowLoad(nil, nil, "e", 0) != 0 || len(impl.FlowRuns([]impl.FlowFlight{}, nil, "e")) != 0 || len(impl.FlowRuns(nil, []int{}, "e")) != 0 {
		t.Error("somebody of nobody is in e")
	}
}

// notOkSlots are slots that are not ok for two flights.
func notOkSlots() [][]int {
	out := [][]int{nil, {}, {0}, {0, 0, 0}, {0, -2}, {-2, 0}, {0, impl.FlowMaxTick + impl.FlowMaxLate + 1}}
	for _, far := range farInts {
		out = append(out, []int{0, far}, []int{far, 0})
	}
	return out
}

func TestLoadsOfWhatIsNotOk(t *testing.T) {
	none := func(why string, list []impl.FlowFlight, slots []int) {
		t.Helper()
		for tick := -3; tick < 12; tick++ {
			if got := impl.FlowLoad(list, slots, "e", tick); got != 0 {
				t.Errorf("%s: load at %d is %d", why, tick, got)
			}
		}
		if got := impl.FlowRuns(list, slots, "e"); len(got) != 0 {
			t.Errorf("%s: runs %v", why, got)
		}
		if impl.FlowFits(nil, list, slots) {
			t.Errorf("%s: fits", why)
		}
	}
	for why, list := range notOkFlights() {
		none(why, list, same(len(list), 0))
		none(why, list, same(len(list), -1))
	}
	for _, slots := range notOkSlots() {
		none("slots", alike(2), slots)
	}
	none("slots of nobody", nil, []int{0})
	last := impl.FlowMaxTick + impl.FlowMaxLate
	if impl.FlowLoad(alike(2), []int{0, last}, "e", 0) != 1 || impl.FlowLoad(alike(2), []int{0, last + 1}, "e", 0) != 0 {
		t.Error("the last slot is ok, and one more is not")
	}
}

func TestFitsCaps(t *testing.T) {
	list := alike(3)
	for i, c := range []struct {
		caps  []impl.FlowCap
		slots []int
		want  bool
	}{
		{nil, []int{0, 0, 0}, true},
		{[]impl.FlowCap{sectorCap("e", 3)}, []int{0, 0, 0}, true},
		{[]impl.FlowCap{sectorCap("e", 2)}, []int{0, 0, 0}, false},
		{[]impl.FlowCap{sectorCap("e", 2)}, []int{0, 0, -1}, true},
		{[]impl.FlowCap{sectorCap("e", 2)}, []int{0, 1, 4}, true},
		{[]impl.FlowCap{sectorCap("e", 2)}, []int{0, 1, 3}, false},
		{[]impl.FlowCap{sectorCap("e", 1)}, []int{0, 4, 8}, true},
		{[]impl.FlowCap{sectorCap("e", 1)}, []int{8, 4, 0}, true},
		{[]impl.FlowCap{sectorCap("e", 1)}, []int{0, 4, 7}, false},
		{[]impl.FlowCap{sectorCap("e", 0)}, []int{-1, -1, -1}, true},
		{[]impl.FlowCap{sectorCap("e", 0)}, []int{-1, 0, -1}, false},
		{[]impl.FlowCap{sectorCap("w", 0)}, []int{0, 0, 0}, true},
		{[]impl.FlowCap{sectorCap("a", 0), sectorCap("e", 2), sectorCap("w", 0)}, []int{0, 0, 4}, true},
		{[]impl.FlowCap{sectorCap("a", 0), sectorCap("e", 1), sectorCap("w", 0)}, []int{0, 0, 4}, false},
	} {
		if impl.FlowFits(c.caps, list, c.slots) != c.want {
			t.Errorf("case %d: not %v", i, c.want)
		}
	}
	if !impl.FlowFits(nil, nil, nil) || !impl.FlowFits([]impl.FlowCap{}, []impl.FlowFlight{}, []int{}) || !impl.FlowFits(manyCaps(impl.FlowMaxSectors), nil, nil) {
		t.Error("nobody does not fit")
	}
	if !impl.FlowFits([]impl.FlowCap{sectorCap("e", 1), sectorCap("w", 2)}, exampleFlights(), []int{4, 0, -1, 3}) {
		t.Error("the example does not fit")
	}
	if impl.FlowFits([]impl.FlowCap{sectorCap("e", 1), sectorCap("w", 1)}, exampleFlights(), []int{4, 0, -1, 3}) {
		t.Error("two are in w and fit in one place")
	}
	most := alike(impl.FlowMaxFlights)
	if !impl.FlowFits([]impl.FlowCap{sectorCap("e", 8)}, most, same(8, 0)) || impl.FlowFits([]impl.FlowCap{sectorCap("e", 7)}, most, same(8, 0)) {
		t.Error("eight fit in eight places, and not in seven")
	}
}

func TestFitsOnlyInTime(t *testing.T) {
	list := []impl.FlowFlight{flight("a", 5, 10, visit("e", 0, 1)), flight("b", impl.FlowMaxTick, impl.FlowMaxLate, visit("e", 0, 1)), flight("c", 7, 0, visit("w", 0, 1))}
	last := impl.FlowMaxTick + impl.FlowMaxLate
	for i, c := range []struct {
		slots []int
		want  bool
	}{
		{[]int{5, impl.FlowMaxTick, 7}, true},
		{[]int{15, last, 7}, true},
		{[]int{-1, -1, -1}, true},
		{[]int{4, -1, -1}, false},
		{[]int{0, -1, -1}, false},
		{[]int{16, -1, -1}, false},
		{[]int{-1, impl.FlowMaxTick - 1, -1}, false},
		{[]int{-1, last + 1, -1}, false},
		{[]int{-1, -1, 6}, false},
		{[]int{-1, -1, 8}, false},
		{[]int{-2, -1, -1}, false},
	} {
		if impl.FlowFits(nil, list, c.slots) != c.want {
			t.Errorf("case %d: not %v", i, c.want)
		}
	}
}

func TestFitsNotByWhatIsNotOk(t *testing.T) {
	for i, caps := range notOkCaps() {
		if impl.FlowFits(caps, alike(2), []int{0, 0}) || impl.FlowFits(caps, nil, nil) || impl.FlowFits(caps, alike(2), []int{-1, -1}) {
			t.Errorf("caps %d are not ok, and it fits", i)
		}
	}
	if !impl.FlowFits([]impl.FlowCap{sectorCap("e", impl.FlowMaxCap)}, alike(2), []int{0, 0}) {
		t.Error("the greatest cap does not fit")
	}
}

// fitsSlowly is FlowFits by the words of the document, for caps and flights that are ok.
func fitsSlowly(caps []impl.FlowCap, list []impl.FlowFlight, slots []int) bool {
	for i, f := range list {
		if slots[i] != -1 && (slots[i] < f.Plan || slots[i] > f.Plan+f.Late) {
			return false
		}
	}
	for _, c := range caps {
		for tick := range 70 {
			if countLoad(list, slots, c.Sector, tick) > c.Cap {
				return false
			}
		}
	}
	return true
}

func TestFitsDrawn(t *testing.T) {
	d := draws(9)
	fit := 0
	for range 3000 {
		list := drawFlights(&d)
		slots := drawSlots(&d, list)
		caps := []impl.FlowCap{sectorCap("e", d.below(5)), sectorCap("n", d.below(5)), sectorCap("x", 0)}
		want := fitsSlowly(caps, list, slots)
		if impl.FlowFits(caps, list, slots) != want {
			t.Fatalf("%v, %v by %v: not %v", caps, list, slots, want)
		}
		if want {
			fit++
		}
	}
	if fit < 300 || fit > 2700 {
		t.Errorf("the draws tell little: %d of 3000 fit", fit)
	}
}

// TestArgumentsStay looks at what is handed in, and at what lies behind its end.
func TestArgumentsStay(t *testing.T) {
	d := draws(2)
	for range 200 {
		a := drawArguments(&d)
		impl.FlowFlightsOk(a.list)
		impl.FlowCapsOk(a.caps)
		impl.FlowLoad(a.list, a.slots, "e", 5)
		impl.FlowRuns(a.list, a.slots, "e")
		impl.FlowFits(a.caps, a.list, a.slots)
		a.stay(t)
		impl.FlowFits(a.allCaps, a.allList, a.allSlots)
		a.stay(t)
	}
}

// TestRunsAreNew writes over an answer, spare room included, and asks again.
func TestRunsAreNew(t *testing.T) {
	list, slots := alike(4), []int{0, 3, 5, 20}
	wantList, wantSlots := copyFlights(list), slices.Clone(slots)
	first := impl.FlowRuns(list, slots, "e")
	second := impl.FlowRuns(list, slots, "e")
	want := slices.Clone(first)
	first = first[:cap(first)]
	for i := range first {
		first[i] = impl.FlowRun{From: -5, To: -5, Load: -5}
	}
	if !slices.Equal(second, want) || !slices.Equal(impl.FlowRuns(list, slots, "e"), want) {
		t.Error("two answers share memory")
	}
	if !reflect.DeepEqual(list, wantList) || !slices.Equal(slots, wantSlots) {
		t.Error("an answer shares memory with an argument")
	}
}
