package tests

import (
	"fmt"
	"slices"
	"strings"
	"testing"

	"loop.example/lapflow/impl"
)

func TestFlightsOkOrdinary(t *testing.T) {
	if !impl.FlowFlightsOk(exampleFlights()) {
		t.Error("the example's flights are ok")
	}
	if !impl.FlowFlightsOk(nil) || !impl.FlowFlightsOk([]impl.FlowFlight{}) {
		t.Error("no flights are ok")
	}
	for why, list := range notOkFlights() {
		if impl.FlowFlightsOk(list) {
			t.Errorf("%s: ok", why)
		}
	}
}

func TestFlightsOkCount(t *testing.T) {
	if !impl.FlowFlightsOk(alike(impl.FlowMaxFlights)) {
		t.Error("the most flights are ok")
	}
	if impl.FlowFlightsOk(alike(impl.FlowMaxFlights + 1)) {
		t.Error("one flight too many is ok")
	}
}

func TestNames(t *testing.T) {
	e := visit("e", 0, 1)
	check := func(name string, want bool) {
		t.Helper()
		if impl.FlowFlightsOk([]impl.FlowFlight{flight(name, 0, 0, e)}) != want {
			t.Errorf("flight %q: not %v", name, want)
		}
		if impl.FlowFlightsOk([]impl.FlowFlight{flight("a", 0, 0, e, visit(name, 1, 1))}) != want {
			t.Errorf("sector %q of a visit: not %v", name, want)
		}
		if impl.FlowCapsOk([]impl.FlowCap{sectorCap(name, 1)}) != want {
			t.Errorf("sector %q of a cap: not %v", name, want)
		}
	}
	for _, name := range goodNames {
		check(name, true)
	}
	for _, name := range badNames {
		check(name, false)
	}
	for b := range 256 {
		one := string([]byte{byte(b)})
		want := strings.Contains("abcdefghijklmnopqrstuvwxyz0123456789-", one)
		check(one, want)
		check("a"+one, want)
		check(one+"a", want)
	}
}

func TestAscending(t *testing.T) {
	e := visit("e", 0, 1)
	for i, a := range goodNames {
		for k, b := range goodNames {
			want := i < k
			if impl.FlowFlightsOk([]impl.FlowFlight{flight(a, 0, 0, e), flight(b, 0, 0, e)}) != want {
				t.Errorf("flights %q, %q: not %v", a, b, want)
			}
			if impl.FlowCapsOk([]impl.FlowCap{sectorCap(a, 1), sectorCap(b, 1)}) != want {
				t.Errorf("caps %q, %q: not %v", a, b, want)
			}
		}
	}
	for at := range impl.FlowMaxSectors - 1 {
		list, caps := alike(impl.FlowMaxSectors), manyCaps(impl.FlowMaxSectors)
		list[at+1].Name, caps[at+1].Sector = list[at].Name, caps[at].Sector
		if impl.FlowFlightsOk(list) || impl.FlowCapsOk(caps) {
			t.Errorf("the same name at %d and behind it is ok", at)
		}
	}
}

// TestFlightNumbers meets each limit of a flight's numbers exactly and passes it by one.
func TestFlightNumbers(t *testing.T) {
	for _, c := range []struct {
		what        string
		least, most int
		with        func(n int) impl.FlowFlight
	}{
		{"Plan", 0, impl.FlowMaxTick, func(n int) impl.FlowFlight { return flight("a", n, 0, visit("e", 0, 1)) }},
		{"Late", 0, impl.FlowMaxLate, func(n int) impl.FlowFlight { return flight("a", 0, n, visit("e", 0, 1)) }},
		{"After", 0, impl.FlowMaxAfter, func(n int) impl.FlowFlight { return flight("a", 0, 0, visit("e", n, 1)) }},
		{"After behind", 1, impl.FlowMaxAfter, func(n int) impl.FlowFlight { return flight("a", 0, 0, visit("e", 0, 1), visit("e", n, 1)) }},
		{"Stay", 1, impl.FlowMaxStay, func(n int) impl.FlowFlight { return flight("a", 0, 0, visit("e", 0, n)) }},
		{"Stay at last", 1, impl.FlowMaxStay, func(n int) impl.FlowFlight { return flight("a", 0, 0, visit("e", 0, 1), visit("e", 200, n)) }},
	} {
		for _, n := range append(slices.Clone(farInts), c.least-1, c.least, c.most, c.most+1) {
			want := n >= c.least && n <= c.most
			if impl.FlowFlightsOk([]impl.FlowFlight{c.with(n)}) != want {
				t.Errorf("%s of %d: not %v", c.what, n, want)
			}
		}
	}
}

func TestVisitsOk(t *testing.T) {
	for n := range impl.FlowMaxVisits + 3 {
		var visits []impl.FlowVisit
		for i := range n {
			visits = append(visits, visit("e", i, 1))
		}
		want := n >= 1 && n <= impl.FlowMaxVisits
		if impl.FlowFlightsOk([]impl.FlowFlight{flight("a", 0, 0, visits...)}) != want {
			t.Errorf("%d visits: not %v", n, want)
		}
	}
	for i, c := range []struct {
		visits []impl.FlowVisit
		want   bool
	}{
		{[]impl.FlowVisit{visit("e", 3, 4), visit("e", 7, 1)}, true},
		{[]impl.FlowVisit{visit("e", 3, 4), visit("e", 6, 1)}, false},
		{[]impl.FlowVisit{visit("e", 3, 4), visit("w", 6, 1)}, false},
		{[]impl.FlowVisit{visit("e", 3, 4), visit("e", 3, 4)}, false},
		{[]impl.FlowVisit{visit("e", 3, 4), visit("w", 0, 3)}, false},
		{[]impl.FlowVisit{visit("e", 0, 1), visit("w", 1, 2), visit("n", 3, 3)}, true},
		{[]impl.FlowVisit{visit("e", 0, 1), visit("w", 1, 2), visit("n", 2, 3)}, false},
		{[]impl.FlowVisit{visit("e", 170, 30), visit("w", 200, 30)}, true},
		{[]impl.FlowVisit{visit("e", 171, 30), visit("w", 200, 30)}, false},
		{[]impl.FlowVisit{visit("e", 0, farInts[3]), visit("w", 200, 30)}, false},
		{[]impl.FlowVisit{visit("e", farInts[3], 1), visit("w", 200, 30)}, false},
	} {
		if impl.FlowFlightsOk([]impl.FlowFlight{flight("a", 0, 0, c.visits...)}) != c.want {
			t.Errorf("case %d: not %v", i, c.want)
		}
	}
}

// manyCaps is n caps that differ by their sectors alone.
func manyCaps(n int) []impl.FlowCap {
	var caps []impl.FlowCap
	for i := range n {
		caps = append(caps, sectorCap(fmt.Sprint("s", i), 1))
	}
	return caps
}

func TestCapsOk(t *testing.T) {
	if !impl.FlowCapsOk(nil) || !impl.FlowCapsOk([]impl.FlowCap{}) || !impl.FlowCapsOk([]impl.FlowCap{sectorCap("e", 1), sectorCap("w", 2)}) {
		t.Error("ordinary caps are ok")
	}
	if !impl.FlowCapsOk(manyCaps(impl.FlowMaxSectors)) || impl.FlowCapsOk(manyCaps(impl.FlowMaxSectors+1)) {
		t.Error("the most caps are ok, and one more is not")
	}
	for _, n := range append(slices.Clone(farInts), -1, 0, impl.FlowMaxCap, impl.FlowMaxCap+1) {
		want := n >= 0 && n <= impl.FlowMaxCap
		if impl.FlowCapsOk([]impl.FlowCap{sectorCap("e", n)}) != want || impl.FlowCapsOk([]impl.FlowCap{sectorCap("e", 1), sectorCap("w", n)}) != want {
			t.Errorf("a cap of %d: not %v", n, want)
		}
	}
}

// TestFlightLimits holds the numbers of the document's table.
func TestFlightLimits(t *testing.T) {
	got := []int{impl.FlowMaxName, impl.FlowMaxTick, impl.FlowMaxAfter, impl.FlowMaxStay, impl.FlowMaxLate, impl.FlowMaxVisits,
		impl.FlowMaxFlights, impl.FlowMaxSectors, impl.FlowMaxCap, impl.FlowMaxSession, impl.FlowMaxLines}
	if want := []int{8, 10000, 200, 30, 60, 5, 8, 6, 20, 10000, 200}; !slices.Equal(got, want) {
		t.Errorf("limits %v, not %v", got, want)
	}
}
