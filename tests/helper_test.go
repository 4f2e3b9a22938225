package tests

import (
	"math"
	"reflect"
	"slices"
	"strings"
	"testing"

	"loop.example/lapflow/impl"
)

// lastTick is the last tick at which anybody can be in a sector, whatever ok slots they have.
const lastTick = impl.FlowMaxTick + impl.FlowMaxLate + impl.FlowMaxAfter + impl.FlowMaxStay - 1

// farInts are numbers with which a sum that is not looked at first would wrap round.
var farInts = []int{math.MinInt, math.MinInt + 1, math.MaxInt - 1, math.MaxInt}

// badNames are texts that are no names.
var badNames = []string{
	"", strings.Repeat("a", impl.FlowMaxName+1), "A", "Z", "`", "{", "/", ":", ",", ".", "_", " ", "a b", "a ", " a", "a\n", "\x00",
	"\xff", "a\xff", "\xc3", "é", "aé", "éééé", "ééééé", "٣", "ａ", "\ufffd",
}

// goodNames are names, ascending.
var goodNames = []string{
	"-", "--", "-0", "-a", "0", "09", "9", "a", "a-", "a-9", "a0", "aa", "abcdefgh", "az-09", "b", "z", "zzzzzzzz",
}

func visit(sector string, after, stay int) impl.FlowVisit {
	return impl.FlowVisit{Sector: sector, After: after, Stay: stay}
}

func flight(name string, plan, late int, visits ...impl.FlowVisit) impl.FlowFlight {
	return impl.FlowFlight{Name: name, Plan: plan, Late: late, Visits: visits}
}

func sectorCap(sector string, most int) impl.FlowCap {
	return impl.FlowCap{Sector: sector, Cap: most}
}

// alike is n flights that differ by their names alone.
func alike(n int) []impl.FlowFlight {
	var list []impl.FlowFlight
	for i := range n {
		list = append(list, flight(string(rune('a'+i)), 0, 10, visit("e", 0, 4)))
	}
	return list
}

// same is n slots of one tick.
func same(n, slot int) []int {
	return slices.Repeat([]int{slot}, n)
}

// exampleFlights are the flights of the document's example.
func exampleFlights() []impl.FlowFlight {
	return []impl.FlowFlight{
		flight("ba", 1, 10, visit("e", 0, 4), visit("w", 4, 3)),
		flight("kl", 0, 10, visit("e", 0, 4), visit("w", 4, 3)),
		flight("lh", 1, 2, visit("e", 0, 2)),
		flight("q", 2, 30, visit("w", 0, 5), visit("e", 5, 2)),
	}
}

// notOkFlights are flights that are not ok, each for one reason.
func notOkFlights() map[string][]impl.FlowFlight {
	e := visit("e", 0, 4)
	return map[string][]impl.FlowFlight{
		"too many":          alike(impl.FlowMaxFlights + 1),
		"no name":           {flight("", 0, 10, e)},
		"long name":         {flight("abcdefghi", 0, 10, e)},
		"capital":           {flight("A", 0, 10, e)},
		"same name":         {flight("a", 0, 10, e), flight("a", 0, 10, e)},
		"not ascending":     {flight("b", 0, 10, e), flight("a", 0, 10, e)},
		"plan below":        {flight("a", -1, 10, e)},
		"plan above":        {flight("a", impl.FlowMaxTick+1, 10, e)},
		"late below":        {flight("a", 0, -1, e)},
		"late above":        {flight("a", 0, impl.FlowMaxLate+1, e)},
		"no visits":         {flight("a", 0, 10)},
		"too many visits":   {flight("a", 0, 10, visit("e", 0, 1), visit("e", 1, 1), visit("e", 2, 1), visit("e", 3, 1), visit("e", 4, 1), visit("e", 5, 1))},
		"no sector":         {flight("a", 0, 10, e, visit("", 4, 1))},
		"after below":       {flight("a", 0, 10, visit("e", -1, 4))},
		"after above":       {flight("a", 0, 10, e, visit("e", impl.FlowMaxAfter+1, 1))},
		"stay below":        {flight("a", 0, 10, e, visit("e", 4, 0))},
		"stay above":        {flight("a", 0, 10, visit("e", 0, impl.FlowMaxStay+1))},
		"visits overlap":    {flight("a", 0, 10, e, visit("e", 3, 1))},
		"visits go back":    {flight("a", 0, 10, visit("e", 4, 4), visit("e", 0, 4))},
		"second one not ok": {flight("a", 0, 10, e), flight("b", 0, -1, e)},
	}
}

// notOkCaps are caps that are not ok, each for one reason.
func notOkCaps() [][]impl.FlowCap {
	wrong := [][]impl.FlowCap{
		manyCaps(impl.FlowMaxSectors + 1),
		{sectorCap("e", -1)},
		{sectorCap("e", impl.FlowMaxCap+1)},
		{sectorCap("e", 5), sectorCap("e", 5)},
		{sectorCap("w", 5), sectorCap("e", 5)},
		{sectorCap("a", 5), sectorCap("b", -1)},
	}
	for _, name := range badNames {
		wrong = append(wrong, []impl.FlowCap{sectorCap(name, 5)})
	}
	for _, far := range farInts {
		wrong = append(wrong, []impl.FlowCap{sectorCap("e", far)})
	}
	return wrong
}

// draws gives numbers that look drawn by lot and are the same in every run.
type draws uint64

func (d *draws) below(n int) int {
	*d = *d*6364136223846793005 + 1442695040888963407
	return int(uint64(*d) >> 33 % uint64(n))
}

// drawFlights draws ok flights over few sectors and close plans, so that they meet.
func drawFlights(d *draws) []impl.FlowFlight {
	var list []impl.FlowFlight
	for i := range d.below(impl.FlowMaxFlights + 1) {
		var visits []impl.FlowVisit
		after := d.below(4)
		for range 1 + d.below(impl.FlowMaxVisits) {
			stay := 1 + d.below(5)
			visits = append(visits, visit(string("ewn"[d.below(3)]), after, stay))
			after += stay + d.below(2)*d.below(4)
		}
		list = append(list, flight(string(rune('a'+i)), d.below(8), d.below(12), visits...))
	}
	return list
}

// drawSlots draws slots for flights: mostly in time, some a little off, some none.
func drawSlots(d *draws, list []impl.FlowFlight) []int {
	var slots []int
	for _, f := range list {
		slot := f.Plan + d.below(f.Late+1)
		switch d.below(12) {
		case 0:
			slot = -1
		case 1:
			slot = f.Plan + f.Late + d.below(2)
		case 2:
			slot = max(0, f.Plan-d.below(2))
		}
		slots = append(slots, slot)
	}
	return slots
}

// countLoad counts, flight by flight and tick by tick, who is in a sector: the words of the document, the slow way.
func countLoad(list []impl.FlowFlight, slots []int, sector string, tick int) int {
	n := 0
	for i, f := range list {
		there := false
		for _, v := range f.Visits {
			for k := range v.Stay {
				there = there || v.Sector == sector && slots[i] != -1 && slots[i]+v.After+k == tick
			}
		}
		if there {
			n++
		}
	}
	return n
}

func copyFlights(list []impl.FlowFlight) []impl.FlowFlight {
	list = slices.Clone(list)
	for i := range list {
		list[i].Visits = slices.Clone(list[i].Visits)
	}
	return list
}

// drawFitting draws slots and takes away what does not fit, one of ten times leaving them as they are.
func drawFitting(d *draws, caps []impl.FlowCap, list []impl.FlowFlight) []int {
	slots := drawSlots(d, list)
	if d.below(10) == 0 {
		return slots
	}
	fitting := same(len(list), -1)
	for i, s := range slots {
		fitting[i] = s
		if !fitsSlowly(caps, list, fitting) {
			fitting[i] = -1
		}
	}
	return fitting
}

// arguments are lists to be handed in, those that go on behind their ends, and what these were at first.
type arguments struct {
	caps, allCaps, wantCaps    []impl.FlowCap
	list, allList, wantList    []impl.FlowFlight
	slots, allSlots, wantSlots []int
}

// behindVisits stands behind the end of each list of visits.
var behindVisits = visit("~", -9, -9)

func drawArguments(d *draws) arguments {
	list := drawFlights(d)
	caps := []impl.FlowCap{sectorCap("e", d.below(5)), sectorCap("w", 2)}
	a := arguments{
		allCaps:  append(slices.Clone(caps), sectorCap("~", -7)),
		allList:  append(copyFlights(list), flight("~", 7, 7, visit("~", 7, 7)), flight("~~", 8, 8, visit("~", 8, 8))),
		allSlots: append(drawFitting(d, caps, list), 77, 78),
	}
	for i, f := range a.allList {
		a.allList[i].Visits = append(f.Visits, behindVisits)[:len(f.Visits)]
	}
	a.caps, a.list, a.slots = a.allCaps[:len(caps)], a.allList[:len(list)], a.allSlots[:len(list)]
	a.wantCaps, a.wantList, a.wantSlots = slices.Clone(a.allCaps), copyFlights(a.allList), slices.Clone(a.allSlots)
	return a
}

// stay says whether all is as it was.
func (a arguments) stay(t *testing.T) {
	t.Helper()
	if !slices.Equal(a.allCaps, a.wantCaps) || !reflect.DeepEqual(a.allList, a.wantList) || !slices.Equal(a.allSlots, a.wantSlots) {
		t.Fatal("an argument is changed")
	}
	for _, f := range a.allList {
		if f.Visits[:len(f.Visits)+1][len(f.Visits)] != behindVisits {
			t.Fatal("something is written behind the visits' end")
		}
	}
}
