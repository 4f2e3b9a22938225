package tests

import (
	"math"
	"reflect"
	"slices"
	"testing"

	"loop.example/lapflow/impl"
)

func wantOrder(t *testing.T, list []impl.FlowFlight, want ...int) {
	t.Helper()
	if got := impl.FlowOrder(list); !slices.Equal(got, want) {
		t.Errorf("order of %v: %v, not %v", list, got, want)
	}
}

func wantLeast(t *testing.T, caps []impl.FlowCap, list []impl.FlowFlight, slots []int, at, want int) {
	t.Helper()
	if got := impl.FlowLeast(caps, list, slots, at); got != want {
		t.Errorf("least slot of %d in %v by %v, %v: %d, not %d", at, list, slots, caps, got, want)
	}
}

func wantGive(t *testing.T, caps []impl.FlowCap, list []impl.FlowFlight, want ...int) {
	t.Helper()
	if got := impl.FlowGive(caps, list); !slices.Equal(got, want) {
		t.Errorf("slots of %v by %v: %v, not %v", list, caps, got, want)
	}
}

func capsOf(sector string, most int) []impl.FlowCap {
	return []impl.FlowCap{sectorCap(sector, most)}
}

func TestOrderOrdinary(t *testing.T) {
	e := visit("e", 0, 1)
	wantOrder(t, nil)
	wantOrder(t, []impl.FlowFlight{})
	wantOrder(t, alike(1), 0)
	wantOrder(t, alike(4), 0, 1, 2, 3)
	wantOrder(t, exampleFlights(), 1, 0, 2, 3)
	wantOrder(t, []impl.FlowFlight{flight("a", 3, 0, e), flight("b", 2, 0, e), flight("c", 1, 0, e)}, 2, 1, 0)
	wantOrder(t, []impl.FlowFlight{flight("a", 10, 0, e), flight("b", 9, 0, e), flight("c", 10, 0, e), flight("d", 2, 0, e)}, 3, 1, 0, 2)
}

// TestOrderOfAny has flights that are not ok: names in any order and of any bytes, plans of any size.
func TestOrderOfAny(t *testing.T) {
	wantOrder(t, []impl.FlowFlight{{Name: "b"}, {Name: "a"}, {Name: "c"}}, 1, 0, 2)
	wantOrder(t, []impl.FlowFlight{{Name: "b"}, {Name: "a"}, {Name: "b"}, {Name: "a"}, {}}, 4, 1, 3, 0, 2)
	wantOrder(t, []impl.FlowFlight{{Name: "ab"}, {Name: "a"}, {Name: "aa"}, {Name: ""}, {Name: "a-"}}, 3, 1, 4, 2, 0)
	wantOrder(t, []impl.FlowFlight{{Name: "\xff"}, {Name: "\xc3\xa9"}, {Name: "z"}, {Name: "Z"}, {Name: "\xef\xbf\xbd"}, {Name: "\x00"}}, 5, 3, 2, 1, 4, 0)
	wantOrder(t, []impl.FlowFlight{{Name: "a", Plan: 1, Late: 0}, {Name: "a", Plan: 1, Late: -9}, {Name: "a", Plan: 0, Late: 99}}, 2, 0, 1)
	wantOrder(t, []impl.FlowFlight{{Plan: 1}, {Plan: math.MaxInt}, {Plan: -1}, {Plan: math.MinInt}, {Plan: 0}, {Plan: math.MaxInt}, {Plan: math.MinInt + 1}}, 3, 6, 2, 4, 0, 1, 5)
}

// TestOrderOfMany has so many of the same plan and name that they keep their places only if these are asked.
func TestOrderOfMany(t *testing.T) {
	d := draws(5)
	var list []impl.FlowFlight
	for range 700 {
		list = append(list, impl.FlowFlight{Name: string("ab"[d.below(2)]), Plan: d.below(3), Late: d.below(9)})
	}
	order := impl.FlowOrder(list)
	isOrder(t, list, order)
	same := slices.Repeat([]impl.FlowFlight{{Name: "a", Plan: 4}}, 300)
	isOrder(t, same, impl.FlowOrder(same))
	for range 500 {
		list := drawFlights(&d)
		isOrder(t, list, impl.FlowOrder(list))
	}
}

// isOrder says by the document's words whether places are in order, each there once.
func isOrder(t *testing.T, list []impl.FlowFlight, order []int) {
	t.Helper()
	places := slices.Sorted(slices.Values(order))
	for i, p := range places {
		if p != i {
			t.Fatalf("not each place is there once: %v", order)
		}
	}
	if len(order) != len(list) {
		t.Fatalf("%d places of %d flights", len(order), len(list))
	}
	for i := 1; i < len(order); i++ {
		a, b := list[order[i-1]], list[order[i]]
		switch {
		case a.Plan < b.Plan:
		case a.Plan == b.Plan && a.Name < b.Name:
		case a.Plan == b.Plan && a.Name == b.Name && order[i-1] < order[i]:
		default:
			t.Fatalf("%v at %d comes ahead of %v at %d", a, order[i-1], b, order[i])
		}
	}
}

// TestLeastInTime has the edges of the time in which a flight may leave.
func TestLeastInTime(t *testing.T) {
	one := capsOf("e", 1)
	two := func(late int) []impl.FlowFlight {
		return []impl.FlowFlight{flight("a", 5, 20, visit("e", 0, 4)), flight("b", 3, late, visit("e", 0, 4))}
	}
	wantLeast(t, one, two(20), []int{7, -1}, 1, 3)
	wantLeast(t, one, two(0), []int{7, -1}, 1, 3)
	wantLeast(t, one, two(6), []int{5, -1}, 1, 9)
	wantLeast(t, one, two(5), []int{5, -1}, 1, -1)
	wantLeast(t, one, two(7), []int{5, -1}, 1, 9)
	wantLeast(t, one, two(0), []int{5, -1}, 1, -1)
	wantLeast(t, one, two(6), []int{6, -1}, 1, -1)
	wantLeast(t, one, two(7), []int{6, -1}, 1, 10)
	wantLeast(t, one, two(7), []int{7, -1}, 1, 3)
	wantLeast(t, capsOf("e", 2), two(0), []int{5, -1}, 1, 3)
}

// TestLeastOfOneWithSlot has flights that have a slot already: it is theirs, and does not stand in their way.
func TestLeastOfOneWithSlot(t *testing.T) {
	one := capsOf("e", 1)
	list := alike(3)
	wantLeast(t, one, list, []int{0, -1, -1}, 0, 0)
	wantLeast(t, one, list, []int{2, -1, -1}, 0, 0)
	wantLeast(t, one, list, []int{9, -1, -1}, 0, 0)
	wantLeast(t, one, list, []int{5, 9, 0}, 0, 4)
	wantLeast(t, one, list, []int{4, 9, 0}, 0, 4)
	wantLeast(t, one, list, []int{4, 9, 0}, 1, 8)
	wantLeast(t, one, list, []int{4, 9, 0}, 2, 0)
	wantLeast(t, one, list, []int{10, 0, 5}, 0, 9)
	wantLeast(t, one, list, []int{-1, 0, 5}, 0, 9)
	wantLeast(t, one, list, []int{-1, 2, 7}, 0, -1)
	wantLeast(t, one, list, []int{-1, 4, 8}, 0, 0)
	wantLeast(t, one, list, []int{-1, 3, 7}, 0, -1)
	wantLeast(t, capsOf("e", 2), list, []int{10, 0, 5}, 0, 0)
	wantLeast(t, capsOf("e", 2), list, []int{10, 0, 3}, 0, 4)
}

func TestLeastByPlace(t *testing.T) {
	list, slots := alike(2), []int{0, 4}
	for _, at := range append(slices.Clone(farInts), -2, -1, 2, 3, 8) {
		wantLeast(t, capsOf("e", 1), list, slots, at, -1)
		wantLeast(t, nil, list, slots, at, -1)
		wantLeast(t, nil, nil, nil, at, -1)
	}
	wantLeast(t, nil, nil, nil, 0, -1)
	wantLeast(t, []impl.FlowCap{}, []impl.FlowFlight{}, []int{}, 0, -1)
	wantLeast(t, capsOf("e", 1), list, slots, 0, 0)
	wantLeast(t, capsOf("e", 1), list, slots, 1, 4)
	most := alike(impl.FlowMaxFlights)
	wantLeast(t, nil, most, same(8, 3), 7, 0)
	wantLeast(t, nil, most, same(8, 3), 8, -1)
	// What lies behind the end of a list is no place of it.
	wantLeast(t, nil, most[:2], same(8, 3)[:2], 2, -1)
}

// TestLeastOfWhatDoesNotFit has slots that are ok and do not fit: none is least, though with another slot they would fit.
func TestLeastOfWhatDoesNotFit(t *testing.T) {
	list := []impl.FlowFlight{flight("a", 2, 9, visit("e", 0, 4)), flight("b", 2, 9, visit("e", 0, 4)), flight("c", 2, 9, visit("w", 0, 4))}
	one := capsOf("e", 1)
	for at := range list {
		wantLeast(t, one, list, []int{2, 2, -1}, at, -1)
		wantLeast(t, one, list, []int{2, 5, -1}, at, -1)
		wantLeast(t, one, list, []int{1, -1, -1}, at, -1)
		wantLeast(t, one, list, []int{12, -1, -1}, at, -1)
		wantLeast(t, nil, list, []int{-1, -1, 1}, at, -1)
		wantLeast(t, nil, list, []int{-1, -1, 12}, at, -1)
		wantLeast(t, capsOf("e", 0), list, []int{-1, 5, -1}, at, -1)
	}
	wantLeast(t, one, list, []int{2, 6, -1}, 0, 2)
	wantLeast(t, one, list, []int{2, 6, -1}, 1, 6)
	wantLeast(t, one, list, []int{2, 6, -1}, 2, 2)
	wantLeast(t, one, list, []int{11, -1, 11}, 0, 2)
}

func TestLeastByCaps(t *testing.T) {
	list := []impl.FlowFlight{flight("a", 1, 9, visit("e", 0, 2), visit("w", 2, 2)), flight("b", 1, 9, visit("e", 0, 2)), flight("c", 1, 9, visit("n", 0, 30))}
	none := []int{-1, -1, -1}
	for at := range list {
		wantLeast(t, nil, list, none, at, 1)
		wantLeast(t, nil, list, []int{1, 1, 1}, at, 1)
		wantLeast(t, nil, list, []int{5, 5, 5}, at, 1)
		wantLeast(t, capsOf("x", 0), list, []int{5, 5, 5}, at, 1)
	}
	wantLeast(t, capsOf("w", 0), list, none, 0, -1)
	wantLeast(t, capsOf("w", 0), list, none, 1, 1)
	wantLeast(t, capsOf("e", 0), list, none, 0, -1)
	wantLeast(t, capsOf("e", 0), list, none, 1, -1)
	wantLeast(t, capsOf("e", 0), list, []int{-1, -1, 4}, 2, 1)
	wantLeast(t, capsOf("e", 0), list, []int{-1, -1, 4}, 1, -1)
	wantLeast(t, capsOf("n", impl.FlowMaxCap), list, none, 2, 1)
	most := alike(impl.FlowMaxFlights)
	wantLeast(t, capsOf("e", 7), most, append(same(7, 0), -1), 7, 4)
	wantLeast(t, capsOf("e", 8), most, append(same(7, 0), -1), 7, 0)
}

// TestLeastLeaps has flights that meet what is full by one visit, and then, behind it, by another.
func TestLeastLeaps(t *testing.T) {
	caps := []impl.FlowCap{sectorCap("e", 1), sectorCap("w", 1)}
	list := []impl.FlowFlight{
		flight("a", 0, 20, visit("e", 0, 3), visit("w", 3, 3)),
		flight("b", 0, 20, visit("e", 0, 2)),
		flight("c", 0, 20, visit("w", 0, 2)),
		flight("d", 0, 20, visit("e", 0, 5)),
	}
	wantLeast(t, caps, list, []int{-1, 0, 5, 6}, 0, 11)
	wantLeast(t, caps, list, []int{-1, 0, 5, -1}, 0, 4)
	wantLeast(t, caps, list, []int{-1, 0, 6, 7}, 0, 12)
	wantLeast(t, caps, list, []int{-1, 0, 8, 5}, 0, 2)
	wantLeast(t, caps, list, []int{-1, 0, 7, 5}, 0, 10)
	// A gap that is as long as the visit, and one that is a tick too short.
	wantLeast(t, caps, list, []int{-1, 0, -1, 5}, 0, 2)
	wantLeast(t, caps, list, []int{-1, 0, -1, 4}, 0, 9)
	// Twice in the sector: what is full between does not matter, but by both visits it does.
	twice := []impl.FlowFlight{flight("a", 0, 20, visit("e", 0, 1), visit("e", 3, 1)), flight("b", 0, 20, visit("e", 0, 2)), flight("c", 0, 20, visit("e", 0, 1))}
	wantLeast(t, caps, twice, []int{-1, 1, -1}, 0, 0)
	wantLeast(t, caps, twice, []int{-1, 0, -1}, 0, 2)
	wantLeast(t, caps, twice, []int{-1, 0, 5}, 0, 3)
	wantLeast(t, caps, twice, []int{-1, 1, 3}, 0, 4)
}

// leastByFits is FlowLeast by its words: slot by slot, each held against FlowFits.
func leastByFits(caps []impl.FlowCap, list []impl.FlowFlight, slots []int, at int) int {
	if at < 0 || at >= len(list) || !impl.FlowFits(caps, list, slots) {
		return -1
	}
	with := slices.Clone(slots)
	for slot := list[at].Plan; slot <= list[at].Plan+list[at].Late; slot++ {
		with[at] = slot
		if impl.FlowFits(caps, list, with) {
			return slot
		}
	}
	return -1
}

func TestLeastAtLimits(t *testing.T) {
	long := visit("e", impl.FlowMaxAfter, impl.FlowMaxStay)
	list := []impl.FlowFlight{flight("a", impl.FlowMaxTick, impl.FlowMaxLate, long), flight("b", impl.FlowMaxTick, impl.FlowMaxLate, long), flight("c", impl.FlowMaxTick, impl.FlowMaxLate, long)}
	first, last := impl.FlowMaxTick, impl.FlowMaxTick+impl.FlowMaxLate
	for _, most := range []int{0, 1, 2, 3} {
		for _, slots := range [][]int{{-1, -1, -1}, {-1, first, first + 30}, {-1, first, last}, {-1, last, first + 29}, {-1, last, last}, {-1, first, first}, {first, first + 30, last}, {last, first, first + 30}} {
			for at := range list {
				wantLeast(t, capsOf("e", most), list, slots, at, leastByFits(capsOf("e", most), list, slots, at))
			}
		}
	}
	wantLeast(t, capsOf("e", 1), list, []int{-1, first, first + 30}, 0, last)
	wantLeast(t, capsOf("e", 1), list, []int{-1, first + 1, first + 31}, 0, -1)
	wantLeast(t, capsOf("e", 0), list, []int{-1, -1, -1}, 0, -1)
	wantGive(t, capsOf("e", 1), list, first, first+30, last)
	wantGive(t, capsOf("e", 0), list, -1, -1, -1)
	// A cap of 0 is full at the first and at the last of all ticks, though nobody is there.
	ends := []impl.FlowFlight{flight("a", 0, impl.FlowMaxLate, visit("e", 0, 1)), flight("b", impl.FlowMaxTick, impl.FlowMaxLate, visit("w", 0, 1), visit("e", impl.FlowMaxAfter, 1)), flight("c", impl.FlowMaxTick, 0, long)}
	wantGive(t, capsOf("e", 0), ends, -1, -1, -1)
	wantGive(t, capsOf("e", 1), ends, 0, first, -1)
	wantGive(t, []impl.FlowCap{sectorCap("e", 1), sectorCap("w", 0)}, ends, 0, -1, first)
}

func TestLeastDrawn(t *testing.T) {
	d := draws(3)
	seen := map[string]int{}
	for range 4000 {
		list := drawFlights(&d)
		caps := []impl.FlowCap{sectorCap("e", d.below(4)), sectorCap("n", 1+d.below(3))}
		slots := drawFitting(&d, caps, list)
		for at := range list {
			want := leastByFits(caps, list, slots, at)
			if got := impl.FlowLeast(caps, list, slots, at); got != want {
				t.Fatalf("least slot of %d in %v by %v, %v: %d, not %d", at, list, slots, caps, got, want)
			}
			switch {
			case want == -1:
				seen["none"]++
			case want == list[at].Plan:
				seen["plan"]++
			case want == list[at].Plan+list[at].Late:
				seen["latest"]++
			default:
				seen["between"]++
			}
			if slots[at] != -1 && slots[at] < want {
				t.Fatalf("%d has %d and could have none below %d", at, slots[at], want)
			}
		}
	}
	for _, kind := range []string{"none", "plan", "latest", "between"} {
		if seen[kind] < 100 {
			t.Errorf("the draws tell little: %v", seen)
		}
	}
}

func TestGiveOfExample(t *testing.T) {
	caps := []impl.FlowCap{sectorCap("e", 1), sectorCap("w", 2)}
	wantGive(t, caps, exampleFlights(), 4, 0, -1, 3)
	wantGive(t, nil, exampleFlights(), 1, 0, 1, 2)
	wantGive(t, capsOf("e", 0), exampleFlights(), -1, -1, -1, -1)
	wantGive(t, capsOf("w", 0), exampleFlights(), -1, -1, 1, -1)
	wantGive(t, capsOf("x", 0), exampleFlights(), 1, 0, 1, 2)
	without := slices.Delete(exampleFlights(), 1, 2)
	wantGive(t, caps, without, 1, -1, 2)
}

func TestGiveByOrder(t *testing.T) {
	e := visit("e", 0, 4)
	one := capsOf("e", 1)
	wantGive(t, one, alike(3), 0, 4, 8)
	wantGive(t, capsOf("e", 2), alike(3), 0, 0, 4)
	wantGive(t, one, []impl.FlowFlight{flight("a", 2, 20, e), flight("b", 1, 20, e), flight("c", 0, 20, e)}, 8, 4, 0)
	// Who is planned first has the tick, though the other can wait less.
	wantGive(t, one, []impl.FlowFlight{flight("a", 1, 0, e), flight("b", 0, 20, e)}, -1, 0)
	wantGive(t, one, []impl.FlowFlight{flight("a", 0, 20, e), flight("b", 0, 0, e)}, 0, -1)
	// Who is planned later may leave ahead, where there is a gap that is too short for the one ahead.
	gap := []impl.FlowFlight{flight("a", 0, 20, visit("e", 0, 1), visit("e", 3, 4)), flight("b", 0, 20, e), flight("c", 1, 20, visit("e", 0, 2))}
	wantGive(t, one, gap, 0, 7, 1)
}

// TestGiveWhoHasNone has one that finds no slot: it takes nothing from those behind it, and they are served all the same.
func TestGiveWhoHasNone(t *testing.T) {
	one := capsOf("e", 1)
	list := []impl.FlowFlight{
		flight("a", 0, 9, visit("e", 0, 4)),
		flight("b", 1, 2, visit("e", 0, 4)),
		flight("c", 2, 2, visit("e", 0, 2)),
		flight("d", 3, 2, visit("e", 0, 2), visit("w", 2, 9)),
		flight("f", 3, 3, visit("e", 0, 1)),
	}
	wantGive(t, one, list, 0, -1, 4, -1, 6)
	wantGive(t, []impl.FlowCap{sectorCap("e", 1), sectorCap("w", 0)}, list, 0, -1, 4, -1, 6)
	wantGive(t, capsOf("w", 0), list, 0, 1, 2, -1, 3)
	wantGive(t, capsOf("e", 0), append(list[:4:4], flight("f", 3, 3, visit("w", 0, 1))), -1, -1, -1, -1, 3)
	most := alike(impl.FlowMaxFlights)
	wantGive(t, one, most, 0, 4, 8, -1, -1, -1, -1, -1)
	wantGive(t, capsOf("e", 2), most, 0, 0, 4, 4, 8, 8, -1, -1)
	wantGive(t, capsOf("e", 7), most, 0, 0, 0, 0, 0, 0, 0, 4)
	wantGive(t, capsOf("e", 8), most, 0, 0, 0, 0, 0, 0, 0, 0)
}

// giveSlowly is P3: in order, each has the least slot that fits with those ahead of it, or none if there is none.
func giveSlowly(caps []impl.FlowCap, list []impl.FlowFlight, order []int) []int {
	slots := same(len(list), -1)
	for _, at := range order {
		with := slices.Clone(slots)
		for slot := list[at].Plan; slot <= list[at].Plan+list[at].Late; slot++ {
			with[at] = slot
			if fitsSlowly(caps, list, with) {
				slots[at] = slot
				break
			}
		}
	}
	return slots
}

func TestGiveDrawn(t *testing.T) {
	d := draws(8)
	none, later := 0, 0
	for range 700 {
		list := drawFlights(&d)
		caps := []impl.FlowCap{sectorCap("e", d.below(5)), sectorCap("n", 1+d.below(3)), sectorCap("x", 0)}
		order := impl.FlowOrder(list)
		isOrder(t, list, order)
		got, want := impl.FlowGive(caps, list), giveSlowly(caps, list, order)
		if !slices.Equal(got, want) {
			t.Fatalf("slots of %v by %v: %v, not %v", list, caps, got, want)
		}
		if !impl.FlowFits(caps, list, got) {
			t.Fatalf("slots %v of %v by %v do not fit", got, list, caps)
		}
		for i, s := range got {
			if s == -1 {
				none++
			} else if s > list[i].Plan {
				later++
			}
		}
	}
	if none < 200 || later < 200 {
		t.Errorf("the draws tell little: %d have none, %d leave later", none, later)
	}
}

// TestGiveOfNobody has lists without anybody: nobody has a slot, and nothing is amiss.
func TestGiveOfNobody(t *testing.T) {
	wantGive(t, nil, nil)
	wantGive(t, []impl.FlowCap{}, []impl.FlowFlight{})
	wantGive(t, manyCaps(impl.FlowMaxSectors), nil)
}

func TestGiveOfWhatIsNotOk(t *testing.T) {
	none := func(why string, caps []impl.FlowCap, list []impl.FlowFlight) {
		t.Helper()
		if got := impl.FlowGive(caps, list); len(got) != 0 {
			t.Errorf("%s: %v", why, got)
		}
		for at := -1; at <= len(list); at++ {
			wantLeast(t, caps, list, same(len(list), -1), at, -1)
			wantLeast(t, caps, list, same(len(list), 0), at, -1)
			wantLeast(t, caps, list, nil, at, -1)
		}
	}
	for why, list := range notOkFlights() {
		none(why, nil, list)
		none(why, capsOf("e", 1), list)
		none(why, capsOf("e", 0), list)
	}
	for _, caps := range notOkCaps() {
		none("caps", caps, alike(2))
		none("caps of nobody", caps, nil)
		none("caps and flights", caps, notOkFlights()["plan below"])
	}
	for _, slots := range notOkSlots() {
		for at := -1; at < 4; at++ {
			wantLeast(t, nil, alike(2), slots, at, -1)
			wantLeast(t, capsOf("e", 9), alike(2), slots, at, -1)
		}
	}
	wantLeast(t, nil, nil, []int{0}, 0, -1)
	wantLeast(t, nil, nil, []int{-1}, 0, -1)
}

// TestGiveArgumentsStay looks at what is handed in, and at what lies behind its end.
func TestGiveArgumentsStay(t *testing.T) {
	d := draws(6)
	for range 300 {
		a := drawArguments(&d)
		impl.FlowOrder(a.list)
		impl.FlowOrder(a.allList)
		impl.FlowGive(a.caps, a.list)
		impl.FlowGive(a.allCaps, a.allList)
		for at := -1; at <= len(a.list); at++ {
			impl.FlowLeast(a.caps, a.list, a.slots, at)
			impl.FlowLeast(a.allCaps, a.allList, a.allSlots, at)
		}
		a.stay(t)
	}
}

// TestGiveIsNew writes over answers, spare room included, and asks again.
func TestGiveIsNew(t *testing.T) {
	caps := []impl.FlowCap{sectorCap("e", 1), sectorCap("w", 2)}
	list := exampleFlights()
	wantList := copyFlights(list)
	order, slots := impl.FlowOrder(list), impl.FlowGive(caps, list)
	second, given := impl.FlowOrder(list), impl.FlowGive(caps, list)
	for _, answer := range [][]int{order[:cap(order)], slots[:cap(slots)]} {
		for i := range answer {
			answer[i] = -5
		}
	}
	if !slices.Equal(second, []int{1, 0, 2, 3}) || !slices.Equal(given, []int{4, 0, -1, 3}) {
		t.Error("two answers share memory")
	}
	wantOrder(t, list, 1, 0, 2, 3)
	wantGive(t, caps, list, 4, 0, -1, 3)
	if !reflect.DeepEqual(list, wantList) {
		t.Error("an answer shares memory with an argument")
	}
}
