package tests

import (
	"fmt"
	"reflect"
	"slices"
	"testing"

	"loop.example/lapflow/impl"
)

func bookOf(caps []impl.FlowCap, list []impl.FlowFlight, slots ...int) impl.FlowBook {
	return impl.FlowBook{Caps: caps, Flights: list, Slots: slots}
}

func copyOfBook(b impl.FlowBook) impl.FlowBook {
	return impl.FlowBook{Caps: slices.Clone(b.Caps), Flights: copyFlights(b.Flights), Slots: slices.Clone(b.Slots)}
}

// sameBook says whether books are the same value; nil and empty lists are.
func sameBook(a, b impl.FlowBook) bool {
	return slices.Equal(a.Caps, b.Caps) && slices.Equal(a.Slots, b.Slots) && slices.EqualFunc(a.Flights, b.Flights, sameFlight)
}

func sameFlight(a, b impl.FlowFlight) bool {
	return a.Name == b.Name && a.Plan == b.Plan && a.Late == b.Late && slices.Equal(a.Visits, b.Visits)
}

func wantBook(t *testing.T, what string, got, want impl.FlowBook) {
	t.Helper()
	if !sameBook(got, want) {
		t.Fatalf("%s: %v, not %v", what, got, want)
	}
}

// wantAdd adds a flight and holds the answer against a code and, with 0, against the flights' names and slots.
func wantAdd(t *testing.T, b impl.FlowBook, f impl.FlowFlight, code int, names string, slots ...int) impl.FlowBook {
	t.Helper()
	got, c := impl.FlowAdd(b, f)
	wantAnswer(t, fmt.Sprintf("adding %v to %v", f, b), b, got, c, code, names, slots)
	return got
}

func wantDrop(t *testing.T, b impl.FlowBook, name string, code int, names string, slots ...int) impl.FlowBook {
	t.Helper()
	got, c := impl.FlowDrop(b, name)
	wantAnswer(t, fmt.Sprintf("dropping %q from %v", name, b), b, got, c, code, names, slots)
	return got
}

func wantAnswer(t *testing.T, what string, b, got impl.FlowBook, code, wantCode int, names string, slots []int) {
	t.Helper()
	if code != wantCode {
		t.Fatalf("%s: code %d, not %d", what, code, wantCode)
	}
	switch code {
	case 0:
		if !slices.Equal(got.Caps, b.Caps) || namesOf(got.Flights) != names || !slices.Equal(got.Slots, slots) {
			t.Fatalf("%s: %v, not %s with %v", what, got, names, slots)
		}
	case 1:
		wantBook(t, what, got, impl.FlowBook{})
	default:
		wantBook(t, what, got, b)
	}
}

// namesOf is the names of flights, one behind the other, with a space between.
func namesOf(list []impl.FlowFlight) string {
	names := ""
	for i, f := range list {
		if i > 0 {
			names += " "
		}
		names += f.Name
	}
	return names
}

func wantCompress(t *testing.T, b impl.FlowBook, slots ...int) {
	t.Helper()
	wantBook(t, fmt.Sprintf("compressing %v", b), impl.FlowCompress(b), bookOf(b.Caps, b.Flights, slots...))
	if impl.FlowStable(b) != slices.Equal(b.Slots, slots) {
		t.Errorf("%v: a book is stable just if it stays as it is", b)
	}
}

// notOkBooks are books that are not ok, each for one reason.
func notOkBooks() map[string]impl.FlowBook {
	books := map[string]impl.FlowBook{
		"too many at once":     bookOf(capsOf("e", 1), alike(2), 0, 3),
		"somebody with cap 0":  bookOf(capsOf("e", 0), alike(2), -1, 4),
		"too late":             bookOf(nil, alike(2), 0, 11),
		"ahead of plan":        bookOf(nil, exampleFlights(), 0, 0, -1, 3),
		"slots of nobody":      bookOf(nil, nil, 0),
		"no slot of nobody":    bookOf(nil, nil, -1),
		"flights with no list": bookOf(nil, alike(2)),
	}
	for why, list := range notOkFlights() {
		books[why] = bookOf(capsOf("e", 1), list, same(len(list), -1)...)
		books[why+", flying"] = bookOf(nil, list, same(len(list), 0)...)
	}
	for i, caps := range notOkCaps() {
		books[fmt.Sprint("caps ", i)] = bookOf(caps, alike(2), -1, -1)
		books[fmt.Sprint("caps alone ", i)] = bookOf(caps, nil)
	}
	for i, slots := range notOkSlots() {
		books[fmt.Sprint("slots ", i)] = bookOf(nil, alike(2), slots...)
	}
	return books
}

// okBooks are books that are ok, stable or not.
func okBooks() []impl.FlowBook {
	return []impl.FlowBook{
		{},
		{Caps: []impl.FlowCap{}, Flights: []impl.FlowFlight{}, Slots: []int{}},
		bookOf(manyCaps(impl.FlowMaxSectors), nil),
		bookOf(capsOf("e", 0), alike(2), -1, -1),
		bookOf(capsOf("e", 1), alike(2), 0, 4),
		bookOf(capsOf("e", 1), alike(2), 4, 0),
		bookOf(capsOf("e", 1), alike(2), 10, -1),
		bookOf(capsOf("e", 2), alike(2), 7, 10),
		bookOf(nil, alike(impl.FlowMaxFlights), same(impl.FlowMaxFlights, 10)...),
		bookOf([]impl.FlowCap{sectorCap("e", 1), sectorCap("w", 2)}, exampleFlights(), 4, 0, -1, 3),
	}
}

func TestBookOk(t *testing.T) {
	for _, b := range okBooks() {
		if !impl.FlowBookOk(b) {
			t.Errorf("not ok: %v", b)
		}
	}
	for why, b := range notOkBooks() {
		if impl.FlowBookOk(b) {
			t.Errorf("%s: ok", why)
		}
	}
	d := draws(11)
	ok := 0
	for range 2000 {
		b := drawBook(&d)
		if impl.FlowBookOk(b) != fitsSlowly(b.Caps, b.Flights, b.Slots) {
			t.Fatalf("%v: ok is %v", b, impl.FlowBookOk(b))
		}
		if impl.FlowBookOk(b) {
			ok++
		}
	}
	if ok < 300 || ok > 1950 {
		t.Errorf("the draws tell little: %d of 2000 are ok", ok)
	}
}

// TestBookOfWhatIsNotOk has books that are not ok: nothing is the answer, whatever else is wrong.
func TestBookOfWhatIsNotOk(t *testing.T) {
	good := flight("x", 0, 10, visit("e", 0, 4))
	for why, b := range notOkBooks() {
		for _, f := range []impl.FlowFlight{good, {}, flight("a", 0, 10, visit("e", 0, 4)), flight("x", -1, 10)} {
			got, code := impl.FlowAdd(b, f)
			if code != 1 || !sameBook(got, impl.FlowBook{}) {
				t.Errorf("%s: adding answers %d, %v", why, code, got)
			}
		}
		for _, name := range []string{"a", "x", "", "ba"} {
			got, code := impl.FlowDrop(b, name)
			if code != 1 || !sameBook(got, impl.FlowBook{}) {
				t.Errorf("%s: dropping answers %d, %v", why, code, got)
			}
		}
		if got := impl.FlowCompress(b); !sameBook(got, impl.FlowBook{}) {
			t.Errorf("%s: compressed it is %v", why, got)
		}
		if impl.FlowStable(b) {
			t.Errorf("%s: stable", why)
		}
	}
}

func TestAddOfExample(t *testing.T) {
	b := impl.FlowBook{Caps: []impl.FlowCap{sectorCap("e", 1), sectorCap("w", 2)}}
	list := exampleFlights()
	b = wantAdd(t, b, list[1], 0, "kl", 0)
	b = wantAdd(t, b, list[0], 0, "ba kl", 4, 0)
	b = wantAdd(t, b, list[2], 0, "ba kl lh", 4, 0, -1)
	b = wantAdd(t, b, list[3], 0, "ba kl lh q", 4, 0, -1, 3)
	wantBook(t, "the example", b, bookOf(b.Caps, list, 4, 0, -1, 3))
	b = wantDrop(t, b, "kl", 0, "ba lh q", 1, -1, 2)
	wantAdd(t, b, list[2], 3, "")
	wantCompress(t, b, 1, -1, 2)
	b = wantAdd(t, b, flight("a1", 0, 0, visit("e", 0, 1)), 0, "a1 ba lh q", 0, 1, -1, 2)
	wantCompress(t, b, 0, 1, -1, 2)
}

// TestAddByPlace has flights that come in first, last and between, by name and not by plan.
func TestAddByPlace(t *testing.T) {
	e := visit("e", 0, 2)
	b := bookOf(capsOf("e", 1), nil)
	for i, step := range []struct {
		name  string
		plan  int
		names string
		slots []int
	}{
		{"m", 5, "m", []int{5}},
		{"a", 5, "a m", []int{7, 5}},
		{"z", 0, "a m z", []int{7, 5, 0}},
		{"-", 9, "- a m z", []int{9, 7, 5, 0}},
		{"zzzzzzzz", 1, "- a m z zzzzzzzz", []int{9, 7, 5, 0, 2}},
		{"m-", 5, "- a m m- z zzzzzzzz", []int{9, 7, 5, 11, 0, 2}},
		{"0", 4, "- 0 a m m- z zzzzzzzz", []int{9, 13, 7, 5, 11, 0, 2}},
		{"ab", 0, "- 0 a ab m m- z zzzzzzzz", []int{9, 13, 7, 15, 5, 11, 0, 2}},
	} {
		b = wantAdd(t, b, flight(step.name, step.plan, 20, e), 0, step.names, step.slots...)
		if !impl.FlowBookOk(b) {
			t.Fatalf("step %d: the book is not ok", i)
		}
	}
	wantAdd(t, b, flight("c", 0, 60, e), 4, "")
	for _, f := range b.Flights {
		if want := flight(f.Name, f.Plan, 20, e); !sameFlight(f, want) {
			t.Errorf("%v is not the flight that came in: %v", f, want)
		}
	}
}

// TestAddLeavesOthers has a book in which others could come ahead: they do not, when somebody comes in.
func TestAddLeavesOthers(t *testing.T) {
	one := capsOf("e", 1)
	b := bookOf(one, alike(3), 9, 5, -1)
	wantAdd(t, b, flight("d", 0, 20, visit("e", 0, 4)), 0, "a b c d", 9, 5, -1, 0)
	wantAdd(t, b, flight("-", 1, 20, visit("e", 0, 4)), 0, "- a b c", 1, 9, 5, -1)
	wantAdd(t, b, flight("-", 2, 20, visit("e", 0, 4)), 0, "- a b c", 13, 9, 5, -1)
	wantAdd(t, b, flight("-", 2, 11, visit("e", 0, 4)), 0, "- a b c", 13, 9, 5, -1)
	wantAdd(t, b, flight("-", 2, 10, visit("e", 0, 4)), 0, "- a b c", -1, 9, 5, -1)
	wantAdd(t, bookOf(capsOf("e", 0), nil), flight("a", 0, 60, visit("e", 0, 1)), 0, "a", -1)
	wantAdd(t, bookOf(capsOf("e", 0), nil), flight("a", 7, 0, visit("w", 0, 1)), 0, "a", 7)
	wantAdd(t, impl.FlowBook{}, flight("a", impl.FlowMaxTick, impl.FlowMaxLate, visit("e", 200, 30)), 0, "a", impl.FlowMaxTick)
}

// TestAddCodes has each code, and books and flights for which several would do.
func TestAddCodes(t *testing.T) {
	e := visit("e", 0, 4)
	full := bookOf(capsOf("e", 1), alike(impl.FlowMaxFlights), 0, 4, 8, -1, -1, -1, -1, -1)
	part := bookOf(capsOf("e", 1), alike(2), 9, -1)
	almost := bookOf(nil, alike(impl.FlowMaxFlights-1), same(impl.FlowMaxFlights-1, 3)...)
	for _, b := range append(okBooks(), full, part, almost) {
		for why, list := range notOkFlights() {
			if len(list) == 1 {
				if got, code := impl.FlowAdd(b, list[0]); code != 2 || !sameBook(got, b) {
					t.Errorf("%s: %d, %v", why, code, got)
				}
			}
		}
		for _, name := range badNames {
			wantAdd(t, b, flight(name, 0, 10, e), 2, "")
		}
		for _, far := range farInts {
			wantAdd(t, b, flight("x", far, 10, e), 2, "")
			wantAdd(t, b, flight("x", 0, far, e), 2, "")
			wantAdd(t, b, flight("x", 0, 10, visit("e", far, 1)), 2, "")
			wantAdd(t, b, flight("x", 0, 10, visit("e", 0, far)), 2, "")
		}
		wantAdd(t, b, impl.FlowFlight{}, 2, "")
		for _, f := range b.Flights {
			wantAdd(t, b, f, 3, "")
			wantAdd(t, b, flight(f.Name, 9, 9, visit("w", 9, 9)), 3, "")
			wantAdd(t, b, flight(f.Name, -1, 9, visit("w", 9, 9)), 2, "")
			wantAdd(t, b, flight(f.Name, 9, 9), 2, "")
		}
	}
	for _, name := range []string{"-", "0", "aa", "b-", "hh", "z"} {
		wantAdd(t, full, flight(name, 0, 10, e), 4, "")
		wantAdd(t, full, flight(name, 0, 61, e), 2, "")
	}
	wantAdd(t, almost, flight("h", 0, 10, e), 0, "a b c d e f g h", 3, 3, 3, 3, 3, 3, 3, 0)
	wantAdd(t, almost, flight("-", 0, 10, e), 0, "- a b c d e f g", 0, 3, 3, 3, 3, 3, 3, 3)
}

func TestDropCodes(t *testing.T) {
	for _, b := range okBooks() {
		names := []string{"x", "aa", "A", "k", "kl-", "\xff", "a ", "zzzzzzzzz"}
		for _, name := range append(names, badNames...) {
			wantDrop(t, b, name, 3, "")
		}
		for i, f := range b.Flights {
			got, code := impl.FlowDrop(b, f.Name)
			if rest := slices.Delete(copyFlights(b.Flights), i, i+1); code != 0 || !slices.EqualFunc(got.Flights, rest, sameFlight) || len(got.Slots) != len(rest) {
				t.Errorf("dropping %q of %v: %d, %v", f.Name, b, code, got)
			}
		}
	}
	wantDrop(t, bookOf(nil, alike(1), 5), "a", 0, "")
	wantDrop(t, bookOf(capsOf("e", 1), alike(1), -1), "a", 0, "")
}

// TestDropLetsOthersAhead has flights that come ahead, and such that get a slot, when others go.
func TestDropLetsOthersAhead(t *testing.T) {
	b := bookOf(capsOf("e", 1), alike(5), 0, 4, 8, -1, -1)
	wantDrop(t, b, "a", 0, "b c d e", 0, 4, 8, -1)
	wantDrop(t, b, "b", 0, "a c d e", 0, 4, 8, -1)
	wantDrop(t, b, "c", 0, "a b d e", 0, 4, 8, -1)
	wantDrop(t, b, "d", 0, "a b c e", 0, 4, 8, -1)
	wantDrop(t, b, "e", 0, "a b c d", 0, 4, 8, -1)
	// First planned, first served: the one that waits and is planned first gets what is free.
	e := visit("e", 0, 4)
	list := []impl.FlowFlight{flight("a", 3, 2, e), flight("b", 2, 3, e), flight("c", 0, 9, e)}
	wantDrop(t, bookOf(capsOf("e", 1), list, -1, -1, 3), "c", 0, "a b", -1, 2)
	wantDrop(t, bookOf(capsOf("e", 1), list, -1, -1, 3), "a", 0, "b c", 4, 0)
	wantDrop(t, bookOf(capsOf("e", 1), list, -1, -1, 3), "b", 0, "a c", 4, 0)
	most := bookOf(capsOf("e", 1), alike(impl.FlowMaxFlights), 0, 4, 8, -1, -1, -1, -1, -1)
	wantDrop(t, most, "a", 0, "b c d e f g h", 0, 4, 8, -1, -1, -1, -1)
	wantDrop(t, most, "h", 0, "a b c d e f g", 0, 4, 8, -1, -1, -1, -1)
}

// TestDropOfOneWithoutSlot has flights that go and had no slot: the rest comes ahead all the same.
func TestDropOfOneWithoutSlot(t *testing.T) {
	wantDrop(t, bookOf(capsOf("e", 1), alike(3), -1, 9, 3), "a", 0, "b c", 4, 0)
	wantDrop(t, bookOf(capsOf("e", 1), alike(3), 9, 3, -1), "c", 0, "a b", 4, 0)
	wantDrop(t, bookOf(nil, alike(3), -1, -1, -1), "b", 0, "a c", 0, 0)
	wantDrop(t, bookOf(capsOf("e", 0), alike(3), -1, -1, -1), "b", 0, "a c", -1, -1)
	wantDrop(t, bookOf(capsOf("e", 1), alike(3), 0, -1, 4), "b", 0, "a c", 0, 4)
}

// secondRound is a book of which the second round of compressing still changes something: b, behind a in order, comes
// ahead and makes room for a, by its slot or from waiting.
func secondRound(late, slot int) impl.FlowBook {
	list := []impl.FlowFlight{flight("a", 0, late, visit("e", 0, 4)), flight("b", 1, 9, visit("e", 0, 2))}
	return bookOf(capsOf("e", 1), list, slot, 3)
}

// thirdRound is one of which the third round does: c comes ahead, then b by that, then a.
func thirdRound() impl.FlowBook {
	caps := []impl.FlowCap{sectorCap("x", 1), sectorCap("y", 1)}
	list := []impl.FlowFlight{
		flight("a", 2, 20, visit("x", 0, 10)),
		flight("b", 2, 20, visit("y", 0, 4), visit("x", 4, 2)),
		flight("c", 3, 20, visit("y", 0, 2)),
	}
	return bookOf(caps, list, 13, 7, 5)
}

// nthRound is n flights, the last in order ahead of all, each a tick too late: with each round one more comes ahead. It
// answers their slots behind n rounds too.
func nthRound(n int) (impl.FlowBook, []int) {
	b := bookOf(capsOf("e", 1), alike(n))
	var want []int
	for i := range n {
		ahead := 4 * (n - 1 - i)
		b.Flights[i].Late = impl.FlowMaxLate
		b.Slots = append(b.Slots, ahead+1)
		want = append(want, ahead)
	}
	return b, want
}

// TestCompressInManyRounds has as many rounds as there are flights at the most.
func TestCompressInManyRounds(t *testing.T) {
	for n := range impl.FlowMaxFlights + 1 {
		b, want := nthRound(n)
		if _, rounds := compressSlowly(b); rounds != n {
			t.Fatalf("%v is compressed in %d rounds, not %d", b, rounds, n)
		}
		wantCompress(t, b, want...)
		if n == impl.FlowMaxFlights {
			continue
		}
		rest := namesOf(b.Flights)
		b.Flights = append(b.Flights, flight("z", 0, 0, visit("z", 0, 1)))
		b.Slots = append(b.Slots, -1)
		wantDrop(t, b, "z", 0, rest, want...)
	}
}

func TestCompressInRounds(t *testing.T) {
	wantCompress(t, secondRound(9, 6), 3, 1)
	wantCompress(t, secondRound(9, 5), 3, 1)
	wantCompress(t, secondRound(4, -1), 3, 1)
	wantCompress(t, secondRound(3, -1), 3, 1)
	wantCompress(t, secondRound(2, -1), -1, 1)
	wantCompress(t, thirdRound(), 11, 5, 3)
	waits := thirdRound()
	waits.Flights[0].Late, waits.Slots[0] = 9, -1
	wantCompress(t, waits, 11, 5, 3)
	waits.Flights[0].Late = 8
	wantCompress(t, waits, -1, 5, 3)
	// By dropping somebody who is in nobody's way the rest goes through the same rounds.
	b := thirdRound()
	b.Flights, b.Slots = append(b.Flights, flight("d", 0, 0, visit("z", 0, 1))), append(b.Slots, 0)
	wantCompress(t, b, 11, 5, 3, 0)
	wantDrop(t, b, "d", 0, "a b c", 11, 5, 3)
	b.Slots[3] = -1
	wantDrop(t, b, "d", 0, "a b c", 11, 5, 3)
	wantDrop(t, b, "c", 0, "a b d", 8, 2, 0)
}

func TestCompressOrdinary(t *testing.T) {
	wantCompress(t, impl.FlowBook{})
	wantCompress(t, impl.FlowBook{Caps: []impl.FlowCap{}, Flights: []impl.FlowFlight{}, Slots: []int{}})
	wantCompress(t, bookOf(manyCaps(impl.FlowMaxSectors), nil))
	one := capsOf("e", 1)
	wantCompress(t, bookOf(one, alike(3), 0, 4, 8), 0, 4, 8)
	wantCompress(t, bookOf(one, alike(3), 8, 4, 0), 8, 4, 0)
	wantCompress(t, bookOf(one, alike(3), 9, 5, 1), 8, 4, 0)
	wantCompress(t, bookOf(one, alike(3), 10, 5, 0), 8, 4, 0)
	wantCompress(t, bookOf(one, alike(3), -1, -1, -1), 0, 4, 8)
	wantCompress(t, bookOf(one, alike(3), 10, -1, -1), 0, 4, 8)
	wantCompress(t, bookOf(one, alike(3), -1, 6, -1), 0, 4, 8)
	wantCompress(t, bookOf(one, alike(3), -1, 3, -1), 4, 0, 8)
	wantCompress(t, bookOf(capsOf("e", 2), alike(3), 10, 10, -1), 0, 0, 4)
	wantCompress(t, bookOf(nil, alike(3), 10, 10, -1), 0, 0, 0)
	wantCompress(t, bookOf(capsOf("e", 0), alike(3), -1, -1, -1), -1, -1, -1)
	most := alike(impl.FlowMaxFlights)
	wantCompress(t, bookOf(nil, most, same(8, 10)...), same(8, 0)...)
	wantCompress(t, bookOf(one, most, -1, -1, -1, -1, -1, -1, -1, 6), 0, 8, -1, -1, -1, -1, -1, 4)
	wantCompress(t, bookOf(capsOf("e", 7), most, same(8, -1)...), 0, 0, 0, 0, 0, 0, 0, 4)
}

// TestCompressByOrder has who comes ahead first: by plan, and with the same plan by name.
func TestCompressByOrder(t *testing.T) {
	e := visit("e", 0, 4)
	one := capsOf("e", 1)
	list := []impl.FlowFlight{flight("a", 1, 20, e), flight("b", 0, 20, e), flight("c", 1, 20, e)}
	wantCompress(t, bookOf(one, list, -1, -1, -1), 4, 0, 8)
	wantCompress(t, bookOf(one, list, 16, 20, -1), 4, 0, 8)
	wantCompress(t, bookOf(one, list, 12, -1, 20), 4, 0, 8)
	wantCompress(t, bookOf(one, list, 20, 16, 12), 4, 0, 8)
	limit := flight("z", impl.FlowMaxTick, impl.FlowMaxLate, visit("e", impl.FlowMaxAfter, impl.FlowMaxStay))
	last := []impl.FlowFlight{flight("y", limit.Plan, limit.Late, limit.Visits...), limit}
	wantCompress(t, bookOf(one, last, 10060, 10030), 10000, 10030)
	wantCompress(t, bookOf(one, last, 10060, 10029), 10030, 10000)
	wantCompress(t, bookOf(one, last, -1, 10060), 10000, 10030)
}

func TestStable(t *testing.T) {
	one := capsOf("e", 1)
	list := alike(3)
	for i, c := range []struct {
		b    impl.FlowBook
		want bool
	}{
		{impl.FlowBook{}, true},
		{bookOf(manyCaps(impl.FlowMaxSectors), nil), true},
		{bookOf(one, list, 0, 4, 8), true},
		{bookOf(one, list, 8, 0, 4), true},
		{bookOf(one, list, 0, 4, 9), false},
		{bookOf(one, list, 0, 4, -1), false},
		{bookOf(one, list, 9, 4, 0), false},
		{bookOf(one, list, -1, 4, 0), false},
		{bookOf(one, list, 0, 10, 4), false},
		{bookOf(one, list, 0, -1, 4), false},
		{bookOf(one, list, 3, 7, -1), false},
		{bookOf(one, list, -1, -1, -1), false},
		{bookOf(capsOf("e", 0), list, -1, -1, -1), true},
		{bookOf(nil, list, 0, 0, 0), true},
		{bookOf(nil, list, 0, 0, 1), false},
		{bookOf(nil, list, 1, 0, 0), false},
		{secondRound(9, 5), false},
		{secondRound(9, 3), false},
		{thirdRound(), false},
		{bookOf(one, alike(4), 0, 4, 8, -1), true},
		{bookOf(one, alike(8), 0, 4, 8, -1, -1, -1, -1, -1), true},
		{bookOf(one, alike(8), 0, -1, 8, -1, -1, -1, -1, -1), false},
	} {
		if impl.FlowStable(c.b) != c.want {
			t.Errorf("case %d: not %v", i, c.want)
		}
	}
	// In the third book of rounds each can be the only one that can come ahead.
	b := thirdRound()
	b.Slots[2] = 3
	if impl.FlowStable(b) {
		t.Error("b can come ahead, and it is stable")
	}
	b.Slots[1] = 5
	if impl.FlowStable(b) {
		t.Error("a can come ahead, and it is stable")
	}
	b.Slots[0] = 11
	if !impl.FlowStable(b) {
		t.Error("nobody can come ahead, and it is not stable")
	}
}

// drawBook draws books, of which some are not ok.
func drawBook(d *draws) impl.FlowBook {
	caps := []impl.FlowCap{sectorCap("e", d.below(4)), sectorCap("n", 1+d.below(2)), sectorCap("x", 0)}[:d.below(4)]
	list := drawFlights(d)
	slots := drawFitting(d, caps, list)
	for i := range slots {
		if d.below(4) == 0 {
			slots[i] = -1
		}
	}
	return bookOf(caps, list, slots...)
}

// compressSlowly is to compress by the document's words, and how many rounds changed something.
func compressSlowly(b impl.FlowBook) ([]int, int) {
	slots := slices.Clone(b.Slots)
	for rounds := 0; ; rounds++ {
		before := slices.Clone(slots)
		for _, at := range impl.FlowOrder(b.Flights) {
			slots[at] = leastByFits(b.Caps, b.Flights, slots, at)
		}
		if slices.Equal(slots, before) {
			return slots, rounds
		}
	}
}

func stableSlowly(b impl.FlowBook) bool {
	for at, s := range b.Slots {
		if s != leastByFits(b.Caps, b.Flights, b.Slots, at) {
			return false
		}
	}
	return true
}

// nobodyLater is P2: who stays and had a slot has one, and none that is later.
func nobodyLater(t *testing.T, before, after impl.FlowBook) {
	t.Helper()
	now := map[string]int{}
	for i, f := range after.Flights {
		now[f.Name] = after.Slots[i]
	}
	for i, f := range before.Flights {
		if s, stays := now[f.Name]; stays && before.Slots[i] != -1 && (s == -1 || s > before.Slots[i]) {
			t.Fatalf("%s had %d and has %d: %v, behind it %v", f.Name, before.Slots[i], s, before, after)
		}
	}
}

// TestCompressDrawn has P2, P5 and P6 for books of all kinds.
func TestCompressDrawn(t *testing.T) {
	d := draws(12)
	byRounds := map[int]int{}
	for range 3000 {
		b := drawBook(&d)
		got := impl.FlowCompress(b)
		if !impl.FlowBookOk(b) {
			wantBook(t, "not ok", got, impl.FlowBook{})
			continue
		}
		want, rounds := compressSlowly(b)
		byRounds[min(rounds, 3)]++
		wantBook(t, fmt.Sprint(b), got, bookOf(b.Caps, b.Flights, want...))
		nobodyLater(t, b, got)
		if !impl.FlowStable(got) || !stableSlowly(got) || !fitsSlowly(got.Caps, got.Flights, got.Slots) {
			t.Fatalf("%v compressed is %v, and not stable", b, got)
		}
		wantBook(t, "compressed again", impl.FlowCompress(got), got)
		if impl.FlowStable(b) != stableSlowly(b) || impl.FlowStable(b) != (rounds == 0) {
			t.Fatalf("%v: stable is %v", b, impl.FlowStable(b))
		}
	}
	for rounds := range 4 {
		if byRounds[rounds] < 3 {
			t.Errorf("the draws tell little: books by rounds that change something: %v", byRounds)
		}
	}
}

// TestAddAndDropDrawn adds to and drops from books of all kinds, stable or not.
func TestAddAndDropDrawn(t *testing.T) {
	d := draws(13)
	codes := map[int]int{}
	for range 3000 {
		b := drawBook(&d)
		f := drawFlight(&d)
		got, code := impl.FlowAdd(b, f)
		codes[code]++
		want, wantCode := addSlowly(b, f)
		if code != wantCode || !sameBook(got, want) {
			t.Fatalf("adding %v to %v: %d, %v, not %d, %v", f, b, code, got, wantCode, want)
		}
		got, code = impl.FlowDrop(b, f.Name)
		codes[-code]++
		want, wantCode = dropSlowly(b, f.Name)
		if code != wantCode || !sameBook(got, want) {
			t.Fatalf("dropping %q from %v: %d, %v, not %d, %v", f.Name, b, code, got, wantCode, want)
		}
	}
	for _, code := range []int{-3, -1, 0, 1, 2, 3, 4} {
		if codes[code] < 20 {
			t.Errorf("the draws tell little: %v", codes)
		}
	}
}

// drawFlight draws a flight for a drawn book: its name may be there, and it may be not ok.
func drawFlight(d *draws) impl.FlowFlight {
	f := flight(string("-abcdefghiz"[d.below(11)]), d.below(8), d.below(12), visit("e", d.below(3), 1+d.below(5)), visit("n", 8, 1+d.below(5)))
	if d.below(6) == 0 {
		f.Plan = -1
	}
	return f
}

// addSlowly is FlowAdd by the document's words.
func addSlowly(b impl.FlowBook, f impl.FlowFlight) (impl.FlowBook, int) {
	at := 0
	for at < len(b.Flights) && b.Flights[at].Name < f.Name {
		at++
	}
	switch {
	case !impl.FlowFits(b.Caps, b.Flights, b.Slots):
		return impl.FlowBook{}, 1
	case !impl.FlowFlightsOk([]impl.FlowFlight{f}):
		return b, 2
	case at < len(b.Flights) && b.Flights[at].Name == f.Name:
		return b, 3
	case len(b.Flights) >= impl.FlowMaxFlights:
		return b, 4
	}
	after := copyOfBook(b)
	after.Flights = slices.Insert(after.Flights, at, f)
	after.Slots = slices.Insert(after.Slots, at, -1)
	after.Slots[at] = leastByFits(after.Caps, after.Flights, after.Slots, at)
	return after, 0
}

func dropSlowly(b impl.FlowBook, name string) (impl.FlowBook, int) {
	if !impl.FlowFits(b.Caps, b.Flights, b.Slots) {
		return impl.FlowBook{}, 1
	}
	for at, f := range b.Flights {
		if f.Name == name {
			after := copyOfBook(b)
			after.Flights = slices.Delete(after.Flights, at, at+1)
			after.Slots = slices.Delete(after.Slots, at, at+1)
			after.Slots, _ = compressSlowly(after)
			return after, 0
		}
	}
	return b, 3
}

// TestNeverTooMany leads books from caps alone through flights that come and go: P1, P2 and P5.
func TestNeverTooMany(t *testing.T) {
	d := draws(14)
	waits, ahead, gets := 0, 0, 0
	for range 150 {
		b := bookOf([]impl.FlowCap{sectorCap("e", 1+d.below(3)), sectorCap("n", 1+d.below(3)), sectorCap("w", d.below(5))}, nil)
		for range 30 {
			before := copyOfBook(b)
			name := string("abcdefghij"[d.below(10)])
			code := 0
			if d.below(3) > 0 {
				b, code = impl.FlowAdd(b, named(drawFlights(&d), name))
			} else {
				b, code = impl.FlowDrop(b, name)
				if code == 0 && (!impl.FlowStable(b) || !stableSlowly(b)) {
					t.Fatalf("%v without %q is %v, and not stable", before, name, b)
				}
			}
			if code == 1 {
				t.Fatalf("%v has come to be not ok", before)
			}
			neverTooMany(t, b)
			nobodyLater(t, before, b)
			for i, f := range b.Flights {
				k := slices.IndexFunc(before.Flights, func(g impl.FlowFlight) bool { return g.Name == f.Name })
				switch {
				case k < 0 && b.Slots[i] == -1:
					waits++
				case k >= 0 && before.Slots[k] == -1 && b.Slots[i] != -1:
					gets++
				case k >= 0 && b.Slots[i] < before.Slots[k]:
					ahead++
				}
			}
		}
	}
	if waits < 50 || ahead < 50 || gets < 50 {
		t.Errorf("the draws tell little: %d wait, %d come ahead, %d get a slot", waits, ahead, gets)
	}
}

// named is the first of flights with another name, or one that is not ok if there is none.
func named(list []impl.FlowFlight, name string) impl.FlowFlight {
	if len(list) == 0 {
		return impl.FlowFlight{Name: name}
	}
	list[0].Name = name
	return list[0]
}

// neverTooMany is P1: no load, counted tick by tick, is above a cap.
func neverTooMany(t *testing.T, b impl.FlowBook) {
	t.Helper()
	for _, c := range b.Caps {
		for tick := range 70 {
			if countLoad(b.Flights, b.Slots, c.Sector, tick) > c.Cap {
				t.Fatalf("too many are in %s at %d: %v", c.Sector, tick, b)
			}
		}
	}
}

// TestBookArgumentsStay looks at what is handed in, and at what lies behind its end.
func TestBookArgumentsStay(t *testing.T) {
	d := draws(15)
	for range 300 {
		a := drawArguments(&d)
		f := a.allList[len(a.list)]
		f.Name, f.Visits = "m", append(make([]impl.FlowVisit, 0, 3), visit("e", 0, 2))
		for _, b := range []impl.FlowBook{bookOf(a.caps, a.list, a.slots...), bookOf(a.allCaps, a.allList, a.allSlots...)} {
			impl.FlowBookOk(b)
			impl.FlowStable(b)
			impl.FlowCompress(b)
			impl.FlowAdd(b, f)
			for _, name := range []string{"a", "b", "h", "~", "m"} {
				impl.FlowDrop(b, name)
				f.Name = name
				impl.FlowAdd(b, f)
			}
			a.stay(t)
		}
		if want := []impl.FlowVisit{visit("e", 0, 2), {}, {}}; !slices.Equal(f.Visits[:3], want) {
			t.Fatal("the flight that comes in is changed")
		}
	}
}

// piece is the memory of a list, spare room included.
type piece struct {
	of       string
	from, to uintptr
}

func pieceOf(of string, list any) piece {
	v := reflect.ValueOf(list)
	return piece{of, v.Pointer(), v.Pointer() + uintptr(v.Cap())*v.Type().Elem().Size()}
}

func piecesOf(of string, b impl.FlowBook) []piece {
	pieces := []piece{pieceOf(of+" caps", b.Caps), pieceOf(of+" flights", b.Flights), pieceOf(of+" slots", b.Slots)}
	for _, f := range b.Flights[:cap(b.Flights)] {
		pieces = append(pieces, pieceOf(of+" visits of "+f.Name, f.Visits))
	}
	return pieces
}

// isNew says whether no list of an answer shares memory with another, or with one of the arguments.
func isNew(t *testing.T, what string, answer impl.FlowBook, arguments []piece) {
	t.Helper()
	own := piecesOf("answer", answer)
	for i, a := range own {
		for _, b := range append(slices.Clone(arguments), own[i+1:]...) {
			if a.from < b.to && b.from < a.to {
				t.Fatalf("%s: %s shares memory with %s", what, a.of, b.of)
			}
		}
	}
}

// TestBookIsNew has every way to an answer, from books whose flights share their visits, with spare room in every list.
func TestBookIsNew(t *testing.T) {
	shared := make([]impl.FlowVisit, 2, 9)
	shared[0], shared[1] = visit("e", 0, 2), visit("w", 2, 1)
	for n := range impl.FlowMaxFlights + 1 {
		b := bookOf(append(make([]impl.FlowCap, 0, 9), sectorCap("e", 3)), make([]impl.FlowFlight, 0, 20))
		b.Slots = make([]int, 0, 20)
		for i := range n {
			b.Flights = append(b.Flights, flight(string(rune('a'+i)), 0, 60, shared[:1+i%2]...))
			b.Slots = append(b.Slots, 2*i+2)
		}
		if !impl.FlowBookOk(b) {
			t.Fatalf("%v is not ok", b)
		}
		given := append(piecesOf("book", b), pieceOf("shared visits", shared))
		want := copyOfBook(b)
		isNew(t, "compress", impl.FlowCompress(b), given)
		for _, f := range []impl.FlowFlight{flight("-", 0, 60, shared...), flight("b-", 0, 60, shared[:1]...), flight("z", 0, 60, shared...), flight("a", 0, 60, shared...), flight("z", -1, 60, shared...)} {
			got, code := impl.FlowAdd(b, f)
			isNew(t, fmt.Sprint("add with code ", code), got, given)
		}
		for _, name := range []string{"a", "b", "h", "z"} {
			got, code := impl.FlowDrop(b, name)
			isNew(t, fmt.Sprint("drop with code ", code), got, given)
		}
		wantBook(t, "argument", b, want)
	}
}

// TestBookKeepsNothing writes over answers and arguments, and asks again.
func TestBookKeepsNothing(t *testing.T) {
	b := thirdRound()
	f := flight("d", 0, 20, visit("x", 0, 2))
	added, _ := impl.FlowAdd(b, f)
	want := copyOfBook(added)
	f.Visits[0] = visit("z", 9, 9)
	for i := range b.Flights {
		b.Flights[i].Visits[0] = visit("z", 9, 9)
		b.Slots[i] = -1
	}
	b.Caps[0] = sectorCap("z", 9)
	wantBook(t, "an answer", added, want)
	added.Flights[0].Visits[0].Stay, added.Slots[0], added.Caps[0].Cap = 30, 0, 0
	again, code := impl.FlowAdd(thirdRound(), flight("d", 0, 20, visit("x", 0, 2)))
	if code != 0 {
		t.Fatalf("code %d", code)
	}
	wantBook(t, "the same again", again, want)
}
