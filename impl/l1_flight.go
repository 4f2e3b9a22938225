// Package impl: who may leave when, so that no sector has more than it can guide.
package impl

import (
	"cmp"
	"slices"
)

// Limits of flights.
const (
	FlowMaxName    = 8
	FlowMaxTick    = 10000
	FlowMaxAfter   = 200
	FlowMaxStay    = 30
	FlowMaxLate    = 60
	FlowMaxVisits  = 5
	FlowMaxFlights = 8
	FlowMaxSectors = 6
	FlowMaxCap     = 20
)

// FlowVisit is when a flight is in a sector, by when it left.
type FlowVisit struct {
	Sector string
	After  int
	Stay   int
}

// FlowFlight is a flight that is planned.
type FlowFlight struct {
	Name   string
	Plan   int
	Late   int
	Visits []FlowVisit
}

// FlowCap is how many a sector can guide at once.
type FlowCap struct {
	Sector string
	Cap    int
}

// named is what flights and caps have in common, so that one check serves both.
type named interface {
	name() string
	partsOk() bool
}

// FlowFlightsOk says whether flights are ok.
func FlowFlightsOk(list []FlowFlight) bool {
	return namedOk(list, FlowMaxFlights)
}

// FlowCapsOk says whether caps are ok.
func FlowCapsOk(caps []FlowCap) bool {
	return namedOk(caps, FlowMaxSectors)
}

// namedOk says whether things are at most so many, ascending by name, and each ok by itself.
func namedOk[T named](list []T, most int) bool {
	if len(list) > most {
		return false
	}
	for i, x := range list {
		if !nameOk(x.name()) || !x.partsOk() {
			return false
		}
		if i > 0 && list[i-1].name() >= x.name() {
			return false
		}
	}
	return true
}

// placeOf is the place at which the thing of a name stands, or would stand, among such as ascend by name, and whether it is there.
func placeOf[T named](list []T, name string) (int, bool) {
	return slices.BinarySearchFunc(list, name, func(x T, name string) int {
		return cmp.Compare(x.name(), name)
	})
}

// nameOk says whether a text is a name. A byte that is no rune is ranged over as U+FFFD, which no name holds.
func nameOk(text string) bool {
	if len(text) < 1 || len(text) > FlowMaxName {
		return false
	}
	for _, r := range text {
		if !nameRune(r) {
			return false
		}
	}
	return true
}

func nameRune(r rune) bool {
	return r >= 'a' && r <= 'z' || r >= '0' && r <= '9' || r == '-'
}

func within(n, least, most int) bool {
	return n >= least && n <= most
}

func (f FlowFlight) name() string {
	return f.Name
}

func (f FlowFlight) partsOk() bool {
	return within(f.Plan, 0, FlowMaxTick) && within(f.Late, 0, FlowMaxLate) && visitsOk(f.Visits)
}

// visitsOk looks at each visit's own numbers ahead of adding them up, so that no sum can wrap round.
func visitsOk(visits []FlowVisit) bool {
	if !within(len(visits), 1, FlowMaxVisits) {
		return false
	}
	free := 0
	for _, v := range visits {
		if !nameOk(v.Sector) || !within(v.After, free, FlowMaxAfter) || !within(v.Stay, 1, FlowMaxStay) {
			return false
		}
		free = v.After + v.Stay
	}
	return true
}

func (c FlowCap) name() string {
	return c.Sector
}

func (c FlowCap) partsOk() bool {
	return within(c.Cap, 0, FlowMaxCap)
}
