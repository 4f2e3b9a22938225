package impl

import (
	"maps"
	"slices"
)

// noSlot stands in the place of a slot for a flight that does not fly.
const noSlot = -1

// FlowRun is ticks at which a sector has so many.
type FlowRun struct {
	From int
	To   int
	Load int
}

// FlowLoad is how many are in a sector at a tick; a slot of -1 is none.
func FlowLoad(list []FlowFlight, slots []int, sector string, tick int) int {
	if !slotsOk(list, slots) {
		return 0
	}
	load := 0
	for i, f := range list {
		if slots[i] != noSlot && isThere(f, slots[i], sector, tick) {
			load++
		}
	}
	return load
}

// FlowRuns is the loads of a sector, as far as there are any.
func FlowRuns(list []FlowFlight, slots []int, sector string) []FlowRun {
	if !slotsOk(list, slots) {
		return nil
	}
	return runsOf(loadChanges(list, slots, sector))
}

// FlowFits says whether slots fit.
func FlowFits(caps []FlowCap, list []FlowFlight, slots []int) bool {
	if !FlowCapsOk(caps) || !slotsOk(list, slots) || !slotsInTime(list, slots) {
		return false
	}
	for _, c := range caps {
		for _, r := range runsOf(loadChanges(list, slots, c.Sector)) {
			if r.Load > c.Cap {
				return false
			}
		}
	}
	return true
}

func slotsOk(list []FlowFlight, slots []int) bool {
	if !FlowFlightsOk(list) || len(slots) != len(list) {
		return false
	}
	for _, s := range slots {
		if !within(s, noSlot, FlowMaxTick+FlowMaxLate) {
			return false
		}
	}
	return true
}

// slotsInTime says whether nobody leaves ahead of the plan or later than they may be.
func slotsInTime(list []FlowFlight, slots []int) bool {
	for i, f := range list {
		if slots[i] != noSlot && !within(slots[i], f.Plan, f.Plan+f.Late) {
			return false
		}
	}
	return true
}

func isThere(f FlowFlight, slot int, sector string, tick int) bool {
	for _, v := range f.Visits {
		from := slot + v.After
		if v.Sector == sector && within(tick, from, from+v.Stay-1) {
			return true
		}
	}
	return false
}

// loadChanges is by how much the load of a sector changes, by the ticks at which somebody comes or goes.
func loadChanges(list []FlowFlight, slots []int, sector string) map[int]int {
	changes := map[int]int{}
	for i, f := range list {
		if slots[i] == noSlot {
			continue
		}
		for _, v := range f.Visits {
			if v.Sector == sector {
				from := slots[i] + v.After
				changes[from]++
				changes[from+v.Stay]--
			}
		}
	}
	return changes
}

func runsOf(changes map[int]int) []FlowRun {
	var runs []FlowRun
	from, load := 0, 0
	for _, tick := range slices.Sorted(maps.Keys(changes)) {
		// As many come as go: the load stays the same, and so does the run.
		if changes[tick] == 0 {
			continue
		}
		if load > 0 {
			runs = append(runs, FlowRun{From: from, To: tick - 1, Load: load})
		}
		from = tick
		load += changes[tick]
	}
	return runs
}
