// Package drum traces drums to stands: of which stands each drum is, to the gram, where what a stand gave is now, which drums must be tested to find a stand that is bad, and how drums are filled such that most of them are of one stand.
package drum

import (
	"slices"

	"pinaster/api"
	"pinaster/stand"
)

const (
	noKind   = 0 // the kind of what is not a vessel
	mostSize = 10000
)

// Check checks a log.
func Check(l api.DrumLog) api.Errno {
	_, e := pour(l)
	return e
}

// checkLog checks a log that may be impossible.
func checkLog(l api.DrumLog) api.Errno {
	if !areVessels(l.Vessels) || len(l.Pours) > api.DrumPours {
		return api.ErrDrum
	}
	for _, p := range l.Pours {
		if !isPour(l, p) {
			return api.ErrDrum
		}
	}
	return api.OK
}

func areVessels(l []api.DrumVessel) bool {
	if !isFrom(len(l), 1, api.DrumVessels) {
		return false
	}
	names, kinds := map[string]bool{}, [api.DrumSink + 1]int{}
	for _, v := range l {
		if !stand.IsWord(v.Name) || !isFrom(v.Kind, api.DrumStand, api.DrumSink) {
			return false
		}
		names[v.Name] = true
		kinds[v.Kind]++
	}
	return len(names) == len(l) && kinds[api.DrumStand] <= api.DrumStands && kinds[api.DrumDrum] <= api.DrumDrums
}

func isPour(l api.DrumLog, p api.DrumPour) bool {
	return isFrom(kindOf(l, p.From), api.DrumStand, api.DrumDrum) && holds(l, p.To) &&
		p.From != p.To && isFrom(p.Grams, 1, api.DrumGrams)
}

// holds reports whether an index is one of a vessel into which is poured.
func holds(l api.DrumLog, vessel int) bool {
	return isFrom(kindOf(l, vessel), api.DrumTank, api.DrumSink)
}

func kindOf(l api.DrumLog, vessel int) int {
	if !isFrom(vessel, 0, len(l.Vessels)-1) {
		return noKind
	}
	return l.Vessels[vessel].Kind
}

func checkHolds(l api.DrumLog, vessel int) api.Errno {
	if !holds(l, vessel) {
		return api.ErrDrumWhich
	}
	return api.OK
}

func checkStand(l api.DrumLog, vessel int) api.Errno {
	if kindOf(l, vessel) != api.DrumStand {
		return api.ErrDrumWhich
	}
	return api.OK
}

// checkTests checks drums that were tested, and those of them that are bad.
func checkTests(l api.DrumLog, tested, bad []int) api.Errno {
	isDrum := func(vessel int) bool { return kindOf(l, vessel) == api.DrumDrum }
	isTested := func(vessel int) bool { return slices.Contains(tested, vessel) }
	if !areIncreasing(tested, isDrum) || !areIncreasing(bad, isTested) {
		return api.ErrDrumTest
	}
	return api.OK
}

// areIncreasing reports whether a list increases strictly, and all of it is allowed.
func areIncreasing(list []int, isAllowed func(int) bool) bool {
	for i, n := range list {
		if !isAllowed(n) || i > 0 && n <= list[i-1] {
			return false
		}
	}
	return true
}

func checkLayers(l []api.DrumLayer) api.Errno {
	if !isFrom(len(l), 1, api.DrumLayers) {
		return api.ErrDrumLayer
	}
	for _, x := range l {
		if !isFrom(x.Stand, 0, api.DrumStands-1) || !isFrom(x.Grams, 1, api.DrumThick) {
			return api.ErrDrumLayer
		}
	}
	return api.OK
}

func checkFill(size, pure, rest int) api.Errno {
	if !isFrom(size, 1, mostSize) || rest < 0 {
		return api.ErrRange
	}
	return checkPure(pure)
}

func checkPure(pure int) api.Errno {
	if !isFrom(pure, 0, api.DrumWhole) {
		return api.ErrRange
	}
	return api.OK
}

func isFrom(n, least, most int) bool { return n >= least && n <= most }
