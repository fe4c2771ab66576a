package drum

import (
	"cmp"
	"slices"

	"pinaster/api"
)

// Layers returns the layers of what is in a vessel.
func Layers(l api.DrumLog, vessel int) ([]api.DrumLayer, api.Errno) {
	p, e := pour(l)
	if e := cmp.Or(e, checkHolds(l, vessel)); e != api.OK {
		return nil, e
	}
	return slices.Clone(p.rows[vessel]), api.OK
}

// Trace returns how many grams of each stand are in a vessel.
func Trace(l api.DrumLog, vessel int) ([]api.DrumLayer, api.Errno) {
	p, e := pour(l)
	if e := cmp.Or(e, checkHolds(l, vessel)); e != api.OK {
		return nil, e
	}
	return p.trace(vessel), api.OK
}

func (p *poured) trace(vessel int) []api.DrumLayer {
	var traced []api.DrumLayer
	for stand := range p.Vessels {
		if grams := p.rows[vessel].of(stand); grams > 0 {
			traced = append(traced, api.DrumLayer{Stand: stand, Grams: grams})
		}
	}
	return traced
}

// Recall returns how many grams of a stand are in each vessel.
func Recall(l api.DrumLog, stand int) ([]api.DrumShare, api.Errno) {
	p, e := pour(l)
	if e := cmp.Or(e, checkStand(l, stand)); e != api.OK {
		return nil, e
	}
	var shares []api.DrumShare
	for vessel, r := range p.rows {
		if grams := r.of(stand); grams > 0 {
			shares = append(shares, api.DrumShare{Vessel: vessel, Grams: grams})
		}
	}
	return shares, api.OK
}

// Sums returns the sums of a log.
func Sums(l api.DrumLog) (api.DrumSums, api.Errno) {
	p, e := pour(l)
	if e != api.OK {
		return api.DrumSums{}, e
	}
	return api.DrumSums{
		Taken: sum(p.Pours, p.taken),
		Tanks: sum(p.ofKind(api.DrumTank), p.gramsIn),
		Drums: sum(p.ofKind(api.DrumDrum), p.gramsIn),
		Sinks: sum(p.ofKind(api.DrumSink), p.gramsIn),
	}, api.OK
}

// taken returns how many grams a pour takes from a stand.
func (p *poured) taken(x api.DrumPour) int {
	if kindOf(p.DrumLog, x.From) != api.DrumStand {
		return 0
	}
	return x.Grams
}

func (p *poured) gramsIn(vessel int) int { return p.rows[vessel].grams() }

// ofKind returns the vessels of a kind, increasing.
func (p *poured) ofKind(kind int) []int {
	var vessels []int
	for vessel, v := range p.Vessels {
		if v.Kind == kind {
			vessels = append(vessels, vessel)
		}
	}
	return vessels
}

// Label returns the stands of which a vessel has enough.
func Label(l api.DrumLog, vessel, pure int) ([]int, api.Errno) {
	p, e := pour(l)
	if e := cmp.Or(e, checkHolds(l, vessel), checkPure(pure)); e != api.OK {
		return nil, e
	}
	var stands []int
	for _, x := range p.trace(vessel) {
		if isPure(x.Grams, p.gramsIn(vessel), pure) {
			stands = append(stands, x.Stand)
		}
	}
	return stands, api.OK
}

// isPure reports whether a part of a whole is at least so many thousandths of it.
func isPure(part, whole, pure int) bool { return api.DrumWhole*part >= pure*whole }
