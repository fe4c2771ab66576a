package drum

import (
	"iter"

	"pinaster/api"
)

// row is what is in a vessel: its layers, the oldest one first.
type row []api.DrumLayer

// poured is a log, and what is in its vessels.
type poured struct {
	api.DrumLog
	rows [api.DrumVessels]row
}

// pour makes the pours of a log.
func pour(l api.DrumLog) (*poured, api.Errno) {
	p := &poured{DrumLog: l}
	if e := checkLog(l); e != api.OK {
		return p, e
	}
	for x, taken := range p.flows() {
		if taken.grams() < x.Grams {
			return p, api.ErrDrumEmpty
		}
		p.rows[x.To] = p.rows[x.To].with(taken)
	}
	return p, api.OK
}

// flows produces the pours, each with what it takes from where it begins, or with all that is there if this is less.
func (p *poured) flows() iter.Seq2[api.DrumPour, row] {
	return func(yield func(api.DrumPour, row) bool) {
		for _, x := range p.Pours {
			if !yield(x, p.take(x)) {
				return
			}
		}
	}
}

func (p *poured) take(x api.DrumPour) row {
	if kindOf(p.DrumLog, x.From) == api.DrumStand {
		return row{{Stand: x.From, Grams: x.Grams}}
	}
	front, left := p.rows[x.From].split(x.Grams)
	p.rows[x.From] = left
	return front
}

// split returns the front of a row, of at most so many grams, and what is left of it.
// They share memory, but the front has no room: what is put behind it overwrites nothing that is left.
func (r row) split(grams int) (front, left row) {
	whole := 0
	for whole < len(r) && r[whole].Grams <= grams {
		grams -= r[whole].Grams
		whole++
	}
	front, left = r[:whole:whole], r[whole:]
	if grams > 0 && len(left) > 0 {
		front = append(front, api.DrumLayer{Stand: left[0].Stand, Grams: grams})
		left[0].Grams -= grams
	}
	return front, left
}

// with puts another row behind a row, which is used no more: its last layer may change.
func (r row) with(behind row) row {
	for _, x := range behind {
		if last := len(r) - 1; last >= 0 && r[last].Stand == x.Stand {
			r[last].Grams += x.Grams
		} else {
			r = append(r, x)
		}
	}
	return r
}

func (r row) grams() int {
	return sum(r, func(x api.DrumLayer) int { return x.Grams })
}

// of returns how many grams of a row are of a stand.
func (r row) of(stand int) int {
	return sum(r, func(x api.DrumLayer) int {
		if x.Stand != stand {
			return 0
		}
		return x.Grams
	})
}

func sum[T any](list []T, of func(T) int) int {
	all := 0
	for _, x := range list {
		all += of(x)
	}
	return all
}
