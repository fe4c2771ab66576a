package rosin

import (
	"cmp"

	"pinaster/api"
)

// The parts of a quality, as tests number them.
const (
	glass = iota
	soft
	acid
	dirt
	parts
)

// quality is an api.Quality, part by part.
type quality [parts]int

// spread is of all qualities that are, in each part, from one to another one.
type spread struct{ low, high quality }

func qualityOf(q api.Quality) quality { return quality{q.Glass, q.Soft, q.Acid, q.Dirt} }

func spreadOf(s api.Spread) spread {
	return spread{
		low:  quality{s.Glass.Low, s.Soft.Low, s.Acid.Low, s.Dirt.Low},
		high: quality{s.Glass.High, s.Soft.High, s.Acid.High, s.Dirt.High},
	}
}

// all returns the spread of all valid qualities.
func all() spread {
	return spread{high: quality{api.RosinGlass, api.RosinSoft, api.RosinAcid, api.RosinDirt}}
}

// given returns a spread as api has it.
func (s spread) given() api.Spread {
	return api.Spread{Glass: s.span(glass), Soft: s.span(soft), Acid: s.span(acid), Dirt: s.span(dirt)}
}

func (s spread) span(part int) api.Span { return api.Span{Low: s.low[part], High: s.high[part]} }

func (s spread) isValid() bool { return !s.isEmpty() && s.isIn(all()) }

func (s spread) isEmpty() bool { return s.low != each(least, s.low, s.high) }

// and returns the spread of what lies in both.
func (s spread) and(o spread) spread {
	return spread{each(greatest, s.low, o.low), each(least, s.high, o.high)}
}

// isIn reports whether all qualities of a spread lie in another one.
func (s spread) isIn(o spread) bool { return s.low.isIn(o) && s.high.isIn(o) }

// isIn reports whether a quality lies in a spread: it then stays as it is when its parts are limited to it.
func (q quality) isIn(s spread) bool { return q == each(greatest, s.low, each(least, s.high, q)) }

// each takes one of two numbers for each part.
func each(take func(a, b int) int, a, b quality) quality {
	for part := range parts {
		a[part] = take(a[part], b[part])
	}
	return a
}

// least and greatest can be handed over, as min and max cannot.
func least[N cmp.Ordered](a, b N) N { return min(a, b) }

func greatest[N cmp.Ordered](a, b N) N { return max(a, b) }
