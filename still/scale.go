package still

import (
	"cmp"
	"iter"

	"pinaster/api"
)

// scale tells of each temperature whether something is so.
type scale [api.StillTemp + 1]bool

// has reports whether it is so of all temperatures in a span.
func (c scale) has(s api.Span) bool {
	for temp := range within(s) {
		if !c[temp] {
			return false
		}
	}
	return true
}

// within produces the temperatures in a span, whose ends may be none.
func within(s api.Span) iter.Seq[int] {
	return func(yield func(int) bool) {
		for temp := greatest(s.Low, 0); temp <= least(s.High, api.StillTemp); temp++ {
			if !yield(temp) {
				return
			}
		}
	}
}

// spans produces the spans of a length that have a temperature.
func spans(temp, length int) iter.Seq[api.Span] {
	return func(yield func(api.Span) bool) {
		for low := temp - length; low <= temp; low++ {
			if !yield(api.Span{Low: low, High: low + length}) {
				return
			}
		}
	}
}

func least[N cmp.Ordered](first N, others ...N) N {
	for _, n := range others {
		first = min(first, n)
	}
	return first
}

func greatest[N cmp.Ordered](first N, others ...N) N {
	for _, n := range others {
		first = max(first, n)
	}
	return first
}
