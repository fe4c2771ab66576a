package face

import (
	"cmp"
	"iter"
	"slices"

	"pinaster/api"
)

// progress is how high a face is, and for how many weeks no cut is due.
type progress struct{ height, wait int }

// Play returns the cuts of a run, with a truth.
func Play(r api.FaceRun, stopped []bool, rises []int) ([]api.FaceCut, api.Errno) {
	if e := cmp.Or(CheckRun(r), checkTruth(r, stopped, rises)); e != api.OK {
		return nil, e
	}
	var cuts []api.FaceCut
	var p progress
	for week := range r.Weeks {
		if stopped[week] || !p.isDue(r) {
			p = p.left()
			continue
		}
		p = p.cut(r, rises[week])
		cuts = append(cuts, api.FaceCut{Week: week, Height: p.height})
	}
	return cuts, api.OK
}

// Season returns between what the number of cuts lies, and the height in the end.
func Season(r api.FaceRun) (cuts, height api.Span, e api.Errno) {
	if e := CheckRun(r); e != api.OK {
		return api.Span{}, api.Span{}, e
	}
	var counts, heights []int
	for p, made := range reached(r) {
		counts = append(counts, made.Low, made.High)
		heights = append(heights, p.height)
	}
	cuts.Low, cuts.High = ends(counts...)
	height.Low, height.High = ends(heights...)
	return cuts, height, api.OK
}

func (p progress) isDue(r api.FaceRun) bool {
	return p.wait == 0 && p.height+r.Rise.High <= r.Reach
}

// left is the progress after a week without a cut.
func (p progress) left() progress { return progress{p.height, max(0, p.wait-1)} }

// cut is the progress after a week with a cut.
func (p progress) cut(r api.FaceRun, rise int) progress {
	return progress{p.height + rise, r.Every - 1}
}

// after produces all that can come of a week, with how many cuts were made in it.
func (p progress) after(r api.FaceRun, week int) iter.Seq2[progress, int] {
	return func(yield func(progress, int) bool) {
		isDue := p.isDue(r)
		if (!isDue || week != api.FaceOpen) && !yield(p.left(), 0) {
			return
		}
		if !isDue || week == api.FaceStops {
			return
		}
		for rise := r.Rise.Low; rise <= r.Rise.High; rise++ {
			if !yield(p.cut(r, rise), 1) {
				return
			}
		}
	}
}

// reached returns all that can be in the end, each with the least and the greatest number of cuts by which it can be.
func reached(r api.FaceRun) map[progress]api.Span {
	now := map[progress]api.Span{{}: {}}
	for _, week := range r.Weeks {
		next := map[progress]api.Span{}
		for p, made := range now {
			for then, more := range p.after(r, week) {
				low, high := made.Low+more, made.High+more
				if known, ok := next[then]; ok {
					low, high = ends(low, high, known.Low, known.High)
				}
				next[then] = api.Span{Low: low, High: high}
			}
		}
		now = next
	}
	return now
}

// ends returns the least and the greatest one of some numbers, of which there is at least one.
func ends[T cmp.Ordered](numbers ...T) (low, high T) {
	return slices.Min(numbers), slices.Max(numbers)
}
