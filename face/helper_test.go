package face_test

import (
	"math"
	"slices"

	"pinaster/api"
)

// odd are numbers that nothing of this chapter is, but for a year of rest (-1).
var odd = []int{-2, math.MinInt, math.MaxInt, math.MinInt32, math.MaxInt32}

func span(low, high int) api.Span { return api.Span{Low: low, High: high} }

// tree, run and turn are those of the chapter's examples.
func tree() api.FaceTree {
	return api.FaceTree{Girth: 60, Width: 10, Bar: 8, Share: 500, Scars: []api.FaceArc{{From: 20, Width: 5}}}
}

func run() api.FaceRun {
	return api.FaceRun{Rise: span(2, 3), Reach: 8, Every: 2, Weeks: []int{0, 1, 1, 2, 0}}
}

func turn() api.FaceTurn {
	return api.FaceTurn{Cols: 3, Near: 1, Window: 3, Most: 2, Values: []int{10, 6}}
}

// wrongTree, wrongRun and wrongTurn are wrong in one thing that is easily left out.
func wrongTree() api.FaceTree {
	t := tree()
	t.Scars[0].Width = 61
	return t
}

func wrongRun() api.FaceRun {
	r := run()
	r.Weeks[4] = 3
	return r
}

func wrongTurn() api.FaceTurn {
	t := turn()
	t.Most = 4
	return t
}

// dice throws the same numbers in each run of the tests.
type dice struct{ seed uint64 }

// upTo throws a number from 0 to most.
func (d *dice) upTo(most int) int {
	d.seed = d.seed*6364136223846793005 + 1442695040888963407
	return int(d.seed >> 33 % uint64(most+1))
}

func (d *dice) from(least, most int) int { return least + d.upTo(most-least) }

func (d *dice) span(least, most int) api.Span {
	low := d.from(least, most)
	return span(low, d.from(low, most))
}

// tree throws a valid tree with some girth; faces and bars are so small that several faces fit.
func (d *dice) tree(girth int) api.FaceTree {
	t := api.FaceTree{Girth: girth, Width: d.from(1, max(1, girth/4)), Bar: d.upTo(girth / 4), Share: d.from(300, 1000)}
	if d.upTo(9) == 0 {
		t.Width, t.Bar, t.Share = d.from(1, girth), d.upTo(girth), d.upTo(1000)
	}
	for range d.upTo(6) {
		t.Scars = append(t.Scars, api.FaceArc{From: d.upTo(girth - 1), Width: d.from(1, max(1, girth/12))})
	}
	return t
}

// run throws a valid run of some weeks.
func (d *dice) run(weeks int) api.FaceRun {
	r := api.FaceRun{Rise: d.span(1, 4), Reach: d.upTo(14), Every: d.from(1, 4)}
	for range weeks {
		r.Weeks = append(r.Weeks, d.upTo(2))
	}
	return r
}

// truth throws what can be so in a run.
func (d *dice) truth(r api.FaceRun) (stopped []bool, rises []int) {
	for _, week := range r.Weeks {
		stopped = append(stopped, week == api.FaceStops || week == api.FaceMay && d.upTo(1) == 0)
		rises = append(rises, d.from(r.Rise.Low, r.Rise.High))
	}
	return stopped, rises
}

// turn throws a valid turn; its values are so small that many plans are worth the same.
func (d *dice) turn() api.FaceTurn {
	t := api.FaceTurn{Cols: d.from(1, 4), Near: d.upTo(3), Window: d.from(1, 4)}
	t.Most = d.upTo(t.Window)
	for range d.from(1, 3) {
		t.Values = append(t.Values, d.upTo(3))
	}
	return t
}

// layout throws a list of starts that increase strictly.
func (d *dice) layout(girth, faces int) []int {
	var starts []int
	for range faces {
		starts = append(starts, d.upTo(girth-1))
	}
	slices.Sort(starts)
	return slices.Compact(starts)
}
