package face_test

import (
	"math"
	"slices"
	"testing"

	"pinaster/api"
	"pinaster/face"
)

// P2.1

// limit is one number of a thing, and from where to where it may be.
type limit[T any] struct {
	name        string
	at          func(x *T) *int
	least, most int
}

// holds checks that a thing is valid at both ends of each limit, and wrong beyond them.
func holds[T any](t *testing.T, example func() T, check func(T) api.Errno, wrong api.Errno, limits []limit[T]) {
	if e := check(example()); e != api.OK {
		t.Errorf("the example: %d", e)
	}
	for _, l := range limits {
		for n, want := range map[int]api.Errno{
			l.least: api.OK, l.most: api.OK,
			l.least - 1: wrong, l.most + 1: wrong, math.MinInt: wrong, math.MaxInt: wrong,
		} {
			x := example()
			*l.at(&x) = n
			if e := check(x); e != want {
				t.Errorf("%s %d: %d, want %d", l.name, n, e, want)
			}
		}
	}
}

func TestCheckLimits(t *testing.T) {
	example := func() api.FaceTree {
		x := tree()
		x.Scars = []api.FaceArc{{From: 3, Width: 4}, {From: 20, Width: 5}}
		return x
	}
	holds(t, example, face.Check, api.ErrFaceTree, []limit[api.FaceTree]{
		{"girth", func(x *api.FaceTree) *int { return &x.Girth }, 21, 300}, // 21 for the scar from 20 on
		{"width", func(x *api.FaceTree) *int { return &x.Width }, 1, 60},
		{"bar", func(x *api.FaceTree) *int { return &x.Bar }, 0, 60},
		{"share", func(x *api.FaceTree) *int { return &x.Share }, 0, 1000},
		{"from of the scar 0", func(x *api.FaceTree) *int { return &x.Scars[0].From }, 0, 59},
		{"from of the scar 1", func(x *api.FaceTree) *int { return &x.Scars[1].From }, 0, 59},
		{"width of the scar 0", func(x *api.FaceTree) *int { return &x.Scars[0].Width }, 1, 60},
		{"width of the scar 1", func(x *api.FaceTree) *int { return &x.Scars[1].Width }, 1, 60},
	})
}

func TestCheckTrees(t *testing.T) {
	scars := func(n int) []api.FaceArc { return slices.Repeat([]api.FaceArc{{From: 5, Width: 60}}, n) }
	for i, x := range []struct {
		t    api.FaceTree
		want api.Errno
	}{
		{api.FaceTree{}, api.ErrFaceTree},
		{api.FaceTree{Girth: 1, Width: 1}, api.OK},
		{api.FaceTree{Girth: 1, Width: 1, Bar: 1, Share: 1000, Scars: []api.FaceArc{{From: 0, Width: 1}}}, api.OK},
		{api.FaceTree{Girth: 1, Width: 0}, api.ErrFaceTree},
		{api.FaceTree{Girth: 0, Width: 0}, api.ErrFaceTree},
		{api.FaceTree{Girth: -1, Width: -1, Bar: -1}, api.ErrFaceTree},
		{api.FaceTree{Girth: 9, Width: 10}, api.ErrFaceTree},
		{api.FaceTree{Girth: 9, Width: 9, Bar: 9}, api.OK},
		{api.FaceTree{Girth: 9, Width: 5, Bar: 10}, api.ErrFaceTree},
		{api.FaceTree{Girth: 60, Width: 5, Scars: scars(6)}, api.OK},
		{api.FaceTree{Girth: 60, Width: 5, Scars: scars(7)}, api.ErrFaceTree},
		{api.FaceTree{Girth: 60, Width: 5, Scars: scars(1000)}, api.ErrFaceTree},
		{api.FaceTree{Girth: 60, Width: 5, Scars: []api.FaceArc{{From: 5, Width: 1}, {}}}, api.ErrFaceTree},
		{api.FaceTree{Girth: 60, Width: 5, Scars: []api.FaceArc{}}, api.OK},
		{api.FaceTree{Girth: 300, Width: 300, Bar: 300, Share: 1000, Scars: []api.FaceArc{{From: 299, Width: 300}}}, api.OK},
	} {
		if e := face.Check(x.t); e != x.want {
			t.Errorf("%d: %d, want %d", i, e, x.want)
		}
	}
}

func TestCheckRunLimits(t *testing.T) {
	limits := []limit[api.FaceRun]{
		{"least rise", func(x *api.FaceRun) *int { return &x.Rise.Low }, 1, 3},
		{"greatest rise", func(x *api.FaceRun) *int { return &x.Rise.High }, 2, 10},
		{"reach", func(x *api.FaceRun) *int { return &x.Reach }, 0, 200},
		{"every", func(x *api.FaceRun) *int { return &x.Every }, 1, 6},
	}
	for week := range run().Weeks {
		limits = append(limits, limit[api.FaceRun]{"week", func(x *api.FaceRun) *int { return &x.Weeks[week] }, 0, 2})
	}
	holds(t, run, face.CheckRun, api.ErrFaceRun, limits)
	for weeks, want := range map[int]api.Errno{0: api.ErrFaceRun, 1: api.OK, 40: api.OK, 41: api.ErrFaceRun, 5000: api.ErrFaceRun} {
		r := run()
		r.Weeks = make([]int, weeks)
		if e := face.CheckRun(r); e != want {
			t.Errorf("%d weeks: %d", weeks, e)
		}
	}
	none := run()
	none.Weeks = nil
	if e := face.CheckRun(none); e != api.ErrFaceRun {
		t.Errorf("no weeks: %d", e)
	}
}

func TestCheckTurnLimits(t *testing.T) {
	example := func() api.FaceTurn {
		x := turn()
		x.Values = []int{10, 6, 3}
		return x
	}
	holds(t, example, face.CheckTurn, api.ErrFaceTurn, []limit[api.FaceTurn]{
		{"cols", func(x *api.FaceTurn) *int { return &x.Cols }, 1, 4},
		{"near", func(x *api.FaceTurn) *int { return &x.Near }, 0, 3},
		{"window", func(x *api.FaceTurn) *int { return &x.Window }, 2, 4}, // 2 for the most years
		{"most", func(x *api.FaceTurn) *int { return &x.Most }, 0, 3},
		{"value 0", func(x *api.FaceTurn) *int { return &x.Values[0] }, 0, 100000},
		{"value 1", func(x *api.FaceTurn) *int { return &x.Values[1] }, 0, 100000},
		{"value 2", func(x *api.FaceTurn) *int { return &x.Values[2] }, 0, 100000},
	})
	for values, want := range map[int]api.Errno{0: api.ErrFaceTurn, 1: api.OK, 2: api.OK, 3: api.OK, 4: api.ErrFaceTurn, 5000: api.ErrFaceTurn} {
		x := turn()
		x.Values = make([]int, values)
		if e := face.CheckTurn(x); e != want {
			t.Errorf("%d values: %d", values, e)
		}
	}
	for _, x := range []struct {
		t    api.FaceTurn
		want api.Errno
	}{
		{api.FaceTurn{}, api.ErrFaceTurn},
		{api.FaceTurn{Cols: 1, Window: 1, Values: []int{0}}, api.OK},
		{api.FaceTurn{Cols: 1, Window: 1, Most: 1, Values: []int{0}}, api.OK},
		{api.FaceTurn{Cols: 1, Window: 1, Most: 2, Values: []int{0}}, api.ErrFaceTurn},
		{api.FaceTurn{Cols: 1, Window: 0, Most: 0, Values: []int{0}}, api.ErrFaceTurn},
		{api.FaceTurn{Cols: 4, Near: 3, Window: 4, Most: 4, Values: []int{100000, 100000, 100000}}, api.OK},
		{api.FaceTurn{Cols: 4, Near: 3, Window: 5, Most: 4, Values: []int{1}}, api.ErrFaceTurn},
		{api.FaceTurn{Cols: 4, Near: 3, Window: 4, Most: 4}, api.ErrFaceTurn},
	} {
		if e := face.CheckTurn(x.t); e != x.want {
			t.Errorf("%v: %d", x.t, e)
		}
	}
}

func TestErrorsOfTrees(t *testing.T) {
	layouts := [][]int{nil, {1}, {-1}, {60}, {2, 1}, {0}, {math.MaxInt}}
	for _, x := range []api.FaceTree{wrongTree(), {}} {
		if l, e := face.Allowed(x); len(l) != 0 || e != api.ErrFaceTree {
			t.Errorf("Allowed: %v, %d", l, e)
		}
		if l, e := face.Most(x); len(l) != 0 || e != api.ErrFaceTree {
			t.Errorf("Most: %v, %d", l, e)
		}
		for _, layout := range layouts {
			if is, e := face.Fits(x, layout); is || e != api.ErrFaceTree {
				t.Errorf("Fits of %v: %v, %d", layout, is, e)
			}
			for _, h := range append(slices.Clone(odd), 0, 1, 201) {
				for _, heights := range [][]int{nil, {1}, {201}} {
					if live, gap, e := face.Live(x, layout, heights, h); live != 0 || gap != 0 || e != api.ErrFaceTree {
						t.Errorf("Live of %v, %v at %d: %d, %d, %d", layout, heights, h, live, gap, e)
					}
				}
			}
		}
	}
}

func TestErrorsOfRunsAndTurns(t *testing.T) {
	for _, stopped := range [][]bool{nil, {false, true, false, true, false}, {true}} {
		for _, rises := range [][]int{nil, {2, 2, 2, 2, 2}, {9}} {
			if cuts, e := face.Play(wrongRun(), stopped, rises); len(cuts) != 0 || e != api.ErrFaceRun {
				t.Errorf("Play with %v, %v: %v, %d", stopped, rises, cuts, e)
			}
		}
	}
	if cuts, height, e := face.Season(wrongRun()); cuts != span(0, 0) || height != span(0, 0) || e != api.ErrFaceRun {
		t.Errorf("Season: %v, %v, %d", cuts, height, e)
	}
	for _, plan := range [][]int{nil, {0}, {-1, 0}, {-2}, {3}, make([]int, 13)} {
		if value, sound, e := face.Worth(wrongTurn(), plan); value != 0 || sound || e != api.ErrFaceTurn {
			t.Errorf("Worth of %v: %d, %v, %d", plan, value, sound, e)
		}
	}
	for _, years := range append(slices.Clone(odd), 0, 1, 12, 13) {
		if plan, value, e := face.Best(wrongTurn(), years); len(plan) != 0 || value != 0 || e != api.ErrFaceTurn {
			t.Errorf("Best for %d years: %v, %d, %d", years, plan, value, e)
		}
	}
}
