package face_test

import (
	"slices"
	"testing"

	"pinaster/api"
	"pinaster/face"
)

// roomy returns a list with room behind it, and all of that room.
func roomy[T any](list []T, canary T) (short, whole []T) {
	whole = append(slices.Clone(list), canary, canary, canary)
	return whole[:len(list)], whole
}

// P2.7

func TestArgumentsAreOnlyRead(t *testing.T) {
	x, r, u := tree(), run(), turn()
	scars, allScars := roomy(x.Scars, api.FaceArc{From: -7, Width: -7})
	weeks, allWeeks := roomy(r.Weeks, -7)
	values, allValues := roomy(u.Values, -7)
	layout, allLayout := roomy([]int{1, 25, 43}, -7)
	heights, allHeights := roomy([]int{30, 10, 0}, -7)
	stopped, allStopped := roomy([]bool{false, false, true, true, false}, true)
	rises, allRises := roomy([]int{2, 3, 2, 3, 2}, -7)
	plan, allPlan := roomy([]int{0, 0, -1, 1, 1}, -7)
	before := [][]int{slices.Clone(allWeeks), slices.Clone(allValues), slices.Clone(allLayout), slices.Clone(allHeights), slices.Clone(allRises), slices.Clone(allPlan)}
	scarsBefore, stoppedBefore := slices.Clone(allScars), slices.Clone(allStopped)
	x.Scars, r.Weeks, u.Values = scars, weeks, values

	face.Check(x)
	face.CheckRun(r)
	face.CheckTurn(u)
	face.Allowed(x)
	face.Fits(x, layout)
	face.Most(x)
	face.Live(x, layout, heights, 5)
	face.Play(r, stopped, rises)
	face.Season(r)
	face.Worth(u, plan)
	face.Best(u, 12)

	for i, now := range [][]int{allWeeks, allValues, allLayout, allHeights, allRises, allPlan} {
		if !slices.Equal(now, before[i]) {
			t.Errorf("the list %d: %v, was %v", i, now, before[i])
		}
	}
	if !slices.Equal(allScars, scarsBefore) || !slices.Equal(allStopped, stoppedBefore) {
		t.Errorf("%v, %v", allScars, allStopped)
	}
}

func TestResultsAreNew(t *testing.T) {
	lists := func() [][]int {
		allowed, _ := face.Allowed(tree())
		most, _ := face.Most(tree())
		plan, _, _ := face.Best(turn(), 5)
		return [][]int{allowed, most, plan}
	}
	first, want := lists(), lists()
	for _, list := range first {
		for i := range list[:cap(list)] {
			list[:cap(list)][i] = -9
		}
	}
	for i, list := range lists() {
		if !slices.Equal(list, want[i]) {
			t.Errorf("the result %d is kept: %v", i, list)
		}
	}
	stopped, rises := []bool{false, true, true, true, false}, []int{2, 2, 2, 2, 2}
	cuts, _ := face.Play(run(), stopped, rises)
	cuts[0].Height = -9
	if again, _ := face.Play(run(), stopped, rises); again[0].Height != 2 {
		t.Errorf("the cuts are kept: %v", again)
	}
}

// P2

func TestSameArgumentsSameResults(t *testing.T) {
	d := &dice{11}
	type answer struct {
		most, plan   []int
		cuts, height api.Span
	}
	ask := func(x api.FaceTree, r api.FaceRun, u api.FaceTurn, years int) answer {
		most, _ := face.Most(x)
		plan, _, _ := face.Best(u, years)
		cuts, height, _ := face.Season(r)
		return answer{most, plan, cuts, height}
	}
	for range 20 {
		x, r, u, years := d.tree(d.from(1, 100)), d.run(12), d.turn(), d.from(1, 8)
		first := ask(x, r, u, years)
		ask(d.tree(50), d.run(9), d.turn(), 3)
		again := ask(x, r, u, years)
		if !slices.Equal(first.most, again.most) || !slices.Equal(first.plan, again.plan) || first.cuts != again.cuts || first.height != again.height {
			t.Fatalf("%v, and then %v", first, again)
		}
	}
}

// P1

func TestGreatestArguments(t *testing.T) {
	x := api.FaceTree{Girth: 300, Width: 1, Bar: 0, Share: 1000}
	if l, e := face.Most(x); len(l) != 300 || l[299] != 299 || e != api.OK {
		t.Errorf("%d faces, %d", len(l), e)
	}
	x.Scars = []api.FaceArc{{From: 150, Width: 1}}
	if l, e := face.Most(x); len(l) != 299 || e != api.OK {
		t.Errorf("%d faces, %d", len(l), e)
	}
	u := api.FaceTurn{Cols: 4, Near: 0, Window: 4, Most: 3, Values: []int{100000, 99999, 99998}}
	if plan, value, e := face.Best(u, 12); len(plan) != 12 || value != 4*100000+4*99999+99998 || e != api.OK {
		t.Errorf("%v, %d, %d", plan, value, e)
	}
}
