package pot_test

import (
	"reflect"
	"slices"
	"testing"

	"pinaster/api"
	"pinaster/pot"
)

// roomy returns a list with room behind it, and all of that room.
func roomy[T any](list []T, canary T) (short, whole []T) {
	whole = append(slices.Clone(list), canary, canary, canary)
	return whole[:len(list)], whole
}

// P3.8

func TestArgumentsAreOnlyRead(t *testing.T) {
	r, x := run(), truth()
	pots, allPots := roomy(r.Pots, api.Pot{Tag: "?", X: -7})
	days, allDays := roomy(r.Days, api.PotDay{Warm: span(-7, -7)})
	warm, allWarm := roomy(x.Warm, -7)
	rain, allRain := roomy(x.Rain, -7)
	has, allHas := roomy(x.Has, -7)
	round, allRound := roomy([]int{2}, -7)
	order, allOrder := roomy([]int{2, 0, 1}, -7)
	plan, allPlan := roomy([][]int{nil, round, round}, nil)
	ints := [][]int{allWarm, allRain, allHas, allRound, allOrder}
	var before [][]int
	for _, list := range ints {
		before = append(before, slices.Clone(list))
	}
	potsBefore, daysBefore := slices.Clone(allPots), slices.Clone(allDays)
	r.Pots, r.Days = pots, days
	x = api.PotTruth{Warm: warm, Rain: rain, Has: has}

	for i, e := range answers(r, x, plan, order, 0, 0, 2) {
		if e != []api.Errno{7: api.ErrNone, 8: 0}[i] {
			t.Errorf("the function %d: %d", i, e)
		}
	}

	for i, now := range ints {
		if !slices.Equal(now, before[i]) {
			t.Errorf("the list %d: %v, was %v", i, now, before[i])
		}
	}
	if !slices.Equal(allPots, potsBefore) || !slices.Equal(allDays, daysBefore) {
		t.Errorf("%v, %v", allPots, allDays)
	}
	if !reflect.DeepEqual(allPlan, [][]int{nil, {2}, {2}, nil, nil, nil}) {
		t.Errorf("the plan: %v", allPlan)
	}
}

// spoil overwrites all of a list, also the room behind it.
func spoil(list []int) {
	for i := range list[:cap(list)] {
		list[:cap(list)][i] = -9
	}
}

func TestResultsAreNew(t *testing.T) {
	plan := [][]int{{0}, {0}, nil}
	lists := func() [][]int {
		kept, _ := pot.Keeps(run(), plan)
		order, _, _ := pot.Walk(run(), []int{2, 1, 0})
		left, rounds, _ := pot.Leave(steady(2, 3, 10, 10, 9, 30))
		return append([][]int{kept, order, left}, rounds...)
	}
	want := lists()
	for i := range want {
		first := lists()
		spoil(first[i])
		for k, list := range first { // no two lists of one result share memory
			if k != i && !slices.Equal(list, want[k]) {
				t.Errorf("the lists %d and %d share memory: %v", i, k, list)
			}
		}
		if again := lists(); !reflect.DeepEqual(again, want) {
			t.Errorf("the list %d is kept: %v", i, again)
		}
	}
	yields, _ := pot.Follow(run(), truth(), plan)
	yields[0] = api.PotYield{}
	if again, _ := pot.Follow(run(), truth(), plan); again[0] == yields[0] {
		t.Errorf("the yields are kept: %v", again)
	}
}

func TestWalkDoesNotShareItsPots(t *testing.T) {
	pots := []int{0, 2, 1}
	order, _, _ := pot.Walk(run(), pots)
	spoil(order)
	if !slices.Equal(pots, []int{0, 2, 1}) {
		t.Errorf("%v", pots)
	}
}

// P2

func TestSameArgumentsSameResults(t *testing.T) {
	d := &dice{9}
	ask := func(r api.PotRun, plan [][]int) []any {
		left, _, _ := pot.Leave(r)
		kept, _ := pot.Keeps(r, plan)
		from, to, e := pot.Short(r)
		order, length, _ := pot.Walk(r, []int{0, 1, 2})
		return []any{left, kept, from, to, e, order, length}
	}
	for range 50 {
		r, other := d.run(d.from(3, 6), d.from(1, 8)), d.run(4, 5)
		plan := d.plan(r)
		first := ask(r, plan)
		ask(other, d.plan(other))
		if again := ask(r, plan); !reflect.DeepEqual(first, again) {
			t.Fatalf("%v, and then %v", first, again)
		}
	}
}

// R3

func TestNilAndEmpty(t *testing.T) {
	empty, none := steady(1, 1), steady(1, 1)
	empty.Pots = []api.Pot{}
	for _, r := range []api.PotRun{empty, none} {
		for _, list := range [][]int{nil, {}} {
			x := api.PotTruth{Warm: []int{0}, Rain: []int{0}, Has: list}
			yields, e1 := pot.Follow(r, x, [][]int{list})
			kept, e2 := pot.Keeps(r, [][]int{list})
			left, plan, e3 := pot.Leave(r)
			order, length, e4 := pot.Walk(r, list)
			if len(yields)+len(kept)+len(left)+len(order)+length != 0 || !isPlan(r, plan) || e1 != api.OK || e2 != api.OK || e3 != api.OK || e4 != api.OK {
				t.Errorf("%v: %v, %v, %v, %v, %v, %d", r, yields, kept, left, plan, order, length)
			}
		}
	}
}

// P1

func TestGreatestArguments(t *testing.T) {
	r := api.PotRun{Hands: 2, Base: 500}
	for range api.PotDays {
		r.Days = append(r.Days, api.PotDay{Warm: span(0, 500), Rain: span(0, 0)})
	}
	r.Days[6], r.Days[7] = api.PotDay{Warm: span(500, 500), Rain: span(2000, 2000)}, api.PotDay{Warm: span(500, 500), Rain: span(2000, 2000)}
	for i := range api.PotMany {
		r.Pots = append(r.Pots, api.Pot{Tag: "g" + string(rune('0'+i)), X: 10000, Y: 10000, Size: 2000000, Has: span(0, 2000000), Flow: 1000, Catch: 1000})
	}
	// all of them must be emptied on the day 6 or before, and again on the day 7
	leaves(t, r, []int{0, 1, 2, 3})
	r.Hands = 3
	leaves(t, r, []int{0, 1, 2})
	if order, length, e := pot.Walk(r, []int{5, 4, 3, 2, 1, 0}); !slices.Equal(order, []int{0, 1, 2, 3, 4, 5}) || length != 40000 || e != api.OK {
		t.Errorf("%v, %d, %d", order, length, e)
	}
}
