package fire_test

import (
	"reflect"
	"slices"
	"testing"

	"pinaster/api"
	"pinaster/fire"
)

// roomy returns a list with room behind it, and all of that room.
func roomy[T any](list []T, canary T) (short, whole []T) {
	whole = append(slices.Clone(list), canary, canary, canary)
	return whole[:len(list)], whole
}

// P4.7

func TestArgumentsAreOnlyRead(t *testing.T) {
	q := ask()
	q.watch = 16 // with lines
	ways, allWays := roomy(q.l.Ways, api.FireWay{A: -7, B: -7})
	sees, allSees := roomy(q.l.Sees, -7)
	burn, allBurn := roomy(q.burn, -7)
	route, allRoute := roomy(q.route, -7)
	crews, allCrews := roomy(q.crews, -7)
	lists := [][]int{allSees, allBurn, allRoute, allCrews}
	var before [][]int
	for _, list := range lists {
		before = append(before, slices.Clone(list))
	}
	waysBefore := slices.Clone(allWays)
	q.l.Ways, q.l.Sees, q.burn, q.route, q.crews = ways, sees, burn, route, crews

	for i, e := range q.answers() {
		want := api.OK
		if names[i] == "Route" {
			want = api.ErrNone
		}
		if e != want {
			t.Errorf("%s: %d", names[i], e)
		}
	}

	for i, now := range lists {
		if !slices.Equal(now, before[i]) {
			t.Errorf("the list %d: %v, was %v", i, now, before[i])
		}
	}
	if !slices.Equal(allWays, waysBefore) {
		t.Errorf("the ways: %v", allWays)
	}
}

func TestResultsAreNew(t *testing.T) {
	q := ask()
	closed := land()
	closed.Exits = 0
	lists := func() [][]int {
		comes, _ := fire.Follow(q.l, 0, q.burn)
		deadlines, _, _ := fire.Deadlines(q.l, 16)
		route, _, _ := fire.Route(q.l, 2, 1)
		caught, _ := fire.Caught(closed, 2, 1)
		lines, _ := fire.Lines(q.l, 8, []int{2})
		return [][]int{comes, deadlines, route, caught, lines}
	}
	first, want := lists(), lists()
	for i, list := range first {
		if len(list) == 0 {
			t.Errorf("the result %d is empty", i)
		}
		for k := range list[:cap(list)] {
			list[:cap(list)][k] = -9
		}
	}
	if again := lists(); !reflect.DeepEqual(again, want) {
		t.Errorf("%v, and then %v", want, again)
	}
	if !reflect.DeepEqual(q, ask()) {
		t.Errorf("the arguments share memory with results: %v", q)
	}
}

// P2

func TestSameArgumentsSameResults(t *testing.T) {
	d := &dice{9}
	results := func(l api.FireLand, watch int, crews []int) []any {
		deadlines, some, _ := fire.Deadlines(l, watch)
		route, minutes, e1 := fire.Route(l, watch, 0)
		caught, e2 := fire.Caught(l, watch, 0)
		best, e3 := fire.Watch(l, crews)
		lines, e4 := fire.Lines(l, watch, crews)
		return []any{deadlines, some, route, minutes, e1, caught, e2, best, e3, lines, e4}
	}
	for range 50 {
		l, other := d.walkable(d.from(2, 7), d.upTo(12)), d.walkable(5, 8)
		watch, crews := d.upTo(1<<l.Places-1), d.crews(l.Places, 4)
		first := results(l, watch, crews)
		results(other, 3, []int{1})
		if again := results(l, watch, crews); !reflect.DeepEqual(first, again) {
			t.Fatalf("%v, and then %v", first, again)
		}
	}
}

// R3

func TestNilAndEmpty(t *testing.T) {
	for _, ways := range [][]api.FireWay{nil, {}} {
		for _, list := range [][]int{nil, {}} {
			l := plain(2)
			l.Ways, l.Exits = ways, 2
			want := []api.Errno{5: api.ErrFireRoute, 6: api.ErrNone, 10: api.OK}
			for i, e := range (question{l, 1, 0, 0, list, list, list}).answers() {
				if e != want[i] {
					t.Errorf("%s: %d, want %d", names[i], e, want[i])
				}
			}
		}
	}
}

// P1

func TestGreatestLands(t *testing.T) {
	l := plain(7, [2]int{0, 1}, [2]int{1, 2}, [2]int{2, 3}, [2]int{3, 4}, [2]int{4, 5}, [2]int{5, 6}, [2]int{6, 0}, [2]int{0, 3}, [2]int{1, 4}, [2]int{2, 5}, [2]int{3, 6}, [2]int{2, 6})
	l.Risks, l.Exits = 127, 0
	for i := range l.Ways {
		l.Ways[i].Burn, l.Ways[i].Walk = span(1, 240), 240
	}
	if n, e := fire.Watch(l, []int{0, 1, 2, 3, 4, 5}); n != 0 || e != api.ErrNone {
		t.Errorf("%d, %d", n, e)
	}
	if lines, e := fire.Lines(l, 127, []int{0, 1, 2, 3, 4, 5}); len(lines) != 0 || e != api.ErrNone {
		t.Errorf("%v, %d", lines, e)
	}
	chain := plain(7, [2]int{0, 1}, [2]int{1, 2}, [2]int{2, 3}, [2]int{3, 4}, [2]int{4, 5}, [2]int{5, 6})
	chain.Exits, chain.Risks = 64, 0
	for i := range chain.Ways {
		chain.Ways[i].Burn, chain.Ways[i].Walk = span(240, 240), 240
	}
	if s, e := fire.Comes(chain, 0, 6); s != span(1440, 1440) || e != api.OK {
		t.Errorf("%v, %d", s, e)
	}
	if route, minutes, e := fire.Route(chain, 0, 0); len(route) != 7 || minutes != 1440 || e != api.OK {
		t.Errorf("%v, %d, %d", route, minutes, e)
	}
	if n, e := fire.Margin(chain, 64, 0, 0); n != -1440 || e != api.OK {
		t.Errorf("%d, %d", n, e)
	}
}
