package fire_test

import (
	"slices"
	"testing"

	"pinaster/api"
	"pinaster/fire"
)

// line is a land with the places 0 to 3 in a line; the fire on 0 is seen at once, and comes to each next place after 10 minutes.
func line(walks ...int) api.FireLand {
	l := plain(4, [2]int{0, 1}, [2]int{1, 2}, [2]int{2, 3})
	for i, walk := range walks {
		l.Ways[i].Walk = walk
	}
	l.Exits = 8
	return l
}

// P4.4

func TestWalks(t *testing.T) {
	all, free := land(), land()
	all.Exits, free.Risks = 31, 0
	for i, x := range []struct {
		l     api.FireLand
		watch int
		route []int
		is    bool
	}{
		{land(), 16, []int{2, 3}, true}, {land(), 16, []int{1, 2, 3}, false}, {land(), 2, []int{1, 2, 3}, true}, {land(), 2, []int{4, 3}, true},
		{land(), 2, []int{0, 1, 2, 3}, false}, {land(), 2, []int{3}, true}, {land(), 0, []int{3}, false}, {land(), 8, []int{3}, true},
		{land(), 16, []int{4, 3}, false}, {all, 2, []int{0}, false}, {all, 2, []int{3, 2, 1}, false}, {all, 2, []int{3, 2}, true}, {all, 2, []int{2, 1}, true},
		{free, 0, []int{0, 1, 2, 3}, true}, {free, 16, []int{4, 3}, true},
		// at a place one minute before its deadline, and at its deadline: 2 at 20, 3 at 30
		{line(9, 19, 10), 1, []int{1, 2, 3}, true}, {line(9, 20, 5), 1, []int{1, 2, 3}, false}, {line(9, 19, 11), 1, []int{1, 2, 3}, false},
		{line(9, 9, 29), 1, []int{2, 3}, true}, {line(9, 9, 30), 1, []int{2, 3}, false},
	} {
		if is, e := fire.Walks(x.l, x.watch, x.route); is != x.is || e != api.OK {
			t.Errorf("%d: %v, %d", i, is, e)
		}
	}
}

// ring is a land with the places 0 to 5 in a ring, and 6 apart: from 0 to 3 there are two ways round of the same time.
func ring() api.FireLand {
	l := plain(7, [2]int{5, 0}, [2]int{0, 1}, [2]int{1, 2}, [2]int{2, 3}, [2]int{3, 4}, [2]int{4, 5})
	l.Exits, l.Risks = 8, 64
	return l
}

func TestRoute(t *testing.T) {
	near, barred, closed, free, both, quick := ring(), ring(), ring(), ring(), ring(), ring()
	near.Exits = 8 | 32
	barred.Ways[1].Walk = 0
	closed.Exits, closed.Risks = 0, 0
	free.Risks = 0
	both.Exits = 4 | 16
	quick.Ways[0].Walk, quick.Ways[4].Walk, quick.Ways[5].Walk = 1, 1, 27 // a minute less than the other way round
	for i, x := range []struct {
		l           api.FireLand
		watch, from int
		want        []int
		minutes     int
		e           api.Errno
	}{
		{land(), 2, 1, []int{1, 2, 3}, 15, api.OK}, {land(), 2, 2, []int{2, 3}, 10, api.OK}, {land(), 2, 4, []int{4, 3}, 20, api.OK},
		{land(), 2, 3, []int{3}, 0, api.OK}, {land(), 2, 0, nil, 0, api.ErrNone}, {land(), 16, 1, nil, 0, api.ErrNone}, {land(), 0, 3, nil, 0, api.ErrNone},
		{ring(), 0, 0, []int{0, 1, 2, 3}, 30, api.OK}, {near, 0, 0, []int{0, 5}, 10, api.OK}, {near, 0, 3, []int{3}, 0, api.OK}, {near, 0, 4, []int{4, 3}, 10, api.OK},
		{barred, 0, 0, []int{0, 5, 4, 3}, 30, api.OK}, {barred, 0, 1, []int{1, 2, 3}, 20, api.OK}, {closed, 0, 0, nil, 0, api.ErrNone}, {free, 0, 0, []int{0, 1, 2, 3}, 30, api.OK},
		{both, 0, 0, []int{0, 1, 2}, 20, api.OK}, {both, 0, 3, []int{3, 2}, 10, api.OK}, {quick, 0, 0, []int{0, 5, 4, 3}, 29, api.OK},
		{ring(), 64, 6, nil, 0, api.ErrNone}, {ring(), 127, 1, []int{1, 2, 3}, 20, api.OK},
		{line(9, 19, 10), 1, 1, []int{1, 2, 3}, 29, api.OK}, {line(9, 20, 5), 1, 1, nil, 0, api.ErrNone}, {line(9, 20, 29), 1, 2, []int{2, 3}, 29, api.OK},
	} {
		if r, n, e := fire.Route(x.l, x.watch, x.from); !slices.Equal(r, x.want) || n != x.minutes || e != x.e {
			t.Errorf("%d: %v, %d, %d, want %v, %d, %d", i, r, n, e, x.want, x.minutes, x.e)
		}
	}
}

// P4.5

func TestCaught(t *testing.T) {
	closed, one := land(), plain(1)
	closed.Exits = 0
	one.Risks = 0
	for i, x := range []struct {
		l           api.FireLand
		watch, from int
		want        []int
		e           api.Errno
	}{
		{land(), 16, 1, nil, api.OK}, {land(), 2, 2, nil, api.ErrNone}, {land(), 2, 3, nil, api.ErrNone}, {land(), 0, 3, nil, api.OK}, {land(), 2, 0, nil, api.OK},
		{closed, 2, 1, []int{1, 2, 3}, api.OK}, {closed, 2, 4, []int{3, 4}, api.OK}, {closed, 16, 2, []int{2, 3}, api.OK}, {closed, 16, 3, []int{3}, api.OK},
		{one, 0, 0, []int{0}, api.OK}, {plain(1), 1, 0, nil, api.OK},
		// 2 at 20, and 3 at 30
		{line(9, 19, 10), 1, 1, nil, api.ErrNone}, {line(9, 19, 11), 1, 1, []int{1, 2}, api.OK}, {line(9, 20, 5), 1, 1, []int{1}, api.OK}, {line(9, 9, 30), 1, 2, []int{1, 2}, api.OK},
		{line(9, 0, 5), 1, 1, []int{1}, api.OK}, {line(9, 10, 30), 1, 2, []int{2}, api.OK},
	} {
		if c, e := fire.Caught(x.l, x.watch, x.from); !slices.Equal(c, x.want) || e != x.e {
			t.Errorf("%d: %v, %d, want %v, %d", i, c, e, x.want, x.e)
		}
	}
}

// walkable throws a land with slow fires, so that some routes are safe.
func (d *dice) walkable(places, ways int) api.FireLand {
	l := d.land(places, ways, 6)
	l.Risks = 1 << d.upTo(places-1)
	for i := range l.Ways {
		l.Ways[i].Walk = d.upTo(4)
	}
	l.Sees[d.upTo(places-1)] |= l.Risks
	return l
}

func TestRoutesAgainstAllWalks(t *testing.T) {
	d := &dice{5}
	found, caught := 0, 0
	for range 400 {
		l := d.walkable(d.from(1, 7), d.upTo(7))
		watch := d.upTo(1<<l.Places - 1)
		deadlines := firesOf(l, 0, corners(l)).deadlines(watch)
		for from := range l.Places {
			want, wantMinutes, wantErr := routeOf(l, deadlines, from)
			route, minutes, e := fire.Route(l, watch, from)
			if !slices.Equal(route, want) || minutes != wantMinutes || e != wantErr {
				t.Fatalf("%v, the watch %d from %d: %v, %d, %d, want %v, %d", l, watch, from, route, minutes, e, want, wantMinutes)
			}
			for _, list := range walks(l, from) {
				wantErr, is := api.ErrFireRoute, false
				if isExit(l, list[len(list)-1]) {
					wantErr, is = api.OK, inTime(l, deadlines, list)
				}
				if safe, e := fire.Walks(l, watch, list); safe != is || e != wantErr {
					t.Fatalf("%v, the watch %d, %v: %v, %d, want %v, %d", l, watch, list, safe, e, is, wantErr)
				}
			}
			if e == api.OK {
				found++
			} else if caughtFrom(t, l, watch, from, deadlines) > 1 {
				caught++
			}
		}
	}
	if found < 200 || caught < 100 {
		t.Errorf("%d routes, %d caught", found, caught)
	}
}

// P4.10

// caughtFrom checks the places that can be reached in time, of which none is an exit, and tells how many there are.
func caughtFrom(t *testing.T, l api.FireLand, watch, from int, deadlines []int) int {
	t.Helper()
	reached := reachedOf(l, deadlines, from)
	var want []int
	for place, minute := range reached {
		if minute < far {
			want = append(want, place)
		}
	}
	places, e := fire.Caught(l, watch, from)
	if !slices.Equal(places, want) || e != api.OK {
		t.Fatalf("%v, the watch %d from %d: %v, %d, want %v", l, watch, from, places, e, want)
	}
	for _, place := range places {
		if isExit(l, place) {
			t.Fatalf("%v, the watch %d from %d: the exit %d is reached", l, watch, from, place)
		}
		for to := range l.Places {
			walk := walkBetween(l, place, to)
			if walk > 0 && !slices.Contains(places, to) && reached[place]+walk < deadlines[to] {
				t.Fatalf("%v, the watch %d from %d: %v, but %d is in time", l, watch, from, places, to)
			}
		}
	}
	return len(places)
}

// P4.9

func TestGoneBeforeTheFireComes(t *testing.T) {
	d := &dice{6}
	walked := 0
	for range 300 {
		l := d.walkable(d.from(2, 7), d.upTo(6))
		watch := d.upTo(1<<l.Places - 1)
		for _, from := range elements(1<<l.Places - 1) {
			route, _, e := fire.Route(l, watch, from)
			if e != api.OK {
				continue
			}
			if is, e := fire.Walks(l, watch, route); !is || e != api.OK {
				t.Fatalf("%v, the watch %d: %v is %v, %d", l, watch, route, is, e)
			}
			all, ok := times(l, route)
			if !ok {
				t.Fatalf("%v: nobody can walk %v", l, route)
			}
			walked += len(route) - 1
			f := firesOf(l, 0, truths(l))
			for _, risk := range elements(l.Risks) {
				for _, comes := range f.comes[risk] {
					alarm := f.alarm(watch, comes)
					for i, place := range route {
						if comes[place] < far && (alarm == far || all[i] >= comes[place]-alarm) {
							t.Fatalf("%v, the watch %d: %v, and a fire on %d that comes at %v", l, watch, route, risk, comes)
						}
					}
				}
			}
		}
	}
	if walked < 100 {
		t.Errorf("only %d ways walked", walked)
	}
}
