package fire_test

import (
	"math"
	"slices"
	"strconv"
	"testing"

	"pinaster/api"
	"pinaster/fire"
)

// P4.1

// limit is one number of a land, and from where to where it may be.
type limit struct {
	name        string
	at          func(l *api.FireLand) *int
	least, most int
}

func limits() []limit {
	all := []limit{
		{"exits", func(l *api.FireLand) *int { return &l.Exits }, 0, 31},
		{"risks", func(l *api.FireLand) *int { return &l.Risks }, 0, 31},
	}
	for i := range land().Sees {
		all = append(all, limit{"sees of the place " + strconv.Itoa(i), func(l *api.FireLand) *int { return &l.Sees[i] }, 0, 31})
	}
	for i, w := range land().Ways {
		n := " of the way " + strconv.Itoa(i)
		all = append(all,
			limit{"burn low" + n, func(l *api.FireLand) *int { return &l.Ways[i].Burn.Low }, 1, w.Burn.High},
			limit{"burn high" + n, func(l *api.FireLand) *int { return &l.Ways[i].Burn.High }, w.Burn.Low, 240},
			limit{"walk" + n, func(l *api.FireLand) *int { return &l.Ways[i].Walk }, 0, 240},
		)
	}
	return all
}

func TestCheckLimits(t *testing.T) {
	if e := fire.Check(land()); e != api.OK {
		t.Errorf("the example: %d", e)
	}
	for _, x := range limits() {
		for n, want := range map[int]api.Errno{
			x.least: api.OK, x.most: api.OK,
			x.least - 1: api.ErrFireLand, x.most + 1: api.ErrFireLand, math.MinInt: api.ErrFireLand, math.MaxInt: api.ErrFireLand,
		} {
			l := land()
			*x.at(&l) = n
			if e := fire.Check(l); e != want {
				t.Errorf("%s %d: %d, want %d", x.name, n, e, want)
			}
		}
	}
}

func TestCheckPlaces(t *testing.T) {
	for _, n := range []int{-1, 0, 8, 62, 63, 64, 65, math.MinInt, math.MaxInt} {
		for _, sees := range [][]int{nil, make([]int, 8), make([]int, 65)} {
			if e := fire.Check(api.FireLand{Places: n, Sees: sees}); e != api.ErrFireLand {
				t.Errorf("%d places, sees %d: %d", n, len(sees), e)
			}
		}
	}
	for n := 1; n <= 7; n++ {
		most := 1<<n - 1
		for size, want := range map[int]api.Errno{0: api.ErrFireLand, n - 1: api.ErrFireLand, n: api.OK, n + 1: api.ErrFireLand, 5000: api.ErrFireLand} {
			if e := fire.Check(api.FireLand{Places: n, Sees: make([]int, size)}); e != want {
				t.Errorf("%d places, sees %d: %d", n, size, e)
			}
		}
		for set, want := range map[int]api.Errno{most: api.OK, most + 1: api.ErrFireLand, -1: api.ErrFireLand} {
			for i, l := range []api.FireLand{{Exits: set}, {Risks: set}, {Sees: []int{set}}} {
				l.Places, l.Sees = n, append(l.Sees, make([]int, n-len(l.Sees))...)
				if e := fire.Check(l); e != want {
					t.Errorf("%d places, the set %d as %d: %d", n, set, i, e)
				}
			}
		}
	}
}

func TestCheckWays(t *testing.T) {
	for i := range land().Ways {
		for _, n := range append(slices.Clone(odd), 5, 6, 7) {
			for _, w := range [][2]int{{n, 2}, {2, n}, {n, n}} {
				l := land()
				l.Ways[i].A, l.Ways[i].B = w[0], w[1]
				if e := fire.Check(l); e != api.ErrFireLand {
					t.Errorf("the way %d between %v: %d", i, w, e)
				}
			}
		}
		for k := range 5 {
			l := land()
			l.Ways[i].A, l.Ways[i].B = k, k
			if e := fire.Check(l); e != api.ErrFireLand {
				t.Errorf("the way %d from %d to itself: %d", i, k, e)
			}
		}
		for k, w := range land().Ways {
			for _, ends := range [][2]int{{w.A, w.B}, {w.B, w.A}} {
				l := land()
				l.Ways[i].A, l.Ways[i].B = ends[0], ends[1]
				if e := fire.Check(l); e == api.OK != (k == i) {
					t.Errorf("the way %d where the way %d is: %d", i, k, e)
				}
			}
		}
	}
	var ways [][2]int
	for a := range 7 {
		for b := range a {
			ways = append(ways, [2]int{a, b})
		}
	}
	for many, want := range map[int]api.Errno{0: api.OK, 11: api.OK, 12: api.OK, 13: api.ErrFireLand, 21: api.ErrFireLand} {
		if e := fire.Check(plain(7, ways[:many]...)); e != want {
			t.Errorf("%d ways: %d", many, e)
		}
	}
	long := plain(7)
	long.Ways = make([]api.FireWay, 5000)
	if e := fire.Check(long); e != api.ErrFireLand {
		t.Errorf("5000 ways: %d", e)
	}
}

// expect checks what the functions with some names answer.
func expect(t *testing.T, q question, want api.Errno, of ...string) {
	t.Helper()
	for i, e := range q.answers() {
		if slices.Contains(of, names[i]) && e != want {
			t.Errorf("%s with %+v: %d, want %d", names[i], q, e, want)
		}
	}
}

func TestErrorOfTheLandComesFirst(t *testing.T) {
	high, wide := land(), land()
	high.Places, wide.Places = math.MaxInt, 70
	for _, l := range []api.FireLand{wrongLand(), {}, {Places: -1}, {Places: math.MinInt}, high, wide} {
		for _, n := range append(slices.Clone(odd), 0, 4, 1<<40) {
			for _, list := range [][]int{nil, {n}, {n, n}, {n, n - 1}, make([]int, 5000)} {
				q := question{l, n, n, n, list, list, list}
				expect(t, q, api.ErrFireLand, names...)
			}
		}
	}
}

func TestErrorsOfPlacesAndWatches(t *testing.T) {
	expect(t, ask(), api.OK, "Check", "Follow", "Comes", "Margin", "Deadlines", "Walks", "Route", "Safe", "Watch", "Lines")
	expect(t, ask(), api.ErrNone, "Caught")
	for _, n := range append(slices.Clone(odd), 5, 6, 7, 8, 1<<40) {
		for _, bad := range [][]int{nil, {n}, {4, 3}, {3, 3, 2}, make([]int, 5000)} {
			q := ask()
			q.from, q.burn, q.route, q.crews = n, bad, bad, bad
			expect(t, q, api.ErrFirePlace, "Follow", "Comes", "Margin", "Route", "Caught")
			expect(t, q, api.OK, "Check", "Deadlines")
		}
		q := ask()
		q.place = n
		expect(t, q, api.ErrFirePlace, "Comes", "Margin")
		expect(t, q, api.OK, "Follow", "Deadlines", "Walks", "Route", "Safe", "Watch", "Lines")
	}
	for _, n := range append(slices.Clone(odd), 32, 33, 64, 127, 1<<40) {
		for _, bad := range [][]int{nil, {n}, {4, 3}, {3, 3, 2}, make([]int, 5000)} {
			q := ask()
			q.watch, q.burn, q.route, q.crews = n, bad, bad, bad
			expect(t, q, api.ErrFirePlace, "Margin", "Deadlines", "Walks", "Route", "Caught", "Safe", "Lines")
			expect(t, q, api.OK, "Check", "Comes")
		}
	}
	for watch := range 32 {
		for from := range 5 {
			if _, e := fire.Margin(land(), watch, from, 4-from); e != api.OK {
				t.Errorf("the watch %d, the place %d: %d", watch, from, e)
			}
		}
	}
	for _, x := range [][2]int{{0, 1}, {1, 0}, {1, 1}} { // of one place
		q := question{plain(1), x[0] * 2, x[1], x[1], nil, nil, nil}
		expect(t, q, api.ErrFirePlace, "Margin", "Route", "Caught")
	}
}

func TestWrongTruths(t *testing.T) {
	try := func(burn []int, want api.Errno) {
		t.Helper()
		q := ask()
		q.burn = burn
		expect(t, q, want, "Follow")
	}
	right := ask().burn
	for _, n := range []int{0, 4, 6, 5000} {
		try(append(slices.Clone(right), make([]int, n)...)[:n], api.ErrFireTruth)
	}
	try(nil, api.ErrFireTruth)
	for i, w := range land().Ways {
		for n, want := range map[int]api.Errno{
			w.Burn.Low: api.OK, w.Burn.High: api.OK, w.Burn.Low - 1: api.ErrFireTruth, w.Burn.High + 1: api.ErrFireTruth,
			0: api.ErrFireTruth, math.MinInt: api.ErrFireTruth, math.MaxInt: api.ErrFireTruth,
		} {
			burn := slices.Clone(right)
			burn[i] = n
			try(burn, want)
		}
	}
	q := question{plain(3), 0, 0, 0, nil, nil, nil}
	expect(t, q, api.OK, "Follow")
	q.burn = []int{10}
	expect(t, q, api.ErrFireTruth, "Follow")
}

func TestWrongRoutes(t *testing.T) {
	bad := [][]int{nil, {}, {1}, {1, 2}, {1, 3}, {0, 4, 3}, {4, 0, 1, 2, 3}, {2, 3, 2}, {2, 3, 2, 3}, {3, 3}, {3, 2}, {2, 2, 3}, {3, 2, 3}, {1, 2, 1, 2, 3}, {0, 1, 2, 3, 4}, {2, 4, 3}, make([]int, 5000)}
	for _, n := range append(slices.Clone(odd), 5, 64, 1<<40) {
		bad = append(bad, []int{n}, []int{n, 3}, []int{2, n, 3}, []int{2, 3, n}, []int{3, n})
	}
	for _, route := range bad {
		for watch := range 32 {
			q := ask()
			q.watch, q.route = watch, route
			expect(t, q, api.ErrFireRoute, "Walks")
		}
	}
	for _, route := range [][]int{{3}, {2, 3}, {4, 3}, {1, 2, 3}, {0, 1, 2, 3}} {
		q := ask()
		q.route = route
		expect(t, q, api.OK, "Walks")
	}
	q := ask()
	q.l.Exits = 0
	for _, route := range [][]int{{3}, {2, 3}, {0, 1, 2, 3}} {
		q.route = route
		expect(t, q, api.ErrFireRoute, "Walks")
	}
}

func TestWrongCrews(t *testing.T) {
	bad := [][]int{{2, 1}, {1, 2, 1}, {3, 3, 2}, {1, 0}, {0, 0, 0, 0, 0, 1, 0}, make([]int, 7), make([]int, 5000)}
	for _, n := range append(slices.Clone(odd), 5, 64, 1<<40) {
		bad = append(bad, []int{n}, []int{0, n}, []int{n, 4}, []int{n, n})
	}
	for _, crews := range bad {
		q := ask()
		q.crews = crews
		expect(t, q, api.ErrFireCrews, "Safe", "Watch", "Lines")
		q.l.Risks = 31 // also where none are safe
		q.watch = 0
		expect(t, q, api.ErrFireCrews, "Safe", "Watch", "Lines")
	}
	for _, crews := range [][]int{nil, {}, {1}, {1, 1}, {1, 2, 3}, {1, 1, 2, 2, 3, 3}, {3, 3, 3, 3, 3, 3}, {4}} {
		q := ask()
		q.crews = crews
		expect(t, q, api.OK, "Safe", "Watch", "Lines")
	}
}
