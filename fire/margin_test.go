package fire_test

import (
	"slices"
	"testing"

	"pinaster/api"
	"pinaster/fire"
)

// P4.2

func TestFollow(t *testing.T) {
	apart := plain(5, [2]int{3, 1}, [2]int{4, 0})
	for i, x := range []struct {
		l          api.FireLand
		from       int
		burn, want []int
	}{
		{land(), 0, []int{10, 10, 20, 5, 60}, []int{0, 10, 20, 40, 5}},
		{land(), 0, []int{20, 30, 20, 5, 60}, []int{0, 20, 50, 65, 5}},
		{land(), 0, []int{20, 30, 20, 10, 60}, []int{0, 20, 50, 70, 10}}, // to 3 both ways in the same time
		{land(), 2, []int{20, 30, 20, 10, 90}, []int{50, 30, 0, 20, 60}},
		{land(), 4, []int{11, 12, 20, 7, 61}, []int{7, 18, 30, 50, 0}},
		{apart, 0, []int{10, 15}, []int{0, -1, -1, -1, 15}},
		{apart, 3, []int{10, 15}, []int{-1, 10, -1, 0, -1}},
		{apart, 2, []int{10, 15}, []int{-1, -1, 0, -1, -1}},
		{plain(1), 0, nil, []int{0}},
		{plain(1), 0, []int{}, []int{0}},
	} {
		if l, e := fire.Follow(x.l, x.from, x.burn); !slices.Equal(l, x.want) || e != api.OK {
			t.Errorf("%d: %v, %d, want %v", i, l, e, x.want)
		}
	}
}

func TestComes(t *testing.T) {
	apart := plain(5, [2]int{3, 1}, [2]int{4, 0})
	for i, x := range []struct {
		l        api.FireLand
		from, to int
		want     api.Span
		e        api.Errno
	}{
		{land(), 0, 3, span(40, 70), api.OK}, {land(), 0, 2, span(20, 50), api.OK}, {land(), 3, 0, span(40, 70), api.OK},
		{land(), 4, 3, span(45, 80), api.OK}, {land(), 2, 2, span(0, 0), api.OK}, {land(), 0, 4, span(5, 10), api.OK},
		{apart, 1, 3, span(10, 20), api.OK}, {apart, 0, 3, span(0, 0), api.ErrNone}, {apart, 2, 0, span(0, 0), api.ErrNone},
		{apart, 2, 2, span(0, 0), api.OK}, {plain(1), 0, 0, span(0, 0), api.OK}, {plain(2), 0, 1, span(0, 0), api.ErrNone},
	} {
		if s, e := fire.Comes(x.l, x.from, x.to); s != x.want || e != x.e {
			t.Errorf("%d: %v, %d, want %v, %d", i, s, e, x.want, x.e)
		}
	}
}

// P4.8

func TestFiresOfAllTruths(t *testing.T) {
	d := &dice{1}
	for range 300 {
		l := d.land(d.from(1, 7), d.upTo(6), d.from(1, 4))
		all := truths(l)
		f := firesOf(l, 0, all)
		for from := range l.Places {
			low, high := slices.Repeat([]int{far}, l.Places), slices.Repeat([]int{-1}, l.Places)
			for i, truth := range all {
				list, e := fire.Follow(l, from, truth)
				if e != api.OK || len(list) != l.Places {
					t.Fatalf("%v, %v from %d: %v, %d", l, truth, from, list, e)
				}
				for place, minute := range list {
					if want := f.comes[from][i][place]; minute != want && (minute != -1 || want < far) {
						t.Fatalf("%v, %v from %d: %v, want %v", l, truth, from, list, f.comes[from][i])
					}
					low[place], high[place] = min(low[place], minute), max(high[place], minute)
				}
			}
			for place := range l.Places {
				want, wantErr := span(low[place], high[place]), api.OK
				if low[place] == -1 {
					want, wantErr = span(0, 0), api.ErrNone
				}
				if s, e := fire.Comes(l, from, place); s != want || e != wantErr {
					t.Fatalf("%v from %d to %d: %v, %d, want %v", l, from, place, s, e, want)
				}
			}
		}
	}
}

// P4.3

// fork is a land in which fire comes to 1 and 2 over one way or over two.
func fork() api.FireLand {
	l := plain(3, [2]int{0, 1}, [2]int{0, 2}, [2]int{1, 2})
	l.Ways[2].Burn = span(5, 5)
	return l
}

func TestMargin(t *testing.T) {
	blind, apart := land(), plain(4, [2]int{0, 1}, [2]int{2, 3})
	blind.Sees = make([]int, 5)
	for i, x := range []struct {
		l                        api.FireLand
		watch, from, place, want int
		e                        api.Errno
	}{
		{land(), 2, 0, 2, 20, api.OK}, {land(), 16, 0, 2, 10, api.OK}, {land(), 8, 0, 2, 0, api.OK}, {land(), 0, 0, 2, 0, api.OK},
		{land(), 16, 0, 0, -10, api.OK}, {land(), 18, 0, 0, 0, api.OK}, {land(), 18, 0, 2, 20, api.OK}, {land(), 31, 0, 3, 40, api.OK},
		{land(), 8, 0, 0, -50, api.OK}, {land(), 8, 0, 3, 15, api.OK}, {land(), 8, 0, 1, -30, api.OK},
		// nothing is seen, and all is on fire
		{land(), 0, 0, 0, 0, api.OK}, {land(), 1, 0, 3, 0, api.OK}, {blind, 31, 0, 3, 0, api.OK}, {blind, 31, 3, 3, 0, api.OK},
		// any place may be asked for, not only those of Risks
		{land(), 2, 3, 3, -20 - 30, api.OK}, {land(), 8, 3, 0, 40, api.OK},
		// what the fire does not come to has none, also where there is no alarm
		{apart, 1, 0, 2, 0, api.ErrNone}, {apart, 0, 0, 2, 0, api.ErrNone}, {apart, 4, 0, 1, 0, api.OK}, {apart, 4, 0, 2, 0, api.ErrNone},
		{apart, 4, 0, 0, 0, api.OK}, {apart, 12, 3, 2, 10, api.OK}, {apart, 4, 3, 3, -20, api.OK}, {apart, 4, 3, 2, 0, api.OK},
		// fast by one path, and slow by the other one
		{fork(), 2, 0, 2, -5, api.OK}, {fork(), 4, 0, 1, -5, api.OK}, {fork(), 6, 0, 2, 0, api.OK}, {fork(), 1, 0, 2, 10, api.OK},
		{fork(), 2, 0, 0, -20, api.OK}, {fork(), 6, 0, 0, -20, api.OK}, {fork(), 2, 0, 1, 0, api.OK},
		{plain(1), 1, 0, 0, 0, api.OK}, {plain(1), 0, 0, 0, 0, api.OK},
	} {
		if n, e := fire.Margin(x.l, x.watch, x.from, x.place); n != x.want || e != x.e {
			t.Errorf("%d: %d, %d, want %d, %d", i, n, e, x.want, x.e)
		}
	}
}

func TestDeadlines(t *testing.T) {
	two, none, apart := land(), land(), plain(4, [2]int{0, 1}, [2]int{2, 3})
	two.Risks, none.Risks = 17, 0
	for i, x := range []struct {
		l           api.FireLand
		watch, some int
		want        []int
	}{
		{land(), 16, 31, []int{-10, 0, 10, 30, 0}}, {land(), 2, 31, []int{0, 10, 20, 40, 5}}, {land(), 0, 31, []int{0, 0, 0, 0, 0}},
		{two, 2, 31, []int{0, 10, 20, 40, -10}}, {none, 2, 0, []int{0, 0, 0, 0, 0}}, {none, 0, 0, []int{0, 0, 0, 0, 0}},
		{apart, 0, 3, []int{0, 0, 0, 0}}, {apart, 1, 3, []int{0, 10, 0, 0}}, {apart, 2, 3, []int{-20, 0, 0, 0}}, {apart, 12, 3, []int{0, 0, 0, 0}},
		{plain(1), 1, 1, []int{0}},
	} {
		if d, some, e := fire.Deadlines(x.l, x.watch); !slices.Equal(d, x.want) || some != x.some || e != api.OK {
			t.Errorf("%d: %v, %d, %d, want %v, %d", i, d, some, e, x.want, x.some)
		}
	}
}

// margins checks all margins and deadlines of a watch, and returns them.
func margins(t *testing.T, f fires, watch int) {
	t.Helper()
	l := f.FireLand
	for from := range l.Places {
		for place := range l.Places {
			want, wantErr := f.margin(watch, from, place), api.OK
			if want == far {
				want, wantErr = 0, api.ErrNone
			}
			if n, e := fire.Margin(l, watch, from, place); n != want || e != wantErr {
				t.Fatalf("%v, the watch %d from %d to %d: %d, %d, want %d", l, watch, from, place, n, e, want)
			}
		}
	}
	deadlines, some, e := fire.Deadlines(l, watch)
	wants, wantSome := f.deadlines(watch), 0
	for place, want := range wants {
		if want < far {
			wantSome |= 1 << place
		} else {
			wants[place] = 0
		}
	}
	if !slices.Equal(deadlines, wants) || some != wantSome || e != api.OK {
		t.Fatalf("%v, the watch %d: %v, %d, %d, want %v", l, watch, deadlines, some, e, wants)
	}
}

func TestMarginsOfAllTruths(t *testing.T) {
	d := &dice{2}
	for range 200 {
		l := d.land(d.from(1, 6), d.upTo(6), d.from(1, 4))
		f := firesOf(l, 0, truths(l))
		for range 4 {
			margins(t, f, d.upTo(1<<l.Places-1))
		}
	}
	for range 10 { // as many places and ways as there can be
		l := d.land(7, 12, 240)
		f := firesOf(l, 0, corners(l))
		margins(t, f, d.upTo(127))
	}
}

// P4.11

func TestMoreLookouts(t *testing.T) {
	d := &dice{3}
	less := 0
	for range 300 {
		l := d.land(d.from(2, 7), d.upTo(12), 12)
		some := d.upTo(1<<l.Places - 1)
		more := some | d.upTo(1<<l.Places-1)
		f := firesOf(l, 0, [][]int{d.truth(l)})
		for from := range l.Places {
			for place := range l.Places {
				before, e1 := fire.Margin(l, some, from, place)
				after, e2 := fire.Margin(l, more, from, place)
				if e1 != e2 {
					t.Fatalf("%v: the watches %d and %d, from %d to %d: %d, %d", l, some, more, from, place, e1, e2)
				}
				if f.alarm(some, f.comes[from][0]) == far {
					continue
				}
				if after < before {
					t.Fatalf("%v: the watches %d and %d, from %d to %d: %d, %d", l, some, more, from, place, before, after)
				}
				if before < after {
					less++
				}
			}
		}
	}
	if less < 200 {
		t.Errorf("only %d margins get greater", less)
	}
}

func TestNarrowerSpans(t *testing.T) {
	d := &dice{4}
	for range 300 {
		l := d.land(d.from(2, 7), d.upTo(12), 12)
		n, watch := d.narrower(l), d.upTo(1<<l.Places-1)
		for from := range l.Places {
			for place := range l.Places {
				wide, e1 := fire.Margin(l, watch, from, place)
				narrow, e2 := fire.Margin(n, watch, from, place)
				if narrow < wide || e1 != e2 {
					t.Fatalf("%v: %d, %d, with narrower spans %v: %d, %d", l, wide, e1, n, narrow, e2)
				}
			}
		}
	}
}
