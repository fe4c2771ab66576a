package fire_test

import (
	"math/bits"
	"slices"
	"testing"

	"pinaster/api"
	"pinaster/fire"
)

// P4.6

func TestSafe(t *testing.T) {
	for i, x := range []struct {
		l     api.FireLand
		watch int
		crews []int
		is    bool
	}{
		{land(), 2, []int{1, 2}, true}, {land(), 16, []int{1, 2}, false}, {land(), 16, []int{2, 2, 3}, true}, {land(), 16, []int{1}, false}, {land(), 16, []int{2}, true},
		{land(), 0, nil, true}, {land(), 0, []int{2}, false}, {land(), 0, []int{3}, false}, {land(), 2, []int{0}, false}, {land(), 2, []int{0, 1}, false},
		{land(), 2, []int{1, 2, 3, 3, 4, 4}, true}, {land(), 2, []int{0, 1, 2, 3, 4, 4}, false}, {land(), 31, []int{0}, false},
	} {
		if is, e := fire.Safe(x.l, x.watch, x.crews); is != x.is || e != api.OK {
			t.Errorf("%d: %v, %d", i, is, e)
		}
	}
}

func TestWatch(t *testing.T) {
	free := land()
	free.Risks = 0
	two := plain(6, [2]int{0, 1}, [2]int{2, 3}, [2]int{4, 5}) // each fire needs a lookout of its own, unless one sees all
	two.Risks, two.Exits = 1|4|16, 2|8|32
	for i := range two.Ways {
		two.Ways[i].Walk = 1
	}
	wide := cloneLand(two)
	wide.Sees[5] = 21
	for i, x := range []struct {
		l     api.FireLand
		crews []int
		want  int
		e     api.Errno
	}{
		{land(), []int{1, 2}, 2, api.OK}, {land(), []int{0}, 0, api.ErrNone}, {land(), nil, 0, api.OK}, {land(), []int{3}, 2, api.OK}, {land(), []int{2}, 2, api.OK},
		{free, []int{0, 1, 2, 3, 4, 4}, 0, api.OK}, {free, []int{0}, 0, api.OK},
		{two, []int{1}, 1, api.OK}, {two, []int{1, 3}, 5, api.OK}, {two, []int{1, 3, 5}, 21, api.OK}, {two, []int{3, 5}, 20, api.OK}, {two, []int{0}, 0, api.ErrNone},
		{wide, []int{1, 3, 5}, 32, api.OK}, {wide, []int{1, 3}, 32, api.OK}, {wide, []int{3}, 4, api.OK},
	} {
		if n, e := fire.Watch(x.l, x.crews); n != x.want || e != x.e {
			t.Errorf("%d: %d, %d, want %d, %d", i, n, e, x.want, x.e)
		}
	}
}

func TestLines(t *testing.T) {
	// from 0 the fire comes over 1, 2 and 3 to 4, where a crew is that sees nothing
	three := plain(5, [2]int{0, 1}, [2]int{0, 2}, [2]int{0, 3}, [2]int{1, 4}, [2]int{2, 4}, [2]int{3, 4})
	three.Exits = 16
	pair := plain(4, [2]int{2, 3}, [2]int{0, 1}, [2]int{0, 2}, [2]int{1, 3})
	pair.Exits = 8
	only := plain(3, [2]int{0, 1}, [2]int{1, 2})
	only.Exits = 4
	for i, x := range []struct {
		l     api.FireLand
		watch int
		crews []int
		want  []int
		e     api.Errno
	}{
		{land(), 2, []int{1}, nil, api.OK}, {land(), 16, []int{1}, []int{0}, api.OK}, {land(), 8, []int{2}, []int{0, 3}, api.OK}, {land(), 2, []int{0}, nil, api.ErrNone},
		{land(), 0, nil, nil, api.OK}, {land(), 0, []int{0}, nil, api.ErrNone},
		{three, 0, []int{4}, nil, api.ErrNone}, {three, 1, []int{4}, nil, api.OK},
		{pair, 0, []int{3}, []int{0, 1}, api.OK}, {pair, 0, []int{3, 3}, []int{0, 1}, api.OK}, {pair, 0, []int{2, 3}, []int{1, 2}, api.OK}, {pair, 0, []int{1, 3}, []int{0, 1}, api.OK},
		{only, 0, []int{2}, []int{0}, api.OK}, {only, 0, []int{1}, []int{0}, api.OK}, {only, 0, []int{0}, nil, api.ErrNone},
		// people walk where a line is cut
		{only, 0, []int{1, 2}, []int{0}, api.OK},
	} {
		if l, e := fire.Lines(x.l, x.watch, x.crews); !slices.Equal(l, x.want) || e != x.e {
			t.Errorf("%d: %v, %d, want %v, %d", i, l, e, x.want, x.e)
		}
	}
	// a crew between the line and the exit, where the line is cut behind it and before it
	through := plain(4, [2]int{0, 1}, [2]int{1, 2}, [2]int{0, 3}, [2]int{3, 2})
	through.Exits, through.Ways[2].Walk, through.Ways[3].Walk = 4, 0, 0
	if l, e := fire.Lines(through, 0, []int{1}); !slices.Equal(l, []int{0, 2}) || e != api.OK {
		t.Errorf("%v, %d", l, e)
	}
}

// P4.11

func TestWatchAgainstAllWatches(t *testing.T) {
	d := &dice{7}
	var times [8]int
	for range 150 {
		l := d.walkable(d.from(1, 6), d.upTo(7))
		if d.upTo(2) == 0 {
			l.Risks |= 1 << d.upTo(l.Places-1)
		}
		crews := d.crews(l.Places, 3)
		f := firesOf(l, 0, corners(l))
		want, wantErr := 0, api.ErrNone
		for watch := range 1 << l.Places {
			is := areSafe(l, f.deadlines(watch), crews)
			if safe, e := fire.Safe(l, watch, crews); safe != is || e != api.OK {
				t.Fatalf("%v, the watch %d, %v: %v, %d", l, watch, crews, safe, e)
			}
			if is && (wantErr != api.OK || bits.OnesCount(uint(watch)) < bits.OnesCount(uint(want))) {
				want, wantErr = watch, api.OK
			}
		}
		if watch, e := fire.Watch(l, crews); watch != want || e != wantErr {
			t.Fatalf("%v, %v: %d, %d, want %d, %d", l, crews, watch, e, want, wantErr)
		}
		if wantErr != api.OK {
			times[7]++
		} else {
			times[bits.OnesCount(uint(want))]++
		}
	}
	if times[0] < 10 || times[1] < 10 || times[2] < 1 || times[7] < 10 {
		t.Errorf("lookouts: %v", times)
	}
}

func TestLinesAgainstAllLines(t *testing.T) {
	d := &dice{8}
	var times [4]int
	for range 250 {
		l := d.walkable(d.from(2, 6), d.from(2, 6))
		l.Exits |= 1 << d.upTo(l.Places-1)
		watch, crews := d.someOf(l.Places, 4), d.crews(l.Places, 2)
		var all [][]int // the lines with which the crews are safe
		for cut := range 1 << len(l.Ways) {
			if bits.OnesCount(uint(cut)) <= 2 && areSafe(l, firesOf(l, cut, corners(l)).deadlines(watch), crews) {
				all = append(all, elements(cut))
			}
		}
		slices.SortFunc(all, func(a, b []int) int {
			if len(a) != len(b) {
				return len(a) - len(b)
			}
			return slices.Compare(a, b)
		})
		lines, e := fire.Lines(l, watch, crews)
		if len(all) == 0 {
			times[3]++
			if len(lines) != 0 || e != api.ErrNone {
				t.Fatalf("%v, the watch %d, %v: %v, %d", l, watch, crews, lines, e)
			}
			continue
		}
		times[len(all[0])]++
		if !slices.Equal(lines, all[0]) || e != api.OK {
			t.Fatalf("%v, the watch %d, %v: %v, %d, want %v", l, watch, crews, lines, e, all[0])
		}
	}
	if slices.Min(times[:]) < 10 {
		t.Errorf("lines: %v", times)
	}
}
