package still_test

import (
	"math"
	"slices"
	"testing"

	"pinaster/api"
	"pinaster/still"
)

// P5.3

func TestSensors(t *testing.T) {
	for i, x := range []struct {
		readings, suspects []int
		want               api.Span
	}{
		{[]int{110, 111, 150}, []int{2}, span(109, 112)},
		{[]int{110, 114, 118}, nil, span(112, 116)}, // only the ends are possible
		{[]int{118, 110, 114}, nil, span(112, 116)},
		{[]int{110, 110, 110}, nil, span(108, 112)},
		{[]int{110, 112, 114}, nil, span(110, 114)},
		{[]int{110, 114, 119}, []int{2}, span(112, 112)},
		{[]int{109, 114, 118}, []int{0}, span(116, 116)},
		{[]int{0, 1, -1}, nil, span(0, 2)},
		{[]int{-2, -2, -2}, nil, span(0, 0)},
		{[]int{-2, -3, 50}, []int{1, 2}, span(0, 0)},
		{[]int{-2, -2, -3}, []int{2}, span(0, 0)},
		{[]int{202, 202, 9}, []int{2}, span(200, 200)},
		{[]int{202, 202, 203}, []int{2}, span(200, 200)},
		{[]int{math.MinInt, 110, 114}, []int{0}, span(112, 112)},
		{[]int{110, math.MaxInt, 110}, []int{1}, span(108, 112)},
	} {
		k, e := still.Known(small(), x.readings)
		l, f := still.Suspects(small(), x.readings)
		want := api.OK
		if len(x.suspects) > 1 { // more than may have failed
			want, x.want, x.suspects = api.ErrStillRead, span(0, 0), nil
		}
		if k != x.want || e != want || !slices.Equal(l, x.suspects) || f != want {
			t.Errorf("%d: %v: %v, %d; %v, %d", i, x.readings, k, e, l, f)
		}
	}
}

func TestMoreSensors(t *testing.T) {
	s := small()
	s.Sensors, s.Failed, s.Error = 7, 3, 1
	exact := small()
	exact.Error = 0
	one := level(100, span(0, 0), span(0, 0), heat(0, 0, 0))
	one.Error = 8
	for i, x := range []struct {
		s                  api.Still
		readings, suspects []int
		want               api.Span
	}{
		{s, []int{50, 50, 50, 50, 90, 90, 90}, []int{4, 5, 6}, span(49, 51)},
		{s, []int{50, 90, 50, 90, 51, 90, 52}, []int{1, 3, 5}, span(51, 51)},
		{s, []int{9, 12, 12, 12, 14, 14, 14}, []int{0}, span(13, 13)},
		{s, []int{10, 10, 10, 12, 14, 14, 14}, nil, span(11, 13)},
		{s, []int{10, 10, 12, 12, 12, 14, 14}, nil, span(11, 13)},
		{exact, []int{70, 70, 71}, []int{2}, span(70, 70)},
		{exact, []int{70, 70, 70}, nil, span(70, 70)},
		{one, []int{100}, nil, span(92, 108)}, {one, []int{-8}, nil, span(0, 0)}, {one, []int{0}, nil, span(0, 8)}, {one, []int{208}, nil, span(200, 200)}, {one, []int{196}, nil, span(188, 200)},
	} {
		k, e := still.Known(x.s, x.readings)
		l, f := still.Suspects(x.s, x.readings)
		if k != x.want || e != api.OK || !slices.Equal(l, x.suspects) || f != api.OK {
			t.Errorf("%d: %v: %v, %d; %v, %d", i, x.readings, k, e, l, f)
		}
	}
	for _, n := range []int{-9, 209, math.MinInt, math.MaxInt} {
		if k, e := still.Known(one, []int{n}); k != span(0, 0) || e != api.ErrStillRead {
			t.Errorf("%d: %v, %d", n, k, e)
		}
	}
}

func TestWrongReadings(t *testing.T) {
	for _, list := range [][]int{
		nil, {}, {110}, {110, 111}, {110, 111, 112, 113}, {110, 110, 110, 110}, make([]int, 5000),
		{100, 110, 120}, {100, 105, 110}, {203, 203, 203}, {203, 202, 204}, {-3, -3, -3}, {-3, -3, 0},
		{math.MinInt, math.MinInt, math.MinInt}, {math.MaxInt, math.MaxInt, math.MaxInt}, {math.MinInt, 100, math.MaxInt},
	} {
		q := ask()
		q.one = list
		expect(t, q, api.ErrStillRead, "Known", "Suspects")
	}
}

func TestSensorsAgainstAllTemperatures(t *testing.T) {
	d := &dice{3}
	gaps := 0
	for range 4000 {
		s := d.anyStill()
		list := d.readings(s, d.upTo(200), d.upTo(s.Sensors))
		if d.upTo(1) == 0 { // so far apart that there are several possible ones
			for i := range list {
				list[i] = 100 + d.from(-2*s.Error, 2*s.Error)
			}
		}
		possible := oracle{Still: s}.possible(list)
		var suspects []int
		for i, r := range list {
			if !slices.ContainsFunc(possible, func(n int) bool { return r >= n-s.Error && r <= n+s.Error }) {
				suspects = append(suspects, i)
			}
		}
		var want api.Span
		wrong := api.ErrStillRead
		if n := len(possible); n > 0 {
			want, wrong = span(possible[0], possible[n-1]), api.OK
			if want.High-want.Low >= n {
				gaps++
			}
		} else {
			suspects = nil
		}
		k, e := still.Known(s, list)
		l, f := still.Suspects(s, list)
		if k != want || e != wrong || !slices.Equal(l, suspects) || f != wrong {
			t.Fatalf("%v, %v: %v, %d; %v, %d, want %v, %v, %d", s, list, k, e, l, f, want, suspects, wrong)
		}
	}
	if gaps < 50 {
		t.Errorf("only %d times are some temperatures between possible ones impossible", gaps)
	}
}

// P5.8

func TestTheTruthIsKnown(t *testing.T) {
	d := &dice{4}
	for range 4000 {
		s := d.anyStill()
		temp := d.upTo(200)
		list := d.readings(s, temp, s.Failed)
		k, e := still.Known(s, list)
		if e != api.OK || k.Low > temp || k.High < temp || k.High-k.Low > 2*s.Error || k.Low < 0 || k.High > 200 {
			t.Fatalf("%v, %d, %v: %v, %d", s, temp, list, k, e)
		}
		suspects, e := still.Suspects(s, list)
		if e != api.OK || len(suspects) > s.Failed {
			t.Fatalf("%v, %v: %v, %d", s, list, suspects, e)
		}
		for _, i := range suspects {
			if list[i] >= temp-s.Error && list[i] <= temp+s.Error {
				t.Fatalf("%v, %d, %v: the sensor %d has not failed", s, temp, list, i)
			}
		}
	}
}
