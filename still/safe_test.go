package still_test

import (
	"slices"
	"testing"

	"pinaster/api"
	"pinaster/still"
)

// forked is a still from whose middle neither setting leads to the end.
func forked() api.Still {
	return level(200, span(20, 20), span(100, 120), heat(0, 0, 1), heat(40, 40, 2))
}

func withError(s api.Still, most int) api.Still {
	s.Error = most
	return s
}

// P5.4

func TestSafe(t *testing.T) {
	cold, narrow, closed, early := small(), small(), small(), small()
	cold.Settings = cold.Settings[:1]
	narrow.End = span(90, 100)
	closed.Steps[1].Cold = 121
	early.Steps[0].Cold, early.Margin = 0, 0
	falls := level(200, span(60, 60), span(0, 0), heat(0, 0, 0))
	rises := level(200, span(0, 0), span(200, 200), heat(60, 60, 0))
	all := level(200, span(0, 60), span(0, 200), heat(0, 60, 0))
	for i, x := range []struct {
		s    api.Still
		step int
		want []int
	}{
		{small(), 1, row(95, 120)}, {small(), 0, row(100, 121)},
		{withError(small(), 8), 1, row(95, 120)}, {withError(small(), 8), 0, nil},
		{withError(small(), 0), 0, row(100, 125)},
		{cold, 1, row(95, 120)}, {cold, 0, row(109, 121)},
		{narrow, 1, row(95, 101)}, {closed, 1, nil}, {closed, 0, nil},
		{early, 1, row(95, 130)}, {early, 0, row(101, 131)},
		{forked(), 0, append(row(80, 100), row(120, 140)...)},
		{withError(forked(), 2), 0, append(row(84, 96), row(124, 136)...)},
		{withError(forked(), 5), 0, append(row(90, 90), row(130, 130)...)},
		{withError(forked(), 6), 0, nil},
		{falls, 0, row(0, 60)}, {withError(falls, 2), 0, row(0, 56)}, {rises, 0, row(140, 200)}, {withError(rises, 2), 0, row(144, 200)},
		{all, 0, row(0, 200)}, {withError(all, 8), 0, row(0, 200)},
	} {
		if l, e := still.Safe(x.s, x.step); !slices.Equal(l, x.want) || e != api.OK {
			t.Errorf("%d: %v, %d, want %v", i, l, e, x.want)
		}
	}
}

// P5.5

func TestSetting(t *testing.T) {
	wide := small()
	wide.End = span(90, 120)
	equal := level(200, span(0, 0), span(0, 200), heat(5, 5, 7), heat(0, 0, 9), heat(1, 1, 9), heat(2, 2, 8))
	nothing := level(200, span(0, 0), span(0, 200), heat(5, 5, 0), heat(6, 6, 0))
	hot := small()
	hot.Steps[1].Cold = 200
	for i, x := range []struct {
		s     api.Still
		step  int
		known api.Span
		want  int
		e     api.Errno
	}{
		{small(), 0, span(110, 112), 1, api.OK}, {small(), 1, span(118, 120), 1, api.OK},
		{small(), 0, span(109, 113), 1, api.OK}, {small(), 0, span(110, 114), 0, api.OK}, {small(), 0, span(114, 114), 0, api.OK}, {small(), 0, span(113, 113), 1, api.OK},
		{small(), 0, span(121, 125), 0, api.OK}, {small(), 0, span(122, 126), 0, api.ErrNone}, {small(), 0, span(126, 126), 0, api.ErrNone}, {small(), 0, span(125, 125), 0, api.OK},
		{small(), 0, span(0, 4), 1, api.OK}, {small(), 0, span(196, 200), 1, api.OK}, {small(), 0, span(143, 147), 1, api.OK}, {small(), 0, span(142, 146), 0, api.ErrNone}, // out of the range all hold
		{small(), 0, span(96, 100), 1, api.OK}, {small(), 0, span(99, 99), 1, api.OK},
		{wide, 1, span(113, 117), 0, api.OK}, {wide, 1, span(109, 113), 1, api.OK}, {wide, 1, span(114, 114), 0, api.OK},
		{equal, 0, span(100, 100), 1, api.OK}, {nothing, 0, span(0, 0), 0, api.OK},
		{hot, 0, span(100, 101), 0, api.ErrNone}, {hot, 0, span(99, 99), 1, api.OK}, {hot, 1, span(100, 104), 1, api.OK},
		{forked(), 0, span(100, 100), 1, api.OK}, {forked(), 0, span(101, 101), 0, api.ErrNone}, {forked(), 0, span(120, 120), 0, api.OK},
	} {
		if n, e := still.Setting(x.s, x.step, x.known); n != x.want || e != x.e {
			t.Errorf("%d: %d, %d, want %d, %d", i, n, e, x.want, x.e)
		}
	}
}

func TestSure(t *testing.T) {
	wide := small()
	wide.End = span(90, 120)
	most := level(200, span(0, 0), span(0, 200), heat(0, 0, 1000))
	most.Steps = slices.Repeat(most.Steps, 8)
	// The setting that yields more leads to where less is yielded then.
	greedy := level(200, span(0, 0), span(100, 120), heat(0, 0, 1), heat(20, 20, 4), heat(10, 10, 9))
	greedy.Steps = slices.Repeat(greedy.Steps, 2)
	// Whoever knows 58 alone takes the last setting, and must take the first one then; whoever knows less takes the first one, and the second one then.
	clever := level(200, span(60, 60), span(48, 52), heat(0, 0, 1), heat(48, 48, 9), heat(52, 52, 2))
	clever.Steps, clever.Error = append(clever.Steps, api.StillStep{}), 1
	for i, x := range []struct {
		s                api.Still
		step, temp, want int
		e                api.Errno
	}{
		{small(), 0, 109, 6, api.OK}, {small(), 0, 110, 3, api.OK}, {small(), 0, 121, 3, api.OK}, {small(), 0, 100, 6, api.OK}, {small(), 1, 120, 3, api.OK},
		{small(), 0, 122, 0, api.ErrNone}, {small(), 0, 99, 0, api.ErrNone}, {small(), 0, 0, 0, api.ErrNone}, {small(), 0, 200, 0, api.ErrNone}, {small(), 1, 121, 0, api.ErrNone}, {small(), 1, 94, 0, api.ErrNone},
		{wide, 1, 109, 3, api.OK}, {wide, 1, 110, 0, api.OK}, {wide, 1, 120, 0, api.OK},
		{withError(small(), 0), 0, 113, 6, api.OK}, {withError(small(), 0), 0, 114, 3, api.OK},
		{most, 0, 200, 8000, api.OK}, {most, 0, 0, 8000, api.OK}, {most, 7, 50, 1000, api.OK}, {withError(most, 8), 0, 100, 8000, api.OK},
		{greedy, 1, 100, 9, api.OK}, {greedy, 1, 110, 9, api.OK}, {greedy, 1, 111, 1, api.OK}, {greedy, 1, 99, 9, api.OK}, {greedy, 1, 89, 4, api.OK},
		{greedy, 0, 100, 18, api.OK}, {greedy, 0, 101, 10, api.OK}, {greedy, 0, 80, 18, api.OK}, {greedy, 0, 110, 10, api.OK}, {greedy, 0, 111, 2, api.OK}, {greedy, 0, 70, 13, api.OK}, {greedy, 0, 69, 8, api.OK}, {greedy, 0, 59, 0, api.ErrNone},
		{clever, 0, 58, 3, api.OK}, {clever, 0, 57, 10, api.OK}, {clever, 1, 50, 1, api.OK}, {clever, 1, 0, 9, api.OK},
		{withError(greedy, 1), 0, 99, 10, api.OK}, {withError(greedy, 1), 1, 109, 1, api.OK}, {withError(greedy, 1), 1, 108, 9, api.OK},
	} {
		if n, e := still.Sure(x.s, x.step, x.temp); n != x.want || e != x.e {
			t.Errorf("%d: %d, %d, want %d, %d", i, n, e, x.want, x.e)
		}
	}
}

// P5.4, P5.5

func TestSafeSettingAndSureAgainstAll(t *testing.T) {
	d := &dice{5}
	empty, holes, lowest, hottest, none, several := 0, 0, 0, 0, 0, 0
	for range 250 {
		s := d.still(d.from(1, 4))
		o := oracleOf(s)
		for step := range s.Steps {
			list, e := still.Safe(s, step)
			if want := o.list(step); !slices.Equal(list, want) || e != api.OK {
				t.Fatalf("%+v, step %d: %v, %d, want %v", s, step, list, e, want)
			}
			leads := o.leads(step)
			for range 20 {
				known := d.near(0, 200, 2*s.Error)
				want, wrong := o.choose(leads, known), api.OK
				if want < 0 {
					want, wrong = 0, api.ErrNone
					none++
				}
				if n, e := still.Setting(s, step, known); n != want || e != wrong {
					t.Fatalf("%+v, step %d, %v: %d, %d, want %d, %d", s, step, known, n, e, want, wrong)
				}
			}
			sures := map[int]bool{}
			for range 10 {
				temp := d.upTo(200)
				if len(list) > 0 && d.upTo(4) > 0 {
					temp = list[d.upTo(len(list)-1)]
				}
				want, wrong := o.sure[step][temp], api.OK
				if !o.safe[step][temp] {
					wrong = api.ErrNone
				}
				n, e := still.Sure(s, step, temp)
				if n != want || e != wrong {
					t.Fatalf("%+v, step %d, %d: %d, %d, want %d, %d", s, step, temp, n, e, want, wrong)
				}
				sures[n] = true
			}
			if len(list) == 0 {
				empty++
				continue
			}
			first, last := list[0], list[len(list)-1]
			holes += oneIf(last-first >= len(list))
			lowest += oneIf(first == 0)
			hottest += oneIf(last == 200)
			several += oneIf(len(sures) > 2)
		}
	}
	for i, n := range []int{empty, holes, lowest, hottest, none, several} {
		if n < 10 {
			t.Errorf("the case %d came only %d times", i, n)
		}
	}
}

func oneIf(is bool) int {
	if is {
		return 1
	}
	return 0
}

// narrower throws a still with less error, and with spans of heat and loss that lie in those of a still.
func (d *dice) narrower(s api.Still) api.Still {
	s = clone(s)
	s.Error = d.upTo(s.Error)
	for i, x := range s.Steps {
		s.Steps[i].Loss = d.span(x.Loss.Low, x.Loss.High)
	}
	for i, x := range s.Settings {
		s.Settings[i].Heat = d.span(x.Heat.Low, x.Heat.High)
	}
	return s
}

// P5.10

func TestKnowingMoreLosesNothingSafe(t *testing.T) {
	d := &dice{6}
	more := 0
	for range 300 {
		s := d.still(d.from(1, 5))
		n := d.narrower(s)
		for step := range s.Steps {
			before, _ := still.Safe(s, step)
			after, _ := still.Safe(n, step)
			for _, temp := range before {
				if !slices.Contains(after, temp) {
					t.Fatalf("%+v, %+v, step %d: %d is lost", s, n, step, temp)
				}
			}
			more += oneIf(len(before) > 0 && len(after) > len(before))
		}
	}
	if more < 20 {
		t.Errorf("only %d times more is safe", more)
	}
}

// P5.11

func TestWhatIsNotSafeHasASpanWithoutASetting(t *testing.T) {
	d := &dice{7}
	unsafe := 0
	for range 40 {
		s := d.still(d.from(1, 3))
		o := oracle{Still: s}
		step := d.upTo(len(s.Steps) - 1)
		list, _ := still.Safe(s, step)
		for temp := range 201 {
			if !o.inRange(step, temp) {
				if slices.Contains(list, temp) {
					t.Fatalf("%+v, step %d: %d is out of the range", s, step, temp)
				}
				continue
			}
			if bad := hasBadSpan(s, step, temp); bad == slices.Contains(list, temp) {
				t.Fatalf("%+v, step %d, %d: is there a span for which no setting holds? %v", s, step, temp, bad)
			} else if bad {
				unsafe++
			}
		}
	}
	if unsafe < 100 {
		t.Errorf("only %d are not safe", unsafe)
	}
}

// hasBadSpan reports whether no setting holds some span of temperatures with a temperature.
func hasBadSpan(s api.Still, step, temp int) bool {
	for low := max(0, temp-2*s.Error); low <= temp; low++ {
		for high := temp; high <= min(200, low+2*s.Error); high++ {
			if _, e := still.Setting(s, step, span(low, high)); e == api.ErrNone {
				return true
			}
		}
	}
	return false
}
