package still_test

import (
	"math"
	"slices"
	"strconv"
	"testing"

	"pinaster/api"
	"pinaster/still"
)

// P5.1

// limit is one number of a still, and from where to where it may be.
type limit struct {
	name        string
	at          func(s *api.Still) *int
	least, most int
}

func limits() []limit {
	all := []limit{
		{"margin", func(s *api.Still) *int { return &s.Margin }, 0, 200},
		{"end low", func(s *api.Still) *int { return &s.End.Low }, 0, 130},
		{"end high", func(s *api.Still) *int { return &s.End.High }, 90, 200},
		{"sensors", func(s *api.Still) *int { return &s.Sensors }, 3, 7},
		{"failed", func(s *api.Still) *int { return &s.Failed }, 0, 1},
		{"error", func(s *api.Still) *int { return &s.Error }, 0, 8},
		{"the first vacuum", func(s *api.Still) *int { return &s.Table[0].Vacuum }, 0, 0},
		{"the second vacuum", func(s *api.Still) *int { return &s.Table[1].Vacuum }, 1, 99},
		{"the last vacuum", func(s *api.Still) *int { return &s.Table[2].Vacuum }, 100, 100},
		{"the first flash", func(s *api.Still) *int { return &s.Table[0].Flash }, 140, 200},
		{"the second flash", func(s *api.Still) *int { return &s.Table[1].Flash }, 90, 160},
		{"the last flash", func(s *api.Still) *int { return &s.Table[2].Flash }, 0, 140},
	}
	for i, x := range small().Steps {
		n := " of the step " + strconv.Itoa(i)
		all = append(all,
			limit{"vacuum" + n, func(s *api.Still) *int { return &s.Steps[i].Vacuum }, 0, 100},
			limit{"cold" + n, func(s *api.Still) *int { return &s.Steps[i].Cold }, 0, 200},
			limit{"loss low" + n, func(s *api.Still) *int { return &s.Steps[i].Loss.Low }, 0, x.Loss.High},
			limit{"loss high" + n, func(s *api.Still) *int { return &s.Steps[i].Loss.High }, x.Loss.Low, 60},
		)
	}
	for i, x := range small().Settings {
		n := " of the setting " + strconv.Itoa(i)
		all = append(all,
			limit{"heat low" + n, func(s *api.Still) *int { return &s.Settings[i].Heat.Low }, 0, x.Heat.High},
			limit{"heat high" + n, func(s *api.Still) *int { return &s.Settings[i].Heat.High }, x.Heat.Low, 60},
			limit{"yield" + n, func(s *api.Still) *int { return &s.Settings[i].Yield }, 0, 1000},
		)
	}
	return all
}

func TestCheckLimits(t *testing.T) {
	if e := still.Check(small()); e != api.OK {
		t.Errorf("the example: %d", e)
	}
	for _, x := range limits() {
		for n, want := range map[int]api.Errno{
			x.least: api.OK, x.most: api.OK,
			x.least - 1: api.ErrStill, x.most + 1: api.ErrStill, math.MinInt: api.ErrStill, math.MaxInt: api.ErrStill,
		} {
			s := small()
			*x.at(&s) = n
			if e := still.Check(s); e != want {
				t.Errorf("%s %d: %d, want %d", x.name, n, e, want)
			}
		}
	}
}

func TestCheckSensors(t *testing.T) {
	for sensors := -2; sensors <= 9; sensors++ {
		for _, failed := range append(row(-2, 9), 1<<62, 1<<61, -1<<62, math.MinInt, math.MaxInt) {
			s := small()
			s.Sensors, s.Failed = sensors, failed
			right := sensors >= 1 && sensors <= 7 && failed >= 0 && failed <= 3 && 2*failed < sensors
			if e := still.Check(s); e != api.OK && e != api.ErrStill || (e == api.OK) != right {
				t.Errorf("%d sensors, %d failed: %d", sensors, failed, e)
			}
		}
	}
}

func TestCheckLengths(t *testing.T) {
	for many := range 12 {
		tables, steps, settings := small(), small(), small()
		tables.Table = nil
		for i := range many {
			tables.Table = append(tables.Table, api.StillPoint{Vacuum: 10 * i, Flash: 150})
		}
		if many > 1 {
			tables.Table[many-1].Vacuum = 100
		}
		steps.Steps = slices.Repeat(small().Steps[:1], many)
		settings.Settings = slices.Repeat(small().Settings[:1], many)
		for _, x := range []struct {
			s           api.Still
			name        string
			least, most int
		}{{tables, "points", 2, 6}, {steps, "steps", 1, 8}, {settings, "settings", 1, 4}} {
			if e := still.Check(x.s); (e == api.OK) != (many >= x.least && many <= x.most) || e != api.OK && e != api.ErrStill {
				t.Errorf("%d %s: %d", many, x.name, e)
			}
		}
	}
}

// points are those of a table.
func points(list ...[2]int) []api.StillPoint {
	var all []api.StillPoint
	for _, p := range list {
		all = append(all, api.StillPoint{Vacuum: p[0], Flash: p[1]})
	}
	return all
}

func TestCheckTables(t *testing.T) {
	for i, x := range []struct {
		table [][2]int
		want  api.Errno
	}{
		{[][2]int{{0, 200}, {100, 0}}, api.OK}, {[][2]int{{0, 0}, {100, 0}}, api.OK}, {[][2]int{{0, 200}, {100, 200}}, api.OK},
		{[][2]int{{0, 10}, {1, 10}, {2, 10}, {98, 10}, {99, 10}, {100, 10}}, api.OK},
		{[][2]int{{0, 10}, {100, 11}}, api.ErrStill}, {[][2]int{{0, 201}, {100, 0}}, api.ErrStill}, {[][2]int{{0, 10}, {100, -1}}, api.ErrStill},
		{[][2]int{{0, 10}}, api.ErrStill}, {[][2]int{{100, 10}}, api.ErrStill}, {[][2]int{{100, 10}, {0, 10}}, api.ErrStill},
		{[][2]int{{0, 10}, {0, 10}, {100, 10}}, api.ErrStill}, {[][2]int{{0, 10}, {100, 10}, {100, 10}}, api.ErrStill},
		{[][2]int{{0, 10}, {60, 10}, {50, 10}, {100, 10}}, api.ErrStill}, {[][2]int{{0, 10}, {50, 5}, {60, 6}, {100, 0}}, api.ErrStill},
		{[][2]int{{0, 10}, {101, 10}, {100, 10}}, api.ErrStill}, {[][2]int{{0, 10}, {-1, 10}, {100, 10}}, api.ErrStill},
		{[][2]int{{0, 10}, {99, 10}}, api.ErrStill}, {[][2]int{{1, 10}, {100, 10}}, api.ErrStill},
	} {
		s := small()
		s.Table = points(x.table...)
		if e := still.Check(s); e != x.want {
			t.Errorf("%d: %v: %d", i, x.table, e)
		}
	}
}

// expect checks what the functions with some names answer.
func expect(t *testing.T, q question, want api.Errno, of ...string) {
	t.Helper()
	for i, e := range q.answers() {
		if slices.Contains(of, names[i]) && e != want {
			t.Errorf("%s with %+v: %d, want %d", names[i], q, e, want)
		}
	}
}

func TestErrorOfTheStillComesFirst(t *testing.T) {
	wide, long := small(), small()
	wide.Sensors = math.MaxInt
	wide.Error = math.MaxInt
	long.Steps = make([]api.StillStep, 5000)
	for _, s := range []api.Still{wrongStill(), {}, wide, long} {
		for _, n := range append(slices.Clone(odd), 0, 1, 110, 201) {
			for _, list := range [][]int{nil, {n}, {n, n, n}, make([]int, 5000)} {
				q := question{s, n, n, n, n, span(n, n), list, [][]int{list, list}, list, list}
				expect(t, q, api.ErrStill, names...)
			}
		}
	}
}

func TestErrorsOfStepsTempsAndSettings(t *testing.T) {
	expect(t, ask(), api.OK, names...)
	for _, n := range append(slices.Clone(odd), 2, 3, 8) {
		for _, m := range []int{0, -1, 110, 201, math.MaxInt} {
			q := ask()
			q.step, q.temp, q.setting, q.known, q.one = n, m, m, span(m, -m), []int{m}
			expect(t, q, api.ErrStillStep, "Range", "Next", "Safe", "Setting", "Sure")
			expect(t, q, api.OK, "Check", "Flash")
			q = ask()
			q.setting, q.temp = n, min(max(m, 0), 200)
			expect(t, q, api.ErrStillStep, "Next")
			expect(t, q, api.OK, "Range", "Safe", "Setting")
		}
	}
	for _, n := range append(slices.Clone(odd), 201, 202) {
		q := ask()
		q.temp = n
		expect(t, q, api.ErrStillStep, "Next", "Sure", "Run")
		expect(t, q, api.OK, "Range", "Safe", "Setting", "Flash", "Known", "Suspects")
		q.readings, q.heat, q.loss = nil, []int{n}, []int{n, n, n}
		expect(t, q, api.ErrStillStep, "Run")
	}
	for _, temp := range []int{0, 99, 100, 121, 122, 200} {
		q := ask()
		q.temp = temp
		expect(t, q, api.OK, "Next")
	}
}

func TestWrongSpans(t *testing.T) {
	bad := [][2]int{{-1, 0}, {-1, -1}, {-4, 0}, {200, 201}, {201, 201}, {199, 203}, {5, 4}, {200, 0}, {110, 115}, {0, 5}, {0, 200}, {math.MinInt, math.MaxInt}, {math.MaxInt, math.MinInt}, {0, math.MaxInt}, {math.MinInt, 0}}
	for _, n := range odd {
		bad = append(bad, [2]int{n, n})
	}
	for _, known := range bad {
		q := ask()
		q.known = span(known[0], known[1])
		expect(t, q, api.ErrStillSpan, "Setting")
	}
	for _, known := range [][2]int{{0, 0}, {0, 4}, {200, 200}, {196, 200}, {110, 110}, {110, 114}} {
		q := ask()
		q.known = span(known[0], known[1])
		expect(t, q, api.OK, "Setting")
	}
	for most := range 9 { // an error of each size
		q := ask()
		q.s.Error = most
		q.known = span(30, 30+2*most)
		expect(t, q, api.OK, "Setting")
		q.known.High++
		expect(t, q, api.ErrStillSpan, "Setting")
	}
}
