package still_test

import (
	"math"
	"slices"
	"testing"

	"pinaster/api"
	"pinaster/still"
)

// P5.6

func TestRun(t *testing.T) {
	same := func(n int) []int { return []int{n, n, n} }
	for i, x := range []struct {
		temp            int
		readings        [][]int
		heat, loss      []int
		temps, settings []int
	}{
		{110, [][]int{{110, 111, 150}, {112, 113, 113}}, []int{10, 9}, []int{8, 5}, []int{110, 112, 116}, []int{1, 1}},
		{112, [][]int{{112, 114, 113}, {104, 104, 0}}, []int{0, 12}, []int{8, 5}, []int{112, 104, 111}, []int{0, 1}},
		{110, [][]int{{112, 108, math.MinInt}, {math.MaxInt, 113, 115}}, []int{12, 8}, []int{9, 5}, []int{110, 113, 116}, []int{1, 1}},
		{0, [][]int{same(0), same(3)}, []int{8, 12}, []int{5, 5}, []int{0, 3, 10}, []int{1, 1}}, // out of all ranges
		{0, [][]int{same(0), same(0)}, []int{8, 8}, []int{10, 5}, []int{0, 0, 3}, []int{1, 1}},
		{200, [][]int{same(200), same(200)}, []int{8, 12}, []int{5, 5}, []int{200, 200, 200}, []int{1, 1}},
		{124, [][]int{same(122), same(119)}, []int{0, 8}, []int{5, 5}, []int{124, 119, 122}, []int{0, 1}}, // not safe, but well known
	} {
		temps, settings, e := still.Run(small(), x.temp, x.readings, x.heat, x.loss)
		if !slices.Equal(temps, x.temps) || !slices.Equal(settings, x.settings) || e != api.OK {
			t.Errorf("%d: %v, %v, %d", i, temps, settings, e)
		}
	}
}

func TestWrongRuns(t *testing.T) {
	good, apart, false3, hot := []int{110, 111, 150}, []int{100, 110, 120}, []int{110, 115, 115}, []int{124, 124, 124}
	next := []int{112, 113, 113}
	short, long := []int{110, 111}, []int{110, 111, 110, 110}
	for i, x := range []struct {
		temp       int
		readings   [][]int
		heat, loss []int
		want       api.Errno
	}{
		{201, nil, nil, nil, api.ErrStillStep}, {-1, [][]int{good, next}, []int{10, 9}, []int{8, 5}, api.ErrStillStep},
		{110, nil, []int{10, 9}, []int{8, 5}, api.ErrStillRead}, {110, [][]int{good}, []int{10, 9}, []int{8, 5}, api.ErrStillRead},
		{110, [][]int{good, next, next}, []int{10, 9}, []int{8, 5}, api.ErrStillRead}, {110, [][]int{good}, []int{10}, []int{8}, api.ErrStillRead},
		{110, [][]int{good, next}, []int{10}, []int{8, 5}, api.ErrStillRead}, {110, [][]int{good, next}, []int{10, 9, 9}, []int{8, 5}, api.ErrStillRead}, {110, [][]int{good, next}, nil, []int{8, 5}, api.ErrStillRead},
		{110, [][]int{good, next}, []int{10, 9}, []int{8}, api.ErrStillRead}, {110, [][]int{good, next}, []int{10, 9}, []int{8, 5, 5}, api.ErrStillRead}, {110, [][]int{good, next}, []int{10, 9}, nil, api.ErrStillRead},
		{110, [][]int{good, next}, []int{99}, []int{99, 99}, api.ErrStillRead}, {126, [][]int{hot}, []int{0, 9}, []int{8, 5}, api.ErrStillRead},
		{110, [][]int{apart, next}, []int{10, 9}, []int{8, 5}, api.ErrStillRead}, {110, [][]int{false3, next}, []int{10, 9}, []int{8, 5}, api.ErrStillRead},
		{110, [][]int{short, next}, []int{10, 9}, []int{8, 5}, api.ErrStillRead}, {110, [][]int{long, next}, []int{10, 9}, []int{8, 5}, api.ErrStillRead}, {110, [][]int{nil, next}, []int{10, 9}, []int{8, 5}, api.ErrStillRead},
		{110, [][]int{good, short}, []int{10, 9}, []int{8, 5}, api.ErrStillRead}, {110, [][]int{good, apart}, []int{10, 9}, []int{8, 5}, api.ErrStillRead}, {110, [][]int{good, good}, []int{12, 9}, []int{8, 5}, api.ErrStillRead},
		{110, [][]int{{150, 150, 150}, next}, []int{10, 9}, []int{8, 5}, api.ErrStillRead}, {110, [][]int{hot, next}, []int{99, 9}, []int{8, 5}, api.ErrStillRead},
		{114, [][]int{{110, 114, 118}, {106, 106, 106}}, []int{0, 9}, []int{8, 5}, api.ErrStillRead}, // between two possible ones
		{124, [][]int{hot, next}, []int{0, 9}, []int{8, 5}, api.ErrNone}, {124, [][]int{hot, next}, []int{99, 9}, []int{99, 5}, api.ErrNone}, {124, [][]int{hot, short}, []int{0, 9}, []int{8, 5}, api.ErrNone},
		{110, [][]int{good, next}, []int{13, 9}, []int{8, 5}, api.ErrStillSpan}, {110, [][]int{good, next}, []int{7, 9}, []int{8, 5}, api.ErrStillSpan}, {110, [][]int{good, next}, []int{0, 9}, []int{8, 5}, api.ErrStillSpan},
		{110, [][]int{good, next}, []int{10, 9}, []int{4, 5}, api.ErrStillSpan}, {110, [][]int{good, next}, []int{10, 9}, []int{11, 5}, api.ErrStillSpan},
		{110, [][]int{good, next}, []int{10, 9}, []int{8, 6}, api.ErrStillSpan}, {110, [][]int{good, next}, []int{10, 9}, []int{8, 4}, api.ErrStillSpan}, {110, [][]int{good, next}, []int{10, 13}, []int{8, 5}, api.ErrStillSpan},
		{110, [][]int{good, short}, []int{13, 9}, []int{8, 5}, api.ErrStillSpan}, {110, [][]int{good, next}, []int{math.MaxInt, 9}, []int{8, 5}, api.ErrStillSpan}, {110, [][]int{good, next}, []int{10, 9}, []int{math.MinInt, 5}, api.ErrStillSpan},
	} {
		temps, settings, e := still.Run(small(), x.temp, x.readings, x.heat, x.loss)
		if len(temps)+len(settings) != 0 || e != x.want {
			t.Errorf("%d: %v, %v, %d, want %d", i, temps, settings, e, x.want)
		}
	}
}

// runOf runs a still in its own way.
func (o oracle) runOf(temp int, readings [][]int, heat, loss []int) (temps, settings []int, e api.Errno) {
	temps = append(temps, temp)
	for step := range o.Steps {
		possible := o.possible(readings[step])
		if !slices.Contains(possible, temp) {
			return nil, nil, api.ErrStillRead
		}
		setting := o.choose(o.leads(step), span(possible[0], possible[len(possible)-1]))
		if setting < 0 {
			return nil, nil, api.ErrNone
		}
		h, l := o.Settings[setting].Heat, o.Steps[step].Loss
		if heat[step] < h.Low || heat[step] > h.High || loss[step] < l.Low || loss[step] > l.High {
			return nil, nil, api.ErrStillSpan
		}
		temp = min(max(temp+heat[step]-loss[step], 0), 200)
		temps, settings = append(temps, temp), append(settings, setting)
	}
	return temps, settings, api.OK
}

// day throws a run from a temperature on: mostly one that can be, up to some step.
func (d *dice) day(o oracle, temp int) (readings [][]int, heat, loss []int) {
	for step, x := range o.Steps {
		failed := o.Failed
		if d.upTo(15) == 0 {
			failed = o.Sensors
		}
		list := d.readings(o.Still, temp, failed)
		readings = append(readings, list)
		setting := d.upTo(len(o.Settings) - 1)
		if possible := o.possible(list); len(possible) > 0 && d.upTo(15) > 0 {
			setting = max(0, o.choose(o.leads(step), span(possible[0], possible[len(possible)-1])))
		}
		heat, loss = append(heat, d.in(o.Settings[setting].Heat)), append(loss, d.in(x.Loss))
		temp = min(max(temp+heat[step]-loss[step], 0), 200)
	}
	return readings, heat, loss
}

func TestRunAgainstItsSteps(t *testing.T) {
	d := &dice{8}
	came := map[api.Errno]int{}
	for range 300 {
		o := oracleOf(d.still(d.from(1, 4)))
		temp := d.upTo(200)
		if list := o.list(0); len(list) > 0 && d.upTo(3) > 0 {
			temp = list[d.upTo(len(list)-1)]
		}
		readings, heat, loss := d.day(o, temp)
		wantTemps, wantSettings, want := o.runOf(temp, readings, heat, loss)
		temps, settings, e := still.Run(o.Still, temp, readings, heat, loss)
		if !slices.Equal(temps, wantTemps) || !slices.Equal(settings, wantSettings) || e != want {
			t.Fatalf("%+v, %d, %v, %v, %v: %v, %v, %d, want %v, %v, %d", o.Still, temp, readings, heat, loss, temps, settings, e, wantTemps, wantSettings, want)
		}
		came[e]++
	}
	for _, e := range []api.Errno{api.OK, api.ErrStillRead, api.ErrNone, api.ErrStillSpan} {
		if came[e] < 10 {
			t.Errorf("the error %d came only %d times", e, came[e])
		}
	}
}

// P5.9

func TestNoFlash(t *testing.T) {
	d := &dice{9}
	runs := 0
	for range 300 {
		s := d.still(d.from(1, 6))
		list, _ := still.Safe(s, 0)
		if len(list) == 0 {
			continue
		}
		for range 5 {
			temp := list[d.upTo(len(list)-1)]
			sure, _ := still.Sure(s, 0, temp)
			if yield := d.fires(t, s, temp); yield < sure {
				t.Fatalf("%+v, %d: %d, surely %d", s, temp, yield, sure)
			}
			runs++
		}
	}
	if runs < 500 {
		t.Errorf("only %d runs", runs)
	}
}

// fires goes through a run from a safe temperature as Setting says, and returns what it yields.
func (d *dice) fires(t *testing.T, s api.Still, temp int) int {
	t.Helper()
	now, yield := temp, 0
	var readings [][]int
	var heat, loss, temps, settings []int
	for step, x := range s.Steps {
		between, _ := still.Range(s, step)
		list := d.readings(s, now, s.Failed)
		known, e1 := still.Known(s, list)
		setting, e2 := still.Setting(s, step, known)
		if now < between.Low || now > between.High || e1 != api.OK || e2 != api.OK {
			t.Fatalf("%+v, step %d, %d, %v: %v, %v, %d, %d", s, step, now, list, between, known, e1, e2)
		}
		h, l := d.in(s.Settings[setting].Heat), d.in(x.Loss)
		readings, heat, loss = append(readings, list), append(heat, h), append(loss, l)
		temps, settings = append(temps, now), append(settings, setting)
		now = min(max(now+h-l, 0), 200)
		yield += s.Settings[setting].Yield
	}
	if now < s.End.Low || now > s.End.High {
		t.Fatalf("%+v, %d: the end is %d", s, temp, now)
	}
	gotTemps, gotSettings, e := still.Run(s, temp, readings, heat, loss)
	if !slices.Equal(gotTemps, append(temps, now)) || !slices.Equal(gotSettings, settings) || e != api.OK {
		t.Fatalf("%+v, %d, %v: %v, %v, %d", s, temp, readings, gotTemps, gotSettings, e)
	}
	return yield
}
