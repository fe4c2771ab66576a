package still_test

import (
	"math"
	"reflect"
	"slices"
	"testing"

	"pinaster/api"
	"pinaster/still"
)

// roomy returns a list with room behind it, and all of that room.
func roomy[T any](list []T, canary T) (short, whole []T) {
	whole = append(slices.Clone(list), canary, canary, canary)
	return whole[:len(list)], whole
}

// P5.7

func TestArgumentsAreOnlyRead(t *testing.T) {
	q := ask()
	q.s.Settings = append(q.s.Settings, heat(9, 9, 1), heat(1, 1, 2)) // not by their yields
	table, allTable := roomy(q.s.Table, api.StillPoint{Vacuum: -7})
	steps, allSteps := roomy(q.s.Steps, api.StillStep{Cold: -7})
	settings, allSettings := roomy(q.s.Settings, heat(-7, -7, -7))
	one, allOne := roomy([]int{112, 110, 111}, -7)
	next, allNext := roomy(q.readings[1], -7)
	heats, allHeats := roomy(q.heat, -7)
	losses, allLosses := roomy(q.loss, -7)
	readings, allReadings := roomy([][]int{one, next}, nil)
	lists := [][]int{allOne, allNext, allHeats, allLosses}
	var before [][]int
	for _, list := range lists {
		before = append(before, slices.Clone(list))
	}
	tableBefore, stepsBefore, settingsBefore := slices.Clone(allTable), slices.Clone(allSteps), slices.Clone(allSettings)
	q.s.Table, q.s.Steps, q.s.Settings = table, steps, settings
	q.one, q.readings, q.heat, q.loss = one, readings, heats, losses

	expect(t, q, api.OK, names...)

	for i, now := range lists {
		if !slices.Equal(now, before[i]) {
			t.Errorf("the list %d: %v, was %v", i, now, before[i])
		}
	}
	if !slices.Equal(allTable, tableBefore) || !slices.Equal(allSteps, stepsBefore) || !slices.Equal(allSettings, settingsBefore) {
		t.Errorf("the still: %v, %v, %v", allTable, allSteps, allSettings)
	}
	if !reflect.DeepEqual(allReadings, [][]int{before[0][:3], before[1][:3], nil, nil, nil}) {
		t.Errorf("the readings: %v", allReadings)
	}
}

func TestResultsAreNew(t *testing.T) {
	q := ask()
	lists := func() [][]int {
		suspects, _ := still.Suspects(q.s, q.one)
		safe, _ := still.Safe(q.s, 0)
		temps, settings, _ := still.Run(q.s, q.temp, q.readings, q.heat, q.loss)
		return [][]int{suspects, safe, temps, settings}
	}
	want := lists()
	for i := range want {
		first := lists()
		if len(first[i]) == 0 {
			t.Errorf("the result %d is empty", i)
		}
		for k := range first[i][:cap(first[i])] { // also the room behind it
			first[i][:cap(first[i])][k] = -9
		}
		for k, list := range first { // no two lists of one result share memory
			if k != i && !slices.Equal(list, want[k]) {
				t.Errorf("the results %d and %d share memory: %v", i, k, list)
			}
		}
		if again := lists(); !reflect.DeepEqual(again, want) {
			t.Errorf("the result %d is kept: %v", i, again)
		}
	}
	if !reflect.DeepEqual(q, ask()) {
		t.Errorf("the arguments share memory with results: %+v", q)
	}
}

// P2

func TestSameArgumentsSameResults(t *testing.T) {
	d := &dice{10}
	results := func(s api.Still, temp int, known api.Span, readings [][]int, heat, loss []int) []any {
		safe, e1 := still.Safe(s, 0)
		setting, e2 := still.Setting(s, 0, known)
		sure, e3 := still.Sure(s, 0, temp)
		temps, settings, e4 := still.Run(s, temp, readings, heat, loss)
		return []any{safe, setting, sure, temps, settings, e1, e2, e3, e4}
	}
	for range 50 {
		o, other := oracleOf(d.still(3)), d.still(3)
		temp, known := d.upTo(200), d.near(0, 200, 2*o.Error)
		if list := o.list(0); len(list) > 0 {
			temp = list[0]
		}
		readings, heat, loss := d.day(o, temp)
		first := results(o.Still, temp, known, readings, heat, loss)
		results(other, temp, known, readings, heat, loss)
		if again := results(o.Still, temp, known, readings, heat, loss); !reflect.DeepEqual(first, again) {
			t.Fatalf("%v, and then %v", first, again)
		}
	}
}

// R3

func TestNilAndEmpty(t *testing.T) {
	for _, list := range [][]int{nil, {}} {
		for _, readings := range [][][]int{nil, {}, {nil, nil}, {{}, {}}} {
			q := ask()
			q.one, q.readings, q.heat, q.loss = list, readings, list, list
			expect(t, q, api.ErrStillRead, "Known", "Suspects", "Run")
			q.heat, q.loss = ask().heat, ask().loss
			expect(t, q, api.ErrStillRead, "Known", "Suspects", "Run")
		}
	}
	for i := range 3 {
		for _, empty := range []bool{false, true} {
			q := ask()
			switch {
			case i == 0 && empty:
				q.s.Table = []api.StillPoint{}
			case i == 0:
				q.s.Table = nil
			case i == 1 && empty:
				q.s.Steps = []api.StillStep{}
			case i == 1:
				q.s.Steps = nil
			case empty:
				q.s.Settings = []api.StillSetting{}
			default:
				q.s.Settings = nil
			}
			expect(t, q, api.ErrStill, names...)
		}
	}
}

// P1

func TestGreatestStills(t *testing.T) {
	greatest := level(200, span(0, 60), span(0, 200), heat(0, 60, 1000), heat(0, 60, 1000), heat(0, 60, 1000), heat(0, 60, 1000))
	greatest.Steps = slices.Repeat(greatest.Steps, 8)
	greatest.Sensors, greatest.Failed, greatest.Error = 7, 3, 8
	if list, e := still.Safe(greatest, 0); len(list) != 201 || e != api.OK {
		t.Errorf("%v, %d", list, e)
	}
	if n, e := still.Sure(greatest, 0, 100); n != 8000 || e != api.OK {
		t.Errorf("%d, %d", n, e)
	}
	one := []int{math.MinInt, 100, 100, math.MaxInt, 100, 0, 100}
	eight := slices.Repeat([]int{60}, 8)
	temps, settings, e := still.Run(greatest, 100, slices.Repeat([][]int{one}, 8), eight, eight)
	if !slices.Equal(temps, slices.Repeat([]int{100}, 9)) || !slices.Equal(settings, make([]int, 8)) || e != api.OK {
		t.Errorf("%v, %v, %d", temps, settings, e)
	}
}

func TestAnyStill(t *testing.T) {
	d := &dice{11}
	for range 300 {
		s := d.anyStill()
		step, temp := d.upTo(len(s.Steps)-1), d.upTo(200)
		q := question{s, d.upTo(100), step, temp, d.upTo(len(s.Settings) - 1), span(temp, temp), d.readings(s, temp, s.Failed), nil, nil, nil}
		for range s.Steps {
			q.readings = append(q.readings, d.readings(s, temp, s.Failed))
			q.heat, q.loss = append(q.heat, d.upTo(60)), append(q.loss, d.upTo(60))
		}
		expect(t, q, api.OK, "Check", "Flash", "Range", "Known", "Suspects", "Next", "Safe")
		if answers := q.answers(); slices.Contains(answers, -1) {
			t.Fatalf("%+v: %v", q, answers)
		}
	}
}
