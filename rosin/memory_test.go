package rosin_test

import (
	"reflect"
	"slices"
	"strconv"
	"testing"

	"pinaster/api"
	"pinaster/rosin"
)

// roomy returns a list with room behind it, and all of that room.
func roomy[T any](list []T, canary T) (short, whole []T) {
	whole = append(slices.Clone(list), canary, canary, canary)
	return whole[:len(list)], whole
}

// P7.7

func TestArgumentsAreOnlyRead(t *testing.T) {
	q := ask()
	var allGrades []api.RosinGrade
	var allTests []api.RosinTest
	var allBatches []api.RosinBatch
	var allDrums []int
	none, test, batch := grade("no", -7, -7, -7, -7, -7, -7), test(-7, -7, -7), api.RosinBatch{Drums: -7}
	q.l, allGrades = roomy(q.l, none)
	q.t, allTests = roomy(q.t, test)
	q.b, allBatches = roomy(q.b, batch)
	q.drums, allDrums = roomy(q.drums, -7)

	expect(t, q, api.OK, names...)

	if !slices.Equal(allGrades, append(grades(), none, none, none)) || !slices.Equal(allTests, append(tests(), test, test, test)) {
		t.Errorf("the grades: %v, and the tests: %v", allGrades, allTests)
	}
	if !slices.Equal(allBatches, append(batches(), batch, batch, batch)) || !slices.Equal(allDrums, []int{2, 1, -7, -7, -7}) {
		t.Errorf("the batches: %v, and the drums: %v", allBatches, allDrums)
	}
}

func TestResultsAreNew(t *testing.T) {
	q := ask()
	lists := func() [][]int {
		list, _ := rosin.Grades(q.l, q.t)
		blend, _, _ := rosin.Blend(q.l, q.grade, q.b, q.many)
		_, best, _, _ := rosin.Profit(q.l, q.b, q.many)
		return [][]int{list, blend, best}
	}
	want := lists()
	for i := range want {
		first := lists()
		for k := range first[i][:cap(first[i])] { // also the room behind it
			first[i][:cap(first[i])][k] = -9
		}
		if again := lists(); !reflect.DeepEqual(again, want) {
			t.Errorf("the result %d is kept: %v", i, again)
		}
	}
	if !reflect.DeepEqual(q, ask()) {
		t.Errorf("the arguments share memory with results: %+v", q)
	}
}

// P2

func TestSameArgumentsSameResults(t *testing.T) {
	d := &dice{9}
	results := func(l []api.RosinGrade, x []api.RosinTest, b []api.RosinBatch) []any {
		list, e1 := rosin.Grades(l, x)
		part, n, e2 := rosin.Settle(l, x, 5)
		drums, cost, e3 := rosin.Blend(l, len(l)-1, b, 4)
		k, best, gain, e4 := rosin.Profit(l, b, 4)
		return []any{list, part, n, drums, cost, k, best, gain, e1, e2, e3, e4}
	}
	for range 200 {
		r := d.row()
		l, x, b := d.grades(8, r, 20), d.tests(3, r, 50), d.batches(4, 5, r, 9, 5)
		first := results(l, x, b)
		results(d.grades(7, r, 20), d.tests(5, r, 50), d.batches(5, 4, r, 9, 5))
		if again := results(l, x, b); !reflect.DeepEqual(first, again) {
			t.Fatalf("%v, and then %v", first, again)
		}
	}
}

// R3

func TestNilAndEmpty(t *testing.T) {
	for _, empty := range []bool{false, true} {
		q := ask()
		q.t = nil
		if empty {
			q.t = []api.RosinTest{}
		}
		if list, e := rosin.Grades(q.l, q.t); !slices.Equal(list, []int{0, 1, 2}) || e != api.OK {
			t.Errorf("no tests: %v, %d", list, e)
		}
		expect(t, q, api.OK, names...)
		q.drums = nil
		if empty {
			q.drums = []int{}
		}
		expect(t, q, api.ErrRosinBatch, "Mix", "Meets")
		q.b = nil
		if empty {
			q.b = []api.RosinBatch{}
		}
		expect(t, q, api.ErrRosinBatch, "Mix", "Meets", "Blend", "Profit")
		q.l = nil
		if empty {
			q.l = []api.RosinGrade{}
		}
		expect(t, q, api.ErrRosin, "Check", "Grade", "Grades", "Settle", "Meets", "Blend", "Profit")
	}
}

// P1

func TestGreatestGradesAndBatches(t *testing.T) {
	var l []api.RosinGrade
	for i := range 8 { // all limits are different
		l = append(l, grade("g"+strconv.Itoa(i), 100+110*i, 900-110*i, 1000+110*i, 290-40*i, 100+110*i, 10000-i))
	}
	if list, e := rosin.Grades(l, nil); !slices.Equal(list, []int{0, 1, 2, 3, 4, 5, 6, 7, 8}) || e != api.OK {
		t.Errorf("%v, %d", list, e)
	}
	for _, wrong := range []int{0, 1, 100} {
		if part, n, e := rosin.Settle(l, nil, wrong); part != 0 || n != 9 || e != api.OK {
			t.Errorf("wrong by %d: %d, %d, %d", wrong, part, n, e)
		}
	}
	whole := spread(span(0, 1000), span(0, 2000), span(0, 300), span(0, 1000))
	b := slices.Repeat([]api.RosinBatch{{Quality: whole, Drums: 12, Cost: 10000}}, 5)
	for many := 1; many <= 12; many++ {
		want := []int{0, 0, 0, 0, many}
		if drums, cost, e := rosin.Blend(free(0), 0, b, many); !slices.Equal(drums, want) || cost != 10000*many || e != api.OK {
			t.Errorf("%d: %v, %d, %d", many, drums, cost, e)
		}
		if k, drums, gain, e := rosin.Profit(free(0), b, many); k != 0 || !slices.Equal(drums, want) || gain != -10000*many || e != api.OK {
			t.Errorf("%d: %d, %v, %d, %d", many, k, drums, gain, e)
		}
		if _, _, e := rosin.Blend(l, 7, b, many); e != api.ErrNone {
			t.Errorf("%d: %d", many, e)
		}
		if s, e := rosin.Mix(b, want); s != whole || e != api.OK {
			t.Errorf("%d: %v, %d", many, s, e)
		}
	}
}

func TestAnyQuestion(t *testing.T) {
	d := &dice{10}
	for range 2000 {
		r := d.row()
		q := question{d.grades(d.from(1, 8), r, 100), d.row().quality(), d.tests(d.upTo(12), r, 100), d.upTo(100), 0, d.batches(d.from(1, 5), 12, r, 100, 100), nil, d.from(1, 12)}
		q.grade, q.drums = d.upTo(len(q.l)-1), d.drums(q.b)
		expect(t, q, api.OK, "Check", "Grade", "Tell", "Grades", "Settle")
		if q.drums != nil {
			expect(t, q, api.OK, "Mix", "Meets")
		}
		if answers := q.answers(); slices.Contains(answers, -1) {
			t.Fatalf("%+v: %v", q, answers)
		}
	}
}
