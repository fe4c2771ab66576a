package rosin_test

import (
	"math"
	"slices"
	"strconv"
	"strings"
	"testing"

	"pinaster/api"
	"pinaster/rosin"
)

// limit is one number of a question, and from where to where it may be.
type limit struct {
	name        string
	at          func(q *question) *int
	least, most int
}

func gradeLimits() []limit {
	all := []limit{
		{"the first price", func(q *question) *int { return &q.l[0].Price }, 60, 10000},
		{"the last price", func(q *question) *int { return &q.l[1].Price }, 0, 90},
	}
	for i, g := range grades() {
		n := " of the grade " + strconv.Itoa(i)
		all = append(all,
			limit{"glass" + n, func(q *question) *int { return &q.l[i].Glass }, 0, 1000},
			limit{"soft low" + n, func(q *question) *int { return &q.l[i].Soft.Low }, 0, g.Soft.High},
			limit{"soft high" + n, func(q *question) *int { return &q.l[i].Soft.High }, g.Soft.Low, 2000},
			limit{"acid" + n, func(q *question) *int { return &q.l[i].Acid }, 0, 300},
			limit{"dirt" + n, func(q *question) *int { return &q.l[i].Dirt }, 0, 1000},
		)
	}
	return all
}

func qualityLimits() []limit {
	return []limit{
		{"glass", func(q *question) *int { return &q.q.Glass }, 0, 1000},
		{"soft", func(q *question) *int { return &q.q.Soft }, 0, 2000},
		{"acid", func(q *question) *int { return &q.q.Acid }, 0, 300},
		{"dirt", func(q *question) *int { return &q.q.Dirt }, 0, 1000},
	}
}

func testLimits() []limit {
	return []limit{
		{"part of the first test", func(q *question) *int { return &q.t[0].Part }, 0, 3},
		{"part of the last test", func(q *question) *int { return &q.t[1].Part }, 0, 3},
		{"read of the first test", func(q *question) *int { return &q.t[0].Read }, 0, 2000},
		{"wrong of the first test", func(q *question) *int { return &q.t[0].Wrong }, 0, 100},
		{"wrong of the last test", func(q *question) *int { return &q.t[1].Wrong }, 0, 100},
	}
}

func batchLimits() []limit {
	var all []limit
	for i, b := range batches() {
		n := " of the batch " + strconv.Itoa(i)
		all = append(all,
			limit{"drums" + n, func(q *question) *int { return &q.b[i].Drums }, 0, 12},
			limit{"cost" + n, func(q *question) *int { return &q.b[i].Cost }, 0, 10000},
		)
		for part, s := range spansOf(b.Quality) {
			at := func(q *question) *api.Span {
				of := &q.b[i].Quality
				return []*api.Span{&of.Glass, &of.Soft, &of.Acid, &of.Dirt}[part]
			}
			all = append(all,
				limit{"low of the part " + strconv.Itoa(part) + n, func(q *question) *int { return &at(q).Low }, 0, s.High},
				limit{"high of the part " + strconv.Itoa(part) + n, func(q *question) *int { return &at(q).High }, s.Low, most[part]},
			)
		}
	}
	return all
}

func checkLimits(t *testing.T, limits []limit, ask func() question, wrong api.Errno, of ...string) {
	t.Helper()
	for _, x := range limits {
		for n, want := range map[int]api.Errno{
			x.least: api.OK, x.most: api.OK,
			x.least - 1: wrong, x.most + 1: wrong, math.MinInt: wrong, math.MaxInt: wrong,
		} {
			q := ask()
			*x.at(&q) = n
			for i, e := range q.answers() {
				if slices.Contains(of, names[i]) && e != want {
					t.Errorf("%s %d: %s: %d, want %d", x.name, n, names[i], e, want)
				}
			}
		}
	}
}

// P7.1

func TestLimitsOfGradesAndQualities(t *testing.T) {
	checkLimits(t, gradeLimits(), ask, api.ErrRosin, "Check", "Grade", "Grades", "Settle", "Meets")
	checkLimits(t, qualityLimits(), ask, api.ErrRange, "Grade")
}

// P7.2

func TestLimitsOfTests(t *testing.T) {
	with := func(t ...api.RosinTest) func() question {
		return func() question {
			q := ask()
			q.t = slices.Clone(t)
			return q
		}
	}
	of := []string{"Tell", "Grades", "Settle"}
	checkLimits(t, testLimits()[:2], with(test(1, 200, 50), test(1, 200, 50)), api.ErrRosinTest, of...)
	checkLimits(t, testLimits()[2:], with(test(1, 200, 50), test(0, 10, 5)), api.ErrRosinTest, of...) // they do not clash, whatever they read
}

// P7.4, P7.5, P7.6

func TestLimitsOfBatches(t *testing.T) {
	any := func() question {
		q := ask()
		q.l, q.many = free(5), 1
		return q
	}
	checkLimits(t, batchLimits(), any, api.ErrRosinBatch, "Blend", "Profit")
	full := func() question { // all drums may be in the blend
		q := any()
		q.drums = []int{0, 1}
		return q
	}
	checkLimits(t, batchLimits()[:10], full, api.ErrRosinBatch, "Mix", "Meets")
	full = func() question {
		q := any()
		q.drums = []int{1, 0}
		return q
	}
	checkLimits(t, batchLimits()[10:], full, api.ErrRosinBatch, "Mix", "Meets")
}

func TestLengths(t *testing.T) {
	for many := range 20 {
		q := ask()
		q.l, q.t, q.b = (&dice{1}).grades(many, row{}, 9), make([]api.RosinTest, many), make([]api.RosinBatch, many)
		want := func(least, most int, wrong api.Errno) api.Errno {
			if many >= least && many <= most {
				return api.OK
			}
			return wrong
		}
		if e := rosin.Check(q.l); e != want(1, 8, api.ErrRosin) {
			t.Errorf("%d grades: %d", many, e)
		}
		if _, e := rosin.Tell(q.t); e != want(0, 12, api.ErrRosinTest) {
			t.Errorf("%d tests: %d", many, e)
		}
		if _, _, e := rosin.Settle(grades(), q.t, 0); e != want(0, 12, api.ErrRosinTest) {
			t.Errorf("Settle with %d tests: %d", many, e)
		}
		for i := range q.b {
			q.b[i].Drums = 1
		}
		if _, _, e := rosin.Blend(free(0), 0, q.b, 1); e != want(1, 5, api.ErrRosinBatch) {
			t.Errorf("%d batches: %d", many, e)
		}
		drums := make([]int, many)
		if many > 0 {
			drums[many-1] = 1
		}
		if _, e := rosin.Mix(q.b, drums); e != want(1, 5, api.ErrRosinBatch) {
			t.Errorf("a blend of %d batches: %d", many, e)
		}
	}
}

func TestNames(t *testing.T) {
	for name, want := range map[string]api.Errno{
		"a": api.OK, "a-1": api.OK, "nn": api.OK, strings.Repeat("z", 16): api.OK,
		"n": api.ErrRosin, "": api.ErrRosin, "1a": api.ErrRosin, "-": api.ErrRosin, "X": api.ErrRosin, "a b": api.ErrRosin, "ä": api.ErrRosin, strings.Repeat("z", 17): api.ErrRosin,
	} {
		for i := range 2 {
			l := grades()
			l[0].Name, l[1].Name = "n", "n"
			l[i].Name = name
			if e := rosin.Check(l); e != want {
				t.Errorf("%q: %d", name, e)
			}
		}
	}
	l := append(grades(), grade("x", 0, 0, 0, 0, 0, 0))
	if e := rosin.Check(l); e != api.ErrRosin {
		t.Errorf("the same names of the first and the last one: %d", e)
	}
}

func TestPrices(t *testing.T) {
	for i, x := range []struct {
		prices []int
		want   api.Errno
	}{
		{[]int{10000}, api.OK}, {[]int{10001}, api.ErrRosin}, {[]int{0, 0, 0}, api.OK}, {[]int{10000, 10000, 0}, api.OK}, {[]int{5, 4, 3, 3}, api.OK},
		{[]int{5, 6}, api.ErrRosin}, {[]int{9, 5, 6}, api.ErrRosin}, {[]int{9, 5, 4, 5}, api.ErrRosin}, {[]int{0, -1}, api.ErrRosin}, {[]int{-1}, api.ErrRosin},
	} {
		var l []api.RosinGrade
		for k, price := range x.prices {
			l = append(l, grade("g"+strconv.Itoa(k), 0, 0, 0, 0, 0, price))
		}
		if e := rosin.Check(l); e != x.want {
			t.Errorf("%d: %v: %d", i, x.prices, e)
		}
	}
}

// expect checks what the functions with some names answer.
func expect(t *testing.T, q question, want api.Errno, of ...string) {
	t.Helper()
	for i, e := range q.answers() {
		if slices.Contains(of, names[i]) && e != want {
			t.Errorf("%s with %+v: %d, want %d", names[i], q, e, want)
		}
	}
}

func wrongGrades() [][]api.RosinGrade {
	same, back, dear := grades(), grades(), grades()
	same[1].Name = "x"
	back[1].Soft = span(651, 650)
	dear[1].Price = 91
	return [][]api.RosinGrade{nil, same, back, dear, make([]api.RosinGrade, 5000), {{Soft: span(math.MaxInt, math.MinInt)}}}
}

func wrongBatches() [][]api.RosinBatch {
	back, dear, odd := batches(), batches(), batches()
	back[1].Quality.Soft = span(700, 699)
	dear[0].Cost = 10001
	odd[1].Drums = math.MaxInt
	return [][]api.RosinBatch{nil, back, dear, odd, make([]api.RosinBatch, 6), make([]api.RosinBatch, 5000)}
}

// P7.1 to P7.6

func TestErrorOfTheGradesComesFirst(t *testing.T) {
	expect(t, ask(), api.OK, names...)
	for _, l := range wrongGrades() {
		for _, n := range append(slices.Clone(odd), 0, 2, 3, 13) {
			for _, list := range [][]int{nil, {n}, {n, n}, {n, n, n}} {
				q := question{l, row{n, n, n, n}.quality(), []api.RosinTest{test(n, n, n)}, n, n, []api.RosinBatch{{Drums: n}}, list, n}
				expect(t, q, api.ErrRosin, "Check", "Grade", "Grades", "Settle", "Meets", "Blend", "Profit")
				q.t, q.b = []api.RosinTest{test(0, 1, 0), test(0, 2, 0)}, batches()
				expect(t, q, api.ErrRosin, "Grades", "Settle", "Meets", "Blend", "Profit")
			}
		}
	}
}

func TestErrorsOfTests(t *testing.T) {
	var bad [][]api.RosinTest
	for _, n := range append(slices.Clone(odd), 4, 2001, 101, 5000) {
		bad = append(bad, []api.RosinTest{test(n, 5, 5)}, []api.RosinTest{test(0, 5, 5), test(n, 5, 5)})
		if n < 0 || n > 100 {
			bad = append(bad, []api.RosinTest{test(0, 5, n)}, []api.RosinTest{test(3, 5, n), test(0, 5, 5)})
		}
		if n < 0 || n > 2000 {
			bad = append(bad, []api.RosinTest{test(1, n, 5)}, []api.RosinTest{test(0, 1, 0), test(0, 2, 0), test(1, n, 5)}) // and they clash
		}
	}
	for _, list := range append(bad, make([]api.RosinTest, 13), append(make([]api.RosinTest, 12), test(0, 5, 0))) {
		q := ask()
		q.t = list
		for _, q.wrong = range []int{5, -1, 101} {
			expect(t, q, api.ErrRosinTest, "Tell", "Grades", "Settle")
		}
		expect(t, q, api.OK, "Check", "Grade", "Mix", "Meets", "Blend", "Profit")
	}
}

func TestErrorsOfTestsThatClash(t *testing.T) {
	for i, x := range []struct {
		t    []api.RosinTest
		want api.Errno
	}{
		{[]api.RosinTest{test(0, 10, 2), test(0, 14, 2)}, api.OK}, {[]api.RosinTest{test(0, 10, 2), test(0, 15, 2)}, api.ErrRosinClash}, {[]api.RosinTest{test(0, 15, 2), test(0, 10, 2)}, api.ErrRosinClash},
		{[]api.RosinTest{test(0, 10, 2), test(1, 15, 2), test(3, 99, 0)}, api.OK}, {[]api.RosinTest{test(3, 5, 0), test(1, 5, 0), test(3, 6, 0)}, api.ErrRosinClash},
		{[]api.RosinTest{test(0, 1100, 100)}, api.OK}, {[]api.RosinTest{test(0, 1101, 100)}, api.ErrRosinClash}, {[]api.RosinTest{test(1, 2000, 0)}, api.OK}, {[]api.RosinTest{test(1, 0, 0)}, api.OK},
		{[]api.RosinTest{test(2, 400, 100)}, api.OK}, {[]api.RosinTest{test(2, 401, 100)}, api.ErrRosinClash}, {[]api.RosinTest{test(3, 1000, 0)}, api.OK}, {[]api.RosinTest{test(3, 1001, 0)}, api.ErrRosinClash}, {[]api.RosinTest{test(3, 2000, 100)}, api.ErrRosinClash},
		{[]api.RosinTest{test(1, 100, 50), test(1, 200, 50), test(1, 150, 0)}, api.OK}, {[]api.RosinTest{test(1, 100, 50), test(1, 200, 50), test(1, 151, 0)}, api.ErrRosinClash},
	} {
		q := ask()
		q.t = x.t
		expect(t, q, x.want, "Tell", "Grades", "Settle")
		if x.want != api.OK {
			for _, q.wrong = range []int{-1, 101, math.MinInt, math.MaxInt} {
				expect(t, q, x.want, "Settle")
			}
		}
		if t.Failed() {
			t.Fatalf("%d: %v", i, x.t)
		}
	}
}

func TestErrorsOfWrong(t *testing.T) {
	for _, n := range append(slices.Clone(odd), 101, 102, 2000) {
		q := ask()
		q.wrong = n
		expect(t, q, api.ErrRange, "Settle")
		expect(t, q, api.OK, "Tell", "Grades")
	}
	for _, n := range []int{0, 1, 100} {
		q := ask()
		q.wrong = n
		expect(t, q, api.OK, "Settle")
	}
}

func TestErrorsOfIndicesAndNumbers(t *testing.T) {
	for _, b := range append(wrongBatches(), batches()) {
		for _, n := range append(slices.Clone(odd), 2, 3, 8) {
			q := ask()
			q.grade, q.b = n, b
			expect(t, q, api.ErrRange, "Meets", "Blend")
			q.drums = nil
			expect(t, q, api.ErrRange, "Meets", "Blend")
		}
		for _, n := range append(slices.Clone(odd), 0, 13, 14) {
			q := ask()
			q.many, q.b = n, b
			expect(t, q, api.ErrRange, "Blend", "Profit")
		}
	}
	for _, n := range []int{1, 10} {
		q := ask()
		q.many, q.grade = n, 1
		expect(t, q, api.OK, "Blend", "Profit", "Meets")
		q.many = 12
		expect(t, q, api.ErrNone, "Blend", "Profit")
	}
}

func TestErrorsOfBatches(t *testing.T) {
	for _, b := range wrongBatches() {
		for _, drums := range [][]int{{2, 1}, nil, make([]int, len(b)), {-1, 3}} {
			q := ask()
			q.b, q.drums = b, drums
			expect(t, q, api.ErrRosinBatch, "Mix", "Meets", "Blend", "Profit")
			expect(t, q, api.OK, "Check", "Grade", "Tell", "Grades", "Settle")
			q.l = []api.RosinGrade{grade("none", 0, 0, 0, 300, 0, 0)} // not ErrNone
			expect(t, q, api.ErrRosinBatch, "Mix", "Meets", "Blend", "Profit")
		}
	}
}

func TestErrorsOfBlends(t *testing.T) {
	for i, x := range []struct {
		drums []int
		want  api.Errno
	}{
		{[]int{1, 0}, api.OK}, {[]int{0, 1}, api.OK}, {[]int{4, 6}, api.OK},
		{nil, api.ErrRosinBatch}, {[]int{}, api.ErrRosinBatch}, {[]int{1}, api.ErrRosinBatch}, {[]int{1, 1, 0}, api.ErrRosinBatch}, {[]int{1, 1, 1}, api.ErrRosinBatch},
		{[]int{0, 0}, api.ErrRosinBatch}, {[]int{5, 0}, api.ErrRosinBatch}, {[]int{0, 7}, api.ErrRosinBatch}, {[]int{-1, 2}, api.ErrRosinBatch}, {[]int{2, -1}, api.ErrRosinBatch}, {[]int{-1, -1}, api.ErrRosinBatch},
		{[]int{math.MinInt, 1}, api.ErrRosinBatch}, {[]int{1, math.MaxInt}, api.ErrRosinBatch}, {make([]int, 5000), api.ErrRosinBatch},
	} {
		q := ask()
		q.drums = x.drums
		for _, q.grade = range []int{0, 1} {
			expect(t, q, x.want, "Mix", "Meets")
		}
		if t.Failed() {
			t.Fatalf("%d: %v", i, x.drums)
		}
	}
	b := batches()
	b[0].Drums, b[1].Drums = 12, 12
	for n := range 13 {
		q := ask()
		q.b, q.drums = b, []int{n, 12 - n}
		expect(t, q, api.OK, "Mix", "Meets")
		q.drums[0]++
		expect(t, q, api.ErrRosinBatch, "Mix", "Meets")
	}
}
