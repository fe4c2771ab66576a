package rosin_test

import (
	"math/bits"
	"slices"
	"testing"

	"pinaster/api"
	"pinaster/rosin"
)

// hidden are grades of which the last one asks for the same as the first one.
func hidden() []api.RosinGrade { return append(grades(), grade("z", 300, 700, 800, 160, 5, 0)) }

// P7.2

func TestTell(t *testing.T) {
	whole := spread(span(0, 1000), span(0, 2000), span(0, 300), span(0, 1000))
	with := func(change func(s *api.Spread)) api.Spread {
		s := whole
		change(&s)
		return s
	}
	for i, x := range []struct {
		t    []api.RosinTest
		want api.Spread
	}{
		{tests(), spread(span(295, 325), span(750, 770), span(162, 168), span(3, 5))}, {nil, whole},
		{[]api.RosinTest{test(0, 10, 20), test(0, 40, 15), test(2, 350, 60)}, with(func(s *api.Spread) { s.Glass, s.Acid = span(25, 30), span(290, 300) })},
		{[]api.RosinTest{test(0, 1050, 60), test(3, 990, 20)}, with(func(s *api.Spread) { s.Glass, s.Dirt = span(990, 1000), span(970, 1000) })},
		{[]api.RosinTest{test(1, 1990, 20), test(1, 1950, 100)}, with(func(s *api.Spread) { s.Soft = span(1970, 2000) })},
		{[]api.RosinTest{test(1, 5, 20), test(3, 0, 0), test(2, 0, 100)}, with(func(s *api.Spread) { s.Soft, s.Dirt, s.Acid = span(0, 25), span(0, 0), span(0, 100) })},
		{[]api.RosinTest{test(2, 300, 0), test(2, 300, 100)}, with(func(s *api.Spread) { s.Acid = span(300, 300) })},
		{slices.Repeat([]api.RosinTest{test(0, 500, 7)}, 12), with(func(s *api.Spread) { s.Glass = span(493, 507) })},
	} {
		if s, e := rosin.Tell(x.t); s != x.want || e != api.OK {
			t.Errorf("%d: %v, %d", i, s, e)
		}
	}
}

func TestGrades(t *testing.T) {
	for i, x := range []struct {
		l    []api.RosinGrade
		t    []api.RosinTest
		want []int
	}{
		{grades(), tests(), []int{0, 1}}, {grades(), nil, []int{0, 1, 2}}, {hidden(), nil, []int{0, 1, 3}}, {hidden(), tests(), []int{0, 1}},
		{grades(), append(tests(), test(0, 300, 0)), []int{0}}, {grades(), append(tests(), test(0, 301, 0)), []int{1}},
		{grades(), []api.RosinTest{test(0, 600, 0)}, []int{1, 2}}, {grades(), []api.RosinTest{test(0, 601, 0)}, []int{2}}, {grades(), []api.RosinTest{test(0, 650, 49)}, []int{2}}, {grades(), []api.RosinTest{test(0, 650, 50)}, []int{1, 2}},
		{grades(), []api.RosinTest{test(1, 690, 9)}, []int{1, 2}}, {grades(), []api.RosinTest{test(1, 690, 10)}, []int{0, 1, 2}}, {grades(), []api.RosinTest{test(1, 810, 9)}, []int{1, 2}}, {grades(), []api.RosinTest{test(1, 810, 10)}, []int{0, 1, 2}},
		{grades(), []api.RosinTest{test(1, 849, 0)}, []int{1, 2}}, {grades(), []api.RosinTest{test(1, 851, 0)}, []int{2}}, {grades(), []api.RosinTest{test(1, 649, 0)}, []int{2}},
		{grades(), []api.RosinTest{test(2, 149, 0)}, []int{2}}, {grades(), []api.RosinTest{test(2, 150, 0)}, []int{1, 2}}, {grades(), []api.RosinTest{test(2, 160, 0)}, []int{0, 1, 2}}, {grades(), []api.RosinTest{test(2, 159, 0)}, []int{1, 2}},
		{grades(), []api.RosinTest{test(3, 5, 0)}, []int{0, 1, 2}}, {grades(), []api.RosinTest{test(3, 6, 0)}, []int{1, 2}}, {grades(), []api.RosinTest{test(3, 20, 0)}, []int{1, 2}}, {grades(), []api.RosinTest{test(3, 21, 0)}, []int{2}},
		{free(9), nil, []int{0}}, {free(9), tests(), []int{0}}, {append(free(90), grades()...), nil, []int{0}},
		{[]api.RosinGrade{grade("none", 0, 5, 5, 300, 0, 0)}, nil, []int{0, 1}}, {[]api.RosinGrade{grade("none", 0, 5, 5, 300, 0, 0)}, tests(), []int{1}},
		{append([]api.RosinGrade{grade("glass", 299, 0, 2000, 0, 1000, 99), grade("rest", 1000, 0, 2000, 0, 1000, 99)}, grades()...), nil, []int{0, 1}}, // the others are hidden by two together
	} {
		if l, e := rosin.Grades(x.l, x.t); !slices.Equal(l, x.want) || e != api.OK {
			t.Errorf("%d: %v, %d, want %v", i, l, e, x.want)
		}
	}
}

// P7.3

func TestSettle(t *testing.T) {
	one := []api.RosinTest{test(0, 100, 0), test(1, 750, 0), test(2, 200, 0), test(3, 5, 2)}
	two := []api.RosinTest{test(0, 100, 0), test(1, 750, 0), test(2, 160, 20), test(3, 5, 0)}
	edge := []api.RosinTest{test(0, 310, 15), test(1, 840, 50), test(2, 165, 3), test(3, 4, 1)}
	for i, x := range []struct {
		l                 []api.RosinGrade
		t                 []api.RosinTest
		wrong, part, want int
	}{
		{grades(), tests(), 5, 0, 2}, {grades(), tests(), 0, 0, 1}, {grades(), tests(), 1, 0, 2},
		{grades(), one, 0, 3, 1}, {grades(), one, 1, 0, 2}, {grades(), two, 0, 2, 1}, {grades(), two, 4, 2, 2}, {grades(), two, 5, 2, 2}, {grades(), two, 6, 0, 3}, {grades(), two, 100, 0, 3},
		{grades(), edge, 0, 1, 2}, {grades(), edge, 25, 1, 2}, {grades(), edge, 26, 0, 3}, // whatever the glass is, the grades 1 and 2 may be left
		{grades(), nil, 0, 0, 3}, {grades(), nil, 100, 0, 3}, {hidden(), nil, 0, 0, 3}, {free(0), nil, 0, 0, 1}, {free(0), tests(), 100, 0, 1},
		{grades(), []api.RosinTest{test(0, 301, 0)}, 100, 0, 2}, {grades(), []api.RosinTest{test(3, 21, 0)}, 100, 0, 1},
		{[]api.RosinGrade{grade("dirt", 1000, 0, 2000, 0, 10, 0)}, nil, 0, 3, 1}, {[]api.RosinGrade{grade("dirt", 1000, 0, 2000, 0, 10, 0)}, nil, 1, 0, 2},
		{[]api.RosinGrade{grade("acid", 1000, 0, 2000, 10, 1000, 0)}, nil, 0, 2, 1}, {[]api.RosinGrade{grade("glass", 10, 0, 2000, 0, 1000, 0)}, nil, 0, 0, 1}, {[]api.RosinGrade{grade("soft", 1000, 7, 9, 0, 1000, 0)}, nil, 0, 1, 1},
		{[]api.RosinGrade{grade("low", 1000, 0, 99, 0, 1000, 0), grade("high", 1000, 200, 2000, 0, 1000, 0)}, nil, 50, 1, 2}, // 100 to 199 meet none: a span of 101 has the edges of both
		{[]api.RosinGrade{grade("low", 1000, 0, 99, 0, 1000, 0), grade("high", 1000, 199, 2000, 0, 1000, 0)}, nil, 50, 0, 3},
	} {
		if part, n, e := rosin.Settle(x.l, x.t, x.wrong); part != x.part || n != x.want || e != api.OK {
			t.Errorf("%d: %d, %d, %d, want %d, %d", i, part, n, e, x.part, x.want)
		}
	}
	for _, n := range []int{0, 1, 1999, 2000} { // only at this number two grades are possible
		l := []api.RosinGrade{grade("soft", 10, n, n, 0, 1000, 0)}
		if part, n, e := rosin.Settle(l, nil, 0); part != 0 || n != 2 || e != api.OK {
			t.Errorf("%v: %d, %d, %d", l, part, n, e)
		}
	}
	full := slices.Repeat(tests(), 3) // no more tests are given, but one may follow
	if part, n, e := rosin.Settle(grades(), full, 0); part != 0 || n != 1 || e != api.OK {
		t.Errorf("after 12 tests: %d, %d, %d", part, n, e)
	}
}

// settled is what Settle returns, found by trying all that a test reads, and all numbers that it then may be.
func settled(l []api.RosinGrade, numbers [4][]int, wrong int) (part, grades int) {
	grades = len(l) + 2
	for i := range 4 {
		with := gradesWith(l, numbers, i)
		worst := 0
		for read := range 2001 {
			set := 0
			for n := max(0, read-wrong); n <= min(2000, read+wrong); n++ {
				set |= with[n]
			}
			worst = max(worst, bits.OnesCount(uint(set)))
		}
		if worst < grades {
			part, grades = i, worst
		}
	}
	return part, grades
}

// gradesWith are the grades that are possible with each number of a part, as bits.
func gradesWith(l []api.RosinGrade, numbers [4][]int, part int) [2001]int {
	var with [2001]int
	known := map[int]int{} // numbers that meet the same grades need not be tried again
	for _, n := range numbers[part] {
		met := metBy(l, part, n)
		if _, ok := known[met]; !ok {
			then := numbers
			then[part] = []int{n}
			for _, k := range gradesOf(l, then) {
				known[met] |= 1 << k
			}
		}
		with[n] = known[met]
	}
	return with
}

// P7.2, P7.3

func TestAgainstAllNumbers(t *testing.T) {
	d := &dice{3}
	var parts, counts [10]int
	for range 1500 {
		r := d.row()
		far := d.from(2, 150)
		l := d.grades(d.from(1, 8), r, far)
		q := d.rowNear(r, far)
		x := d.tests(d.upTo(8), q, 100)
		open := d.upTo(7) // often just one part is not known well
		for part := range 4 {
			if open < 4 && part != open {
				x = append(x, d.test(part, q, far/4))
			}
		}
		var numbers [4][]int
		var want [4]api.Span
		for part := range numbers {
			numbers[part] = toldBy(x, part)
			want[part] = span(slices.Min(numbers[part]), slices.Max(numbers[part]))
		}
		if s, e := rosin.Tell(x); spansOf(s) != want || e != api.OK {
			t.Fatalf("%v: %v, %d, want %v", x, s, e, want)
		}
		if list, e := rosin.Grades(l, x); !slices.Equal(list, gradesOf(l, numbers)) || e != api.OK {
			t.Fatalf("%v, %v: %v, %d, want %v", l, x, list, e, gradesOf(l, numbers))
		}
		wrong := d.upTo(1) * d.upTo(100)
		part, n, e := rosin.Settle(l, x, wrong)
		if p, m := settled(l, numbers, wrong); part != p || n != m || e != api.OK {
			t.Fatalf("%v, %v, %d: %d, %d, %d, want %d, %d", l, x, wrong, part, n, e, p, m)
		}
		parts[part]++
		counts[n]++
	}
	if slices.Min(parts[:4]) < 15 || slices.Min(counts[1:]) < 2 {
		t.Errorf("parts that were seen: %v, and numbers: %v", parts, counts)
	}
}

// rows are all qualities of a spread.
func rows(s api.Spread) []row {
	list := []row{{}}
	for part, x := range spansOf(s) {
		var next []row
		for _, r := range list {
			for n := x.Low; n <= x.High; n++ {
				r[part] = n
				next = append(next, r)
			}
		}
		list = next
	}
	return list
}

// possible are the grades of all qualities of which tests are true.
func possible(l []api.RosinGrade, qualities []row, t ...api.RosinTest) []int {
	var list []int
	for _, r := range qualities {
		if !slices.ContainsFunc(t, func(x api.RosinTest) bool { return !isTrue(x, r) }) {
			list = append(list, r.grade(l))
		}
	}
	slices.Sort(list)
	return slices.Compact(list)
}

// P7.2, P7.3, P7.11

func TestAgainstAllQualities(t *testing.T) {
	d := &dice{4}
	counts := [10]int{}
	for range 400 {
		r := d.row()
		l := d.grades(d.from(1, 8), r, 3)
		x := slices.Concat([]api.RosinTest{test(0, r[0], 2), test(1, r[1], 2), test(2, r[2], 2), test(3, r[3], 2)}, d.tests(d.upTo(3), r, 3))
		told, _ := rosin.Tell(x)
		all := rows(told)
		if list, e := rosin.Grades(l, x); !slices.Equal(list, possible(l, all)) || e != api.OK {
			t.Fatalf("%v, %v: %v, %d, want %v", l, x, list, e, possible(l, all))
		}
		wrong := d.upTo(4)
		part, n, e := rosin.Settle(l, x, wrong)
		counts[n]++
		for i, s := range spansOf(told) {
			worst := 0
			for read := max(0, s.Low-wrong); read <= min(2000, s.High+wrong); read++ {
				worst = max(worst, len(possible(l, all, test(i, read, wrong))))
			}
			if i < part && worst <= n || i == part && worst != n || i > part && worst < n || e != api.OK {
				t.Fatalf("%v, %v, %d: %d, %d, %d, but the part %d has %d", l, x, wrong, part, n, e, i, worst)
			}
		}
	}
	if slices.Min(counts[1:6]) < 5 {
		t.Errorf("numbers of grades that were seen: %v", counts)
	}
}

// P7.8, P7.11

func TestWhateverQualityABatchHas(t *testing.T) {
	d := &dice{5}
	fewer := 0
	for range 2000 {
		r := d.row()
		far := d.from(1, 60)
		l := d.grades(d.from(1, 8), r, far)
		q := d.rowNear(r, far)
		x := d.tests(d.upTo(11), q, 100)
		told, e1 := rosin.Tell(x)
		list, e2 := rosin.Grades(l, x)
		if !q.isIn(told) || !slices.Contains(list, q.grade(l)) || e1 != api.OK || e2 != api.OK {
			t.Fatalf("%v, %v, %v: %v, %v, %d, %d", q, l, x, told, list, e1, e2)
		}
		more := append(x, d.test(d.upTo(3), q, 100))
		less, e := rosin.Grades(l, more)
		if slices.ContainsFunc(less, func(n int) bool { return !slices.Contains(list, n) }) || e != api.OK {
			t.Fatalf("%v, %v: %v, %d, but %v before the last one", l, more, less, e, list)
		}
		if len(less) < len(list) {
			fewer++
		}
		wrong := d.upTo(100)
		part, n, _ := rosin.Settle(l, x, wrong)
		asked := append(x, test(part, d.near(q[part], wrong, 0, 2000), wrong))
		if less, e := rosin.Grades(l, asked); len(less) > n || n > len(list) || !slices.Contains(less, q.grade(l)) || e != api.OK {
			t.Fatalf("%v, %v: %v, %d, want %d", l, asked, less, e, n)
		}
	}
	if fewer < 100 {
		t.Errorf("only %d times a test left fewer grades", fewer)
	}
}
