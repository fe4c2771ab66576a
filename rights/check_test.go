package rights_test

import (
	"math"
	"slices"
	"strconv"
	"strings"
	"testing"

	"pinaster/api"
	"pinaster/rights"
)

// limit is one number of a question, and from where to where it may be.
type limit struct {
	name        string
	at          func(q *question) *int
	least, most int
}

// rightLimits are those of the right at an index that is held on the days 100 to 200, every 4 years, with the offset 2.
func rightLimits(i int) []limit {
	n := " of the right " + strconv.Itoa(i)
	return []limit{
		{"use" + n, func(q *question) *int { return &q.l[i].Use }, 0, 3},
		{"plots" + n, func(q *question) *int { return &q.l[i].Plots }, 1, 4095},
		{"from" + n, func(q *question) *int { return &q.l[i].From }, 0, 200},
		{"to" + n, func(q *question) *int { return &q.l[i].To }, 100, 359},
		{"every" + n, func(q *question) *int { return &q.l[i].Every }, 3, 6},
		{"offset" + n, func(q *question) *int { return &q.l[i].Offset }, 0, 3},
	}
}

// plotLimits are those of the plot at an index that is 70 years old and to be felled at 60 to 90.
func plotLimits(i int) []limit {
	n := " of the plot " + strconv.Itoa(i)
	return []limit{
		{"age" + n, func(q *question) *int { return &q.plots[i].Age }, 0, 90},
		{"low" + n, func(q *question) *int { return &q.plots[i].Ages.Low }, 0, 90},
		{"high" + n, func(q *question) *int { return &q.plots[i].Ages.High }, 70, 200},
	}
}

func checkLimits(t *testing.T, limits []limit, ask func() question, wrong api.Errno, of ...string) {
	t.Helper()
	for _, x := range limits {
		for n, want := range map[int]api.Errno{
			x.least: api.OK, x.most: api.OK,
			x.least - 1: wrong, x.most + 1: wrong, math.MinInt: wrong, math.MaxInt: wrong,
		} {
			q := ask()
			*x.at(&q) = n
			for i, e := range q.answers() {
				if slices.Contains(of, names[i]) && e != want {
					t.Errorf("%s %d: %s: %d, want %d", x.name, n, names[i], e, want)
				}
			}
		}
	}
}

// expect checks what the functions with some names answer.
func expect(t *testing.T, q question, want api.Errno, of ...string) {
	t.Helper()
	for i, e := range q.answers() {
		if slices.Contains(of, names[i]) && e != want {
			t.Errorf("%s with %+v: %d, want %d", names[i], q, e, want)
		}
	}
}

var withRule = []string{"CheckRule", "Cross", "Crosses", "Place"}

var withRights = []string{"Check", "Held", "Days", "Cross", "Crosses", "Place"}

func TestTheExamplesAreValid(t *testing.T) { expect(t, ask(), api.OK, names...) }

// P9.1

func TestLimitsOfRules(t *testing.T) {
	checkLimits(t, []limit{{"rest", func(q *question) *int { return &q.r.Rest }, 0, 60}}, ask, api.ErrRightsRule, withRule...)
	for i := range 4 {
		alone := func() question { // only i itself is barred or not
			q := ask()
			q.r = resting(0, 0, 0, 0, 0)
			return q
		}
		for set := -2; set < 20; set++ {
			q := alone()
			q.r.Bars[i] = set
			want := api.ErrRightsRule
			if set == 0 || set == 1<<i {
				want = api.OK
			}
			expect(t, q, want, withRule...)
		}
		for _, n := range odd {
			q := ask()
			q.r.Bars[i] = n
			expect(t, q, api.ErrRightsRule, withRule...)
			q.r.Bars = [4]int{n, n, n, n}
			expect(t, q, api.ErrRightsRule, withRule...)
		}
	}
}

func TestAllBars(t *testing.T) {
	valid := 0
	for code := range 1 << 16 {
		var r api.RightsRule
		for u := range r.Bars {
			r.Bars[u] = code >> (4 * u) & 15
		}
		want := api.OK
		for u := range 4 {
			for v := range 4 {
				if r.Bars[u]>>v&1 != r.Bars[v]>>u&1 {
					want = api.ErrRightsRule
				}
			}
		}
		if want == api.OK {
			valid++
		}
		if e := rights.CheckRule(r); e != want {
			t.Fatalf("%v: %d, want %d", r, e, want)
		}
	}
	if valid != 1024 {
		t.Errorf("%d are valid", valid)
	}
	if e := rights.CheckRule(resting(0, 31, 17, 17, 17)); e != api.ErrRightsRule { // there is no use 4
		t.Errorf("a use that there is not: %d", e)
	}
	if e := rights.CheckRule(resting(0, 16, 16, 16, 16)); e != api.ErrRightsRule {
		t.Errorf("only a use that there is not: %d", e)
	}
}

func TestLimitsOfRights(t *testing.T) {
	for i := range 3 {
		checkLimits(t, rightLimits(i), func() question {
			q := ask()
			q.l = times(during(0, 100, 200, 4, 2), during(3, 100, 200, 4, 2), during(2, 100, 200, 4, 2))
			return q
		}, api.ErrRights, withRights...)
	}
	for every := -1; every < 9; every++ {
		for offset := -1; offset < 9; offset++ {
			q := ask()
			q.l[1].Every, q.l[1].Offset = every, offset
			want := api.ErrRights
			if every >= 1 && every <= 6 && offset >= 0 && offset < every {
				want = api.OK
			}
			expect(t, q, want, withRights...)
		}
	}
	for many := range 10 {
		q := ask()
		q.l = times(slices.Repeat([]api.Right{during(1, 0, 359, 1, 0)}, many)...)
		q.right, q.a, q.b = 0, 0, 1
		if want := (many > 7); want != (rights.Check(q.l) == api.ErrRights) {
			t.Errorf("%d rights: %d", many, rights.Check(q.l))
		}
		if many > 7 {
			expect(t, q, api.ErrRights, withRights...)
		}
		if many > 1 && many <= 7 {
			expect(t, q, api.OK, withRights...)
		}
	}
}

func TestNamesOfRights(t *testing.T) {
	for _, x := range []struct {
		name string
		want api.Errno
	}{
		{"a", api.OK}, {"z9-", api.OK}, {"tap-2", api.OK}, {strings.Repeat("q", 16), api.OK}, {"ta", api.OK}, {"tapp", api.OK},
		{"", api.ErrRights}, {"Tap", api.ErrRights}, {"9", api.ErrRights}, {"-a", api.ErrRights}, {"a b", api.ErrRights}, {"a_", api.ErrRights}, {"ä", api.ErrRights}, {"a\n", api.ErrRights}, {strings.Repeat("q", 17), api.ErrRights}, {strings.Repeat("q", 70000), api.ErrRights},
		{"tap", api.ErrRights}, {"bee", api.ErrRights}, {"cep", api.ErrRights}, // others have these names
	} {
		q := ask()
		q.l[1].Name = x.name
		expect(t, q, x.want, withRights...)
	}
	for i := range 7 {
		for k := range i {
			l := times(slices.Repeat([]api.Right{during(1, 0, 359, 1, 0)}, 7)...)
			l[i].Name = l[k].Name
			if e := rights.Check(l); e != api.ErrRights {
				t.Errorf("%d is named like %d: %d", i, k, e)
			}
		}
	}
}

func wrongRules() []api.RightsRule {
	return []api.RightsRule{resting(61, 8, 0, 8, 5), resting(-1, 8, 0, 8, 5), resting(5, 8, 0, 8, 1), resting(5, 8, 0, 8, 13+16), resting(math.MinInt, math.MaxInt, math.MinInt, -1, math.MaxInt)}
}

func wrongRights() [][]api.Right {
	all := [][]api.Right{make([]api.Right, 1), make([]api.Right, 8), make([]api.Right, 5000), {tap(), tap()}, {tap(), cow(), bee(), cow()}}
	for _, x := range []api.Right{during(4, 0, 9, 1, 0), during(-1, 0, 9, 1, 0), during(0, 9, 8, 1, 0), during(0, 0, 360, 1, 0), during(0, -1, 9, 1, 0), during(0, 0, 9, 0, 0), during(0, 0, 9, 7, 0), during(0, 0, 9, 3, 3), during(0, 0, 9, 3, -1), during(math.MaxInt, math.MinInt, math.MaxInt, math.MinInt, math.MaxInt), {Plots: 4096, Every: 1}, {Every: 1}} {
		plots := x.Plots
		l := times(x, cow(), bee())
		if plots == 4096 {
			l[0].Plots = plots
		}
		if x == (api.Right{Every: 1}) {
			l[0].Plots = 0
		}
		all = append(all, l[:1], l, []api.Right{cow(), bee(), l[0]})
	}
	return all
}

func TestErrorOfTheRuleComesFirst(t *testing.T) {
	for _, r := range wrongRules() {
		for _, l := range append(wrongRights(), uses(), nil) {
			for _, n := range append(slices.Clone(odd), 0, 1, 7) {
				q := ask()
				q.r, q.l, q.a, q.b = r, l, n, 1
				expect(t, q, api.ErrRightsRule, withRule...)
			}
		}
	}
}

func TestErrorOfRightsComesNext(t *testing.T) {
	for _, l := range wrongRights() {
		for _, n := range append(slices.Clone(odd), 0, 1, 7, 4000) {
			q := ask()
			q.l, q.right, q.year, q.day, q.use, q.plot, q.a, q.b = l, n, n, n, n, n, n, n
			expect(t, q, api.ErrRights, withRights...)
		}
	}
}

// P9.2

func TestErrorsOfDays(t *testing.T) {
	checkLimits(t, []limit{
		{"right", func(q *question) *int { return &q.right }, 0, 3},
		{"year", func(q *question) *int { return &q.year }, 0, 3000},
		{"day", func(q *question) *int { return &q.day }, 0, 359},
	}, ask, api.ErrRight, "Held")
	checkLimits(t, []limit{
		{"use", func(q *question) *int { return &q.use }, 0, 3},
		{"plot", func(q *question) *int { return &q.plot }, 0, 11},
		{"year", func(q *question) *int { return &q.year }, 0, 3000},
	}, ask, api.ErrRight, "Days")
	q := ask()
	q.l, q.right = nil, 0
	expect(t, q, api.ErrRight, "Held")
	expect(t, q, api.OK, "Days")
}

// P9.3

func TestErrorsOfCross(t *testing.T) {
	for a := -2; a < 7; a++ {
		for b := -2; b < 7; b++ {
			want := api.ErrRight
			if a >= 0 && a < 4 && b >= 0 && b < 4 && a != b {
				want = api.OK
			}
			q := ask()
			q.a, q.b = a, b
			expect(t, q, want, "Cross")
			q.l = uses()[:1]
			expect(t, q, api.ErrRight, "Cross")
			q.l = nil
			expect(t, q, api.ErrRight, "Cross")
		}
	}
	for _, n := range odd {
		for _, other := range append(slices.Clone(odd), 0, 3) {
			q := ask()
			q.a, q.b = n, other
			expect(t, q, api.ErrRight, "Cross")
			q.a, q.b = other, n
			expect(t, q, api.ErrRight, "Cross")
		}
	}
}

// P9.5

func TestErrorsOfPlots(t *testing.T) {
	of := []string{"Fell", "Glut"}
	for i := range 3 {
		checkLimits(t, plotLimits(i), func() question {
			q := ask()
			q.plots = []api.FellPlot{plot(70, 60, 90), plot(70, 60, 90), plot(70, 60, 90)}
			return q
		}, api.ErrFell, of...)
	}
	checkLimits(t, []limit{{"many", func(q *question) *int { return &q.many }, 0, 4}}, ask, api.ErrRange, of...)
	for _, x := range []struct {
		p    api.FellPlot
		want api.Errno
	}{
		{plot(0, 0, 0), api.OK}, {plot(200, 200, 200), api.OK}, {plot(200, 0, 200), api.OK}, {plot(0, 200, 200), api.OK}, {plot(81, 80, 81), api.OK}, {plot(90, 95, 95), api.OK},
		{plot(82, 80, 81), api.ErrFell}, {plot(70, 81, 80), api.ErrFell}, {plot(201, 0, 201), api.ErrFell}, {plot(201, 0, 200), api.ErrFell}, {plot(0, 0, 201), api.ErrFell}, {plot(0, 201, 201), api.ErrFell}, {plot(-1, 0, 0), api.ErrFell}, {plot(0, -1, 0), api.ErrFell}, {plot(-2, -2, -1), api.ErrFell},
		{plot(math.MinInt, 0, math.MaxInt), api.ErrFell}, {plot(math.MaxInt, math.MinInt, math.MaxInt), api.ErrFell}, {plot(0, math.MinInt, 0), api.ErrFell},
	} {
		for _, l := range [][]api.FellPlot{{x.p}, append(wood(), x.p), append([]api.FellPlot{x.p}, wood()...)} {
			q := ask()
			q.plots = l
			expect(t, q, x.want, of...)
			for _, n := range append(slices.Clone(odd), 5) {
				q.many = n
				expect(t, q, max(x.want, api.ErrRange), of...) // the error of the plots comes first
			}
		}
	}
	for size := range 13 {
		q := ask()
		q.plots = make([]api.FellPlot, size)
		for q.many = range 7 {
			want := api.OK
			if q.many > 4 {
				want = api.ErrRange
			}
			if size > 10 {
				want = api.ErrFell
			}
			expect(t, q, want, of...)
		}
	}
}
