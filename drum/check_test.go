package drum_test

import (
	"math"
	"slices"
	"strconv"
	"strings"
	"testing"

	"pinaster/api"
	"pinaster/drum"
)

// limit is one number of a question, and from where to where it may be.
type limit struct {
	name        string
	at          func(q *question) *int
	least, most int
}

func checkLimits(t *testing.T, limits []limit, ask func() question, wrong api.Errno, of ...string) {
	t.Helper()
	for _, x := range limits {
		for n, want := range map[int]api.Errno{
			x.least: api.OK, x.most: api.OK,
			x.least - 1: wrong, x.most + 1: wrong, math.MinInt: wrong, math.MaxInt: wrong,
		} {
			q := ask()
			*x.at(&q) = n
			for i, e := range q.answers() {
				if slices.Contains(of, names[i]) && e != want {
					t.Errorf("%s %d: %s: %d, want %d", x.name, n, names[i], e, want)
				}
			}
		}
	}
}

// expect checks what the functions with some names answer.
func expect(t *testing.T, q question, want api.Errno, of ...string) {
	t.Helper()
	for i, e := range q.answers() {
		if slices.Contains(of, names[i]) && e != want {
			t.Errorf("%s with %+v: %d, want %d", names[i], q, e, want)
		}
	}
}

// expectLog checks what the functions with a log answer that have nothing else that could be wrong.
func expectLog(t *testing.T, l api.DrumLog, want api.Errno) {
	t.Helper()
	q := ask()
	q.l = l
	expect(t, q, want, "Check", "Sums", "Tests")
	if want != api.OK {
		expect(t, q, want, withLog...)
	}
	if want == api.ErrDrumEmpty {
		want = api.OK
	}
	expect(t, q, want, "Print")
}

func TestTheExamplesAreValid(t *testing.T) { expect(t, ask(), api.OK, names...) }

// P10.1

func TestNamesOfVessels(t *testing.T) {
	for _, x := range []struct {
		name string
		want api.Errno
	}{
		{"z", api.OK}, {"z9-", api.OK}, {"d-2", api.OK}, {strings.Repeat("q", 16), api.OK}, {"pour", api.OK}, {"end", api.OK}, {"tank", api.OK},
		{"", api.ErrDrum}, {"D", api.ErrDrum}, {"9", api.ErrDrum}, {"-a", api.ErrDrum}, {"a b", api.ErrDrum}, {"a_", api.ErrDrum}, {"ä", api.ErrDrum}, {"z\n", api.ErrDrum}, {strings.Repeat("q", 17), api.ErrDrum}, {strings.Repeat("q", 70000), api.ErrDrum},
	} {
		for i := range 6 {
			l := example()
			l.Vessels[i].Name = x.name
			expectLog(t, l, x.want)
		}
	}
	for i := range 24 {
		for k := range i {
			l := logOf(strings.Repeat("t", 24))
			l.Vessels[i].Name = l.Vessels[k].Name
			if e := drum.Check(l); e != api.ErrDrum {
				t.Errorf("%d is named like %d: %d", i, k, e)
			}
		}
	}
}

func TestKindsOfVessels(t *testing.T) {
	for i := range 3 {
		for _, kind := range append(slices.Clone(odd), 0, 1, 2, 3, 4, 5, 6, 256) {
			l := logOf("ttt")
			l.Vessels[i].Kind = kind
			want := api.ErrDrum
			if kind >= 1 && kind <= 4 {
				want = api.OK
			}
			expectLog(t, l, want)
		}
	}
}

func TestManyVesselsAndPours(t *testing.T) {
	repeat := strings.Repeat
	for _, x := range []struct {
		kinds string
		want  api.Errno
	}{
		{"", api.ErrDrum}, {"s", api.OK}, {"t", api.OK}, {"d", api.OK}, {"k", api.OK},
		{repeat("s", 8), api.OK}, {repeat("s", 9), api.ErrDrum}, {repeat("s", 8) + "t" + "s", api.ErrDrum},
		{repeat("d", 8), api.OK}, {repeat("d", 9), api.ErrDrum}, {repeat("d", 7) + "st" + "dd", api.ErrDrum},
		{repeat("s", 8) + repeat("d", 8), api.OK}, {repeat("sdt", 8), api.OK}, {repeat("sdk", 8), api.OK}, {repeat("sdk", 8) + "t", api.ErrDrum},
		{repeat("t", 24), api.OK}, {repeat("t", 25), api.ErrDrum}, {repeat("k", 24), api.OK}, {repeat("k", 25), api.ErrDrum}, {repeat("k", 5000), api.ErrDrum},
	} {
		expectLog(t, logOf(x.kinds), x.want)
	}
	for many, want := range map[int]api.Errno{0: api.OK, 1: api.OK, 63: api.OK, 64: api.OK, 65: api.ErrDrum, 66: api.ErrDrum, 5000: api.ErrDrum} {
		expectLog(t, logOf("st", slices.Repeat([]api.DrumPour{pour(0, 1, 1)}, many)...), want)
	}
}

func TestFromWhereToWhere(t *testing.T) {
	const kinds = "ssttddkk"
	for _, from := range append(slices.Clone(odd), 0, 1, 2, 3, 4, 5, 6, 7, 8, 23, 24) {
		for _, to := range append(slices.Clone(odd), 0, 1, 2, 3, 4, 5, 6, 7, 8, 23, 24) {
			want := api.ErrDrum
			switch {
			case from < 0 || to < 0 || from > 7 || to > 7 || from == to || kinds[from] == 'k' || kinds[to] == 's':
			case kinds[from] == 's':
				want = api.OK
			default: // nothing is in it
				want = api.ErrDrumEmpty
			}
			expectLog(t, logOf(kinds, pour(from, to, 1)), want)
			front := slices.Repeat([]api.DrumPour{pour(0, 2, 1), pour(1, 3, 1), pour(0, 4, 1), pour(1, 5, 1)}, 15)
			if want == api.ErrDrumEmpty {
				want = api.OK
			}
			expectLog(t, logOf(kinds, append(front, pour(from, to, 1))...), want)
		}
	}
}

func TestGramsOfPours(t *testing.T) {
	for i := range 3 {
		checkLimits(t, []limit{{"grams " + strconv.Itoa(i), func(q *question) *int { return &q.l.Pours[i].Grams }, 1, 1000000}}, func() question {
			q := ask()
			q.l = logOf("ssdddt", pour(0, 2, 1), pour(0, 3, 1), pour(1, 4, 1))
			return q
		}, api.ErrDrum, append([]string{"Print"}, withLog...)...)
	}
	for grams, want := range map[int]api.Errno{1: api.OK, 449: api.OK, 450: api.OK, 451: api.ErrDrumEmpty, 1000000: api.ErrDrumEmpty, 1000001: api.ErrDrum} {
		l := example()
		l.Pours[3].Grams = grams
		l.Pours = l.Pours[:4]
		expectLog(t, l, want)
	}
}

func TestPoursOfMoreThanThereIs(t *testing.T) {
	for _, x := range []struct {
		l    api.DrumLog
		want api.Errno
	}{
		{logOf("std", pour(0, 1, 5), pour(1, 2, 5)), api.OK},
		{logOf("std", pour(0, 1, 5), pour(1, 2, 6)), api.ErrDrumEmpty},
		{logOf("std", pour(1, 2, 5), pour(0, 1, 5)), api.ErrDrumEmpty}, // too late
		{logOf("std", pour(0, 1, 5), pour(1, 2, 3), pour(1, 2, 2)), api.OK},
		{logOf("std", pour(0, 1, 5), pour(1, 2, 3), pour(1, 2, 3)), api.ErrDrumEmpty},
		{logOf("std", pour(0, 1, 5), pour(1, 2, 5), pour(2, 1, 5), pour(1, 2, 5)), api.OK},
		{logOf("std", pour(0, 1, 5), pour(1, 2, 5), pour(1, 2, 1)), api.ErrDrumEmpty},
		{logOf("std", pour(0, 2, 5), pour(2, 1, 6)), api.ErrDrumEmpty},
		{logOf("ssttd", pour(0, 2, 5), pour(1, 3, 5), pour(2, 4, 6)), api.ErrDrumEmpty}, // there is more elsewhere
		{logOf("ssttd", pour(0, 2, 5), pour(1, 2, 5), pour(2, 4, 10)), api.OK},
		{logOf("stk", pour(0, 1, 5), pour(1, 2, 5), pour(0, 1, 1), pour(1, 2, 1)), api.OK},
	} {
		expectLog(t, x.l, x.want)
	}
}

func TestThrownLogsArePossibleOrNot(t *testing.T) {
	d := &dice{1}
	seen := map[bool]int{}
	for range 3000 {
		l := d.log(9)
		if len(l.Pours) > 0 {
			p := &l.Pours[d.upTo(len(l.Pours)-1)]
			p.Grams = max(1, p.Grams+d.from(-2, 9))
		}
		_, possible := contents(l)
		seen[possible]++
		want := api.ErrDrumEmpty
		if possible {
			want = api.OK
		}
		if e := drum.Check(l); e != want {
			t.Fatalf("%v: %d, want %d", l, e, want)
		}
	}
	if seen[true] < 300 || seen[false] < 300 {
		t.Errorf("%v", seen)
	}
}

// wrongLogs are logs that are not valid, most of them not possible either.
func wrongLogs() []api.DrumLog {
	over := example()
	over.Pours[3].Grams = 451
	logs := []api.DrumLog{{}, logOf("sssssssss"), logOf(strings.Repeat("t", 25)), {Pours: example().Pours}}
	for _, p := range []api.DrumPour{pour(0, 0, 1), pour(5, 2, 1), pour(0, 6, 1), pour(-1, 2, 1), pour(0, 2, 0), pour(math.MinInt, math.MaxInt, math.MaxInt)} {
		l, both := example(), over
		l.Pours = append(l.Pours, p)
		both.Pours = append(slices.Clone(both.Pours), p)
		logs = append(logs, l, both)
	}
	for i := range 6 {
		named := example()
		named.Vessels[i].Name += "_"
		kind := example()
		kind.Vessels[i].Kind += 5
		logs = append(logs, named, kind)
	}
	return logs
}

func TestErrorOfTheLogComesFirst(t *testing.T) {
	over := example()
	over.Pours[3].Grams = 451
	for _, n := range append(slices.Clone(odd), 0, 3, 6, 1001) {
		for _, list := range [][]int{nil, {3}, {n}, {4, 3}} {
			q := ask()
			q.vessel, q.stand, q.enough, q.tested, q.bad = n, n, n, list, []int{n}
			for _, q.l = range wrongLogs() {
				expect(t, q, api.ErrDrum, append([]string{"Print"}, withLog...)...)
			}
			q.l = over
			expect(t, q, api.ErrDrumEmpty, withLog...)
			expect(t, q, api.OK, "Print")
		}
	}
}

// P10.2, P10.3

func TestErrorsOfVessels(t *testing.T) {
	checkLimits(t, []limit{{"vessel", func(q *question) *int { return &q.vessel }, 2, 5}}, ask, api.ErrDrumWhich, "Layers", "Trace", "Label")
	checkLimits(t, []limit{{"stand", func(q *question) *int { return &q.stand }, 0, 1}}, ask, api.ErrDrumWhich, "Recall")
	checkLimits(t, []limit{{"enough", func(q *question) *int { return &q.enough }, 0, 1000}}, ask, api.ErrRange, "Label")
	q := ask()
	q.l = logOf("tskdst", pour(1, 3, 5))
	for vessel := -1; vessel < 8; vessel++ {
		q.vessel, q.stand = vessel, vessel
		wantVessel, wantStand := api.OK, api.ErrDrumWhich
		if vessel == 1 || vessel == 4 {
			wantVessel, wantStand = api.ErrDrumWhich, api.OK
		} else if vessel < 0 || vessel > 5 {
			wantVessel = api.ErrDrumWhich
		}
		expect(t, q, wantVessel, "Layers", "Trace", "Label")
		expect(t, q, wantStand, "Recall")
	}
	for _, n := range odd {
		for _, enough := range append(slices.Clone(odd), 0, 1001) {
			q.vessel, q.stand, q.enough = n, n, enough
			expect(t, q, api.ErrDrumWhich, "Layers", "Trace", "Label", "Recall")
		}
	}
}

// P10.4

func TestErrorsOfTested(t *testing.T) {
	for _, x := range []struct {
		tested, bad []int
		want        api.Errno
	}{
		{nil, nil, api.OK}, {[]int{3}, nil, api.OK}, {[]int{4}, nil, api.OK}, {[]int{3, 4}, []int{4}, api.OK}, {[]int{3, 4, 7}, []int{3, 4, 7}, api.OK}, {[]int{3, 7}, []int{7}, api.OK},
		{[]int{2}, nil, api.ErrDrumTest}, {[]int{5}, nil, api.ErrDrumTest}, {[]int{0}, nil, api.ErrDrumTest}, {[]int{8}, nil, api.ErrDrumTest}, {[]int{-1}, nil, api.ErrDrumTest},
		{[]int{3, 5}, nil, api.ErrDrumTest}, {[]int{0, 3}, nil, api.ErrDrumTest}, {[]int{3, 4, 8}, nil, api.ErrDrumTest},
		{[]int{3, 3}, nil, api.ErrDrumTest}, {[]int{4, 3}, nil, api.ErrDrumTest}, {[]int{3, 7, 4}, nil, api.ErrDrumTest}, {[]int{3, 4, 4}, nil, api.ErrDrumTest},
		{nil, []int{3}, api.ErrDrumTest}, {[]int{4}, []int{3}, api.ErrDrumTest}, {[]int{3, 7}, []int{4}, api.ErrDrumTest}, {[]int{3, 7}, []int{3, 4}, api.ErrDrumTest},
		{[]int{3, 4}, []int{3, 3}, api.ErrDrumTest}, {[]int{3, 4}, []int{4, 3}, api.ErrDrumTest}, {[]int{3, 4, 7}, []int{3, 7, 4}, api.ErrDrumTest}, {[]int{3, 4}, []int{3, 4, 4}, api.ErrDrumTest},
		{[]int{math.MinInt}, nil, api.ErrDrumTest}, {[]int{3, math.MaxInt}, nil, api.ErrDrumTest}, {[]int{3}, []int{3, math.MaxInt}, api.ErrDrumTest}, {make([]int, 100000), make([]int, 100000), api.ErrDrumTest},
	} {
		q := ask()
		q.l, q.tested, q.bad = logOf("sstddksd", pour(0, 3, 5), pour(6, 7, 5)), x.tested, x.bad
		expect(t, q, x.want, "Suspects")
	}
}

// P10.5

func TestErrorsOfFill(t *testing.T) {
	for i := range 3 {
		n := " of the layer " + strconv.Itoa(i)
		checkLimits(t, []limit{
			{"stand" + n, func(q *question) *int { return &q.layers[i].Stand }, 0, 7},
			{"grams" + n, func(q *question) *int { return &q.layers[i].Grams }, 1, 10000},
		}, ask, api.ErrDrumLayer, "Fill")
	}
	checkLimits(t, []limit{
		{"size", func(q *question) *int { return &q.size }, 1, 10000},
		{"pure", func(q *question) *int { return &q.pure }, 0, 1000},
	}, ask, api.ErrRange, "Fill")
	for _, rest := range append(slices.Clone(odd), 0, 1, 160000, math.MaxInt32) {
		q := ask()
		q.rest = rest
		want := api.OK
		if rest < 0 {
			want = api.ErrRange
		}
		expect(t, q, want, "Fill")
	}
	for many, want := range map[int]api.Errno{0: api.ErrDrumLayer, 1: api.OK, 15: api.OK, 16: api.OK, 17: api.ErrDrumLayer, 5000: api.ErrDrumLayer} {
		q := ask()
		q.layers = slices.Repeat(layers(3, 7), many)
		expect(t, q, want, "Fill")
	}
	for _, wrong := range [][]api.DrumLayer{nil, layers(8, 1), layers(-1, 1), layers(0, 0), layers(0, 10001), layers(0, 1, 8, 1)} {
		for _, n := range append(slices.Clone(odd), 0, 10001) { // the error of the layers comes first
			q := ask()
			q.layers, q.size, q.pure, q.rest = wrong, n, n, n
			expect(t, q, api.ErrDrumLayer, "Fill")
		}
	}
}
