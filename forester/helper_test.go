package forester_test

import (
	"fmt"
	"math"
	"slices"
	"strconv"
	"strings"
	"testing"

	"pinaster/api"
	"pinaster/forester"
)

// odd are numbers that are in no setup.
var odd = []int{-1, -2, math.MinInt, math.MaxInt, math.MinInt32, math.MinInt + 1, math.MaxInt - 1}

// setup is the setup of the chapter's examples.
func setup() api.ForestSetup {
	return api.ForestSetup{
		Rule:   api.RightsRule{Bars: [4]int{8, 0, 8, 5}, Rest: 5},
		Rights: []api.Right{right("tap", api.UseResin, 60, 240, 2, 0)},
		Grades: []api.RosinGrade{
			{Name: "x", Glass: 300, Soft: api.Span{Low: 700, High: 800}, Acid: 160, Dirt: 5, Price: 90},
			{Name: "n", Glass: 600, Soft: api.Span{Low: 650, High: 850}, Acid: 150, Dirt: 20, Price: 60},
		},
		Advance: 200,
	}
}

func right(name string, use, from, to, every, offset int) api.Right {
	return api.Right{Name: name, Use: use, Plots: 3, From: from, To: to, Every: every, Offset: offset}
}

// always is a setup with a right on each day, and one grade that each quality has.
func always() api.ForestSetup {
	s := setup()
	s.Rights = []api.Right{right("tap", api.UseResin, 0, 359, 1, 0)}
	s.Grades = []api.RosinGrade{{Name: "all", Glass: 1000, Soft: api.Span{High: 2000}, Dirt: 1000, Price: 1000}}
	return s
}

// begin returns a forest that has done lines without an error.
func begin(t *testing.T, s api.ForestSetup, lines ...string) *forester.Forest {
	t.Helper()
	f, e := forester.New(s)
	if f == nil || e != api.OK {
		t.Fatalf("New: %d", e)
	}
	do(t, f, lines...)
	return f
}

// do does lines without an error.
func do(t *testing.T, f *forester.Forest, lines ...string) {
	t.Helper()
	for _, line := range lines {
		if _, e := f.Do(line); e != api.OK {
			t.Fatalf("%q: %d", line, e)
		}
	}
}

// expect does a line, and expects its answer; an error is written as ! and its number, and it changes nothing.
func expect(t *testing.T, f *forester.Forest, line, want string) {
	t.Helper()
	before := stateOf(f)
	answer, e := f.Do(line)
	if e != api.OK {
		answer += fmt.Sprintf("!%d", e)
		if after := stateOf(f); after != before {
			t.Errorf("%q changes %s to %s", line, before, after)
		}
	}
	if answer != want {
		t.Errorf("%q: %q, want %q", line, answer, want)
	}
}

// expectAll does lines, each one in front of its answer.
func expectAll(t *testing.T, f *forester.Forest, lines ...string) {
	t.Helper()
	for i := 0; i < len(lines); i += 2 {
		expect(t, f, lines[i], lines[i+1])
	}
}

// expectErrors does lines that all return one error.
func expectErrors(t *testing.T, f *forester.Forest, e api.Errno, lines ...string) {
	t.Helper()
	for _, line := range lines {
		expect(t, f, line, "!"+strconv.Itoa(int(e)))
	}
}

// stateOf is all that a forest says of itself, but for its journal.
func stateOf(f *forester.Forest) string {
	return fmt.Sprint(f.Day(), f.Acts(), f.Trees(), f.Tappers(), f.Batches(), f.Drums(), f.Totals(), len(f.Journal()))
}

// numbered are lines, one for each number, with this number in the place of each #.
func numbered(from, to int, lines ...string) []string {
	var all []string
	for i := from; i < to; i++ {
		for _, line := range lines {
			all = append(all, strings.ReplaceAll(line, "#", strconv.Itoa(i)))
		}
	}
	return all
}

// tapped are lines with which a tapper mo has a tapped tree a with a pot.
func tapped(size int) []string {
	return []string{"plant a", "tapper mo", "day 1500", "open a", "give a mo", "hang a " + strconv.Itoa(size)}
}

// distilled are lines with which a batch z has so much rosin of mo, and no tests.
func distilled(grams int) []string {
	return append(tapped(1000000), "empty a "+strconv.Itoa(grams)+" 0", "distil z 0 0 0 : mo")
}

// joined are lists, one behind the other.
func joined(lists ...[]string) []string { return slices.Concat(lists...) }

// dice throws the same numbers in each run of the tests.
type dice struct{ seed uint64 }

// upTo throws a number from 0 to most.
func (d *dice) upTo(most int) int {
	d.seed = d.seed*6364136223846793005 + 1442695040888963407
	return int(d.seed >> 33 % uint64(most+1))
}

func (d *dice) from(least, most int) int { return least + d.upTo(most-least) }

func (d *dice) of(list ...string) string { return list[d.upTo(len(list)-1)] }
