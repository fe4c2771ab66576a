package drum_test

import (
	"fmt"
	"math"
	"slices"
	"strings"
	"testing"

	"pinaster/api"
	"pinaster/drum"
)

// roomy returns a list with room behind it, and all of that room.
func roomy[T any](list []T, canary T) (short, whole []T) {
	whole = append(slices.Clone(list), canary, canary, canary)
	return whole[:len(list)], whole
}

// isUnchanged reports whether a list with room behind it is as roomy made it.
func isUnchanged[T comparable](whole, list []T, canary T) bool {
	_, want := roomy(list, canary)
	return slices.Equal(whole, want)
}

// P10.7

func TestArgumentsAreOnlyRead(t *testing.T) {
	noVessel, noPour, noLayer := api.DrumVessel{Name: "?", Kind: -7}, pour(-7, -7, -7), layers(-7, -7)[0]
	d := &dice{11}
	for range 50 {
		q := d.question()
		l, lay, tested, bad := q.l, q.layers, q.tested, q.bad
		var allVessels []api.DrumVessel
		var allPours []api.DrumPour
		var allLayers []api.DrumLayer
		var allTested, allBad []int
		q.l.Vessels, allVessels = roomy(l.Vessels, noVessel)
		q.l.Pours, allPours = roomy(l.Pours, noPour)
		q.layers, allLayers = roomy(lay, noLayer)
		q.tested, allTested = roomy(tested, -7)
		q.bad, allBad = roomy(bad, -7)
		expect(t, q, api.OK, names...)
		if !isUnchanged(allVessels, l.Vessels, noVessel) || !isUnchanged(allPours, l.Pours, noPour) {
			t.Errorf("the log: %v, %v", allVessels, allPours)
		}
		if !isUnchanged(allLayers, lay, noLayer) || !isUnchanged(allTested, tested, -7) || !isUnchanged(allBad, bad, -7) {
			t.Errorf("the layers: %v, the tests: %v, %v", allLayers, allTested, allBad)
		}
	}
}

// spoil overwrites all of a list, also the room behind it.
func spoil[T any](list []T, canary T) {
	for i := range list[:cap(list)] {
		list[:cap(list)][i] = canary
	}
}

func TestResultsAreNew(t *testing.T) {
	q := ask()
	for range 2 { // what is done with a result shows neither in an argument nor in the next result
		l, _ := drum.Layers(q.l, 3)
		if !slices.Equal(l, layers(0, 250, 1, 50)) {
			t.Errorf("layers: %v", l)
		}
		spoil(l, api.DrumLayer{Stand: -9})
		traced, _ := drum.Trace(q.l, 4)
		if !slices.Equal(traced, layers(0, 50, 1, 150)) {
			t.Errorf("trace: %v", traced)
		}
		spoil(traced, api.DrumLayer{Stand: -9})
		recalled, _ := drum.Recall(q.l, 1)
		if !slices.Equal(recalled, shares(3, 50, 4, 150)) {
			t.Errorf("recall: %v", recalled)
		}
		spoil(recalled, api.DrumShare{Vessel: -9})
		stands, _ := drum.Label(q.l, 4, 250)
		tests, _ := drum.Tests(q.l)
		suspects, _ := drum.Suspects(q.l, q.tested, []int{3, 4})
		if !slices.Equal(stands, []int{0, 1}) || !slices.Equal(tests, []int{3}) || !slices.Equal(suspects, []int{0, 1}) {
			t.Errorf("label: %v, tests: %v, suspects: %v", stands, tests, suspects)
		}
		spoil(stands, -9)
		spoil(tests, -9)
		spoil(suspects, -9)
		fills, _ := drum.Fill(q.layers, 100, 900, 60)
		if len(fills) != 3 || fills[2] != (api.DrumFill{Start: 240, Stand: 1}) {
			t.Errorf("filling: %v", fills)
		}
		spoil(fills, api.DrumFill{Start: -9})
		parsed, _ := drum.Parse(q.text)
		if !sameLog(parsed, example()) || !sameLog(q.l, example()) {
			t.Errorf("parsed: %v, the log: %v", parsed, q.l)
		}
		spoil(parsed.Vessels, api.DrumVessel{Name: "?"})
		spoil(parsed.Pours, pour(-9, -9, -9))
	}
}

// P2

func TestSameArgumentsSameResults(t *testing.T) {
	d := &dice{12}
	results := func(q question) string {
		l, e1 := drum.Layers(q.l, q.vessel)
		traced, e2 := drum.Trace(q.l, q.vessel)
		recalled, e3 := drum.Recall(q.l, q.stand)
		sums, e4 := drum.Sums(q.l)
		stands, e5 := drum.Label(q.l, q.vessel, q.enough)
		tests, e6 := drum.Tests(q.l)
		bad, e7 := drum.Suspects(q.l, q.tested, q.bad)
		text, e8 := drum.Print(q.l)
		fills, e9 := drum.Fill(q.layers, q.size, q.pure, q.rest)
		parsed, e10 := drum.Parse(q.text)
		return fmt.Sprint(l, traced, recalled, sums, stands, tests, bad, text, fills, parsed, e1, e2, e3, e4, e5, e6, e7, e8, e9, e10)
	}
	for range 300 {
		q, other := d.question(), d.question()
		first := results(q)
		results(other)
		if again := results(q); again != first {
			t.Fatalf("%v, and then %v", first, again)
		}
	}
}

// question throws one to which all answers are OK.
func (d *dice) question() question {
	q := question{
		l: d.log(d.from(1, 1000000)), enough: d.upTo(1000), text: exampleText,
		layers: d.layers(16, 8, 100), size: d.from(1, 50), pure: d.upTo(1000), rest: d.upTo(100),
	}
	drums, stands := ofKind(q.l, api.DrumDrum), ofKind(q.l, api.DrumStand)
	q.vessel, q.stand = drums[d.upTo(len(drums)-1)], stands[d.upTo(len(stands)-1)]
	q.tested = d.some(drums)
	q.bad = d.some(q.tested)
	return q
}

// R3

func TestNilAndEmpty(t *testing.T) {
	for _, empty := range []bool{false, true} {
		q := ask()
		q.l.Pours, q.tested, q.bad, q.layers = nil, nil, nil, nil
		if empty {
			q.l.Pours, q.tested, q.bad, q.layers = []api.DrumPour{}, []int{}, []int{}, []api.DrumLayer{}
		}
		expect(t, q, api.OK, append([]string{"Print"}, withLog...)...)
		expect(t, q, api.ErrDrumLayer, "Fill")
		expectSuspects(t, q.l, q.tested, q.bad)
		expectTests(t, q.l)
		expectSuspects(t, example(), q.tested, q.bad, 0, 1)
		q.l.Vessels = nil
		if empty {
			q.l.Vessels = []api.DrumVessel{}
		}
		expect(t, q, api.ErrDrum, append([]string{"Print"}, withLog...)...)
	}
}

// P1

func TestGreatestArguments(t *testing.T) {
	l := logOf("sdtsdtsdtsdtsdtsdtsdtsdt")
	for i := range 8 { // each stand has a drum of its own
		l.Pours = append(l.Pours, pour(3*i, 3*i+1, 1000000), pour(3*i, 2, 1000000))
	}
	expectTests(t, l, 1, 4, 7, 10, 13, 16, 19, 22)
	expectLayers(t, l, 2, 0, 1000000, 3, 1000000, 6, 1000000, 9, 1000000, 12, 1000000, 15, 1000000, 18, 1000000, 21, 1000000)
	expectSums(t, l, 16000000, 8000000, 8000000, 0)
	for len(l.Pours) < 64 { // what is in a tank goes round
		l.Pours = append(l.Pours, pour(2, 5, 300000), pour(5, 2, 1))
	}
	expectSums(t, l, 16000000, 8000000, 8000000, 0)
	all := logOf("std", slices.Repeat([]api.DrumPour{pour(0, 1, 1000000)}, 64)...)
	expectLayers(t, all, 1, 0, 64000000)
	expectLabel(t, all, 1, 1000, 0)
	for _, pure := range []int{0, 1, 1000} {
		fills, e := drum.Fill(slices.Repeat(layers(7, 10000), 16), 1, pure, math.MaxInt)
		if len(fills) != 160000 || fills[159999].Start != 159999 || e != api.OK {
			t.Errorf("%d drums by %d, %d", len(fills), pure, e)
		}
	}
	expectFill(t, slices.Repeat(layers(7, 10000, 6, 10000), 8)[:16], 10000, 501, math.MaxInt,
		0, 7, 10000, 6, 20000, 7, 30000, 6, 40000, 7, 50000, 6, 60000, 7, 70000, 6, 80000, 7, 90000, 6, 100000, 7, 110000, 6, 120000, 7, 130000, 6, 140000, 7, 150000, 6)
}

func TestAnyQuestion(t *testing.T) {
	d := &dice{13}
	for range 500 {
		expect(t, d.question(), api.OK, names...)
	}
	n := func() int { return append(odd, 0, 1, 2, 3, 4, 5)[d.upTo(len(odd)+5)] }
	for range 5000 {
		q := ask()
		q.vessel, q.stand, q.enough, q.tested, q.bad = n(), n(), n(), []int{n(), n()}, []int{n()}
		q.layers, q.size, q.pure, q.rest = layers(n(), n(), n(), n()), n(), n(), n()
		q.l.Pours[d.upTo(5)] = pour(n(), n(), n())
		q.l.Vessels[d.upTo(5)].Kind = n()
		at := d.upTo(len(exampleText) - 1)
		q.text = exampleText[:at] + strings.Repeat(exampleText[at:], d.upTo(2))
		if slices.Contains(q.answers(), -1) {
			t.Fatalf("%+v: %v", q, q.answers())
		}
	}
}
